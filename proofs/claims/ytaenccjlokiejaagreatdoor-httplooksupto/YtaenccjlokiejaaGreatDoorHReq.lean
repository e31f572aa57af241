/- A request, printed. -/
import Derived.Test.YtaenccjlokiejaaGreatDoorHWr
namespace Go.Proofs.YtaenccjlokiejaaGreatDoor
open Go.RowKit Go.Shelf

def qAgg (q : Rq) (ao : Option Addr) (n c : Nat) : Value := .agg #[.string (str q.m), .string (str q.t), .slice ao n c, .string (str q.b)]
theorem method_len {l : U} (h : methodB l = true) : l.length ≤ 16 := by
  unfold methodB at h
  simp only [Bool.and_eq_true, decide_eq_true_eq] at h
  exact h.1.2
theorem target_len {l : U} (h : targetB l = true) : l.length ≤ 1024 := by
  unfold targetB at h
  simp only [Bool.and_eq_true, decide_eq_true_eq] at h
  exact h.1.1
/-- A list of fields whose texts are no greater than texts can be. -/
def FZ (l : List Fl) : Prop := ∀ f ∈ l, f.1.length ≤ 9223372036854775807 ∧ f.2.length ≤ 9223372036854775807
set_option maxHeartbeats 2000000 in
set_option maxRecDepth 100000 in
theorem printRequest_any (q : Rq) (ao : Option Addr) (n c : Nat) (w : World) (hn : n = q.fs.length) (hr : FRow w ao q.fs) (hm : q.m.length ≤ 9223372036854775807) (ht : q.t.length ≤ 9223372036854775807) (hb : q.b.length ≤ 4611686018427387904)
    (hz : FZ q.fs) (hnn : n ≤ 4611686018427387904) (E : Env w) :
    Calls Tryz.prog 21 #[qAgg q ao n c] w fun e w' => e = .returned (wAns (printReqR q)) ∧ Below w.heap.size w w' := by
  have HW := hide (fun first W hf hrr EE => written_any first q.fs q.b ao n c W hn hrr hf hb hz hnn EE)
  have HM := hide (fun W => isMethod_any q.m W hm)
  have HT := hide (fun W => isTarget_any q.t W ht)
  have HE := hide E
  have HRow := hide hr
  obtain ⟨R, hR⟩ : ∃ R, R = printReqR q := ⟨_, rfl⟩
  rw [← hR]
  have HR := hide hR
  have HB0 : Hid (Below w.heap.size w (w.alloc (.cells #[.string (str q.m), .string (str q.t), .slice ao n c, .string (str q.b)] 27))) := below_new _ _
  have hc0 : (w.alloc (.cells #[.string (str q.m), .string (str q.t), .slice ao n c, .string (str q.b)] 27)).cell? ⟨w.heap.size, 0, none⟩ = some (.string (str q.m)) := by simp
  have hc1 : (w.alloc (.cells #[.string (str q.m), .string (str q.t), .slice ao n c, .string (str q.b)] 27)).cell? ⟨w.heap.size, 1, none⟩ = some (.string (str q.t)) := by simp
  have hc2 : (w.alloc (.cells #[.string (str q.m), .string (str q.t), .slice ao n c, .string (str q.b)] 27)).cell? ⟨w.heap.size, 2, none⟩ = some (.slice ao n c) := by simp
  have hc3 : (w.alloc (.cells #[.string (str q.m), .string (str q.t), .slice ao n c, .string (str q.b)] 27)).cell? ⟨w.heap.size, 3, none⟩ = some (.string (str q.b)) := by simp
  have hzm := str_size q.m
  have hzt := str_size q.t
  have ha1 := str_app q.m [32]
  have HA2 := hide (str_app (q.m ++ [32]) q.t)
  have HA3 := hide (str_app (q.m ++ [32] ++ q.t) [32])
  have HA4 := hide (str_app (q.m ++ [32] ++ q.t ++ [32]) ver8)
  have e32 : str [32] = (⟨#[32]⟩ : ByteArray) := rfl
  have e8 : str ver8 = (⟨#[72, 84, 84, 80, 47, 49, 46, 49]⟩ : ByteArray) := rfl
  rw [e32] at ha1 HA3
  rw [e8] at HA4
  have HZ3 := hide (str_size (q.m ++ [32]))
  have HZ4 := hide (str_size (q.m ++ [32] ++ q.t))
  have HZ5 := hide (str_size (q.m ++ [32] ++ q.t ++ [32]))
  have HL : Hid ((q.m ++ [32]).length = q.m.length + 1 ∧ (q.m ++ [32] ++ q.t).length = q.m.length + 1 + q.t.length ∧ (q.m ++ [32] ++ q.t ++ [32]).length = q.m.length + 1 + q.t.length + 1 ∧ (q.m ++ [32] ++ q.t ++ [32] ++ ver8).length = q.m.length + 1 + q.t.length + 1 + 8) := by
    refine ⟨by simp, by simp; omega, by simp; omega, ?_⟩
    simp only [List.length_append, List.length_cons, List.length_nil]
    have : ver8.length = 8 := rfl
    omega
  unfold qAgg
  have HA1 := hide ha1
  obtain ⟨sm, hsm⟩ : ∃ sm, sm = str q.m := ⟨_, rfl⟩
  obtain ⟨st, hst⟩ : ∃ st, st = str q.t := ⟨_, rfl⟩
  obtain ⟨sb, hsb⟩ : ∃ sb, sb = str q.b := ⟨_, rfl⟩
  rw [← hsm] at hzm HA1 HM HB0 hc0 hc1 hc2 hc3 ⊢
  rw [← hst] at hzt HA2 HT HB0 hc0 hc1 hc2 hc3 ⊢
  rw [← hsb] at HW HB0 hc0 hc1 hc2 hc3 ⊢
  clear hsm hst hsb ha1 e32 e8 hR hn hr hb hz E
  go_enter Tryz.func21, Tryz.ntmps21
  go_upto_region 1 with fail
  generalize w.alloc (.cells #[.string sm, .string st, .slice ao n c, .string sb] 27) = w0 at *
  go_wp2_with fail
  refine (HM.out w0).mono ?_
  rintro e w1 ⟨rfl, hb1⟩
  have HB1 := hide (HB0.out.trans (hb1.mono HB0.out.size))
  have d0 := cell_kept hc0 hb1
  have d1 := cell_kept hc1 hb1
  have d2 := cell_kept hc2 hb1
  have d3 := cell_kept hc3 hb1
  clear hb1 HB0 hc0 hc1 hc2 hc3 HM
  by_cases hmb : methodB q.m = true
  · have hml := method_len hmb
    rw [hmb]
    go_wp2_with fail
    refine (HT.out w1).mono ?_
    rintro e w2 ⟨rfl, hb2⟩
    have HB2 := hide (HB1.out.trans (hb2.mono HB1.out.size))
    have e0 := cell_kept d0 hb2
    have e1 := cell_kept d1 hb2
    have e2 := cell_kept d2 hb2
    have e3 := cell_kept d3 hb2
    clear hb2 HB1 d0 d1 d2 d3 HT
    by_cases htb : targetB q.t = true
    · have htl := target_len htb
      have HD : Hid (R = writtenR (q.m ++ [32] ++ q.t ++ [32] ++ ver8) q.fs q.b) := by
        show _ = _
        rw [HR.out]; unfold printReqR; rw [if_pos hmb, if_pos htb]
      have HL2 : Hid ((q.m ++ [32] ++ q.t ++ [32] ++ ver8).length ≤ 3000) := by show _ ≤ _; rw [HL.out.2.2.2]; omega
      have HWW := hide (HW.out _ w2 HL2.out (HRow.out.keep (HB2.out)) (HE.out.keep (HB2.out)))
      rw [← HD.out] at HWW
      have hz3 := HZ3.out
      have hz4 := HZ4.out
      have hz5 := HZ5.out
      rw [HL.out.1] at hz3
      rw [HL.out.2.1] at hz4
      rw [HL.out.2.2.1] at hz5
      have ha1 := HA1.out
      have ha2 := HA2.out
      have ha3 := HA3.out
      have ha4 := HA4.out
      rw [htb]
      generalize str (q.m ++ [32] ++ q.t ++ [32] ++ ver8) = s5 at *
      generalize str (q.m ++ [32] ++ q.t ++ [32]) = s4 at *
      generalize str (q.m ++ [32] ++ q.t) = s3 at *
      generalize str (q.m ++ [32]) = s2 at *
      generalize q.m.length = k1 at *
      generalize q.t.length = k2 at *
      clear htb hmb HR HD HL2 HZ3 HZ4 HZ5 HA1 HA2 HA3 HA4 HL HE hm ht
      go_wp2_with fail
      refine HWW.out.mono ?_
      rintro e w3 ⟨rfl, hb3⟩
      have HB3 := hide (HB2.out.trans (hb3.mono HB2.out.size))
      clear hb3 HWW
      cases R with
      | ok s =>
        unfold wAns
        go_wp2
        go_ret2
        exact ⟨rfl, HB3.out⟩
      | error x =>
        unfold wAns
        go_wp2
        go_ret2
        exact ⟨rfl, HB3.out⟩
    · have HD : Hid (R = .error 151) := by
        show _ = _
        rw [HR.out]; unfold printReqR; rw [if_pos hmb, if_neg htb]
      have htb : targetB q.t = false := by simpa using htb
      rw [htb]
      go_wp2
      go_ret2
      exact ⟨by rw [HD.out]; rfl, HB2.out⟩
  · have HD : Hid (R = .error 150) := by
      show _ = _
      rw [HR.out]; unfold printReqR; rw [if_neg hmb]
    have hmb : methodB q.m = false := by simpa using hmb
    rw [hmb]
    go_wp2
    go_ret2
    exact ⟨by rw [HD.out]; rfl, HB1.out⟩
end Go.Proofs.YtaenccjlokiejaaGreatDoor
