/- A message, written; requests and responses. -/
import Derived.Test.YtaenccjlokiejaaGreatDoorHPut
import Derived.Test.YtaenccjlokiejaaGreatDoorHEnv
namespace Go.Proofs.YtaenccjlokiejaaGreatDoor
open Go.RowKit Go.Shelf

def wAns : Except Nat U → Value
  | .ok s => .tuple #[.string (str s), .int .i64 0]
  | .error e => .tuple #[.string { data := #[] }, .int .i64 (e : Int)]
theorem fieldT_len {f : Fl} (h : mayB f = true) : (fieldT f).length ≤ 4164 ∧ f.1.length ≤ 64 ∧ f.2.length ≤ 4096 := by
  unfold mayB nameB valueB at h
  simp only [Bool.and_eq_true, decide_eq_true_eq] at h
  obtain ⟨⟨⟨⟨⟨_, h1⟩, _⟩, ⟨⟨h2, _⟩, _⟩⟩, _⟩, _⟩ := h
  refine ⟨?_, h1, h2⟩
  unfold fieldT
  have := lows_len f.1
  simp only [List.length_append, List.length_cons, List.length_nil]
  split <;> simp <;> omega
def rowsT (l : List Fl) : U := l.flatMap fieldT
theorem rowsT_snoc (l : List Fl) (f : Fl) : rowsT (l ++ [f]) = rowsT l ++ fieldT f := by simp [rowsT]
set_option maxHeartbeats 2000000 in
set_option maxRecDepth 100000 in
theorem written_any (first : U) (l : List Fl) (b : U) (ao : Option Addr) (n c : Nat) (w : World) (hn : n = l.length) (hr : FRow w ao l) (hf : first.length ≤ 3000) (hb : b.length ≤ 4611686018427387904)
    (hz : ∀ f ∈ l, f.1.length ≤ 9223372036854775807 ∧ f.2.length ≤ 9223372036854775807) (hnn : n ≤ 4611686018427387904) (E : Env w) :
    Calls Tryz.prog 49 #[.string (str first), .slice ao n c, .string (str b)] w fun e w' => e = .returned (wAns (writtenR first l b)) ∧ Below w.heap.size w w' := by
  have HN := hide hn
  have HR := hide hr
  have HZ := hide hz
  have HE := hide E
  obtain ⟨R, hR⟩ : ∃ R, R = writtenR first l b := ⟨_, rfl⟩
  rw [← hR]
  have HRR := hide hR
  have hzf := str_size first
  have hzb := str_size b
  have HAP : Hid (str first ++ (⟨#[13, 10]⟩ : ByteArray) = str (first ++ [13, 10])) := str_app first [13, 10]
  have HEB : Hid (((str b).toList == ([] : List UInt8)) = decide (b = [])) := by
    show _ = _
    rw [toList_str, Bool.eq_iff_iff]
    simp
  obtain ⟨kf, hkf⟩ : ∃ kf, kf = first.length := ⟨_, rfl⟩
  obtain ⟨kb, hkb⟩ : ∃ kb, kb = b.length := ⟨_, rfl⟩
  rw [← hkf] at hzf hf
  rw [← hkb] at hzb hb
  have HKF := hide hkf
  have HKB := hide hkb
  obtain ⟨sf, hsf⟩ : ∃ sf, sf = str first := ⟨_, rfl⟩
  obtain ⟨sb, hsb⟩ : ∃ sb, sb = str b := ⟨_, rfl⟩
  have HSB := hide hsb
  rw [← hsf] at hzf HAP ⊢
  rw [← hsb] at hzb HEB ⊢
  clear hn hr hz E hR hkf hkb hsf hsb
  by_cases h64 : 64 < n
  · have HD : Hid (R = .error 32) := by show _ = _; rw [HRR.out]; unfold writtenR; rw [if_pos (by rw [← HN.out]; exact h64)]
    go_enter Tryz.func49, Tryz.ntmps49
    go_wp2
    go_ret2
    exact ⟨by rw [HD.out]; rfl, Below.refl _ _⟩
  have HRA : Hid (R = if l.all mayB = true then (if 32768 < (headT first l b).length + b.length then .error 1 else .ok (headT first l b ++ b)) else .error 153) := by
    show _ = _
    rw [HRR.out]; unfold writtenR; rw [if_neg (by rw [← HN.out]; exact h64)]
  clear HRR
  go_enter Tryz.func49, Tryz.ntmps49
  go_upto_region 4 with fail
  have HF0 := hide (bu_fresh w)
  have HBW0 : Hid (Below w.heap.size w (w.alloc (.cells #[.pointer none, .slice none 0 0] 112))) := below_new _ _
  generalize w.alloc (.cells #[.pointer none, .slice none 0 0] 112) = wa at *
  go_wp2_with fail
  rw [HAP.out]
  refine (putS_any w.heap.size w.heap.size w wa [] (first ++ [13, 10]) (Nat.le_refl _) HF0.out (by have := HKF.out; simp; omega)).mono ?_
  rintro e w1 ⟨rfl, HS1, -⟩
  rw [List.nil_append] at HS1
  clear HF0 HBW0
  go_wp2
  go_loopw [19] (fun i wr => ∃ k : Nat, k ≤ n ∧ i = .int .i64 k ∧ Hid (BU w.heap.size w.heap.size w wr (first ++ [13, 10] ++ rowsT (l.take k))) ∧ Hid ((l.take k).all mayB = true) ∧ Hid ((rowsT (l.take k)).length ≤ 4164 * k)) (fun i _ => n - (intOf i).toNat)
  case atStart => exact ⟨0, by omega, rfl, by rw [List.take_zero]; simpa [rowsT] using HS1, by rw [List.take_zero]; exact rfl, by rw [List.take_zero]; exact Nat.zero_le _⟩
  case round =>
    obtain ⟨k, hk, rfl, HS, HM, HL⟩ := hrel
    have hs := HS.out.size
    have hsl := HS.out.lt
    by_cases hlt : k < n
    · obtain ⟨b1, off, rfl⟩ := HR.out.form (by rw [← HN.out]; omega)
      obtain ⟨q, hq⟩ : ∃ q, l[k]? = some q := ⟨_, List.getElem?_eq_getElem (by rw [← HN.out]; exact hlt)⟩
      have hqm := List.mem_of_getElem? hq
      have hcc := (HR.out.keep HS.out.2).cell hq
      rw [Nat.mul_comm] at hcc
      have c0 : wr.cell? ⟨b1, off + k * 2, none⟩ = some (.string (str q.1)) := hcc.1
      have c1 : wr.cell? ⟨b1, off + k * 2 + 1, none⟩ = some (.string (str q.2)) := hcc.2
      have HT : Hid (l.take (k + 1) = l.take k ++ [q]) := by show _ = _; rw [List.take_add_one, hq]; rfl
      have HQ := hide (HZ.out q hqm)
      have HP : Hid (PBk (wr.alloc (.cells #[.string (str q.1), .string (str q.2)] 78)) wr.heap.size q) := heap_alloc_new wr _
      have HSA := hide (HS.out.keep (below_new wr (.cells #[.string (str q.1), .string (str q.2)] 78)) hs)
      have HMY := hide (fun W => mayBe_any q W HQ.out.1 HQ.out.2)
      have HQM : Hid (q ∈ l) := hqm
      have HWF := hide (fun (W : World) xs (h : BU w.heap.size w.heap.size w W xs) h1 h2 h3 => writeField_any w.heap.size w.heap.size w xs q W (Nat.le_refl _) h h1 h2 h3)
      unfold fAgg at HMY HWF
      clear hcc hq hqm HS
      go_upto_region 8 with fail
      have p0 := HP.out.cell0
      have p1 := HP.out.cell1
      generalize hbq : wr.heap.size = bq at *
      generalize wr.alloc (.cells #[.string (str q.1), .string (str q.2)] 78) = w2 at *
      clear hbq c0 c1
      go_wp2_with fail
      refine (HMY.out w2).mono ?_
      rintro e w3 ⟨rfl, hb3⟩
      have HS3 := hide (HSA.out.keep hb3 HSA.out.size)
      have HP3 := hide (HP.out.keep hb3)
      have q0 := HP3.out.cell0
      have q1 := HP3.out.cell1
      clear hb3 HSA HP p0 p1 HMY
      by_cases hmy : mayB q = true
      · have HFL := hide (fieldT_len hmy)
        have HM2 : Hid ((l.take (k + 1)).all mayB = true) := by
          show _ = _
          rw [HT.out, List.all_append, HM.out]
          simp [hmy]
        have HL2 : Hid ((rowsT (l.take (k + 1))).length ≤ 4164 * (k + 1)) := by
          show _ ≤ _
          rw [HT.out, rowsT_snoc, List.length_append]
          have := HL.out; have := HFL.out.1
          omega
        have HW3 := hide (HWF.out w3 _ HS3.out (by have := HFL.out.2.1; omega) (by have := HFL.out.2.2; omega) (by have := HL.out; have := HKF.out; simp only [List.length_append, List.length_cons, List.length_nil]; omega))
        rw [hmy]
        clear HM HL HS3 HFL hmy
        go_wp2_with fail
        refine HW3.out.mono ?_
        rintro e w4 ⟨rfl, h4⟩
        have HS4 : Hid (BU w.heap.size w.heap.size w w4 (first ++ [13, 10] ++ rowsT (l.take (k + 1)))) := by
          rw [HT.out, rowsT_snoc, ← List.append_assoc]
          exact h4
        clear h4 HW3
        go_wp2
        go_roundw
        case rel => exact ⟨k + 1, by omega, by go_num, HS4, HM2, HL2⟩
        case measure => simp [intOf]; omega
      · have hmf : mayB q = false := by simpa using hmy
        have HD : Hid (R = .error 153) := by
          show _ = _
          rw [HRA.out, if_neg]
          intro h
          exact hmy (List.all_eq_true.1 h q HQM.out)
        rw [hmf]
        have HB3 := hide HS3.out.2
        clear hmf hmy HS3
        go_wp2
        go_ret2
        exact ⟨by rw [HD.out]; rfl, HB3.out⟩
    · obtain rfl : k = n := by omega
      have HTA : Hid (l.take k = l) := by show _ = _; rw [HN.out, List.take_length]
      rw [HTA.out] at HS HM HL
      have HRB : Hid (R = if 32768 < (headT first l b).length + b.length then .error 1 else .ok (headT first l b ++ b)) := by
        show _ = _
        rw [HRA.out, if_pos HM.out]
      obtain ⟨xs, hxs⟩ : ∃ xs, xs = first ++ [13, 10] ++ rowsT l := ⟨_, rfl⟩
      rw [← hxs] at HS
      have HXL : Hid (xs.length ≤ 300000) := by
        show _ ≤ _
        rw [hxs]
        have := HL.out; have := HKF.out
        simp only [List.length_append, List.length_cons, List.length_nil]
        omega
      have HHT : Hid (headT first l b = xs ++ bodyT b ++ [13, 10]) := by show _ = _; rw [hxs]; rfl
      clear HRA HM HL hxs HTA
      by_cases hbe : b = []
      · subst hbe
        have hk0 : kb = 0 := HKB.out
        subst hk0
        have hee : (sb.toList == ([] : List UInt8)) = true := by rw [HEB.out]; rfl
        have HH2 : Hid (headT first l [] = xs ++ [13, 10]) := by show _ = _; rw [HHT.out]; simp [bodyT]
        clear HEB HHT
        go_wp2_with fail
        refine (putS_any _ _ w wr xs [13, 10] (Nat.le_refl _) HS.out (by have := HXL.out; simp; omega)).mono ?_
        rintro e w3 ⟨rfl, HS3, -⟩
        clear HS
        rw [← HH2.out] at HS3
        obtain ⟨m, hm⟩ : ∃ m, m = (headT first l []).length := ⟨_, rfl⟩
        have HMM := hide hm
        have hmb : m ≤ 400000 := by rw [hm, HH2.out]; have := HXL.out; simp; omega
        have HLN := hide (lenS_any _ _ w w3 _ HS3.out)
        rw [← hm] at HLN
        clear hm
        go_wp2_with fail
        refine HLN.out.mono ?_
        rintro e w4 ⟨rfl, h4⟩
        have h5 := h4.symm
        subst h5
        clear h4 HLN
        by_cases hbig : 32768 < m
        · have HD : Hid (R = .error 1) := by show _ = _; rw [HRB.out, if_pos (by rw [← HMM.out]; simpa using hbig)]
          have HB4 := hide HS3.out.2
          clear HS3
          go_wp2
          go_ret2
          exact ⟨by rw [HD.out]; rfl, HB4.out⟩
        · have HD : Hid (R = .ok (headT first l [])) := by show _ = _; rw [HRB.out, if_neg (by rw [← HMM.out]; simpa using hbig), List.append_nil]
          go_wp2_with fail
          rw [HSB.out]
          refine (putS_any _ _ w w3 _ [] (Nat.le_refl _) HS3.out (by rw [← HMM.out]; simp; omega)).mono ?_
          rintro e w5 ⟨rfl, HS5, -⟩
          rw [List.append_nil] at HS5
          clear HS3
          go_wp2_with fail
          refine (getS_any _ _ w w5 _ (Nat.le_refl _) HS5.out).mono ?_
          rintro e w6 ⟨rfl, HB6⟩
          go_wp2
          go_ret2
          exact ⟨by rw [HD.out]; rfl, HB6.out⟩
      · have hee : (sb.toList == ([] : List UInt8)) = false := by rw [HEB.out]; simpa using hbe
        have HBT : Hid (bodyT b = fieldT (clN, Lib.itoa (kb : Int))) := by show _ = _; unfold bodyT; rw [if_neg hbe, HKB.out]
        have HIL := hide (itoa_len (kb : Int) (by omega) (by omega))
        have HI := hide (itoa_any (kb : Int) wr (by omega) (by omega) (HE.out.keep HS.out.2))
        generalize Lib.itoa (kb : Int) = it at *
        clear HEB hbe
        go_wp2_with fail
        refine HI.out.mono ?_
        rintro e w2 ⟨rfl, hb2⟩
        have HS2 := hide (HS.out.keep hb2 HS.out.size)
        have HW := hide (writeField_any w.heap.size w.heap.size w xs (clN, it) w2 (Nat.le_refl _) HS2.out (by show clN.length ≤ 1000; decide) (by have := HIL.out; show it.length ≤ _; omega) (by have := HXL.out; omega))
        have ec : str clN = ⟨#[99, 111, 110, 116, 101, 110, 116, 45, 108, 101, 110, 103, 116, 104]⟩ := rfl
        unfold fAgg at HW
        simp only at HW
        rw [ec, ← HBT.out] at HW
        clear hb2 HI HS ec
        go_wp2_with fail
        refine HW.out.mono ?_
        rintro e w3 ⟨rfl, h3⟩
        have HS3 := hide h3
        clear h3 HW HS2
        have HBL : Hid ((bodyT b).length ≤ 100) := by
          show _ ≤ _
          rw [HBT.out]
          have := HIL.out
          unfold fieldT
          have e14 : (lows clN).length = 14 := by decide
          simp only [List.length_append, List.length_cons, List.length_nil, e14]
          split <;> simp <;> omega
        go_wp2_with fail
        refine (putS_any _ _ w w3 (xs ++ bodyT b) [13, 10] (Nat.le_refl _) HS3.out (by have := HXL.out; have := HBL.out; simp; omega)).mono ?_
        rintro e w4 ⟨rfl, HS4, -⟩
        rw [← HHT.out] at HS4
        clear HS3
        obtain ⟨m, hm⟩ : ∃ m, m = (headT first l b).length := ⟨_, rfl⟩
        have HMM := hide hm
        have hmb : m ≤ 400000 := by rw [hm, HHT.out]; have := HXL.out; have := HBL.out; simp; omega
        have HLN := hide (lenS_any _ _ w w4 _ HS4.out)
        rw [← hm] at HLN
        clear hm
        go_wp2_with fail
        refine HLN.out.mono ?_
        rintro e w5 ⟨rfl, h5⟩
        have h6 := h5.symm
        subst h6
        clear h5 HLN
        by_cases hbig : 32768 < m + kb
        · have HD : Hid (R = .error 1) := by show _ = _; rw [HRB.out, if_pos (by rw [← HMM.out, ← HKB.out]; exact hbig)]
          have HB4 := hide HS4.out.2
          clear HS4
          have hbi : (32768 : Int) < (m : Int) + (kb : Int) := by omega
          go_wp2
          go_ret2
          exact ⟨by rw [HD.out]; rfl, HB4.out⟩
        · have HD : Hid (R = .ok (headT first l b ++ b)) := by show _ = _; rw [HRB.out, if_neg (by rw [← HMM.out, ← HKB.out]; exact hbig)]
          have hbi : ¬ (32768 : Int) < (m : Int) + (kb : Int) := by omega
          go_wp2_with fail
          rw [HSB.out]
          refine (putS_any _ _ w w4 _ b (Nat.le_refl _) HS4.out (by rw [← HMM.out, ← HKB.out]; omega)).mono ?_
          rintro e w6 ⟨rfl, HS6, -⟩
          clear HS4
          go_wp2_with fail
          refine (getS_any _ _ w w6 _ (Nat.le_refl _) HS6.out).mono ?_
          rintro e w7 ⟨rfl, HB7⟩
          go_wp2
          go_ret2
          exact ⟨by rw [HD.out]; rfl, HB7.out⟩
end Go.Proofs.YtaenccjlokiejaaGreatDoor
