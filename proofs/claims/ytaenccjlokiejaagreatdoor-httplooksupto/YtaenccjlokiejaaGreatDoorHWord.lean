/- The first line of a request, by the program. -/
import Derived.Test.YtaenccjlokiejaaGreatDoorHEnv
import Derived.Test.YtaenccjlokiejaaGreatDoorHIs
import Derived.BigQuiet
import Derived.Deep.Cut
import Derived.Deep.CutBlock
import Derived.Deep.RegionHeld3
namespace Go.Proofs.YtaenccjlokiejaaGreatDoor
open Go.RowKit Go.Shelf

set_option maxHeartbeats 1000000 in
set_option maxRecDepth 100000 in
theorem word_any (l : U) (v : Value) (p : UInt8 → Bool) (w : World) (hl : l.length ≤ 4611686018427387904) (hm : May w v p) :
    Calls Tryz.prog 62 #[.string (str l), v] w fun e w' => e = .returned (.tuple #[.string (str (wordR l p).1), .bool (wordR l p).2]) ∧ Below w.heap.size w w' := by
  have HC := hide (run_any l v p w (by omega) hm)
  have hle := run_le p l
  have htr := take_run p l
  obtain ⟨n, hn⟩ : ∃ n, n = (l.takeWhile p).length := ⟨_, rfl⟩
  rw [← hn] at HC hle htr
  have hs1 := cut_to l n (n : Int) rfl hle
  have hs2 := cut_from l n (n : Int) rfl hle
  have HP := hide (fun W => hasPrefix_any (l.drop n) [32] W)
  have e32 : str [32] = (⟨#[32]⟩ : ByteArray) := rfl
  rw [e32] at HP
  rw [htr] at hs1
  have HE : Hid ((wordR l p).1 = l.takeWhile p ∧ (wordR l p).2 = ([32] : U).isPrefixOf (l.drop n)) := ⟨rfl, by unfold wordR; rw [hn]⟩
  rw [HE.out.1, HE.out.2]
  have hz := str_size l
  generalize ([32] : U).isPrefixOf (l.drop n) = b at *
  generalize str (l.takeWhile p) = s1 at *
  generalize str (l.drop n) = s2 at *
  generalize hls : l.length = m at *
  generalize str l = s at *
  clear HE hm htr e32 hn
  go_enter Tryz.func62, Tryz.ntmps62
  go_wp2_with fail
  refine HC.out.mono ?_
  rintro e w2 ⟨rfl, h2⟩
  have h3 := h2.symm
  subst h3
  clear h2 HC
  go_wp2
  go_quiet ((go_at_call 65; exact (HP.out _).mono fun _ _ h => ⟨h.1, _, h.2⟩))
  go_wp2
  go_ret2
  exact ⟨rfl, below_drewN (Below.refl _ _) _⟩
def lineV : Except (Nat × Nat) (U × U × Nat) → Value
  | .error (e, p) => .tuple #[.string { data := #[] }, .string { data := #[] }, .int .i64 (e : Int), .int .i64 (p : Int)]
  | .ok (m, t, k) => .tuple #[.string (str m), .string (str t), .int .i64 0, .int .i64 (k : Int)]
theorem word_fact (l : U) (p : UInt8 → Bool) (h : (wordR l p).2 = true) : (wordR l p).1.length + 1 ≤ l.length := by
  unfold wordR at h ⊢
  simp only at h ⊢
  have hle := run_le p l
  have : l.drop (l.takeWhile p).length ≠ [] := by
    intro e
    rw [e] at h
    simp [List.isPrefixOf] at h
  have h2 : ¬ l.length ≤ (l.takeWhile p).length := fun h => this (List.drop_eq_nil_of_le h)
  omega
set_option maxHeartbeats 2000000 in
set_option maxRecDepth 100000 in
theorem readRequestLine_any (raw : U) (w : World) (hl : raw.length ≤ 32768) :
    Calls Tryz.prog 38 #[.string (str raw)] w fun e w' => e = .returned (lineV (reqLineR raw)) ∧ Below w.heap.size w w' := by
  obtain ⟨R, hR⟩ : ∃ R, R = reqLineR raw := ⟨_, rfl⟩
  rw [← hR]
  obtain ⟨m, hm⟩ : ∃ m, m = (wordR raw capB).1 := ⟨_, rfl⟩
  obtain ⟨b1, hb1⟩ : ∃ b1, b1 = (wordR raw capB).2 := ⟨_, rfl⟩
  obtain ⟨t, ht⟩ : ∃ t, t = (wordR (raw.drop (m.length + 1)) visB).1 := ⟨_, rfl⟩
  obtain ⟨b2, hb2⟩ : ∃ b2, b2 = (wordR (raw.drop (m.length + 1)) visB).2 := ⟨_, rfl⟩
  have HR : Hid (R = if b1 = true ∧ methodB m = true then
    if b2 = true ∧ targetB t = true then
      if verL.isPrefixOf (raw.drop (m.length + 1 + (t.length + 1))) = true then .ok (m, t, m.length + 1 + (t.length + 1) + 10)
      else .error (152, m.length + 1 + (t.length + 1))
    else .error (151, m.length + 1)
  else .error (150, 0)) := by
    show _ = _
    rw [hR, hb2, ht, hb1, hm]
    rfl
  have HW1 := hide (fun v W h => word_any raw v capB W (by omega) h)
  have HW2 := hide (fun v W h => word_any (raw.drop (m.length + 1)) v visB W (by rw [List.length_drop]; omega) h)
  rw [← hm, ← hb1] at HW1
  rw [← ht, ← hb2] at HW2
  have HF1 : Hid (b1 = true → m.length + 1 ≤ raw.length) := fun h => by rw [hm]; exact word_fact _ _ (by rw [← hb1]; exact h)
  have HF2 : Hid (b2 = true → t.length + 1 ≤ raw.length - (m.length + 1)) := fun h => by
    have := word_fact (raw.drop (m.length + 1)) visB (by rw [← hb2]; exact h)
    rw [← ht, List.length_drop] at this
    exact this
  have HM := hide (fun (h : m.length ≤ 32768) W => isMethod_any m W (by omega))
  have HT := hide (fun (h : t.length ≤ 32768) W => isTarget_any t W (by omega))
  have hzm := str_size m
  have hzt := str_size t
  have HS1 := hide (fun h => cut_from raw (m.length + 1) ((m.length : Int) + 1) (by omega) h)
  have HS2 := hide (fun h => cut_from raw (m.length + 1 + (t.length + 1)) ((m.length : Int) + 1 + ((t.length : Int) + 1)) (by omega) h)
  have HP := hide (fun W => hasPrefix_any (raw.drop (m.length + 1 + (t.length + 1))) verL W)
  have ev : str verL = (⟨#[72, 84, 84, 80, 47, 49, 46, 49, 13, 10]⟩ : ByteArray) := rfl
  rw [ev] at HP
  obtain ⟨N, hN⟩ : ∃ N, N = raw.length := ⟨_, rfl⟩
  rw [← hN] at hl HF1 HF2 HS1 HS2
  obtain ⟨k1, hk1⟩ : ∃ k1, k1 = m.length := ⟨_, rfl⟩
  obtain ⟨k2, hk2⟩ : ∃ k2, k2 = t.length := ⟨_, rfl⟩
  rw [← hk1] at HR HF1 HF2 HM hzm HS1 HS2 HP HW2
  rw [← hk2] at HR HF2 HT hzt HS2 HP
  generalize hpb : verL.isPrefixOf (raw.drop (k1 + 1 + (k2 + 1))) = b3 at *
  generalize hmb : methodB m = mb at *
  generalize htb : targetB t = tb at *
  obtain ⟨sm, hsm⟩ : ∃ sm, sm = str m := ⟨_, rfl⟩
  obtain ⟨st, hst⟩ : ∃ st, st = str t := ⟨_, rfl⟩
  rw [← hsm] at HW1 HM hzm
  rw [← hst] at HW2 HT hzt
  have HSM := hide hsm
  have HST := hide hst
  generalize str raw = s at *
  generalize str (raw.drop (k1 + 1)) = s1 at *
  generalize str (raw.drop (k1 + 1 + (k2 + 1))) = s2 at *
  clear hR hm hb1 ht hb2 ev hN hk1 hk2 hpb hsm hst hmb htb
  go_enter Tryz.func38, Tryz.ntmps38
  go_wp2_with fail
  refine (capital_any w).mono ?_
  rintro e w1 ⟨v1, rfl, hm1, hb1⟩
  have HB1 := hide hb1
  have HQ1 := hide (HW1.out v1 w1 hm1)
  clear hm1 hb1 HW1
  go_wp2_with fail
  refine HQ1.out.mono ?_
  rintro e w2 ⟨rfl, hb2⟩
  have HB2 := hide (HB1.out.trans (hb2.mono HB1.out.size))
  clear hb2 HQ1 HB1
  cases b1 with
  | false =>
    have HD : Hid (R = .error (150, 0)) := by show _ = _; rw [HR.out]; simp
    clear HR
    go_wp2
    refine bodyPost_ret (v := lineV (.error (150, 0))) (by simp [results, Tryz.results38, go_sem, lineV]) rfl ?_
    exact ⟨by rw [HD.out], HB2.out⟩
  | true =>
    have hk1 := HF1.out rfl
    go_wp2_with fail
    refine (HM.out (by omega) w2).mono ?_
    rintro e w3 ⟨rfl, hb3⟩
    have HB3 := hide (HB2.out.trans (hb3.mono HB2.out.size))
    clear hb3 HB2 HM
    cases mb with
    | false =>
      have HD : Hid (R = .error (150, 0)) := by show _ = _; rw [HR.out]; simp
      clear HR
      go_wp2
      refine bodyPost_ret (v := lineV (.error (150, 0))) (by simp [results, Tryz.results38, go_sem, lineV]) rfl ?_
      exact ⟨by rw [HD.out], HB3.out⟩
    | true =>
      have hsl1 := HS1.out hk1
      go_upto_region 5 with fail
      go_region_held3 (fun _ => True) (trivial) (first
        | (go_at_call 64; refine (visible_any _).mono ?_; rintro e w4 ⟨v4, rfl, hm4, hb4⟩; have HB4 : Hid (Below w3.heap.size w3 w4) := below_undrewN1 hb4; have HQ4 := hide (HW2.out v4 w4 hm4); clear hm4 hb4)
        | (go_at_call 62; refine HQ4.out.mono ?_; rintro e w5 ⟨rfl, hb5⟩; have HB5 : Hid (Below w3.heap.size w3 w5) := HB4.out.trans (hb5.mono HB4.out.size); clear hb5 HQ4))
      have HB6 := hide (HB3.out.trans (HB5.out.mono HB3.out.size))
      clear HB5 HB4 HB3
      cases b2 with
      | false =>
        have HD : Hid (R = .error (151, k1 + 1)) := by show _ = _; rw [HR.out]; simp
        clear HR
        go_wp2
        refine bodyPost_ret (v := lineV (.error (151, k1 + 1))) (by simp [results, Tryz.results38, go_sem, lineV]) rfl ?_
        exact ⟨by rw [HD.out], HB6.out⟩
      | true =>
        have hk2 := HF2.out rfl
        go_wp2_with fail
        refine (HT.out (by omega) w5).mono ?_
        rintro e w6 ⟨rfl, hb6⟩
        have HB7 := hide (HB6.out.trans (hb6.mono HB6.out.size))
        clear hb6 HB6 HT
        cases tb with
        | false =>
          have HD : Hid (R = .error (151, k1 + 1)) := by show _ = _; rw [HR.out]; simp
          clear HR
          go_wp2
          refine bodyPost_ret (v := lineV (.error (151, k1 + 1))) (by simp [results, Tryz.results38, go_sem, lineV]) rfl ?_
          exact ⟨by rw [HD.out], HB7.out⟩
        | true =>
          have hsl2 := HS2.out (by omega)
          go_wp2_with fail
          refine (HP.out w6).mono ?_
          rintro e w7 ⟨rfl, h7⟩
          have h8 := h7.symm
          subst h8
          clear h7 HP
          cases b3 with
          | false =>
            have HD : Hid (R = .error (152, k1 + 1 + (k2 + 1))) := by show _ = _; rw [HR.out]; simp
            clear HR
            go_wp2
            refine bodyPost_ret (v := lineV (.error (152, k1 + 1 + (k2 + 1)))) (by simp [results, Tryz.results38, go_sem, lineV]) rfl ?_
            exact ⟨by rw [HD.out], HB7.out⟩
          | true =>
            have HD : Hid (R = .ok (m, t, k1 + 1 + (k2 + 1) + 10)) := by show _ = _; rw [HR.out]; simp
            clear HR
            go_wp2
            refine bodyPost_ret (v := .tuple #[.string sm, .string st, .int .i64 0, .int .i64 ((k1 : Int) + 1 + ((k2 : Int) + 1) + 10)]) (by simp [results, Tryz.results38, go_sem]) rfl ?_
            exact ⟨by rw [HD.out, HSM.out, HST.out]; first | rfl | simp [lineV], HB7.out⟩
end Go.Proofs.YtaenccjlokiejaaGreatDoor
