/- The walk of the law FormAgain: every text: true, and nothing old turns. -/
import Derived.Test.YtebcodbmkphgaabDoorFBackLaw
namespace Go.Proofs.YtebcodbmkphgaabDoor
open Go.RowKit

theorem parOut_small (xs : List Nat) : tot2 (parOut xs).1 ≤ 1048768 := by
  have h64 := (parOut_len xs).1
  have h : ∀ q ∈ (parOut xs).1, q.1.length + q.2.length ≤ 16384 := by
    unfold parOut
    split
    · simp
    · cases h : parse xs 0 [] with
      | ok l => exact parse_small _ _ _ _ _ (Nat.le_refl _) (by omega) (by simp) h
      | error e => obtain ⟨a, b⟩ := e; simp [outOf]
  have := tot2_small _ h
  have h2 : (parOut xs).1.length * (16384 + 3) ≤ 64 * (16384 + 3) := Nat.mul_le_mul_right _ h64
  omega
theorem parOut_none {xs : List Nat} (h : (parOut xs).2.1 ≠ 0) : (parOut xs).1 = [] := by
  unfold parOut at h ⊢
  split
  · rfl
  · rename_i hx
    rw [if_neg hx] at h
    cases hp : parse xs 0 [] with
    | ok l => rw [hp] at h; simp [outOf] at h
    | error x => obtain ⟨a, b⟩ := x; rfl

set_option linter.unusedSimpArgs false in
set_option maxHeartbeats 1600000 in
set_option maxRecDepth 100000 in
theorem formAgain_walk (s : ByteArray) (w : World) (hs : s.size ≤ 9223372036854775807) (hM : MaxL w) :
    Calls Tryd.prog 4 #[.string s] w fun e w' => e = .returned (.bool true) ∧ Below w.heap.size w w' := by
  have HM : Hid (MaxL w) := hM
  have HS : Hid (s.size ≤ 9223372036854775807) := hs
  obtain ⟨l, er, pl, HO⟩ : ∃ l er pl, Hid (parOut (sbytes s) = (l, er, pl)) := ⟨_, _, _, rfl⟩
  obtain ⟨n, hn⟩ : ∃ n, n = l.length := ⟨_, rfl⟩
  have HN : Hid (n = l.length) := hn
  have hnl : n ≤ 64 := by have := (parOut_len (sbytes s)).1; rw [HO.out] at this; rw [hn]; exact this
  have HB2 : Hid (∀ q ∈ l, bytes2 q) := by have := (parOut_len (sbytes s)).2; rw [HO.out] at this; exact this
  have HL : Hid (tot2 l ≤ 1099511627776) := by have := parOut_small (sbytes s); rw [HO.out] at this; show _ ≤ _; simp only at this; omega
  have HE : Hid (er ≠ 0 → l = []) := by have := parOut_none (xs := sbytes s); rw [HO.out] at this; exact this
  obtain ⟨t, HT⟩ : ∃ t, Hid (t = bstr (prt l)) := ⟨_, rfl⟩
  have HTZ : Hid (t.size = (prt l).length) := by show _ = _; rw [HT.out, bstr_size]
  have HTB : Hid (sbytes t = prt l) := by show _ = _; rw [HT.out, sbytes_bstr (prt_lt l HB2.out)]
  have HTL : Hid (t.size ≤ 9223372036854775807) := by
    show _ ≤ _
    have := prt_len l
    have := HL.out
    rw [HTZ.out]; omega
  clear hn hM hs
  go_enter Tryd.func4, Tryd.ntmps4
  go_wp2_with fail
  refine (parse_m s l er pl n w HO.out HN.out HS.out HM.out).mono ?_
  rintro e w1 ⟨f1, c1, rfl, h1⟩
  have HB1 : Hid (Below w.heap.size w w1) := h1.out.2
  have HR1 : Hid (PRow w1 f1 l) := h1.out.1.row
  have hs1 := HB1.out.size
  clear h1
  by_cases he : er = 0
  · subst he
    go_wp2_with (go_at_call 9; refine (num_any _ _).mono ?_; rintro e wn ⟨rfl, rfl⟩)
    refine (print_any n c1 f1 l _ HN.out HL.out HB2.out HR1.out).mono ?_
    rintro e w2 ⟨rfl, hb2⟩
    rw [← HT.out]
    have HBw2 : Hid (Below w.heap.size w w2) := HB1.out.trans (hb2.mono hs1)
    have HR2 : Hid (PRow w2 f1 l) := HR1.out.keep hb2
    have hs2 := HBw2.out.size
    clear hb2 HR1
    go_wp2_with fail
    by_cases hN : 16384 < t.size
    · refine (parse_m t [] 1 0 0 w2 (by rw [HTB.out]; exact parOut_long (by rw [← HTZ.out]; exact hN)) rfl HTL.out (HM.out.keep HBw2.out)).mono ?_
      rintro e w3 ⟨f3, c3, rfl, h3⟩
      have HB3 : Hid (Below w.heap.size w w3) := HBw2.out.trans (h3.out.2.mono hs2)
      clear h3
      have hNi : (16384 : Int) < (t.size : Int) := by omega
      go_wp2_with (go_at_call 9; refine (num_any _ _).mono ?_; rintro e wn ⟨rfl, rfl⟩)
      go_ret
      exact ⟨rfl, HB3.out⟩
    · have hNi : (t.size : Int) ≤ 16384 := by omega
      refine (parse_m t l 0 0 n w2 (by rw [HTB.out]; exact parOut_back (by rw [← HTZ.out]; omega) HB2.out (by rw [← HN.out]; omega)) HN.out HTL.out (HM.out.keep HBw2.out)).mono ?_
      rintro e w3 ⟨f3, c3, rfl, h3⟩
      have HB3 : Hid (Below w.heap.size w w3) := HBw2.out.trans (h3.out.2.mono hs2)
      have HR3 : Hid (PRow w3 f3 l) := h3.out.1.row
      have HR13 : Hid (PRow w3 f1 l) := HR2.out.keep h3.out.2
      have hs3 := HB3.out.size
      clear h3 HR2
      go_wp2_with (go_at_call 9; refine (num_any _ _).mono ?_; rintro e wn ⟨rfl, rfl⟩)
      refine (pairs_true n c1 c3 f1 f3 l _ HN.out (by omega) HR13.out HR3.out).mono ?_
      rintro e w4 ⟨rfl, k4, rfl⟩
      go_wp2_with fail
      refine (print_any n c3 f3 l _ HN.out HL.out HB2.out (by exact HR3.out)).mono ?_
      rintro e w5 ⟨rfl, hb5⟩
      rw [← HT.out]
      have HB5 : Hid (Below w.heap.size w w5) := (below_drewN HB3.out k4).trans (hb5.mono (by simp; omega))
      have hs5 := HB5.out.size
      clear hb5
      go_wp2_with fail
      refine (live_true _ (HM.out.keep HB5.out)).mono ?_
      rintro e w6 ⟨rfl, hb6⟩
      have HB6 : Hid (Below w.heap.size w w6) := HB5.out.trans (hb6.mono hs5)
      go_wp2
      go_ret
      exact ⟨rfl, HB6.out⟩
  · have hei : ((er : Int) != 0) = true := by rw [bne_iff_ne]; omega
    have hn0 : n = 0 := by rw [HN.out, HE.out he]; rfl
    subst hn0
    have HEr : Hid (er ≠ 0) := he
    clear he
    go_wp2_with (go_at_call 9; refine (num_any _ _).mono ?_; rintro e wn ⟨rfl, rfl⟩)
    refine (live_true _ (HM.out.keep HB1.out)).mono ?_
    rintro e w6 ⟨rfl, hb6⟩
    have HB6 : Hid (Below w.heap.size w w6) := HB1.out.trans (hb6.mono hs1)
    go_wp2
    go_ret
    exact ⟨rfl, HB6.out⟩
end Go.Proofs.YtebcodbmkphgaabDoor
