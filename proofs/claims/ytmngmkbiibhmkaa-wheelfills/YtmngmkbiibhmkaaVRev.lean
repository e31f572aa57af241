/- reverseRange; what of the library the sorting of pairs and of numbers share. -/
import Derived.Test.YtmngmkbiibhmkaaVHeapS
import Derived.Test.YtmngmkbiibhmkaaVShelf
namespace Go.Proofs.Ytmngmkbiibhmkaa
open Go.RowKit Go.Maps

theorem next_any (rb X : Nat) (hX : X < 18446744073709551616) (w : World) (hc : w.cell? ⟨rb, 0, none⟩ = some (.int .u64 X)) (hf : w.frozen? ⟨rb, 0, none⟩ = false) :
    Calls Try.prog 71 #[.pointer (some ⟨rb, 0, none⟩)] w fun e w' => ∃ Y : Nat, Y < 18446744073709551616 ∧ e = .returned (.int .u64 (Y : Int)) ∧ w' = (w.setCell ⟨rb, 0, none⟩ (.int .u64 (Y : Int))).drewN 3 :=
  (AnyF.xorshift_Next (P := Try.prog) (ρ := sortL_ren) { sortL with } rb 0 X hX w hc hf).mono fun _ _ h => ⟨Go.Sort.xorNextN X, by
    unfold Go.Sort.xorNextN
    simp only []
    have l1 : X ^^^ (X * 8192 % 18446744073709551616) < 18446744073709551616 := Nat.xor_lt_two_pow (n := 64) (by omega) (by omega)
    have l2 := Nat.xor_lt_two_pow (n := 64) l1 (show (X ^^^ (X * 8192 % 18446744073709551616)) / 128 < 2 ^ 64 by omega)
    exact Nat.xor_lt_two_pow (n := 64) l2 (by omega), h.1, h.2⟩
theorem pow_any (n : Nat) (h0 : 0 < n) (hn : n < 4611686018427387904) (w : World) :
    Calls Try.prog 70 #[.int .i64 (n : Int)] w fun e w' => ∃ m : Nat, 0 < m ∧ m ≤ 2 * n ∧ e = .returned (.int .u64 (m : Int)) ∧ w' = w :=
  (AnyF.nextPowerOfTwo (P := Try.prog) (ρ := sortL_ren) { sortL with } n hn w).mono fun _ _ h => ⟨1 <<< Go.Sort.bitsLen n, by
    rw [Nat.one_shiftLeft]; exact Nat.two_pow_pos _, by
    rw [Nat.one_shiftLeft]
    have h1 := Go.Sort.bitsLen_le_iff n (Go.Sort.bitsLen n - 1)
    have h2 := Go.Sort.bitsLen_le_iff n 0
    by_cases hk : Go.Sort.bitsLen n = 0
    · have := h2.1 (by omega); omega
    · have h3 : ¬ n < 2 ^ (Go.Sort.bitsLen n - 1) := fun k => by have := h1.2 k; omega
      have h4 : 2 ^ Go.Sort.bitsLen n = 2 * 2 ^ (Go.Sort.bitsLen n - 1) := by rw [show Go.Sort.bitsLen n = (Go.Sort.bitsLen n - 1) + 1 by omega, Nat.pow_succ]; simp; omega
      omega, h.1, h.2⟩
theorem blen_any (n : Nat) (hn : n < 4611686018427387904) (w : World) :
    Calls Try.prog 52 #[.int .u64 (n : Int)] w fun e w' => ∃ k : Nat, k ≤ 62 ∧ e = .returned (.int .i64 (k : Int)) ∧ w' = w := by
  have h := Any.bits_Len (SlLaysF0.n15.bits (P := Try.prog) (ρ := sortL_ren) { sortL with }) (n : Int) w (by omega) (by omega)
  rw [Int.toNat_natCast, bitLen_eq _ (by omega)] at h
  exact h.mono fun _ _ h => ⟨Go.Sort.bitsLen n, (Go.Sort.bitsLen_le_iff n 62).2 (by omega), h.1, h.2⟩
set_option maxHeartbeats 1000000 in
set_option maxRecDepth 100000 in
theorem reverse_any (g n cap a b : Nat) (ds : List Nat) (rest : List Value) (w : World) (hB : Bl w g (ds.map uv ++ rest) 22) (hn : n = ds.length) (hl : n ≤ 1000000) (hab : a < b) (hb : b ≤ n) :
    Calls Try.prog 78 #[.slice (some ⟨g, 0, none⟩) n cap, .int .i64 (a : Int), .int .i64 (b : Int)] w fun e w' => e = .returned (.tuple #[]) ∧ ∃ es, SR w w' g es rest ∧ SegP a b ds es := by
  have HB := hide hB
  have HN := hide hn
  clear hB hn
  go_enter Try.func78, Try.ntmps78
  go_wp2
  go_loopw [6, 7] (fun v6 v7 wr => ∃ i j : Nat, a ≤ i ∧ j < b ∧ i ≤ j + 1 ∧ v6 = .int .i64 (i : Int) ∧ v7 = .int .i64 (j : Int) ∧ Hid (∃ es, SR w wr g es rest ∧ SegP a b ds es)) (fun v6 v7 _ => (intOf v7 + 1 - intOf v6).toNat)
  case atStart => exact ⟨a, b - 1, by omega, by omega, by omega, rfl, by first | rfl | (rw [show ((b - 1 : Nat) : Int) = (b : Int) - 1 by omega]), ds, SR.refl HB.out, SegP.refl _ _ _⟩
  case round =>
    obtain ⟨i, j, hi, hj, hij, rfl, rfl, HI⟩ := hrel
    by_cases hlt : i < j
    · obtain ⟨es, h1, h2⟩ := HI.out
      have hel : es.length = n := by rw [h2.len, HN.out]
      have ci := h1.cell (t := i) (by omega)
      have cj := h1.cell (t := j) (by omega)
      have fi := h1.free i
      have fj := h1.free j
      have SW : Hid (∃ fs, SR w (((wr.setCell ⟨g, i, none⟩ (.int .u64 (gt es j : Int))).setCell ⟨g, j, none⟩ (.int .u64 (gt es i : Int))).drew) g fs rest ∧ SegP a b ds fs) := ⟨_, (h1.swap (by omega) (by omega)).drewN 1, h2.trans (seg_swp (by omega) (by omega) (by omega) (by omega) (by omega))⟩
      have hlt' : (i : Int) < (j : Int) := by omega
      generalize gt es i = x at *
      generalize gt es j = y at *
      clear h1 h2 HI
      go_wp2_with fail
      go_region
      all_goals go_wp2_with fail
      all_goals go_roundw
      case rel => exact ⟨i + 1, j - 1, by omega, by omega, by omega, by simp, by rw [show ((j - 1 : Nat) : Int) = (j : Int) - 1 by omega], SW⟩
      case measure => simp [intOf]; omega
    · have hlt' : ¬ (i : Int) < (j : Int) := by omega
      go_wp2_with fail
      go_end0
      exact ⟨rfl, HI.out⟩
end Go.Proofs.Ytmngmkbiibhmkaa
