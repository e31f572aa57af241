/- The contracts of the laws' helpers kept and lent: for every row of bytes. -/
import Derived.Test.YtjdglpfjemoodaaDoorMath
namespace Go.Proofs.YtjdglpfjemoodaaDoor
open Go.RowKit

set_option maxHeartbeats 400000 in
theorem kept_true (n c d : Nat) (b off : Nat) (bo : Option Addr) (xs : List Nat) (w : World) (hl : xs.length ≤ 140737488351232) (hn : n = xs.length + 64) (hnc : n ≤ c) (hfull : Row w (some ⟨b, off, none⟩) (xs ++ marks 64)) (hb : Row w bo xs) (hx : ∀ x ∈ xs, x < 256) :
    Calls Tryd.prog 15 #[.slice (some ⟨b, off, none⟩) n c, .slice bo xs.length d] w fun e w' => e = .returned (.bool true) ∧ w' = w := by
  have HX : Hid (∀ x ∈ xs, x < 256) := hx
  have HF : Hid (Row w (some ⟨b, off, none⟩) (xs ++ marks 64)) := hfull
  have HB : Hid (Row w bo xs) := hb
  clear hx hfull hb
  go_enter Tryd.func15, Tryd.ntmps15
  go_wp2
  go_loop [5] (fun i => ∃ k : Nat, k ≤ 64 ∧ i = .int .i64 k) (fun i => 64 - (intOf i).toNat)
  case atStart => exact ⟨0, Nat.zero_le _, rfl⟩
  case round =>
    obtain ⟨k, hk, rfl⟩ := hrel
    by_cases hlt : k < 64
    · have hcell : w.cell? ⟨b, off + (xs.length + k), none⟩ = some (.int .u8 ((mark k : Nat) : Int)) := by
        rcases HF.out with h | ⟨b', off', h, hc⟩
        · have := congrArg List.length h; simp [marks_length] at this
        · cases h
          rw [hc _ (by simp [marks_length]; omega)]
          have : (xs ++ marks 64).getD (xs.length + k) 0 = mark k := by
            have := marks_get 64 k hlt
            simp only [List.getD] at this ⊢
            rw [List.getElem?_append_right (by omega), show xs.length + k - xs.length = k by omega]
            exact this
          rw [this]
      have hm : (((mark k : Nat) : Int) != 200 + (k : Int) % 7) = false := by simp only [bne_eq_false_iff_eq, mark]; omega
      go_wp2
      go_round
      case rel => exact ⟨k + 1, by omega, by go_num⟩
      case measure => simp [intOf]; omega
    · go_wp2_with fail
      refine (same_any c d _ bo xs xs w HF.out.take HB.out HX.out HX.out).mono ?_
      rintro e w' ⟨rfl, rfl⟩
      go_wp2
      go_ret
      exact ⟨by simp, rfl⟩

set_option maxHeartbeats 400000 in
set_option maxRecDepth 100000 in
theorem lent_any (cap : Nat) (ao : Option Addr) (xs : List Nat) (w : World) (hl : xs.length ≤ 140737488351232) (hr : Row w ao xs) :
    Calls Tryd.prog 14 #[.slice ao xs.length cap] w fun e w' => ∃ v, e = .returned v ∧ Own w' w.heap.size v (xs ++ marks 64) ∧ Below w.heap.size w w' := by
  have HR : Hid (Row w ao xs) := hr
  clear hr
  go_enter Tryd.func14, Tryd.ntmps14
  go_wp2_with (first | (at_builtin; refine wpList_append_bytes rfl _ _ rfl w.heap.size _ [] rfl (own_new w w.heap.size [] (Nat.le_refl _) (Nat.zero_le _)) ao _ cap xs rfl rfl ?hrow ?hsz ?hB ?_) | fail)
  case hrow => exact HR.out.keep ((Below.refl _ _).alloc (Nat.le_refl _) _)
  case hsz => simp; omega
  case hB => simp
  rintro v1 w1 hown1 hgr1
  have hb1 : Below w.heap.size w w1 := ((Below.refl _ _).alloc (Nat.le_refl _) _).grown hgr1 (by simp) (fun k hk => by simp [Value.ownBlock] at hk; omega)
  clear hgr1
  have HO1 : Hid (Own w1 w.heap.size v1 (xs ++ marks 0)) := by show Own w1 w.heap.size v1 (xs ++ marks 0); simpa [marks] using hown1
  have HB1 : Hid (Below w.heap.size w w1) := hb1
  clear hb1 hown1
  go_wp2
  go_loopw [3, 4] (fun v i wr => ∃ k : Nat, k ≤ 64 ∧ i = .int .i64 k ∧ Hid (Own wr w.heap.size v (xs ++ marks k)) ∧ Hid (Below w.heap.size w wr)) (fun _ i _ => 64 - (intOf i).toNat)
  case atStart => exact ⟨0, Nat.zero_le _, rfl, HO1, HB1⟩
  case round =>
    obtain ⟨k, hk, rfl, HO, HB⟩ := hrel
    clear HO1 HB1
    have hsz := HB.out.size
    by_cases hlt : k < 64
    · obtain ⟨m, hm0⟩ : ∃ m, m = mark k := ⟨_, rfl⟩
      have hmk : (200 + (k : Int) % 7) = (m : Int) := by rw [hm0]; unfold mark; omega
      have hmb : (m : Int) < 256 := by rw [hm0]; unfold mark; omega
      have HM : Hid (m = mark k) := hm0
      clear hm0
      go_wp2_with (first | (at_builtin; refine wpList_append_bytes rfl _ _ rfl w.heap.size _ (xs ++ marks k) rfl (HO.out.alloc _) (some ⟨wr.heap.size, 0, none⟩) 1 1 [m] rfl rfl ?hrow ?hszz ?hBB ?_) | fail)
      case hrow => exact row_one _ _
      case hszz => simp [marks_length]; omega
      case hBB => simp; omega
      rintro v2 w2 hown2 hgr2
      have HB2 : Hid (Below w.heap.size w w2) := (HB.out.alloc hsz _).grown hgr2 (by simp; omega) HO.out.ge
      have HO2 : Hid (Own w2 w.heap.size v2 (xs ++ marks (k + 1))) := by show Own w2 w.heap.size v2 (xs ++ marks (k + 1)); rw [marks_succ, ← HM.out]; first | exact hown2 | (rw [← List.append_assoc]; exact hown2)
      clear hown2 hgr2
      go_wp2
      go_roundw
      case rel => exact ⟨k + 1, by omega, by go_num, HO2, HB2⟩
      case measure => simp [intOf]; omega
    · obtain rfl : k = 64 := by omega
      go_wp2
      go_ret
      exact ⟨_, rfl, HO.out, HB.out⟩
/-- The same, its value's shape told. -/
theorem lent_row (cap : Nat) (ao : Option Addr) (xs : List Nat) (w : World) (hl : xs.length ≤ 140737488351232) (hr : Row w ao xs) :
    Calls Tryd.prog 14 #[.slice ao xs.length cap] w fun e w' => ∃ g c, e = .returned (.slice (some ⟨g, 0, none⟩) (xs.length + 64) c) ∧ Hid (xs.length + 64 ≤ c ∧ w.heap.size ≤ g ∧ g < w'.heap.size ∧ Own w' w.heap.size (.slice (some ⟨g, 0, none⟩) (xs.length + 64) c) (xs ++ marks 64) ∧ Row w' (some ⟨g, 0, none⟩) (xs ++ marks 64) ∧ Below w.heap.size w w') := by
  refine (lent_any cap ao xs w hl hr).mono ?_
  rintro e w' ⟨v, rfl, hown, hb⟩
  have hne : xs ++ marks 64 ≠ [] := fun h => by have := congrArg List.length h; simp [marks_length] at this
  obtain ⟨g, c, rfl, hle, hg, hrow⟩ := hown.readSome hne
  have hlen : (xs ++ marks 64).length = xs.length + 64 := by simp [marks_length]
  have hlt : g < w'.heap.size := hrow.lt hne
  rw [hlen] at hle hown ⊢
  exact ⟨g, c, rfl, hle, hg, hlt, hown, hrow, hb⟩
end Go.Proofs.YtjdglpfjemoodaaDoor
