/- Open of frame on every row of bytes, in one contract. -/
import Derived.Test.YtmgppjfohabdmabDoorLive
import Derived.Test.YtmgppjfohabdmabDoorOpenRef
namespace Go.Proofs.YtmgppjfohabdmabDoor
open Go.RowKit

theorem open_all (n cap : Nat) (ao : Option Addr) (xs : List Nat) (w : World) (hn : n = xs.length) (hnc : n ≤ cap) (hl : n ≤ 140737488351232) (hx : ∀ x ∈ xs, x < 256) (hr : Row w ao xs) (hT : Tab w) :
    Calls Tryd.prog 25 #[.slice ao n cap] w fun e w' => ∃ lo ln lc, e = .returned (.tuple #[.agg #[.int .u8 ((openKind xs : Nat) : Int), .slice lo ln lc], .int .i64 ((openEnd xs : Nat) : Int), .int .i64 ((openErr xs : Nat) : Int)]) ∧ Hid (Made w w' lo ln lc (openOut xs)) := by
  by_cases h0 : openErr xs = 0
  · have e1 : openKind xs = xs.getD 8 0 := by unfold openKind; rw [if_pos h0]
    have e2 : openEnd xs = 9 + num4 xs := by unfold openEnd; rw [if_pos h0]
    have e3 : openOut xs = openLoad xs := by unfold openOut; rw [if_pos h0]
    have h9 : 9 + num4 xs ≤ xs.length := by
      have h := h0
      unfold openErr at h
      split at h
      · cases h
      · split at h
        · cases h
        · split at h
          · cases h
          · omega
    obtain ⟨b, off, rfl⟩ := hr.form (by omega)
    rw [e1, e2, e3, h0]
    refine (open_good n cap b off xs w hn hnc hl hx hr hT h0).mono ?_
    rintro e w' ⟨g, rfl, h⟩
    have hlen := openLoad_length h9
    exact ⟨_, _, _, rfl, hlen.symm, Nat.le_refl _, h.out.2.2.1.row, Blk.own (ys := []) (by rw [List.append_nil]; exact h.out.2.2.1) hlen.symm rfl h.out.1 (by unfold maxLen; omega), h.out.2.2.2⟩
  · have e1 : openKind xs = 0 := by unfold openKind; rw [if_neg h0]
    have e2 : openEnd xs = 0 := by unfold openEnd; rw [if_neg h0]
    have e3 : openOut xs = [] := by unfold openOut; rw [if_neg h0]
    rw [e1, e2, e3]
    refine (open_bad n cap ao xs w hn hnc hl hx hr hT h0).mono ?_
    rintro e w' ⟨he, h⟩
    exact ⟨none, 0, 0, he, rfl, Nat.le_refl _, .inl rfl, own_nil _ _, h.out⟩
theorem openOut_length (xs : List Nat) : (openOut xs).length ≤ 2097152 := by
  unfold openOut
  by_cases h0 : openErr xs = 0
  · rw [if_pos h0]
    have h := h0
    unfold openErr at h
    split at h
    · cases h
    · split at h
      · cases h
      · split at h
        · cases h
        · rw [openLoad_length (by omega)]; omega
  · rw [if_neg h0]; simp
theorem openOut_lt {xs : List Nat} (hx : ∀ x ∈ xs, x < 256) : ∀ x ∈ openOut xs, x < 256 := by
  unfold openOut
  split
  · exact lt_drop (lt_take hx _) _
  · simp
end Go.Proofs.YtmgppjfohabdmabDoor
