/- Seal of frame on every kind and every load, in one contract. -/
import Derived.Test.YtmgppjfohabdmabDoorLive
import Derived.Test.YtmgppjfohabdmabDoorRef1
namespace Go.Proofs.YtmgppjfohabdmabDoor
open Go.RowKit

def sealErr (kind n : Nat) : Nat := if kind = 0 then 13 else if 2097152 < n then 1 else 0
def sealOut (kind : Nat) (xs : List Nat) : List Nat := if sealErr kind xs.length = 0 then sealed kind xs else []
theorem sealOut_lt {kind : Nat} {xs : List Nat} (hk : kind < 256) (hx : ∀ x ∈ xs, x < 256) : ∀ x ∈ sealOut kind xs, x < 256 := by
  unfold sealOut
  split
  · exact sealed_lt hk hx
  · simp
theorem sealOut_length (kind : Nat) (xs : List Nat) : (sealOut kind xs).length ≤ 2097161 := by
  unfold sealOut
  by_cases h : sealErr kind xs.length = 0
  · rw [if_pos h, sealed_length]
    unfold sealErr at h
    split at h
    · cases h
    · split at h
      · cases h
      · omega
  · rw [if_neg h]; simp
theorem seal_all (cap kind : Nat) (ao : Option Addr) (n : Nat) (xs : List Nat) (w : World) (hk2 : kind < 256) (hn : n = xs.length) (hl : n ≤ 140737488351232) (hx : ∀ x ∈ xs, x < 256) (hr : Row w ao xs) (hT : Tab w) :
    Calls Tryd.prog 26 #[.int .u8 (kind : Int), .slice ao n cap] w fun e w' => ∃ po pn pc, e = .returned (.tuple #[.slice po pn pc, .int .i64 ((sealErr kind n : Nat) : Int)]) ∧ Hid (Made w w' po pn pc (sealOut kind xs)) := by
  by_cases h0 : kind = 0
  · subst h0
    refine (seal_zero cap ao n w).mono ?_
    rintro e w' ⟨rfl, rfl⟩
    exact ⟨none, 0, 0, rfl, rfl, Nat.le_refl _, .inl rfl, own_nil _ _, Below.refl _ _⟩
  · by_cases h1 : 2097152 < n
    · refine (seal_long cap kind ao n w (by omega) h1 hl).mono ?_
      rintro e w' ⟨rfl, rfl⟩
      have e1 : sealErr kind n = 1 := by unfold sealErr; rw [if_neg h0, if_pos h1]
      have e2 : sealOut kind xs = [] := by unfold sealOut; rw [← hn, e1]; rfl
      rw [e1, e2]
      exact ⟨none, 0, 0, rfl, rfl, Nat.le_refl _, .inl rfl, own_nil _ _, Below.refl _ _⟩
    · refine (seal_any cap kind ao n xs w (by omega) hk2 hn (by omega) hx hr hT).mono ?_
      rintro e w' ⟨rfl, h⟩
      have e1 : sealErr kind n = 0 := by unfold sealErr; rw [if_neg h0, if_neg h1]
      have e2 : sealOut kind xs = sealed kind xs := by unfold sealOut; rw [← hn, e1, if_pos rfl]
      rw [e1, e2]
      have hlen := sealed_length kind xs
      exact ⟨_, _, _, rfl, by omega, Nat.le_refl _, h.out.1.row, Blk.own (ys := []) (by rw [List.append_nil]; exact h.out.1) (by omega) rfl (Nat.le_refl _) (by unfold maxLen; omega), h.out.2⟩
end Go.Proofs.YtmgppjfohabdmabDoor
