/- The document's Basic: for every header. -/
import Derived.Test.YtghmabohodnbpaaGreatDoorLBasicP
import Derived.Test.YtghmabohodnbpaaGreatDoorLRDec
import Derived.Test.YtghmabohodnbpaaGreatDoorXUnR
import Derived.Lib.Space
namespace Go.Proofs.YtghmabohodnbpaaGreatDoor
open Go.RowKit

theorem str_to (s : ByteArray) (k : Nat) (i : Int) (hi : i = (k : Int)) (hk : k ≤ s.size) (w : World) : (Instr.slice 9 (.string s) none (some (.int .i64 i)) none).run Tryz.prog w = .ok (.string (bstr ((sbytes s).take k))) w := by
  subst hi
  rw [run_slice_string_h w 9 s Tryz.underlying9 .i64 (k : Int) (by omega) (by omega), extract_bstr, Int.toNat_natCast, List.drop_zero]
def lowR (c : Nat) : Nat := if 65 ≤ c ∧ c ≤ 90 then c + 32 else c
theorem low_all : ∀ (c : Fin 256) (j : Fin 5), ((c.val ||| 32) = schW.getD j.val 0) ↔ lowR c.val = schW.getD j.val 0 := by decide +kernel
theorem low_eq {c j : Nat} (hc : c < 256) (hj : j < 5) : ((c ||| 32) = schW.getD j 0) ↔ lowR c = schW.getD j 0 := low_all ⟨c, hc⟩ ⟨j, hj⟩
theorem low_blank : ∀ j : Fin 5, lowR 32 ≠ schW.getD j.val 0 := by decide
theorem get_take {l : List Nat} {k i : Nat} (hi : i < k) : (l.take k).getD i 0 = l.getD i 0 := by simp [List.getD, hi]
/-- The document's way to a header's scheme. -/
theorem bas_cond {h : List Nat} (hb : ∀ x ∈ h, x < 256) : (decide ((upTo 32 h).length < h.length) && isSch (upTo 32 h)) = true ↔ (6 ≤ h.length ∧ (∀ j, j < 5 → lowR (h.getD j 0) = schW.getD j 0) ∧ h.getD 5 0 = 32) := by
  have hc : ∀ i, h.getD i 0 < 256 := fun i => lt_get hb i
  constructor
  · intro hh
    rw [Bool.and_eq_true, decide_eq_true_eq] at hh
    obtain ⟨h1, h2⟩ := hh
    have h5 : (upTo 32 h).length = 5 := by
      apply Classical.byContradiction
      intro hn
      rw [isSch_len hn] at h2
      cases h2
    have he := upTo_end h1
    have ht := upTo_take 32 h
    rw [h5] at he ht
    refine ⟨by omega, fun j hj => ?_, he⟩
    apply Classical.byContradiction
    intro hn
    have : isSch (upTo 32 h) = false := isSch_no j hj (by rw [ht, get_take hj]; exact fun e => hn ((low_eq (hc j) hj).1 e))
    rw [this] at h2
    cases h2
  · rintro ⟨h6, h7, h8⟩
    have h5 : (upTo 32 h).length = 5 := upTo_len (by omega) (fun j hj e => by
      have := h7 j hj
      rw [e] at this
      exact low_blank ⟨j, hj⟩ this) (.inr h8)
    have ht := upTo_take 32 h
    rw [h5] at ht
    rw [Bool.and_eq_true, decide_eq_true_eq]
    refine ⟨by omega, isSch_yes h5 fun j hj => ?_⟩
    rw [ht, get_take hj]
    exact (low_eq (hc j) hj).2 (h7 j hj)
theorem bas_drop {h : List Nat} (h6 : 6 ≤ h.length) (h5 : (upTo 32 h).length = 5) (h8 : h.getD 5 0 = 32) : (h.drop ((upTo 32 h).length + 1)).dropWhile (· == 32) = (h.drop 5).dropWhile (· == 32) := by
  rw [h5]
  have e : h.drop 5 = h.getD 5 0 :: h.drop 6 := by
    rw [List.drop_eq_getElem_cons (show 5 < h.length by omega)]
    simp only [List.getD, List.getElem?_eq_getElem (show 5 < h.length by omega), Option.getD_some]
  rw [e, h8, List.dropWhile_cons]
  rfl
theorem bas_len {h : List Nat} (h6 : 6 ≤ h.length) (h7 : ∀ j, j < 5 → lowR (h.getD j 0) = schW.getD j 0) (h8 : h.getD 5 0 = 32) : (upTo 32 h).length = 5 :=
  upTo_len (by omega) (fun j hj e => by
    have := h7 j hj
    rw [e] at this
    exact low_blank ⟨j, hj⟩ this) (.inr h8)
theorem bas_skip {h : List Nat} {k : Nat} (h5 : 5 ≤ k) (hk : k ≤ h.length) (ha : ∀ j, 5 ≤ j → j < k → h.getD j 0 = 32) (he : k = h.length ∨ h.getD k 0 ≠ 32) : (h.drop 5).dropWhile (· == 32) = h.drop k := by
  rw [Lib.dropWhile_drop (· == 32) (h.drop 5) (k - 5), List.drop_drop, show 5 + (k - 5) = k by omega]
  · intro j b hj hjb
    rw [List.getElem?_drop] at hjb
    have := ha (5 + j) (by omega) (by omega)
    simp only [List.getD, hjb, Option.getD_some] at this
    simp [this]
  · intro b hb
    rw [List.getElem?_drop, show 5 + (k - 5) = k by omega] at hb
    rcases he with he | he
    · rw [List.getElem?_eq_none (by omega)] at hb; cases hb
    · simp only [List.getD, hb, Option.getD_some] at he
      simpa using he
  · rw [List.length_drop]; omega
end Go.Proofs.YtghmabohodnbpaaGreatDoor
