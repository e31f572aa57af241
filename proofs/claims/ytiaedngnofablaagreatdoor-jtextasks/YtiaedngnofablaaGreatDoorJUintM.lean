/- The numbers that strconv reads, as the document counts them. -/
import Derived.Test.YtiaedngnofablaaGreatDoorJWhole
import Derived.Test.YtiaedngnofablaaGreatDoorRUint
import Derived.Lib.ParseIntB
namespace Go.Proofs.YtiaedngnofablaaGreatDoor
open Go.RowKit

def tenF (a : Nat) (l : By) : Nat := l.foldl (fun n c => 10 * n + (c - 48)) a
theorem tenF_cons (a c : Nat) (l : By) : tenF a (c :: l) = tenF (10 * a + (c - 48)) l := by unfold tenF; rw [List.foldl_cons]
theorem tenN_F (l : By) : tenN l = tenF 0 l := by unfold tenN tenF; rfl
theorem tenF_ge : ∀ (l : By) (a : Nat), a ≤ tenF a l
  | [], _ => Nat.le_refl _
  | c :: l, a => by rw [tenF_cons]; have := tenF_ge l (10 * a + (c - 48)); omega
/-- strconv's reading of digits. -/
def numEnd (n : Nat) : Lib.NumEnd Nat := if n < 18446744073709551616 then .ok n else .range
theorem parseM_digits : ∀ (l : By) (a : Nat), l.all isDigit = true → a < 18446744073709551616 → Lib.parseUintM (2 ^ 64 - 1) a (l.map fun n => UInt8.ofNat n) = numEnd (tenF a l)
  | [], a, _, ha => by unfold numEnd; rw [show tenF a [] = a from rfl, if_pos ha]; rfl
  | c :: l, a, h, ha => by
    rw [List.all_cons, Bool.and_eq_true, isDigit_span] at h
    obtain ⟨hc, hl⟩ := h
    have e : (UInt8.ofNat c).toNat = c := by simp; omega
    rw [List.map_cons, tenF_cons]
    unfold Lib.parseUintM
    rw [e, if_pos hc]
    have hg := tenF_ge l (10 * a + (c - 48))
    by_cases h1 : 1844674407370955162 ≤ a
    · rw [if_pos h1]; unfold numEnd; rw [if_neg (by omega)]
    · rw [if_neg h1]
      by_cases h2 : (2 ^ 64 - 1 : Nat) < a * 10 + (c - 48)
      · rw [if_pos h2]; unfold numEnd; rw [if_neg (by omega)]
      · rw [if_neg h2, show a * 10 + (c - 48) = 10 * a + (c - 48) by omega]
        exact parseM_digits l _ hl (by omega)
theorem parseB_digits (s : ByteArray) (hn : sbytes s ≠ []) (h : (sbytes s).all isDigit = true) : Lib.parseUintB 64 s.data.toList = numEnd (tenN (sbytes s)) := by
  have e : s.data.toList = (sbytes s).map fun n => UInt8.ofNat n := by
    have e2 : ∀ l : List Nat, (bstr l).data.toList = l.map fun n => UInt8.ofNat n := fun l => by simp [bstr]
    have e3 := e2 (sbytes s)
    rw [bstr_sbytes] at e3
    exact e3
  rw [e]
  unfold Lib.parseUintB
  rw [if_neg (fun h0 => hn (List.map_eq_nil_iff.1 h0)), tenN_F]
  exact parseM_digits (sbytes s) 0 h (by decide)
end Go.Proofs.YtiaedngnofablaaGreatDoor
