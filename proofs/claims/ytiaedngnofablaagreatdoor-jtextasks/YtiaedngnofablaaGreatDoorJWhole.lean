/- The contract of the program's isWhole: digits, without zeros ahead of others. -/
import Derived.Test.YtiaedngnofablaaGreatDoorKLit
namespace Go.Proofs.YtiaedngnofablaaGreatDoor
open Go.RowKit

/-- Digits, without zeros ahead of others. -/
def wholeB (t : By) : Bool := decide (t = [48]) || (decide (t ≠ []) && decide (t.getD 0 0 ≠ 48) && t.all isDigit)
theorem dig_all (t : By) : dig t 0 = t.length ↔ t.all isDigit = true := by
  have h : ∀ l : By, (l.takeWhile isDigit).length = l.length ↔ l.all isDigit = true := by
    intro l
    induction l with
    | nil => simp
    | cons c l ih =>
      rw [List.takeWhile_cons, List.all_cons]
      cases hc : isDigit c with
      | true => simp only [if_true, List.length_cons, Bool.true_and]; rw [← ih]; omega
      | false => simp
  unfold dig
  rw [List.drop_zero, Nat.zero_add]
  exact h t
theorem bstr_toList (l : List Nat) : (bstr l).toList = l.map fun n => UInt8.ofNat n := by simp [bstr]
theorem text_zero (s : ByteArray) : (s.toList == [48]) = decide (sbytes s = [48]) := by
  have h := bstr_beq (sbytes_lt s) (ys := [48]) (by decide)
  rw [bstr_sbytes] at h
  rw [← h, bstr_toList]
  rfl
theorem text_none (s : ByteArray) : s.toList.isEmpty = decide (sbytes s = []) := by
  have e := bstr_toList (sbytes s)
  rw [bstr_sbytes] at e
  rw [e]
  cases sbytes s <;> simp
set_option maxHeartbeats 4000000 in
set_option maxRecDepth 100000 in
theorem isWhole_any (s : ByteArray) (w : World) (hs : s.size ≤ 4611686018427387904) :
    Calls Tryz.prog 51 #[.string s] w fun e w' => e = .returned (.bool (wholeB (sbytes s))) ∧ w' = w := by
  have HC := hide (digits_any s 0 w (Nat.zero_le _) (by omega))
  have hdl := dig_le (s := sbytes s) (p := 0) (Nat.zero_le _)
  have hl := sbytes_length s
  obtain ⟨d, hd⟩ : ∃ d, d = dig (sbytes s) 0 := ⟨_, rfl⟩
  rw [← hd] at HC hdl
  by_cases h0 : sbytes s = [48]
  · have q0 : (s.toList == [48]) = true := by have := text_zero s; rw [decide_eq_true h0] at this; exact this
    have q1 : s.toList = [48] := by rw [beq_iff_eq] at q0; exact q0
    have HR : Hid (wholeB (sbytes s) = true) := by show _ = _; rw [h0]; rfl
    clear HC hd hdl hl h0
    go_enter Tryz.func51, Tryz.ntmps51
    go_wp2_with fail
    go_ret
    exact ⟨by rw [HR.out]; rfl, rfl⟩
  · have q0 : (s.toList == [48]) = false := by have := text_zero s; rw [decide_eq_false h0] at this; exact this
    have q1 : ¬ s.toList = [48] := by rw [beq_eq_false_iff_ne] at q0; exact q0
    have HW : Hid (wholeB (sbytes s) = (decide (sbytes s ≠ []) && decide ((sbytes s).getD 0 0 ≠ 48) && (sbytes s).all isDigit)) := by show _ = _; unfold wholeB; rw [decide_eq_false h0, Bool.false_or]
    clear h0
    by_cases hn : sbytes s = []
    · have he : s.toList.isEmpty = true := by rw [text_none, decide_eq_true hn]
      have HR : Hid (wholeB (sbytes s) = false) := by show _ = _; rw [HW.out, hn]; rfl
      clear HC hd hdl hl HW hn
      go_enter Tryz.func51, Tryz.ntmps51
      go_wp2_with fail
      go_ret
      exact ⟨by rw [HR.out]; rfl, rfl⟩
    · have he : s.toList.isEmpty = false := by rw [text_none, decide_eq_false hn]
      have he2 : ¬ s.toList = [] := fun h => by rw [h] at he; cases he
      have hpos : 0 < s.size := by rw [← hl]; exact List.length_pos_iff.2 hn
      have hix := str_index s 0 hpos
      have hx0 : (sbytes s).getD 0 0 < 256 := lt_get (sbytes_lt s) 0
      have hix0 : ∀ w : World, (Instr.index 9 (.string s) (.int .i64 0)).run Tryz.prog w = .ok (.int .u8 (((sbytes s).getD 0 0 : Nat) : Int)) w := hix
      clear hix
      have HN := hide hn
      have HD := hide (dig_all (sbytes s))
      rw [← hd] at HD
      obtain ⟨c0, HC0⟩ : ∃ c, Hid (c = (sbytes s).getD 0 0) := ⟨_, rfl⟩
      rw [← HC0.out] at hix0 hx0
      clear hd hn
      by_cases h48 : c0 = 48
      · have b48 : ((c0 : Int) != 48) = false := by simp [h48]
        have HR : Hid (wholeB (sbytes s) = false) := by show _ = _; rw [HW.out, ← HC0.out, h48]; simp
        clear HC HW hdl HD
        subst h48
        go_enter Tryz.func51, Tryz.ntmps51
        go_wp2_with fail
        go_ret
        exact ⟨by rw [HR.out]; rfl, rfl⟩
      · have b48 : ((c0 : Int) != 48) = true := by simp; omega
        have hsz : (s.size : Int) = ((sbytes s).length : Nat) := by rw [hl]
        have HR : Hid (wholeB (sbytes s) = ((d : Int) == (s.size : Int))) := by
          show _ = _
          rw [HW.out, ← HC0.out, decide_eq_true HN.out, decide_eq_true h48, Bool.true_and, Bool.true_and, Bool.eq_iff_iff, ← HD.out, beq_iff_eq]
          omega
        have HC2 : Hid (Calls Tryz.prog 77 #[.string s, .int .i64 0] w fun e w' => e = .returned (.int .i64 (d : Int)) ∧ w' = w) := HC.out
        clear HC HW HD hsz hl hdl
        go_enter Tryz.func51, Tryz.ntmps51
        go_wp2_with fail
        refine HC2.out.mono ?_
        rintro e w' ⟨rfl, rfl⟩
        go_wp2_with fail
        go_ret
        exact ⟨by rw [HR.out]; rfl, rfl⟩
end Go.Proofs.YtiaedngnofablaaGreatDoor
