/- The document's letter, Code, Show. -/
import Derived.Test.YtonnnolnkjahgabDoorCShow
namespace Go.Proofs.YtonnnolnkjahgabDoor
open Go.RowKit Go.Shelf

theorem add_str {x y : List Nat} (h : x.length + y.length ≤ 4611686018427387904) : ∀ w, (Op.stringOp .add (bstr x) (bstr y)).run Tryd.prog w = .ok (.string (bstr (x ++ y))) w := fun w => by
  have e : bstr x ++ bstr y = bstr (x ++ y) := by
    apply ByteArray.ext
    simp [bstr, ByteArray.data_append]
  simp [Op.stringOp, e]
  rw [bstr_size, bstr_size]
  omega
def letsS : ByteArray := { data := #[66, 67, 68, 70, 71, 72, 74, 75, 76, 77, 78, 80, 81, 82, 83, 84, 86, 87, 88, 90] }
theorem letters_any (w : World) : Calls Tryd.prog 31 #[] w fun e w' => e = .returned (.string letsS) ∧ w' = w := by
  unfold letsS
  go_enter Tryd.func31, Tryd.ntmps31
  go_wp2
  go_ret
  exact ⟨rfl, rfl⟩
theorem lets_index (k : Nat) (hk : k < 20) (w : World) : (Instr.index 9 (.string letsS) (.int .i64 (k : Int))).run Tryd.prog w = .ok (.int .u8 ((lets.getD k 0 : Nat) : Int)) w := str_index letsS k hk w
theorem isCode_not {l : List Nat} (h : l.all isLet = false) : isCode l = false := by unfold isCode; rw [h, Bool.and_false]
theorem isCode_all {l : List Nat} (h : l.all isLet = true) : isCode l = decide ((l.length : Int) = 8) := by
  unfold isCode
  rw [h, Bool.and_true, Bool.eq_iff_iff]
  simp
  omega
end Go.Proofs.YtonnnolnkjahgabDoor
