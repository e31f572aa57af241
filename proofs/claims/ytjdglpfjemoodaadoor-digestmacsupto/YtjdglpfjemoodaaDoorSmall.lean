/- Small facts: the laws' same where both rows hold one list; cells that stay. -/
import Derived.Test.YtjdglpfjemoodaaDoorRowsG
namespace Go.Proofs.YtjdglpfjemoodaaDoor
open Go.RowKit

theorem hide {p : Prop} (h : p) : Hid p := h
theorem unhide {p : Prop} (h : Hid p) : p := h
theorem cell_kept {w1 w2 : World} {a : Addr} {v : Value} (h : w1.cell? a = some v) (hb : Below w1.heap.size w1 w2) : w2.cell? a = some v := (hb.cell (World.block_lt_of_cell? w1 a h)).trans h
theorem below_new (w : World) (o : Obj) : Below w.heap.size w (w.alloc o) := (Below.refl _ _).alloc (Nat.le_refl _) _

theorem same_n (n m c d : Nat) (ao bo : Option Addr) (xs ys : List Nat) (w : World) (hn : n = xs.length) (hm : m = ys.length) (hx : Row w ao xs) (hy : Row w bo ys) (bx : ∀ x ∈ xs, x < 256) (byy : ∀ y ∈ ys, y < 256) :
    Calls Tryd.prog 25 #[.slice ao n c, .slice bo m d] w fun e w' => e = .returned (.bool (decide (xs = ys))) ∧ w' = w := by
  subst hn; subst hm; exact same_any c d ao bo xs ys w hx hy bx byy
theorem same_true (n c d : Nat) (ao bo : Option Addr) (xs : List Nat) (w : World) (hn : n = xs.length) (hx : Row w ao xs) (hy : Row w bo xs) (bx : ∀ x ∈ xs, x < 256) :
    Calls Tryd.prog 25 #[.slice ao n c, .slice bo n d] w fun e w' => e = .returned (.bool true) ∧ w' = w := by
  refine (same_n n n c d ao bo xs xs w hn hn hx hy bx bx).mono ?_
  rintro e w' ⟨rfl, rfl⟩
  exact ⟨by simp, rfl⟩

theorem same_true' (n m c d : Nat) (ao bo : Option Addr) (xs : List Nat) (w : World) (hn : n = xs.length) (hm : m = xs.length) (hx : Row w ao xs) (hy : Row w bo xs) (bx : ∀ x ∈ xs, x < 256) :
    Calls Tryd.prog 25 #[.slice ao n c, .slice bo m d] w fun e w' => e = .returned (.bool true) ∧ w' = w := by
  subst hn; subst hm
  refine (same_any c d ao bo xs xs w hx hy bx bx).mono ?_
  rintro e w' ⟨rfl, rfl⟩
  exact ⟨by simp, rfl⟩
end Go.Proofs.YtjdglpfjemoodaaDoor
