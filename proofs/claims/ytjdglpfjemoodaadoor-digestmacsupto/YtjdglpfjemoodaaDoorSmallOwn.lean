/- What a copy by append([]byte{}, x...) is: a row of the call's own; nothing old turned. -/
import Derived.Test.YtjdglpfjemoodaaDoorRowsG
namespace Go.Proofs.YtjdglpfjemoodaaDoor
open Go.RowKit

theorem copied {w w1 : World} {o : Obj} {v : Value} {xs : List Nat} {n m c : Nat} (hown : Own w1 w.heap.size v ([] ++ xs)) (hgr : (w.alloc o).grownBy w1 (Value.slice (some ⟨w.heap.size, 0, none⟩) m c).ownBlock) (hn : n = xs.length) :
    ∃ ao c, v = .slice ao n c ∧ n ≤ c ∧ Row w1 ao xs ∧ Below w.heap.size w w1 := by
  obtain ⟨ao, c', hv, hle, hr⟩ := hown.read
  rw [List.nil_append] at hv hle hr
  refine ⟨ao, c', by rw [hn]; exact hv, by omega, hr, ((Below.refl _ _).alloc (Nat.le_refl _) _).grown hgr (by simp) (fun k hk => by simp [Value.ownBlock] at hk; omega)⟩
end Go.Proofs.YtjdglpfjemoodaaDoor
