/- The contract of frame.Each: what it hands back goes over bytes of its own. -/
import Derived.Test.YtmgppjfohabdmabDoorRangeEach
namespace Go.Proofs.YtmgppjfohabdmabDoor
open Go.RowKit

theorem func_ne (Bk : Nat) (W : World) : (binOp BinOp.eql 40 (.func (.func 30) #[] #[.pointer (some ⟨Bk, 0, none⟩)]) .nilFunc).run Tryd.prog W = .ok (.bool false) W := by
  simp [binOp, go_sem]
  unfold Op.equal Op.maxDepth Op.equalIn
  simp [run_underlying Tryd.underlying40, go_sem, Result.andThen]

set_option maxHeartbeats 400000 in
set_option maxRecDepth 100000 in
theorem each_any (n cap : Nat) (ao : Option Addr) (xs : List Nat) (w : World) (hn : n = xs.length) (hl : n ≤ 1073741824) (hr : Row w ao xs) :
    Calls Tryd.prog 18 #[.slice ao n cap] w fun e w' => ∃ Bk ko, e = .returned (.func (.func 30) #[] #[.pointer (some ⟨Bk, 0, none⟩)]) ∧ Hid (w.heap.size ≤ Bk ∧ Bk < w'.heap.size ∧ w'.cell? ⟨Bk, 0, none⟩ = some (.slice ko n n) ∧ Row w' ko xs ∧ (∀ a, ko = some a → w.heap.size ≤ a.block ∧ a.block < w'.heap.size) ∧ Below w.heap.size w w') := by
  have HR : Hid (Row w ao xs) := hr
  have HN : Hid (n = xs.length) := hn
  clear hr hn
  go_enter Tryd.func18, Tryd.ntmps18
  go_wp2_with fail
  refine (copyWithRoom_n n cap 0 0 rfl ao xs w HN.out (by omega) (by decide) HR.out).mono ?_
  rintro e w1 ⟨rfl, h1⟩
  have HB1 : Hid (Blk w1 w.heap.size xs) := by have h := h1.out.1; show Blk w1 w.heap.size xs; simpa using h
  have HL1 : Hid (Below w.heap.size w w1) := h1.out.2
  have hlt := HB1.out.lt
  clear h1
  go_wp2
  go_ret
  refine ⟨w1.heap.size, some ⟨w.heap.size, 0, none⟩, rfl, HL1.out.size, by simp, by simp, (HB1.out.keep (below_new _ _)).row, fun a ha => by cases ha; exact ⟨Nat.le_refl _, by simp; omega⟩, HL1.out.alloc HL1.out.size _⟩
end Go.Proofs.YtmgppjfohabdmabDoor
