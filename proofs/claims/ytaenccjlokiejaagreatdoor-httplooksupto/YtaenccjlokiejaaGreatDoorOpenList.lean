/- A list of fields, as an argument. -/
import Derived.Test.YtaenccjlokiejaaGreatDoorOpenReq
namespace Go.Proofs.YtaenccjlokiejaaGreatDoor
open Go.ChangeShapes Go.WideShapes Go.ChangeAt Go.RowKit

set_option maxRecDepth 100000 in
theorem open_list {H : Type} {enc : TypeId × Value → H} {W : World} {base : Nat} {v : Value} {d : DataW H} {p : List MemPlace} (hval : Value.okWide Tryz.prog W .any base 25 v) (h : DataW.Trod enc Tryz.prog W 0 (fun _ => true) true 25 v d p) :
    ∃ so l pc, v = .slice so l.length pc ∧ l.length ≤ pc ∧ FRow W so l ∧ (∀ q ∈ l, q.1.length ≤ maxLen ∧ q.2.length ≤ maxLen) ∧ (∀ x ∈ p, x.block < W.heap.size) ∧ totF l + 1 ≤ Rows.uptoBulk d ∧
      ((∀ x ∈ d.weights Tryz.prog 25, x ≤ reachBytes) → l.length * 32 ≤ reachBytes ∧ ∀ q ∈ l, q.1.length ≤ reachBytes ∧ q.2.length ≤ reachBytes) := by
  obtain ⟨a0, len0, cap0, rfl⟩ := okWide_slice Tryz.underlying25 hval
  obtain ⟨fuel, hf⟩ := h
  have lt0 : ∀ x ∈ p, x.block < W.heap.size := DataW.trod_lt fuel _ _ _ hf
  obtain ⟨so, l, pc, h1, h2, h3, h4, h5, h6⟩ := field_fs (y := (d, p)) hf
  exact ⟨so, l, pc, h1, h2, h3, h4, lt0, h5, h6⟩
end Go.Proofs.YtaenccjlokiejaaGreatDoor
