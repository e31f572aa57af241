/- What a reading of arguments gives of a slice of ints: a row of ints. -/
import Derived.Test.YtjdglpfjemoodaaDoorOpen
import Derived.Test.YtjdglpfjemoodaaDoorPiecesLaw
namespace Go.Proofs.YtjdglpfjemoodaaDoor
open Go.ChangeShapes Go.WideShapes Go.ChangeAt Go.RowKit

theorem open_introw {H : Type} {enc : TypeId × Value → H} {W : World} {base : Nat} {v : Value} {d : DataW H} {p : List MemPlace} (hval : Value.okWide Tryd.prog W .any base 64 v)
    (h : DataW.Trod enc Tryd.prog W 0 (fun _ => true) true 64 v d p) :
    ∃ ao zs cap, v = .slice ao zs.length cap ∧ IRow W ao zs ∧ (∀ z ∈ zs, -9223372036854775808 ≤ z ∧ z ≤ 9223372036854775807) ∧ (∀ x ∈ p, x.block < W.heap.size) ∧ ((d = .nil ∧ zs = []) ∨ ∃ elems spare, d = .slice elems spare ∧ zs.length = elems.length) := by
  obtain ⟨a0, len0, cap0, rfl⟩ := okWide_slice Tryd.underlying64 hval
  obtain ⟨fuel, hf⟩ := h
  have lt0 : ∀ x ∈ p, x.block < W.heap.size := DataW.trod_lt fuel _ _ _ hf
  rcases open_ints Tryd.underlying64 Tryd.underlying3 (by kernel_rfl) hf with ⟨hcs, hx⟩ | ⟨x, l, c, zs, hcs, _, hl, hm, hz, hx, hcell, hwz⟩
  · simp [Value.cells] at hcs
    obtain ⟨rfl, rfl, rfl⟩ := hcs
    simp only [Prod.mk.injEq] at hx
    obtain ⟨rfl, _⟩ := hx
    exact ⟨none, [], 0, rfl, .inl rfl, by simp, lt0, .inl ⟨rfl, rfl⟩⟩
  · simp [Value.cells] at hcs
    obtain ⟨rfl, rfl, rfl⟩ := hcs
    simp only [Prod.mk.injEq] at hx
    obtain ⟨rfl, _⟩ := hx
    have hzl : zs.length = cap0 := by simpa using hz
    have hlen : (zs.take len0).length = len0 := by rw [List.length_take]; omega
    refine ⟨some x, zs.take len0, cap0, by rw [hlen], ?_, fun z hz => bounds_i64 (hwz z (List.mem_of_mem_take hz)), lt0, .inr ⟨_, _, rfl, by rw [hlen]; simp only [lits, List.length_map, List.length_take]; omega⟩⟩
    by_cases h0 : len0 = 0
    · exact .inl (by rw [h0]; rfl)
    · obtain ⟨b, off, rfl, hc⟩ := ints_at hcell (by omega)
      refine .inr ⟨b, off, rfl, fun i hi => ?_⟩
      rw [hlen] at hi
      rw [hc i (by omega)]
      simp [List.getD, hi]
theorem bytesInt : Tryd.prog.bytesOf 3 = 8 := by kernel_rfl
theorem ints_reach {H : Type} {ts : List TypeId} {ds : List (DataW H)} (h : (DataW.weightsEach Tryd.prog ts ds).all (fun x => decide (x ≤ reachBytes)) = true) {j : Nat} {d : DataW H} {zs : List Int} (ht : ts[j]? = some 64) (hd : ds[j]? = some d)
    (hf : (d = .nil ∧ zs = []) ∨ ∃ elems spare, d = .slice elems spare ∧ zs.length = elems.length) : zs.length ≤ 140737488351232 := by
  rcases hf with ⟨_, rfl⟩ | ⟨elems, spare, rfl, hl⟩
  · simp
  · have := sized_slice h ht hd Tryd.underlying64
    rw [bytesInt] at this
    simp only [reachBytes] at this
    omega
end Go.Proofs.YtjdglpfjemoodaaDoor
