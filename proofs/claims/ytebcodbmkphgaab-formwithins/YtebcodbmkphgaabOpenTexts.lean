/- What a reading of arguments gives of a list of texts: its texts in memory, within the reach. -/
import Derived.Test.YtebcodbmkphgaabOpen3
import Derived.Test.YtebcodbmkphgaabStrRow
import Derived.SliceStrings
namespace Go.Proofs.Ytebcodbmkphgaab
open Go.ChangeShapes Go.WideShapes Go.ChangeAt Go.RowKit

theorem bytesStr : Try.prog.bytesOf 9 = 16 := by kernel_rfl
set_option maxRecDepth 100000 in
theorem open_texts {H : Type} {enc : TypeId × Value → H} {W : World} {base : Nat} {v : Value} {d : DataW H} {p : List MemPlace} (hval : Value.okWide Try.prog W .any base 22 v)
    (h : DataW.Trod enc Try.prog W 0 (fun _ => true) true 22 v d p) :
    ∃ so l pc, v = .slice so l.length pc ∧ SRow W so l ∧ (∀ x ∈ p, x.block < W.heap.size) ∧ ((∀ x ∈ d.weights Try.prog 22, x ≤ reachBytes) → l.length * 16 ≤ reachBytes) := by
  obtain ⟨a0, len0, cap0, rfl⟩ := okWide_slice Try.underlying22 hval
  obtain ⟨fuel, hf⟩ := h
  have lt0 : ∀ x ∈ p, x.block < W.heap.size := DataW.trod_lt fuel _ _ _ hf
  rcases open_strings Try.underlying22 Try.underlying9 (by kernel_rfl) hf with ⟨hcs, hx⟩ | ⟨a, len, cap, ss, hcs, _, hl, hm, hz, hx, hcell, hsz⟩
  · simp [Value.cells] at hcs
    obtain ⟨rfl, rfl, rfl⟩ := hcs
    exact ⟨none, [], 0, rfl, .inl rfl, lt0, fun _ => by simp⟩
  · simp [Value.cells] at hcs
    obtain ⟨rfl, rfl, rfl⟩ := hcs
    have hzl : ss.length = cap0 := by simpa using hz
    have hlen : (ss.take len0).length = len0 := by rw [List.length_take]; omega
    refine ⟨some a, (ss.take len0).map (fun s => s.data.toList), cap0, by rw [List.length_map, hlen], ?_, lt0, ?_⟩
    · by_cases h0 : len0 = 0
      · exact .inl (by rw [h0]; rfl)
      · have h00 := hcell 0 (by omega)
        obtain ⟨b, off, q⟩ := a
        have hq : q = none := by simpa [Addr.add] using World.cell?_spot h00
        subst hq
        refine .inr ⟨b, off, rfl, fun i u hi => ?_⟩
        rw [List.getElem?_map] at hi
        obtain ⟨s, hs, rfl⟩ := Option.map_eq_some_iff.1 hi
        have hil : i < len0 := by
          have := (List.getElem?_eq_some_iff.1 hs).1
          omega
        have hc := hcell i (by omega)
        rw [add_none] at hc
        rw [hc, ← str_u]
        rw [List.getElem?_take, if_pos hil] at hs
        simp [List.getD_eq_getElem?_getD, hs]
    · intro hw
      simp only [Prod.mk.injEq] at hx
      obtain ⟨rfl, _⟩ := hx
      simp only [DataW.weights, Try.underlying22] at hw
      have := hw _ (List.mem_cons_self ..)
      rw [bytesStr] at this
      have e1 : (strs (H := H) (ss.take len0)).length = len0 := by simp [strs]; omega
      rw [List.length_map, hlen]
      rw [e1] at this
      omega
theorem texts_weights {H : Type} {ts : List TypeId} {ds : List (DataW H)} (h : (DataW.weightsEach Try.prog ts ds).all (fun x => decide (x ≤ reachBytes)) = true) {j : Nat} {d : DataW H} (ht : ts[j]? = some 22) (hd : ds[j]? = some d) : ∀ x ∈ d.weights Try.prog 22, x ≤ reachBytes := fun x hx => by
  have := List.all_eq_true.1 h _ (DataW.weights_mem_each ht hd x hx)
  simpa using this
end Go.Proofs.Ytebcodbmkphgaab
