/- What a reading of a struct of four one-cell fields gives, of a slice of strings, and how long a file of frames out of them is. -/
import Derived.Test.YtmgppjfohabdmabDoorOpenAgg
import Derived.Test.YtmgppjfohabdmabDoorMadeFn
import Derived.SliceStrings
namespace Go.Proofs.YtmgppjfohabdmabDoor
open Go.ChangeShapes Go.WideShapes Go.ChangeAt Go.RowKit

section
variable {H : Type} {enc : TypeId × Value → H} {P : Program} {w : World} {base : Nat} {sp : Nat → Bool} {hd : Bool}
theorem four_of {α : Type} {cs : Array α} (h : cs.size = 4) : ∃ a b c d, cs = #[a, b, c, d] := by
  obtain ⟨l⟩ := cs
  match l, h with
  | [a, b, c, d], _ => exact ⟨a, b, c, d, rfl⟩
theorem open_agg4 {r : Reach} {b0 : Nat} {t t0 t1 t2 t3 : TypeId} {f0 f1 f2 f3 : Field} {v : Value} {d : DataW H} {p : List MemPlace} (hs : P.underlying t = some (.struct #[f0, f1, f2, f3])) (hC : P.cellsOf t = 4)
    (e0 : f0.type = t0 ∧ f0.offset = 0 ∧ P.cellsOf t0 = 1) (e1 : f1.type = t1 ∧ f1.offset = 1 ∧ P.cellsOf t1 = 1) (e2 : f2.type = t2 ∧ f2.offset = 2 ∧ P.cellsOf t2 = 1) (e3 : f3.type = t3 ∧ f3.offset = 3 ∧ P.cellsOf t3 = 1)
    (hv : Value.okWide P w r b0 t v) (h : DataW.Trod enc P w base sp hd t v d p) :
    ∃ (v0 v1 v2 v3 : Value) (y0 y1 y2 y3 : DataW H × List MemPlace) (n : Nat), v = .agg #[v0, v1, v2, v3] ∧ d = .agg [y0.1, y1.1, y2.1, y3.1] ∧ (∀ x ∈ p, x.block < w.heap.size) ∧
      DataW.trod enc P w base sp hd n t0 [v0] = some y0 ∧ DataW.trod enc P w base sp hd n t1 [v1] = some y1 ∧ DataW.trod enc P w base sp hd n t2 [v2] = some y2 ∧ DataW.trod enc P w base sp hd n t3 [v3] = some y3 := by
  obtain ⟨cs, rfl, hsz⟩ := okWide_struct hs hv
  obtain ⟨c0, c1, c2, c3, rfl⟩ := four_of (hsz.trans hC)
  obtain ⟨fuel, hf⟩ := h
  have hlt := DataW.trod_lt fuel _ _ _ hf
  obtain ⟨ys, n, _, hx, _, hlen, hfs⟩ := DataW.trod_struct hs hf
  obtain ⟨rfl, a0, k0⟩ := e0
  obtain ⟨rfl, a1, k1⟩ := e1
  obtain ⟨rfl, a2, k2⟩ := e2
  obtain ⟨rfl, a3, k3⟩ := e3
  match ys, hlen with
  | [y0, y1, y2, y3], _ =>
    simp only [Prod.mk.injEq] at hx
    exact ⟨c0, c1, c2, c3, y0, y1, y2, y3, n, rfl, by simpa using hx.1, hlt, by simpa [Value.cells, a0, k0] using hfs 0 f0 rfl, by simpa [Value.cells, a1, k1] using hfs 1 f1 rfl, by simpa [Value.cells, a2, k2] using hfs 2 f2 rfl, by simpa [Value.cells, a3, k3] using hfs 3 f3 rfl⟩
end

def sizes (ts : List ByteArray) : Nat := (ts.map fun s => s.size + 1).sum
theorem sizes_cons (s : ByteArray) (ts : List ByteArray) : sizes (s :: ts) = s.size + 1 + sizes ts := by simp [sizes]
theorem sizes_mem {ts : List ByteArray} {s : ByteArray} (h : s ∈ ts) : s.size + 1 ≤ sizes ts := by
  induction ts with
  | nil => simp at h
  | cons x r ih =>
    rw [sizes_cons]
    rcases List.mem_cons.1 h with rfl | h
    · omega
    · have := ih h; omega
theorem sizes_len (ts : List ByteArray) : ts.length ≤ sizes ts := by
  induction ts with
  | nil => simp
  | cons x r ih => rw [sizes_cons, List.length_cons]; omega
theorem fit_zip : ∀ (ks : List Nat) (ts : List ByteArray), (fileOf (mkF (ks.zip ts))).length ≤ 9 * ks.length + sizes ts
  | [], ts => by simp [mkF, fileOf]
  | k :: ks, [] => by simp [mkF, fileOf]
  | k :: ks, s :: ts => by
    have ih := fit_zip ks ts
    rw [List.zip_cons_cons, sizes_cons, List.length_cons]
    simp only [mkF]
    split
    · omega
    · simp only [fileOf, List.length_append, sealed_length, sbytes_length]
      omega
theorem bulk_strs {H : Type} (ss : List ByteArray) : Rows.uptoBulkAll (strs (H := H) ss) = sizes ss := by
  induction ss with
  | nil => rfl
  | cons s r ih =>
    rw [sizes_cons, ← ih]
    show Rows.uptoBulk (DataW.lit (H := H) (.string s.data.toList)) + Rows.uptoBulkAll (strs r) = _
    have e : s.data.toList.length = s.size := (by rw [Array.length_toList]; rfl)
    simp only [Rows.uptoBulk, e]
theorem field_strs {H : Type} {enc : TypeId × Value → H} {W : World} {n : Nat} {v : Value} {y : DataW H × List MemPlace} (h : DataW.trod enc Tryd.prog W 0 (fun _ => true) true n 48 [v] = some y) :
    ∃ ao ts cap, v = .slice ao ts.length cap ∧ ts.length ≤ cap ∧ SRow W ao ts ∧ sizes ts + 1 ≤ Rows.uptoBulk y.1 := by
  rcases open_strings Tryd.underlying48 Tryd.underlying9 (by kernel_rfl) h with ⟨hcs, hx⟩ | ⟨a, len, cap, ss, hcs, _, hl, hm, hz, hx, hcell, hsz⟩
  · simp only [List.cons.injEq, and_true] at hcs
    subst hcs
    subst hx
    exact ⟨none, [], 0, rfl, Nat.le_refl _, .inl rfl, by simp [sizes, Rows.uptoBulk]⟩
  · simp only [List.cons.injEq, and_true] at hcs
    subst hcs
    subst hx
    have hzl : ss.length = cap := by simpa using hz
    have hlen : (ss.take len).length = len := by rw [List.length_take]; omega
    refine ⟨some a, ss.take len, cap, by rw [hlen], by omega, ?_, ?_⟩
    · by_cases h0 : len = 0
      · exact .inl (by rw [h0]; rfl)
      · have h00 := hcell 0 (by omega)
        obtain ⟨b, off, q⟩ := a
        have hq : q = none := by simpa [Addr.add] using World.cell?_spot h00
        subst hq
        refine .inr ⟨b, off, rfl, fun i hi => ?_⟩
        have hi' : i < len := by omega
        have hc := hcell i (by omega)
        rw [add_none] at hc
        rw [hc]
        simp only [List.getD_eq_getElem?_getD, List.getElem?_take, if_pos hi']
    · simp only [Rows.uptoBulk, bulk_strs]
      omega
end Go.Proofs.YtmgppjfohabdmabDoor
