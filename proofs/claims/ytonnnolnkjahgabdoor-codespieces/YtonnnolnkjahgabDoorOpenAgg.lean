/- What a reading of a struct of five one-cell fields gives, and of its fields: bytes, numbers; the sizes of what lies within. -/
import Derived.Test.YtonnnolnkjahgabDoorOpen
import Derived.Lib.SmallJoins
namespace Go.Proofs.YtonnnolnkjahgabDoor
open Go.ChangeShapes Go.WideShapes Go.ChangeAt Go.RowKit

section
variable {H : Type} {enc : TypeId × Value → H} {P : Program} {w : World} {base : Nat} {sp : Nat → Bool} {hd : Bool}
theorem five_of {α : Type} {cs : Array α} (h : cs.size = 5) : ∃ a b c d e, cs = #[a, b, c, d, e] := by
  obtain ⟨l⟩ := cs
  match l, h with
  | [a, b, c, d, e], _ => exact ⟨a, b, c, d, e, rfl⟩
theorem open_agg5 {r : Reach} {b0 : Nat} {t t0 t1 t2 t3 t4 : TypeId} {f0 f1 f2 f3 f4 : Field} {v : Value} {d : DataW H} {p : List MemPlace} (hs : P.underlying t = some (.struct #[f0, f1, f2, f3, f4])) (hC : P.cellsOf t = 5)
    (e0 : f0.type = t0 ∧ f0.offset = 0 ∧ P.cellsOf t0 = 1) (e1 : f1.type = t1 ∧ f1.offset = 1 ∧ P.cellsOf t1 = 1) (e2 : f2.type = t2 ∧ f2.offset = 2 ∧ P.cellsOf t2 = 1) (e3 : f3.type = t3 ∧ f3.offset = 3 ∧ P.cellsOf t3 = 1) (e4 : f4.type = t4 ∧ f4.offset = 4 ∧ P.cellsOf t4 = 1)
    (hv : Value.okWide P w r b0 t v) (h : DataW.Trod enc P w base sp hd t v d p) :
    ∃ (v0 v1 v2 v3 v4 : Value) (y0 y1 y2 y3 y4 : DataW H × List MemPlace) (n : Nat), v = .agg #[v0, v1, v2, v3, v4] ∧ d = .agg [y0.1, y1.1, y2.1, y3.1, y4.1] ∧ (∀ x ∈ p, x.block < w.heap.size) ∧
      DataW.trod enc P w base sp hd n t0 [v0] = some y0 ∧ DataW.trod enc P w base sp hd n t1 [v1] = some y1 ∧ DataW.trod enc P w base sp hd n t2 [v2] = some y2 ∧ DataW.trod enc P w base sp hd n t3 [v3] = some y3 ∧ DataW.trod enc P w base sp hd n t4 [v4] = some y4 := by
  obtain ⟨cs, rfl, hsz⟩ := okWide_struct hs hv
  obtain ⟨c0, c1, c2, c3, c4, rfl⟩ := five_of (hsz.trans hC)
  obtain ⟨fuel, hf⟩ := h
  have hlt := DataW.trod_lt fuel _ _ _ hf
  obtain ⟨ys, n, _, hx, _, hlen, hfs⟩ := DataW.trod_struct hs hf
  obtain ⟨rfl, a0, k0⟩ := e0
  obtain ⟨rfl, a1, k1⟩ := e1
  obtain ⟨rfl, a2, k2⟩ := e2
  obtain ⟨rfl, a3, k3⟩ := e3
  obtain ⟨rfl, a4, k4⟩ := e4
  match ys, hlen with
  | [y0, y1, y2, y3, y4], _ =>
    simp only [Prod.mk.injEq] at hx
    exact ⟨c0, c1, c2, c3, c4, y0, y1, y2, y3, y4, n, rfl, by simpa using hx.1, hlt, by simpa [Value.cells, a0, k0] using hfs 0 f0 rfl, by simpa [Value.cells, a1, k1] using hfs 1 f1 rfl, by simpa [Value.cells, a2, k2] using hfs 2 f2 rfl,
      by simpa [Value.cells, a3, k3] using hfs 3 f3 rfl, by simpa [Value.cells, a4, k4] using hfs 4 f4 rfl⟩
theorem sized_agg {ts : List TypeId} {ds : List (DataW H)} (h : (DataW.weightsEach P ts ds).all (fun x => decide (x ≤ reachBytes)) = true) {j : Nat} {t : TypeId} {fs : Array Field} {parts : List (DataW H)} (ht : ts[j]? = some t) (hd : ds[j]? = some (.agg parts)) (hu : P.underlying t = some (.struct fs)) :
    (DataW.weightsEach P (fs.toList.map (·.type)) parts).all (fun x => decide (x ≤ reachBytes)) = true := by
  rw [List.all_eq_true] at h ⊢
  intro x hx
  exact h x (DataW.weights_mem_each ht hd x (by simpa [DataW.weights, hu] using hx))
end

theorem field_bytes {H : Type} {enc : TypeId × Value → H} {W : World} {n : Nat} {v : Value} {y : DataW H × List MemPlace} (h : DataW.trod enc Tryd.prog W 0 (fun _ => true) true n 22 [v] = some y) :
    ∃ ao xs cap, v = .slice ao xs.length cap ∧ xs.length ≤ cap ∧ Row W ao xs ∧ (∀ x ∈ xs, x < 256) ∧ xs.length + 1 ≤ Rows.uptoBulk y.1 ∧ ((y.1 = .nil ∧ xs = []) ∨ ∃ elems spare, y.1 = .slice elems spare ∧ xs.length = elems.length) := by
  rcases open_ints Tryd.underlying22 Tryd.underlying5 (by kernel_rfl) h with ⟨hcs, hx⟩ | ⟨x, len0, cap0, zs, hcs, _, hl, hm, hz, hx, hcell, hwz⟩
  · simp only [List.cons.injEq, and_true] at hcs
    subst hcs
    subst hx
    exact ⟨none, [], 0, rfl, Nat.le_refl _, .inl rfl, by simp, by simp [Rows.uptoBulk], .inl ⟨rfl, rfl⟩⟩
  · simp only [List.cons.injEq, and_true] at hcs
    subst hcs
    subst hx
    have hzl : zs.length = cap0 := by simpa using hz
    obtain ⟨xs, hxs, hb⟩ := nats_of (zs.take len0) (fun n hn => hwz n (List.mem_of_mem_take hn))
    have hlen : xs.length = len0 := by
      have := congrArg List.length hxs
      simp only [List.length_take, List.length_map] at this
      omega
    subst hlen
    have hel : (lits (H := H) .u8 (zs.take xs.length)).length = xs.length := by simp only [lits, List.length_map, List.length_take]; omega
    refine ⟨some x, xs, cap0, rfl, hl, ?_, hb, ?_, .inr ⟨_, _, rfl, hel.symm⟩⟩
    · by_cases h0 : xs = []
      · exact .inl h0
      · obtain ⟨b, off, rfl, hc⟩ := ints_at hcell (by have := List.length_pos_iff.2 h0; omega)
        refine .inr ⟨b, off, rfl, fun i hi => ?_⟩
        rw [hc i (by omega)]
        have : zs.getD i 0 = ((xs.getD i 0 : Nat) : Int) := by
          have h2 : (zs.take xs.length)[i]? = (xs.map fun n : Nat => (n : Int))[i]? := by rw [hxs]
          rw [List.getElem?_take, if_pos hi, List.getElem?_map] at h2
          simp only [List.getD, h2, List.getElem?_eq_getElem hi, Option.map_some, Option.getD_some]
        rw [this]
    · have h1 := bulk_length (lits (H := H) .u8 (zs.take xs.length))
      simp only [Rows.uptoBulk]
      omega
end Go.Proofs.YtonnnolnkjahgabDoor
