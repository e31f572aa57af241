/- What a reading of a client gives: its texts and numbers, its list of scopes in memory, and how much it is. -/
import Derived.Test.YtlhgjicichjbgaaGreatDoorOpen3
import Derived.Test.YtlhgjicichjbgaaGreatDoorLCheck
import Derived.SliceStrings
namespace Go.Proofs.YtlhgjicichjbgaaGreatDoor
open Go.ChangeShapes Go.WideShapes Go.ChangeAt Go.RowKit

section
variable {H : Type} {enc : TypeId × Value → H} {P : Program} {w : World} {base : Nat} {sp : Nat → Bool} {hd : Bool}
theorem six_of {α : Type} {cs : Array α} (h : cs.size = 6) : ∃ a b c d e f, cs = #[a, b, c, d, e, f] := by
  obtain ⟨l⟩ := cs
  match l, h with
  | [a, b, c, d, e, f], _ => exact ⟨a, b, c, d, e, f, rfl⟩
theorem open_agg6 {r : Reach} {b0 : Nat} {t t0 t1 t2 t3 t4 t5 : TypeId} {f0 f1 f2 f3 f4 f5 : Field} {v : Value} {d : DataW H} {p : List MemPlace} (hs : P.underlying t = some (.struct #[f0, f1, f2, f3, f4, f5])) (hC : P.cellsOf t = 6)
    (e0 : f0.type = t0 ∧ f0.offset = 0 ∧ P.cellsOf t0 = 1) (e1 : f1.type = t1 ∧ f1.offset = 1 ∧ P.cellsOf t1 = 1) (e2 : f2.type = t2 ∧ f2.offset = 2 ∧ P.cellsOf t2 = 1) (e3 : f3.type = t3 ∧ f3.offset = 3 ∧ P.cellsOf t3 = 1) (e4 : f4.type = t4 ∧ f4.offset = 4 ∧ P.cellsOf t4 = 1) (e5 : f5.type = t5 ∧ f5.offset = 5 ∧ P.cellsOf t5 = 1)
    (hv : Value.okWide P w r b0 t v) (h : DataW.Trod enc P w base sp hd t v d p) :
    ∃ (v0 v1 v2 v3 v4 v5 : Value) (y0 y1 y2 y3 y4 y5 : DataW H × List MemPlace) (n : Nat), v = .agg #[v0, v1, v2, v3, v4, v5] ∧ d = .agg [y0.1, y1.1, y2.1, y3.1, y4.1, y5.1] ∧ (∀ x ∈ p, x.block < w.heap.size) ∧
      DataW.trod enc P w base sp hd n t0 [v0] = some y0 ∧ DataW.trod enc P w base sp hd n t1 [v1] = some y1 ∧ DataW.trod enc P w base sp hd n t2 [v2] = some y2 ∧ DataW.trod enc P w base sp hd n t3 [v3] = some y3 ∧ DataW.trod enc P w base sp hd n t4 [v4] = some y4 ∧ DataW.trod enc P w base sp hd n t5 [v5] = some y5 := by
  obtain ⟨cs, rfl, hsz⟩ := okWide_struct hs hv
  obtain ⟨c0, c1, c2, c3, c4, c5, rfl⟩ := six_of (hsz.trans hC)
  obtain ⟨fuel, hf⟩ := h
  have hlt := DataW.trod_lt fuel _ _ _ hf
  obtain ⟨ys, n, _, hx, _, hlen, hfs⟩ := DataW.trod_struct hs hf
  obtain ⟨rfl, a0, k0⟩ := e0
  obtain ⟨rfl, a1, k1⟩ := e1
  obtain ⟨rfl, a2, k2⟩ := e2
  obtain ⟨rfl, a3, k3⟩ := e3
  obtain ⟨rfl, a4, k4⟩ := e4
  obtain ⟨rfl, a5, k5⟩ := e5
  match ys, hlen with
  | [y0, y1, y2, y3, y4, y5], _ =>
    simp only [Prod.mk.injEq] at hx
    exact ⟨c0, c1, c2, c3, c4, c5, y0, y1, y2, y3, y4, y5, n, rfl, by simpa using hx.1, hlt, by simpa [Value.cells, a0, k0] using hfs 0 f0 rfl, by simpa [Value.cells, a1, k1] using hfs 1 f1 rfl, by simpa [Value.cells, a2, k2] using hfs 2 f2 rfl,
      by simpa [Value.cells, a3, k3] using hfs 3 f3 rfl, by simpa [Value.cells, a4, k4] using hfs 4 f4 rfl, by simpa [Value.cells, a5, k5] using hfs 5 f5 rfl⟩
end

def sizes (ts : List ByteArray) : Nat := (ts.map fun s => s.size + 1).sum
theorem sizes_cons (s : ByteArray) (ts : List ByteArray) : sizes (s :: ts) = s.size + 1 + sizes ts := by simp [sizes]
theorem sizes_len (ts : List ByteArray) : ts.length ≤ sizes ts := by
  induction ts with
  | nil => simp
  | cons x r ih => rw [sizes_cons, List.length_cons]; omega
theorem sizes_lens (ts : List ByteArray) : Lib.lens (ts.map fun s => s.data.toList) + ts.length = sizes ts := by
  induction ts with
  | nil => rfl
  | cons x r ih =>
    rw [sizes_cons, ← ih]
    have e : x.data.toList.length = x.size := (by rw [Array.length_toList]; rfl)
    simp only [Lib.lens, List.map_cons, List.sum_cons, List.length_cons, e]
    omega
theorem joinS_sizes (ts : List ByteArray) : (joinS (ts.map fun s => s.data.toList)).length ≤ sizes ts := by
  have h := sizes_lens ts
  cases ts with
  | nil => simp [joinS, Lib.join_nil]
  | cons x r =>
    rw [← h]
    unfold joinS
    rw [List.map_cons, Lib.join_length]
    simp
    omega
theorem bulk_strs {H : Type} (ss : List ByteArray) : Rows.uptoBulkAll (strs (H := H) ss) = sizes ss := by
  induction ss with
  | nil => rfl
  | cons s r ih =>
    rw [sizes_cons, ← ih]
    show Rows.uptoBulk (DataW.lit (H := H) (.string s.data.toList)) + Rows.uptoBulkAll (strs r) = _
    have e : s.data.toList.length = s.size := (by rw [Array.length_toList]; rfl)
    simp only [Rows.uptoBulk, e]
set_option maxRecDepth 100000 in
theorem field_texts {H : Type} {enc : TypeId × Value → H} {W : World} {n : Nat} {v : Value} {y : DataW H × List MemPlace} (h : DataW.trod enc Tryz.prog W 0 (fun _ => true) true n 25 [v] = some y) :
    ∃ so l cap, v = .slice so l.length cap ∧ l.length ≤ cap ∧ SRow W so l ∧ l.length ≤ Rows.uptoBulk y.1 ∧ (joinS l).length ≤ Rows.uptoBulk y.1 := by
  rcases open_strings Tryz.underlying25 Tryz.underlying9 (by kernel_rfl) h with ⟨hcs, hx⟩ | ⟨a, len, cap, ss, hcs, _, hl, hm, hz, hx, hcell, hsz⟩
  · simp only [List.cons.injEq, and_true] at hcs
    subst hcs
    subst hx
    exact ⟨none, [], 0, rfl, Nat.le_refl _, .inl rfl, by simp, by simp [joinS, Lib.join_nil]⟩
  · simp only [List.cons.injEq, and_true] at hcs
    subst hcs
    subst hx
    have hzl : ss.length = cap := by simpa using hz
    have hlen : (ss.take len).length = len := by rw [List.length_take]; omega
    have hb : sizes (ss.take len) ≤ Rows.uptoBulk (DataW.slice (H := H) (strs (ss.take len)) (strs (ss.drop len))) := by
      simp only [Rows.uptoBulk, bulk_strs]
      omega
    have hs1 := sizes_len (ss.take len)
    have hs2 := joinS_sizes (ss.take len)
    refine ⟨some a, (ss.take len).map (fun s => s.data.toList), cap, by rw [List.length_map, hlen], by rw [List.length_map]; omega, ?_, ?_, ?_⟩
    · by_cases h0 : len = 0
      · exact .inl (by rw [h0]; rfl)
      · have h00 := hcell 0 (by omega)
        obtain ⟨b, off, q⟩ := a
        have hq : q = none := by simpa [Addr.add] using World.cell?_spot h00
        subst hq
        refine .inr ⟨b, off, rfl, fun i u hi => ?_⟩
        rw [List.getElem?_map] at hi
        obtain ⟨s, hs, rfl⟩ := Option.map_eq_some_iff.1 hi
        have hil : i < len := by
          have := (List.getElem?_eq_some_iff.1 hs).1
          omega
        have hc := hcell i (by omega)
        rw [add_none] at hc
        rw [hc, ← str_u]
        rw [List.getElem?_take, if_pos hil] at hs
        simp [List.getD_eq_getElem?_getD, hs]
    · rw [List.length_map]; exact Nat.le_trans hs1 hb
    · exact Nat.le_trans hs2 hb
set_option maxRecDepth 100000 in
theorem open_client {H : Type} {enc : TypeId × Value → H} {W : World} {base : Nat} {v : Value} {d : DataW H} {p : List MemPlace} (hval : Value.okWide Tryz.prog W .any base 27 v) (h : DataW.Trod enc Tryz.prog W 0 (fun _ => true) true 27 v d p) :
    ∃ id secret url gr pg so l cap, v = .agg #[.string id, .string secret, .int .i64 gr, .bool pg, .string url, .slice so l.length cap] ∧ l.length ≤ cap ∧ SRow W so l ∧ (∀ x ∈ p, x.block < W.heap.size) ∧ (id.size ≤ maxLen ∧ secret.size ≤ maxLen ∧ url.size ≤ maxLen) ∧ l.length ≤ Rows.uptoBulk d ∧ (joinS l).length ≤ Rows.uptoBulk d := by
  obtain ⟨v0, v1, v2, v3, v4, v5, y0, y1, y2, y3, y4, y5, fuel, rfl, rfl, lt, h0, h1, h2, h3, h4, h5⟩ := open_agg6 (t0 := 9) (t1 := 9) (t2 := 3) (t3 := 4) (t4 := 9) (t5 := 25) Tryz.underlying27 (by kernel_rfl) ⟨rfl, rfl, by kernel_rfl⟩ ⟨rfl, rfl, by kernel_rfl⟩ ⟨rfl, rfl, by kernel_rfl⟩ ⟨rfl, rfl, by kernel_rfl⟩ ⟨rfl, rfl, by kernel_rfl⟩ ⟨rfl, rfl, by kernel_rfl⟩ hval h
  obtain ⟨s0, e0, rfl, hs0⟩ := DataW.trod_string Tryz.underlying9 h0
  obtain ⟨s1, e1, rfl, hs1⟩ := DataW.trod_string Tryz.underlying9 h1
  obtain ⟨i2, e2, rfl, w2⟩ := DataW.trod_int Tryz.underlying3 h2
  obtain ⟨b3, e3, rfl⟩ := DataW.trod_bool Tryz.underlying4 h3
  obtain ⟨s4, e4, rfl, hs4⟩ := DataW.trod_string Tryz.underlying9 h4
  obtain ⟨so, l, cap, rfl, hcap, hrow, hb1, hb2⟩ := field_texts h5
  simp only [List.cons.injEq, and_true] at e0 e1 e2 e3 e4
  subst e0 e1 e2 e3 e4
  refine ⟨s0, s1, s4, i2, b3, so, l, cap, rfl, hcap, hrow, lt, ⟨hs0, hs1, hs4⟩, ?_, ?_⟩
  · simp only [Rows.uptoBulk, Rows.uptoBulkAll]; omega
  · simp only [Rows.uptoBulk, Rows.uptoBulkAll]; omega
end Go.Proofs.YtlhgjicichjbgaaGreatDoor
