/- What a reading of a try gives: its clients, its texts, its pairs, and how much they are. -/
import Derived.Test.YtghmabohodnbpaaGreatDoorOpenCls
import Derived.Test.YtghmabohodnbpaaGreatDoorLOpenP
namespace Go.Proofs.YtghmabohodnbpaaGreatDoor
open Go.ChangeShapes Go.WideShapes Go.ChangeAt Go.RowKit

section
variable {H : Type} {enc : TypeId × Value → H} {P : Program} {w : World} {base : Nat} {sp : Nat → Bool} {hd : Bool}
theorem five_ofA {α : Type} {cs : Array α} (h : cs.size = 5) : ∃ a b c d e, cs = #[a, b, c, d, e] := by
  obtain ⟨l⟩ := cs
  match l, h with
  | [a, b, c, d, e], _ => exact ⟨a, b, c, d, e, rfl⟩
theorem open_agg5 {r : Reach} {b0 : Nat} {t t0 t1 t2 t3 t4 : TypeId} {f0 f1 f2 f3 f4 : Field} {v : Value} {d : DataW H} {p : List MemPlace} (hs : P.underlying t = some (.struct #[f0, f1, f2, f3, f4])) (hC : P.cellsOf t = 5)
    (e0 : f0.type = t0 ∧ f0.offset = 0 ∧ P.cellsOf t0 = 1) (e1 : f1.type = t1 ∧ f1.offset = 1 ∧ P.cellsOf t1 = 1) (e2 : f2.type = t2 ∧ f2.offset = 2 ∧ P.cellsOf t2 = 1) (e3 : f3.type = t3 ∧ f3.offset = 3 ∧ P.cellsOf t3 = 1) (e4 : f4.type = t4 ∧ f4.offset = 4 ∧ P.cellsOf t4 = 1)
    (hv : Value.okWide P w r b0 t v) (h : DataW.Trod enc P w base sp hd t v d p) :
    ∃ (v0 v1 v2 v3 v4 : Value) (y0 y1 y2 y3 y4 : DataW H × List MemPlace) (n : Nat), v = .agg #[v0, v1, v2, v3, v4] ∧ d = .agg [y0.1, y1.1, y2.1, y3.1, y4.1] ∧ (∀ x ∈ p, x.block < w.heap.size) ∧
      DataW.trod enc P w base sp hd n t0 [v0] = some y0 ∧ DataW.trod enc P w base sp hd n t1 [v1] = some y1 ∧ DataW.trod enc P w base sp hd n t2 [v2] = some y2 ∧ DataW.trod enc P w base sp hd n t3 [v3] = some y3 ∧ DataW.trod enc P w base sp hd n t4 [v4] = some y4 ∧ Row.okWide P w r b0 t #[v0, v1, v2, v3, v4] := by
  obtain ⟨cs, rfl, hsz, hrow⟩ : ∃ cs, v = .agg cs ∧ cs.size = P.cellsOf t ∧ Row.okWide P w r b0 t cs := by
    unfold Value.okWide at hv
    rw [hs] at hv
    exact hv
  obtain ⟨c0, c1, c2, c3, c4, rfl⟩ := five_ofA (hsz.trans hC)
  obtain ⟨fuel, hf⟩ := h
  have hlt := DataW.trod_lt fuel _ _ _ hf
  obtain ⟨ys, n, _, hx, _, hlen, hfs⟩ := DataW.trod_struct hs hf
  obtain ⟨rfl, a0, k0⟩ := e0
  obtain ⟨rfl, a1, k1⟩ := e1
  obtain ⟨rfl, a2, k2⟩ := e2
  obtain ⟨rfl, a3, k3⟩ := e3
  obtain ⟨rfl, a4, k4⟩ := e4
  match ys, hlen with
  | [y0, y1, y2, y3, y4], _ =>
    simp only [Prod.mk.injEq] at hx
    exact ⟨c0, c1, c2, c3, c4, y0, y1, y2, y3, y4, n, rfl, by simpa using hx.1, hlt, by simpa [Value.cells, a0, k0] using hfs 0 f0 rfl, by simpa [Value.cells, a1, k1] using hfs 1 f1 rfl, by simpa [Value.cells, a2, k2] using hfs 2 f2 rfl,
      by simpa [Value.cells, a3, k3] using hfs 3 f3 rfl, by simpa [Value.cells, a4, k4] using hfs 4 f4 rfl, hrow⟩
end
set_option maxRecDepth 100000 in
theorem field_clients {H : Type} {enc : TypeId × Value → H} {W : World} {nn : Nat} {v : Value} {y : DataW H × List MemPlace} (h : DataW.trod enc Tryz.prog W 0 (fun _ => true) true nn 22 [v] = some y) :
    ∃ ao L cap, v = .slice ao L.length cap ∧ L.length ≤ cap ∧ CRow0 W ao L ∧ L.length ≤ Rows.uptoBulk y.1 ∧ ∀ c ∈ L, ClUp (Rows.uptoBulk y.1) c := by
  obtain ⟨d, p⟩ := y
  rcases Deep.open_slice Tryz.underlying22 h with ⟨hcs, hx⟩ | ⟨a, len0, cap0, m, n, D, Pl, hcs, _, hl, hm, hmm, hx, hc⟩
  · simp only [List.cons.injEq, and_true] at hcs
    subst hcs
    simp only [Prod.mk.injEq] at hx
    obtain ⟨rfl, _⟩ := hx
    exact ⟨none, [], 0, rfl, Nat.le_refl _, .inl rfl, by simp, by simp⟩
  · simp only [List.cons.injEq, and_true] at hcs
    subst hcs
    simp only [Prod.mk.injEq] at hx
    obtain ⟨rfl, _⟩ := hx
    dsimp only
    have hlm : len0 ≤ m := by rw [hmm]; split <;> omega
    have each : ∀ i, i < len0 → ∃ q : Cl, (∃ so cp, (∀ j, j < 6 → W.cell? (a.add (i * 6 + j)) = (clCells q so q.scopes.length cp)[j]?) ∧ q.scopes.length ≤ cp ∧ SRow W so q.scopes) ∧ ClUp (Rows.uptoBulk (D i)) q ∧ 1 ≤ Rows.uptoBulk (D i) := fun i hi => by
      obtain ⟨cs', h1, h2⟩ := hc i (by omega)
      rw [cellsCl] at h1
      obtain ⟨_, hlen, hcell⟩ := World.cells?_some h1
      obtain ⟨q, so, cp, rfl, hcp, hrow, hup, h1b⟩ := cells_client hlen h2
      refine ⟨q, ⟨so, cp, fun j hj => ?_, hcp, hrow⟩, hup, h1b⟩
      rw [← Deep.add_add]
      exact hcell j hj
    have hinh : Inhabited Cl := ⟨zeroCl⟩
    obtain ⟨f, hfi⟩ := Deep.choose_lt each
    have hbk : Rows.uptoBulkAll ((List.range len0).map D) ≤ Rows.uptoBulk (DataW.slice ((List.range len0).map D) ((List.range (m - len0)).map fun j => D (len0 + j))) := by
      simp only [Rows.uptoBulk]; omega
    refine ⟨some a, (List.range len0).map f, cap0, by simp, by simpa using hl, ?_, ?_, ?_⟩
    · by_cases h0 : len0 = 0
      · exact .inl (by rw [h0]; rfl)
      · obtain ⟨so0, cp0, h00, -⟩ := (hfi 0 (by omega)).1
        have h00 := h00 0 (by omega)
        obtain ⟨b, off, q⟩ := a
        have hq : q = none := by
          have : W.cell? ((⟨b, off, q⟩ : Addr).add 0) = some _ := h00.trans (by rfl)
          simpa [Addr.add] using World.cell?_spot this
        subst hq
        refine .inr ⟨b, off, rfl, fun i q hiq => ?_⟩
        rw [List.getElem?_map] at hiq
        obtain ⟨i', hi', rfl⟩ := Option.map_eq_some_iff.1 hiq
        obtain ⟨hil, e⟩ := List.getElem?_eq_some_iff.1 hi'
        rw [List.length_range] at hil
        rw [List.getElem_range] at e
        subst e
        obtain ⟨so, cp, hcell, hcp, hrow⟩ := (hfi i hil).1
        have g : ∀ j, j < 6 → W.cell? ⟨b, off + i * 6 + j, none⟩ = (clCells (f i) so (f i).scopes.length cp)[j]? := fun j hj => by
          have := hcell j hj
          rw [Go.WideShapes.add_plain, ← Nat.add_assoc] at this
          exact this
        exact ⟨so, _, cp, g 0 (by omega), g 1 (by omega), g 2 (by omega), g 3 (by omega), g 4 (by omega), g 5 (by omega), rfl, hcp, hrow⟩
    · rw [List.length_map, List.length_range]
      exact Nat.le_trans (bulk_many D len0 (fun i hi => (hfi i hi).2.2)) hbk
    · intro c hcm
      obtain ⟨i, hi, rfl⟩ := List.mem_map.1 hcm
      have hil := List.mem_range.1 hi
      obtain ⟨u0, u1, u2, u3, u4, u5, u6, u7⟩ := (hfi i hil).2.1
      have hm1 : D i ∈ (List.range len0).map D := List.mem_map.2 ⟨i, hi, rfl⟩
      have hb1 := bulk_mem hm1
      exact ⟨u0, u1, u2, by omega, by omega, by omega, by omega, by omega⟩
set_option maxRecDepth 100000 in
theorem field_pairs {H : Type} {enc : TypeId × Value → H} {W : World} {nn : Nat} {v : Value} {y : DataW H × List MemPlace} (h : DataW.trod enc Tryz.prog W 0 (fun _ => true) true nn 42 [v] = some y) :
    ∃ so l pc, v = .slice so l.length pc ∧ l.length ≤ pc ∧ PRow W so l ∧ (∀ q ∈ l, bytes2 q) ∧ tot2 l + 1 ≤ Rows.uptoBulk y.1 := by
  obtain ⟨d, p⟩ := y
  rcases Deep.open_slice Tryz.underlying42 h with ⟨hcs, hx⟩ | ⟨a, len0, cap0, m, n, D, Pl, hcs, _, hl, hm, hmm, hx, hc⟩
  · simp only [List.cons.injEq, and_true] at hcs
    subst hcs
    simp only [Prod.mk.injEq] at hx
    obtain ⟨rfl, _⟩ := hx
    exact ⟨none, [], 0, rfl, Nat.le_refl _, .inl rfl, by simp, by simp [tot2, Rows.uptoBulk]⟩
  · simp only [List.cons.injEq, and_true] at hcs
    subst hcs
    simp only [Prod.mk.injEq] at hx
    obtain ⟨rfl, _⟩ := hx
    dsimp only
    have hlm : len0 ≤ m := by rw [hmm]; split <;> omega
    have each : ∀ i, i < len0 → ∃ q : Two, (∀ j, j < 2 → W.cell? (a.add (i * 2 + j)) = [Value.string (bstr q.1), .string (bstr q.2)][j]?) ∧ bytes2 q ∧ q.1.length + q.2.length + 3 ≤ Rows.uptoBulk (D i) ∧ q.1.length ∈ (D i).weights Tryz.prog 58 ∧ q.2.length ∈ (D i).weights Tryz.prog 58 := fun i hi => by
      obtain ⟨cs', h1, h2⟩ := hc i (by omega)
      rw [cellsPair] at h1
      obtain ⟨_, hlen, hcell⟩ := World.cells?_some h1
      obtain ⟨q, rfl, hok, hbk, hw1, hw2⟩ := open_pair hlen h2
      refine ⟨q, fun j hj => ?_, hok, hbk, hw1, hw2⟩
      rw [← Deep.add_add]
      exact hcell j hj
    have hinh : Inhabited Two := ⟨([], [])⟩
    obtain ⟨f, hfi⟩ := Deep.choose_lt each
    refine ⟨some a, (List.range len0).map f, cap0, by simp, by simpa using hl, ?_, ?_, ?_⟩
    · by_cases h0 : len0 = 0
      · exact .inl (by rw [h0]; rfl)
      · have h00 := (hfi 0 (by omega)).1 0 (by omega)
        obtain ⟨b, off, q⟩ := a
        have hq : q = none := by
          have : W.cell? ((⟨b, off, q⟩ : Addr).add 0) = some _ := h00.trans (by rfl)
          simpa [Addr.add] using World.cell?_spot this
        subst hq
        refine .inr ⟨b, off, rfl, fun i q hiq => ?_⟩
        rw [List.getElem?_map] at hiq
        obtain ⟨i', hi', rfl⟩ := Option.map_eq_some_iff.1 hiq
        obtain ⟨hil, e⟩ := List.getElem?_eq_some_iff.1 hi'
        rw [List.length_range] at hil
        rw [List.getElem_range] at e
        subst e
        have g0 := (hfi i hil).1 0 (by omega)
        have g1 := (hfi i hil).1 1 (by omega)
        rw [Go.WideShapes.add_plain] at g0 g1
        rw [Nat.mul_comm] at g0 g1
        exact ⟨g0, g1⟩
    · intro q hq
      obtain ⟨i, hi, rfl⟩ := List.mem_map.1 hq
      exact (hfi i (List.mem_range.1 hi)).2.1
    · have := bulk_tot2 (H := H) f D len0 (fun r hr => (hfi r hr).2.2.1)
      simp only [Rows.uptoBulk]
      omega
set_option maxRecDepth 100000 in
theorem open_try {H : Type} {enc : TypeId × Value → H} {W : World} {base : Nat} {v : Value} {d : DataW H} {p : List MemPlace} (hval : Value.okWide Tryz.prog W .any base 44 v) (h : DataW.Trod enc Tryz.prog W 0 (fun _ => true) true 44 v d p) :
    ∃ ao L ca N sec x po l cp, v = .agg #[.slice ao L.length ca, .int .i64 N, .string sec, .string x, .slice po l.length cp] ∧ (∀ x ∈ p, x.block < W.heap.size) ∧ CRow0 W ao L ∧ PRow W po l ∧ (∀ q ∈ l, bytes2 q) ∧ L.length ≤ Rows.uptoBulk d ∧ (∀ c ∈ L, ClUp (Rows.uptoBulk d) c) ∧ tot2 l ≤ Rows.uptoBulk d ∧ (-9223372036854775808 ≤ N ∧ N ≤ 9223372036854775807) ∧ sec.size ≤ Rows.uptoBulk d ∧ x.size ≤ Rows.uptoBulk d := by
  obtain ⟨v0, v1, v2, v3, v4, y0, y1, y2, y3, y4, fuel, rfl, rfl, lt, h0, h1, h2, h3, h4, -⟩ := open_agg5 (t0 := 22) (t1 := 3) (t2 := 9) (t3 := 9) (t4 := 42) Tryz.underlying44 (by kernel_rfl) ⟨rfl, rfl, by kernel_rfl⟩ ⟨rfl, rfl, by kernel_rfl⟩ ⟨rfl, rfl, by kernel_rfl⟩ ⟨rfl, rfl, by kernel_rfl⟩ ⟨rfl, rfl, by kernel_rfl⟩ hval h
  obtain ⟨ao, L, ca, rfl, hca, hrow, hb0, hup⟩ := field_clients h0
  obtain ⟨i1, e1, x1, w1⟩ := DataW.trod_int Tryz.underlying3 h1
  obtain ⟨s2, e2, x2, hs2⟩ := DataW.trod_string Tryz.underlying9 h2
  obtain ⟨s3, e3, x3, hs3⟩ := DataW.trod_string Tryz.underlying9 h3
  obtain ⟨po, l, cp, rfl, hcp, hprow, hby, htot⟩ := field_pairs h4
  simp only [List.cons.injEq, and_true] at e1 e2 e3
  subst e1 e2 e3
  have z2 : s2.data.toList.length = s2.size := by rw [Array.length_toList]; rfl
  have z3 : s3.data.toList.length = s3.size := by rw [Array.length_toList]; rfl
  have hbk : Rows.uptoBulk (DataW.agg (H := H) [y0.1, y1.1, y2.1, y3.1, y4.1]) = Rows.uptoBulk y0.1 + (1 + ((s2.size + 1) + ((s3.size + 1) + (Rows.uptoBulk y4.1 + 0)))) + 1 := by
    rw [x1, x2, x3]
    simp only [Rows.uptoBulk, Rows.uptoBulkAll, z2, z3]
  refine ⟨ao, L, ca, i1, s2, s3, po, l, cp, rfl, lt, hrow, hprow, hby, by omega, fun c hc => ?_, by omega, bounds_i64 w1, by omega, by omega⟩
  obtain ⟨u0, u1, u2, u3, u4, u5, u6, u7⟩ := hup c hc
  exact ⟨u0, u1, u2, by omega, by omega, by omega, by omega, by omega⟩
end Go.Proofs.YtghmabohodnbpaaGreatDoor
