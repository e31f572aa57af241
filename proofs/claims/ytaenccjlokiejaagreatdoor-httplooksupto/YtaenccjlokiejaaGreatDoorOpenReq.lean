/- What a reading of requests and responses gives: their texts, their fields in memory, and how much they are. -/
import Derived.Test.YtaenccjlokiejaaGreatDoorOpen3
import Derived.Test.YtaenccjlokiejaaGreatDoorHRow
import Derived.Deep.Slices
namespace Go.Proofs.YtaenccjlokiejaaGreatDoor
open Go.ChangeShapes Go.WideShapes Go.ChangeAt Go.RowKit

def totF (l : List Fl) : Nat := (l.map fun q => q.1.length + q.2.length + 3).sum
theorem totF_mem {l : List Fl} {q : Fl} (h : q ∈ l) : q.1.length + q.2.length + 3 ≤ totF l := by
  induction l with
  | nil => cases h
  | cons a l ih =>
    simp only [totF, List.map_cons, List.sum_cons] at ih ⊢
    rcases List.mem_cons.1 h with rfl | h
    · omega
    · have := ih h; omega
theorem totF_len (l : List Fl) : 3 * l.length ≤ totF l := by
  induction l with
  | nil => simp [totF]
  | cons a l ih => simp only [totF, List.map_cons, List.sum_cons, List.length_cons] at ih ⊢; omega
theorem bulk_totF {H : Type} (f : Nat → Fl) (g : Nat → DataW H) (len : Nat) (h : ∀ r, r < len → (f r).1.length + (f r).2.length + 3 ≤ Rows.uptoBulk (g r)) : totF ((List.range len).map f) ≤ Rows.uptoBulkAll ((List.range len).map g) := by
  induction len with
  | zero => simp [totF, Rows.uptoBulkAll]
  | succ k ih =>
    rw [List.range_succ, List.map_append, List.map_append, bulkAll_append]
    have h1 := ih (fun r hr => h r (by omega))
    have h2 := h k (by omega)
    have h3 : totF ((List.range k).map f ++ [k].map f) = totF ((List.range k).map f) + ((f k).1.length + (f k).2.length + 3) := by simp [totF]
    rw [h3]
    simp only [List.map_cons, List.map_nil, Rows.uptoBulkAll]
    omega
theorem cellsPair : Tryz.prog.cellsOf 78 = 2 := by kernel_rfl
theorem bytesPair : Tryz.prog.bytesOf 78 = 32 := by kernel_rfl
theorem two_of {α : Type} {l : List α} (h : l.length = 2) : ∃ a b, l = [a, b] := by
  match l, h with
  | [a, b], _ => exact ⟨a, b, rfl⟩
theorem weightsAll_mem {H : Type} {P : Program} {e : TypeId} {d : DataW H} : ∀ {l : List (DataW H)}, d ∈ l → ∀ n ∈ d.weights P e, n ∈ DataW.weightsAll P e l
  | x :: l, h, n, hn => by
    rw [DataW.weightsAll, List.mem_append]
    rcases List.mem_cons.1 h with rfl | h
    · exact .inl hn
    · exact .inr (weightsAll_mem h n hn)
set_option maxRecDepth 100000 in
theorem open_pair {H : Type} {enc : TypeId × Value → H} {W : World} {n : Nat} {cs : List Value} {x : DataW H × List MemPlace} (hl : cs.length = 2)
    (h : DataW.trod enc Tryz.prog W 0 (fun _ => true) true n 78 cs = some x) : ∃ q : Fl, cs = [.string (str q.1), .string (str q.2)] ∧ (q.1.length ≤ maxLen ∧ q.2.length ≤ maxLen) ∧ q.1.length + q.2.length + 3 ≤ Rows.uptoBulk x.1 ∧ q.1.length ∈ x.1.weights Tryz.prog 78 ∧ q.2.length ∈ x.1.weights Tryz.prog 78 := by
  obtain ⟨ys, k, _, hx, _, hlen, hfs⟩ := DataW.trod_struct Tryz.underlying78 h
  obtain ⟨v0, v1, rfl⟩ := two_of hl
  obtain ⟨y0, y1, rfl⟩ := two_of (l := ys) (by rw [hlen]; rfl)
  have c9 : Tryz.prog.cellsOf 9 = 1 := by kernel_rfl
  have g0 := hfs 0 _ rfl
  have g1 := hfs 1 _ rfl
  simp [c9] at g0 g1
  obtain ⟨s0, e0, x0, z0⟩ := DataW.trod_string Tryz.underlying9 g0
  obtain ⟨s1, e1, x1, z1⟩ := DataW.trod_string Tryz.underlying9 g1
  simp only [List.cons.injEq, and_true] at e0 e1
  subst e0
  subst e1
  have k0 := data_size s0
  have k1 := data_size s1
  refine ⟨(s0.data.toList, s1.data.toList), by rw [str_list, str_list], ⟨by show s0.data.toList.length ≤ _; omega, by show s1.data.toList.length ≤ _; omega⟩, ?_, ?_, ?_⟩
  · rw [hx, x0, x1]
    simp only [List.map_cons, List.map_nil, Rows.uptoBulk, Rows.uptoBulkAll]
    omega
  · rw [hx, x0, x1]
    simp only [List.map_cons, List.map_nil, DataW.weights, Tryz.underlying78, DataW.weightsEach]
    simp
  · rw [hx, x0, x1]
    simp only [List.map_cons, List.map_nil, DataW.weights, Tryz.underlying78, DataW.weightsEach]
    simp
theorem weights_of {H : Type} {ts : List TypeId} {ds : List (DataW H)} (h : (DataW.weightsEach Tryz.prog ts ds).all (fun x => decide (x ≤ reachBytes)) = true) {j : Nat} {d : DataW H} {t : TypeId} (ht : ts[j]? = some t) (hd : ds[j]? = some d) : ∀ x ∈ d.weights Tryz.prog t, x ≤ reachBytes := fun x hx => by
  have := List.all_eq_true.1 h _ (DataW.weights_mem_each ht hd x hx)
  simpa using this
set_option maxRecDepth 100000 in
theorem field_fs {H : Type} {enc : TypeId × Value → H} {W : World} {nn : Nat} {v : Value} {y : DataW H × List MemPlace} (h : DataW.trod enc Tryz.prog W 0 (fun _ => true) true nn 25 [v] = some y) :
    ∃ so l pc, v = .slice so l.length pc ∧ l.length ≤ pc ∧ FRow W so l ∧ (∀ q ∈ l, q.1.length ≤ maxLen ∧ q.2.length ≤ maxLen) ∧ totF l + 1 ≤ Rows.uptoBulk y.1 ∧
      ((∀ x ∈ y.1.weights Tryz.prog 25, x ≤ reachBytes) → l.length * 32 ≤ reachBytes ∧ ∀ q ∈ l, q.1.length ≤ reachBytes ∧ q.2.length ≤ reachBytes) := by
  obtain ⟨d, p⟩ := y
  rcases Deep.open_slice Tryz.underlying25 h with ⟨hcs, hx⟩ | ⟨a, len0, cap0, m, n, D, Pl, hcs, _, hl, hm, hmm, hx, hc⟩
  · simp only [List.cons.injEq, and_true] at hcs
    subst hcs
    simp only [Prod.mk.injEq] at hx
    obtain ⟨rfl, _⟩ := hx
    exact ⟨none, [], 0, rfl, Nat.le_refl _, .inl rfl, by simp, by simp [totF, Rows.uptoBulk], fun _ => by simp⟩
  · simp only [List.cons.injEq, and_true] at hcs
    subst hcs
    simp only [Prod.mk.injEq] at hx
    obtain ⟨rfl, _⟩ := hx
    dsimp only
    have hlm : len0 ≤ m := by rw [hmm]; split <;> omega
    have each : ∀ i, i < len0 → ∃ q : Fl, (∀ j, j < 2 → W.cell? (a.add (i * 2 + j)) = [Value.string (str q.1), .string (str q.2)][j]?) ∧ (q.1.length ≤ maxLen ∧ q.2.length ≤ maxLen) ∧ q.1.length + q.2.length + 3 ≤ Rows.uptoBulk (D i) ∧ q.1.length ∈ (D i).weights Tryz.prog 78 ∧ q.2.length ∈ (D i).weights Tryz.prog 78 := fun i hi => by
      obtain ⟨cs', h1, h2⟩ := hc i (by omega)
      rw [cellsPair] at h1
      obtain ⟨_, hlen, hcell⟩ := World.cells?_some h1
      obtain ⟨q, rfl, hok, hbk, hw1, hw2⟩ := open_pair hlen h2
      refine ⟨q, fun j hj => ?_, hok, hbk, hw1, hw2⟩
      rw [← Deep.add_add]
      exact hcell j hj
    have hinh : Inhabited Fl := ⟨([], [])⟩
    obtain ⟨f, hfi⟩ := Deep.choose_lt each
    refine ⟨some a, (List.range len0).map f, cap0, by simp, by simpa using hl, ?_, ?_, ?_, ?_⟩
    · by_cases h0 : len0 = 0
      · exact .inl (by rw [h0]; rfl)
      · have h00 := (hfi 0 (by omega)).1 0 (by omega)
        obtain ⟨b, off, q⟩ := a
        have hq : q = none := by
          have : W.cell? ((⟨b, off, q⟩ : Addr).add 0) = some _ := h00.trans (by rfl)
          simpa [Addr.add] using World.cell?_spot this
        subst hq
        refine .inr ⟨b, off, rfl, fun i q hiq => ?_⟩
        rw [List.getElem?_map] at hiq
        obtain ⟨i', hi', rfl⟩ := Option.map_eq_some_iff.1 hiq
        obtain ⟨hil, e⟩ := List.getElem?_eq_some_iff.1 hi'
        rw [List.length_range] at hil
        rw [List.getElem_range] at e
        subst e
        have g0 := (hfi i hil).1 0 (by omega)
        have g1 := (hfi i hil).1 1 (by omega)
        rw [Go.WideShapes.add_plain] at g0 g1
        rw [Nat.mul_comm] at g0 g1
        exact ⟨g0, g1⟩
    · intro q hq
      obtain ⟨i, hi, rfl⟩ := List.mem_map.1 hq
      exact (hfi i (List.mem_range.1 hi)).2.1
    · have := bulk_totF (H := H) f D len0 (fun r hr => (hfi r hr).2.2.1)
      simp only [Rows.uptoBulk]
      omega
    · intro hw
      simp only [DataW.weights, Tryz.underlying25] at hw
      refine ⟨?_, fun q hq => ?_⟩
      · have := hw _ (List.mem_cons_self ..)
        rw [bytesPair] at this
        simp only [List.length_map, List.length_range] at this ⊢
        omega
      · obtain ⟨i, hi, rfl⟩ := List.mem_map.1 hq
        have hil := List.mem_range.1 hi
        have hm : D i ∈ (List.range len0).map D := List.mem_map.2 ⟨i, hi, rfl⟩
        refine ⟨hw _ (List.mem_cons_of_mem _ (List.mem_append_left _ (weightsAll_mem hm _ (hfi i hil).2.2.2.1))), hw _ (List.mem_cons_of_mem _ (List.mem_append_left _ (weightsAll_mem hm _ (hfi i hil).2.2.2.2)))⟩
section
variable {H : Type} {enc : TypeId × Value → H} {P : Program} {w : World} {base : Nat} {sp : Nat → Bool} {hd : Bool}
theorem four_ofA {α : Type} {cs : Array α} (h : cs.size = 4) : ∃ a b c d, cs = #[a, b, c, d] := by
  obtain ⟨l⟩ := cs
  match l, h with
  | [a, b, c, d], _ => exact ⟨a, b, c, d, rfl⟩
theorem three_ofA {α : Type} {cs : Array α} (h : cs.size = 3) : ∃ a b c, cs = #[a, b, c] := by
  obtain ⟨l⟩ := cs
  match l, h with
  | [a, b, c], _ => exact ⟨a, b, c, rfl⟩
theorem open_agg4 {r : Reach} {b0 : Nat} {t t0 t1 t2 t3 : TypeId} {f0 f1 f2 f3 : Field} {v : Value} {d : DataW H} {p : List MemPlace} (hs : P.underlying t = some (.struct #[f0, f1, f2, f3])) (hC : P.cellsOf t = 4)
    (e0 : f0.type = t0 ∧ f0.offset = 0 ∧ P.cellsOf t0 = 1) (e1 : f1.type = t1 ∧ f1.offset = 1 ∧ P.cellsOf t1 = 1) (e2 : f2.type = t2 ∧ f2.offset = 2 ∧ P.cellsOf t2 = 1) (e3 : f3.type = t3 ∧ f3.offset = 3 ∧ P.cellsOf t3 = 1)
    (hv : Value.okWide P w r b0 t v) (h : DataW.Trod enc P w base sp hd t v d p) :
    ∃ (v0 v1 v2 v3 : Value) (y0 y1 y2 y3 : DataW H × List MemPlace) (n : Nat), v = .agg #[v0, v1, v2, v3] ∧ d = .agg [y0.1, y1.1, y2.1, y3.1] ∧ (∀ x ∈ p, x.block < w.heap.size) ∧
      DataW.trod enc P w base sp hd n t0 [v0] = some y0 ∧ DataW.trod enc P w base sp hd n t1 [v1] = some y1 ∧ DataW.trod enc P w base sp hd n t2 [v2] = some y2 ∧ DataW.trod enc P w base sp hd n t3 [v3] = some y3 := by
  obtain ⟨cs, rfl, hsz, hrow⟩ : ∃ cs, v = .agg cs ∧ cs.size = P.cellsOf t ∧ Row.okWide P w r b0 t cs := by
    unfold Value.okWide at hv
    rw [hs] at hv
    exact hv
  obtain ⟨c0, c1, c2, c3, rfl⟩ := four_ofA (hsz.trans hC)
  obtain ⟨fuel, hf⟩ := h
  have hlt := DataW.trod_lt fuel _ _ _ hf
  obtain ⟨ys, n, _, hx, _, hlen, hfs⟩ := DataW.trod_struct hs hf
  obtain ⟨rfl, a0, k0⟩ := e0
  obtain ⟨rfl, a1, k1⟩ := e1
  obtain ⟨rfl, a2, k2⟩ := e2
  obtain ⟨rfl, a3, k3⟩ := e3
  match ys, hlen with
  | [y0, y1, y2, y3], _ =>
    simp only [Prod.mk.injEq] at hx
    exact ⟨c0, c1, c2, c3, y0, y1, y2, y3, n, rfl, by simpa using hx.1, hlt, by simpa [Value.cells, a0, k0] using hfs 0 f0 rfl, by simpa [Value.cells, a1, k1] using hfs 1 f1 rfl, by simpa [Value.cells, a2, k2] using hfs 2 f2 rfl,
      by simpa [Value.cells, a3, k3] using hfs 3 f3 rfl⟩
theorem open_agg3 {r : Reach} {b0 : Nat} {t t0 t1 t2 : TypeId} {f0 f1 f2 : Field} {v : Value} {d : DataW H} {p : List MemPlace} (hs : P.underlying t = some (.struct #[f0, f1, f2])) (hC : P.cellsOf t = 3)
    (e0 : f0.type = t0 ∧ f0.offset = 0 ∧ P.cellsOf t0 = 1) (e1 : f1.type = t1 ∧ f1.offset = 1 ∧ P.cellsOf t1 = 1) (e2 : f2.type = t2 ∧ f2.offset = 2 ∧ P.cellsOf t2 = 1)
    (hv : Value.okWide P w r b0 t v) (h : DataW.Trod enc P w base sp hd t v d p) :
    ∃ (v0 v1 v2 : Value) (y0 y1 y2 : DataW H × List MemPlace) (n : Nat), v = .agg #[v0, v1, v2] ∧ d = .agg [y0.1, y1.1, y2.1] ∧ (∀ x ∈ p, x.block < w.heap.size) ∧
      DataW.trod enc P w base sp hd n t0 [v0] = some y0 ∧ DataW.trod enc P w base sp hd n t1 [v1] = some y1 ∧ DataW.trod enc P w base sp hd n t2 [v2] = some y2 := by
  obtain ⟨cs, rfl, hsz, hrow⟩ : ∃ cs, v = .agg cs ∧ cs.size = P.cellsOf t ∧ Row.okWide P w r b0 t cs := by
    unfold Value.okWide at hv
    rw [hs] at hv
    exact hv
  obtain ⟨c0, c1, c2, rfl⟩ := three_ofA (hsz.trans hC)
  obtain ⟨fuel, hf⟩ := h
  have hlt := DataW.trod_lt fuel _ _ _ hf
  obtain ⟨ys, n, _, hx, _, hlen, hfs⟩ := DataW.trod_struct hs hf
  obtain ⟨rfl, a0, k0⟩ := e0
  obtain ⟨rfl, a1, k1⟩ := e1
  obtain ⟨rfl, a2, k2⟩ := e2
  match ys, hlen with
  | [y0, y1, y2], _ =>
    simp only [Prod.mk.injEq] at hx
    exact ⟨c0, c1, c2, y0, y1, y2, n, rfl, by simpa using hx.1, hlt, by simpa [Value.cells, a0, k0] using hfs 0 f0 rfl, by simpa [Value.cells, a1, k1] using hfs 1 f1 rfl, by simpa [Value.cells, a2, k2] using hfs 2 f2 rfl⟩
end
set_option maxRecDepth 100000 in
theorem open_req {H : Type} {enc : TypeId × Value → H} {W : World} {base : Nat} {v : Value} {d : DataW H} {p : List MemPlace} (hval : Value.okWide Tryz.prog W .any base 27 v) (h : DataW.Trod enc Tryz.prog W 0 (fun _ => true) true 27 v d p) :
    ∃ m t b so l pc, v = .agg #[.string (str m), .string (str t), .slice so l.length pc, .string (str b)] ∧ (∀ x ∈ p, x.block < W.heap.size) ∧ l.length ≤ pc ∧ FRow W so l ∧ (∀ q ∈ l, q.1.length ≤ maxLen ∧ q.2.length ≤ maxLen) ∧ (m.length ≤ maxLen ∧ t.length ≤ maxLen ∧ b.length ≤ maxLen) ∧ m.length + t.length + b.length + totF l ≤ Rows.uptoBulk d ∧
      ((∀ x ∈ d.weights Tryz.prog 27, x ≤ reachBytes) → l.length * 32 ≤ reachBytes ∧ (∀ q ∈ l, q.1.length ≤ reachBytes ∧ q.2.length ≤ reachBytes) ∧ m.length ≤ reachBytes ∧ t.length ≤ reachBytes ∧ b.length ≤ reachBytes) := by
  obtain ⟨v0, v1, v2, v3, y0, y1, y2, y3, fuel, rfl, rfl, lt, h0, h1, h2, h3⟩ := open_agg4 (t0 := 9) (t1 := 9) (t2 := 25) (t3 := 9) Tryz.underlying27 (by kernel_rfl) ⟨rfl, rfl, by kernel_rfl⟩ ⟨rfl, rfl, by kernel_rfl⟩ ⟨rfl, rfl, by kernel_rfl⟩ ⟨rfl, rfl, by kernel_rfl⟩ hval h
  obtain ⟨s0, e0, x0, z0⟩ := DataW.trod_string Tryz.underlying9 h0
  obtain ⟨s1, e1, x1, z1⟩ := DataW.trod_string Tryz.underlying9 h1
  obtain ⟨so, l, pc, rfl, hpc, hrow, hmx, htot, hwt⟩ := field_fs h2
  obtain ⟨s3, e3, x3, z3⟩ := DataW.trod_string Tryz.underlying9 h3
  simp only [List.cons.injEq, and_true] at e0 e1 e3
  subst e0 e1 e3
  have k0 := data_size s0
  have k1 := data_size s1
  have k3 := data_size s3
  refine ⟨s0.data.toList, s1.data.toList, s3.data.toList, so, l, pc, by rw [str_list, str_list, str_list], lt, hpc, hrow, hmx, ⟨by omega, by omega, by omega⟩, ?_, ?_⟩
  · rw [x0, x1, x3]
    simp only [Rows.uptoBulk, Rows.uptoBulkAll]
    omega
  · intro hw
    rw [x0, x1, x3] at hw
    simp only [DataW.weights, Tryz.underlying27, DataW.weightsEach, List.map_cons, List.map_nil] at hw
    have hh := hwt (fun x hx => hw x (by simp [hx]))
    refine ⟨hh.1, hh.2, hw _ (by simp), hw _ (by simp), hw _ (by simp)⟩
set_option maxRecDepth 100000 in
theorem open_resp {H : Type} {enc : TypeId × Value → H} {W : World} {base : Nat} {v : Value} {d : DataW H} {p : List MemPlace} (hval : Value.okWide Tryz.prog W .any base 39 v) (h : DataW.Trod enc Tryz.prog W 0 (fun _ => true) true 39 v d p) :
    ∃ n b so l pc, v = .agg #[.int .i64 n, .slice so l.length pc, .string (str b)] ∧ (∀ x ∈ p, x.block < W.heap.size) ∧ l.length ≤ pc ∧ FRow W so l ∧ (∀ q ∈ l, q.1.length ≤ maxLen ∧ q.2.length ≤ maxLen) ∧ (-9223372036854775808 ≤ n ∧ n ≤ 9223372036854775807 ∧ b.length ≤ maxLen) ∧ b.length + totF l ≤ Rows.uptoBulk d ∧
      ((∀ x ∈ d.weights Tryz.prog 39, x ≤ reachBytes) → l.length * 32 ≤ reachBytes ∧ (∀ q ∈ l, q.1.length ≤ reachBytes ∧ q.2.length ≤ reachBytes) ∧ b.length ≤ reachBytes) := by
  obtain ⟨v0, v1, v2, y0, y1, y2, fuel, rfl, rfl, lt, h0, h1, h2⟩ := open_agg3 (t0 := 3) (t1 := 25) (t2 := 9) Tryz.underlying39 (by kernel_rfl) ⟨rfl, rfl, by kernel_rfl⟩ ⟨rfl, rfl, by kernel_rfl⟩ ⟨rfl, rfl, by kernel_rfl⟩ hval h
  obtain ⟨i0, e0, x0, w0⟩ := DataW.trod_int Tryz.underlying3 h0
  obtain ⟨so, l, pc, rfl, hpc, hrow, hmx, htot, hwt⟩ := field_fs h1
  obtain ⟨s2, e2, x2, z2⟩ := DataW.trod_string Tryz.underlying9 h2
  simp only [List.cons.injEq, and_true] at e0 e2
  subst e0 e2
  have k2 := data_size s2
  refine ⟨i0, s2.data.toList, so, l, pc, by rw [str_list], lt, hpc, hrow, hmx, ⟨(bounds_i64 w0).1, (bounds_i64 w0).2, by omega⟩, ?_, ?_⟩
  · rw [x0, x2]
    simp only [Rows.uptoBulk, Rows.uptoBulkAll]
    omega
  · intro hw
    rw [x0, x2] at hw
    simp only [DataW.weights, Tryz.underlying39, DataW.weightsEach, List.map_cons, List.map_nil] at hw
    have hh := hwt (fun x hx => hw x (by simp [hx]))
    refine ⟨hh.1, hh.2, hw _ (by simp)⟩
end Go.Proofs.YtaenccjlokiejaaGreatDoor
