/- Arguments of type Json, opened: no text and no row is longer than memory. -/
import Derived.Test.YtiaedngnofablaaGreatDoorOpenJson
import Derived.Test.YtiaedngnofablaaGreatDoorJTight
import Derived.Test.YtiaedngnofablaaGreatDoorOpen3
import Derived.Test.YtiaedngnofablaaGreatDoorKPList
import Derived.Deep.Slices
namespace Go.Proofs.YtiaedngnofablaaGreatDoor
open Go.ChangeShapes Go.WideShapes Go.ChangeAt Go.RowKit

theorem bulk_mem_t {H : Type} {d : DataW H} : ∀ {l : List (DataW H)}, d ∈ l → Rows.uptoBulk d ≤ Rows.uptoBulkAll l
  | x :: l, h => by
    rw [Rows.uptoBulkAll]
    rcases List.mem_cons.1 h with rfl | h
    · omega
    · have := bulk_mem_t h
      omega
theorem weightsAll_mem_t {H : Type} {P : Program} {e : TypeId} {d : DataW H} : ∀ {l : List (DataW H)}, d ∈ l → ∀ n ∈ d.weights P e, n ∈ DataW.weightsAll P e l
  | x :: l, h, n, hn => by
    rw [DataW.weightsAll, List.mem_append]
    rcases List.mem_cons.1 h with rfl | h
    · exact .inl hn
    · exact .inr (weightsAll_mem_t h n hn)
theorem four_of_t {α : Type} {l : List α} (h : l.length = 4) : ∃ a b c d, l = [a, b, c, d] := by
  match l, h with
  | [a, b, c, d], _ => exact ⟨a, b, c, d, rfl⟩
theorem cellsJ_t : Tryz.prog.cellsOf 25 = 4 := by kernel_rfl
theorem cellsS_t : Tryz.prog.cellsOf 9 = 1 := by kernel_rfl
theorem bytesJ_t : Tryz.prog.bytesOf 25 = 72 := by kernel_rfl
theorem bytesS_t : Tryz.prog.bytesOf 9 = 16 := by kernel_rfl
/-- A row of texts, opened. -/
theorem open_names_t {H : Type} {enc : TypeId × Value → H} {W : World} {n : Nat} {cs : List Value} {x : DataW H × List MemPlace} (h : DataW.trod enc Tryz.prog W 0 (fun _ => true) true n 22 cs = some x) :
    ∃ ao ln cn ns, cs = [.slice ao ln cn] ∧ NSee W W.heap.size ao ln ns ∧ (∀ m ∈ ns, ∀ c ∈ m, c < 256) ∧ ((∀ y ∈ x.1.weights Tryz.prog 22, y ≤ reachBytes) → ns.length ≤ reachBytes ∧ ∀ m ∈ ns, m.length ≤ reachBytes) := by
  rcases Deep.open_slice1 Tryz.underlying22 cellsS_t h with ⟨rfl, hx⟩ | ⟨a, len, cap, m, k, V, D, Pl, rfl, _, hl, hm, hmm, hx, hc⟩
  · exact ⟨none, 0, 0, [], rfl, ⟨rfl, .inl rfl⟩, (fun m hm => by cases hm), fun _ => ⟨by simp [reachBytes], fun m hm => by cases hm⟩⟩
  · have hlm : len ≤ m := by rw [hmm]; split <;> omega
    have each : ∀ i, i < len → ∃ s : ByteArray, W.cell? (a.add i) = some (.string s) ∧ D i = .lit (.string s.data.toList) := fun i hi => by
      obtain ⟨h1, h2⟩ := hc i (by omega)
      obtain ⟨s, e1, e2, _⟩ := DataW.trod_string Tryz.underlying9 h2
      injection e1 with e1
      rw [e1] at h1
      exact ⟨s, h1, congrArg Prod.fst e2⟩
    have hinh : Inhabited ByteArray := ⟨⟨#[]⟩⟩
    obtain ⟨f, hfi⟩ := Deep.choose_lt each
    refine ⟨some a, len, cap, (List.range len).map (fun i => sbytes (f i)), rfl, ⟨by simp, ?_⟩, ?_, ?_⟩
    · by_cases h0 : len = 0
      · exact .inl (by rw [h0]; rfl)
      · obtain ⟨b, off, q⟩ := a
        have h00 := (hfi 0 (by omega)).1
        have hq : q = none := by simpa [Addr.add] using World.cell?_spot h00
        subst hq
        have hlt := World.block_lt_of_cell? W _ h00
        refine .inr ⟨b, off, rfl, by rw [Go.WideShapes.add_plain] at hlt; exact hlt, fun i nm hi => ?_⟩
        rw [List.getElem?_map] at hi
        obtain ⟨i', hi', rfl⟩ := Option.map_eq_some_iff.1 hi
        obtain ⟨hil, e⟩ := List.getElem?_eq_some_iff.1 hi'
        rw [List.length_range] at hil
        rw [List.getElem_range] at e
        subst e
        have g0 := (hfi i hil).1
        rw [Go.WideShapes.add_plain] at g0
        rw [bstr_sbytes]
        exact g0
    · intro m hm
      obtain ⟨i, _, rfl⟩ := List.mem_map.1 hm
      exact sbytes_lt _
    · intro hw
      rw [hx] at hw
      simp only [DataW.weights, Tryz.underlying22] at hw
      refine ⟨?_, fun q hq => ?_⟩
      · have := hw _ (List.mem_cons_self ..)
        rw [bytesS_t] at this
        simp only [List.length_map, List.length_range] at this ⊢
        omega
      · obtain ⟨i, hi, rfl⟩ := List.mem_map.1 hq
        have hil := List.mem_range.1 hi
        refine hw _ (List.mem_cons_of_mem _ ?_)
        refine List.mem_append.2 (.inl (weightsAll_mem_t (d := D i) (List.mem_map.2 ⟨i, hi, rfl⟩) _ ?_))
        rw [(hfi i hil).2]
        simp [DataW.weights, sbytes]
set_option maxHeartbeats 1000000 in
set_option maxRecDepth 100000 in
theorem open_json_t {H : Type} {enc : TypeId × Value → H} {W : World} : ∀ (N : Nat) (n : Nat) (cs : List Value) (x : DataW H × List MemPlace), Rows.uptoBulk x.1 ≤ N → cs.length = 4 → DataW.trod enc Tryz.prog W 0 (fun _ => true) true n 25 cs = some x →
    ∃ (j : J) (v : JV), cs = v.cells ∧ JSee W W.heap.size j v ∧ ((∀ y ∈ x.1.weights Tryz.prog 25, y ≤ reachBytes) → JTight j)
  | 0, n, cs, x, hN, _, _ => by have := bulk_one x.1; omega
  | N + 1, n, cs, x, hN, hl, h => by
    obtain ⟨ys, k, _, hx, _, hlen, hfs⟩ := DataW.trod_struct Tryz.underlying25 h
    obtain ⟨v0, v1, v2, v3, rfl⟩ := four_of_t hl
    obtain ⟨y0, y1, y2, y3, rfl⟩ := four_of_t (l := ys) (by rw [hlen]; rfl)
    have c3 : Tryz.prog.cellsOf 3 = 1 := by kernel_rfl
    have c22 : Tryz.prog.cellsOf 22 = 1 := by kernel_rfl
    have c23 : Tryz.prog.cellsOf 23 = 1 := by kernel_rfl
    have g0 := hfs 0 _ rfl
    have g1 := hfs 1 _ rfl
    have g2 := hfs 2 _ rfl
    have g3 := hfs 3 _ rfl
    simp [c3, cellsS_t, c22, c23] at g0 g1 g2 g3
    obtain ⟨i0, e0, x0, _⟩ := DataW.trod_int Tryz.underlying3 g0
    obtain ⟨s1, e1, x1, _⟩ := DataW.trod_string Tryz.underlying9 g1
    obtain ⟨an, ln, cn, ns, e2, hn, hnb, hnw⟩ := open_names_t g2
    simp only [List.cons.injEq, and_true] at e0 e1 e2
    subst e0
    subst e1
    subst e2
    have hst : sbytes s1 = sbytes s1 := rfl
    have fin : ∀ (ai : Option Addr) (li ci : Nat) (vs : List JV) (js : List J), v3 = .slice ai li ci → ISee W W.heap.size ai li vs → JSees W W.heap.size js vs → ((∀ y ∈ x.1.weights Tryz.prog 25, y ≤ reachBytes) → js.length ≤ reachBytes ∧ JTights js) →
        ∃ (j : J) (v : JV), [.int .i64 i0, .string s1, .slice an ln cn, v3] = v.cells ∧ JSee W W.heap.size j v ∧ ((∀ y ∈ x.1.weights Tryz.prog 25, y ≤ reachBytes) → JTight j) := fun ai li ci vs js hv hi hj hw => by
      subst hv
      refine ⟨.mk i0 (sbytes s1) ns js, ⟨i0, s1, an, ln, cn, ai, li, ci⟩, rfl, ?_, fun hall => ?_⟩
      · rw [JSee_mk]
        exact ⟨rfl, (bstr_sbytes s1).symm, sbytes_lt s1, hnb, hn, vs, hi, hj⟩
      · rw [JTight_mk]
        obtain ⟨w1, w2⟩ := hw hall
        rw [hx] at hall
        simp only [List.map_cons, List.map_nil, DataW.weights, Tryz.underlying25, DataW.weightsEach] at hall
        have hn2 := hnw (fun y hy => hall y (by simp [hy]))
        have hs1 : (sbytes s1).length ≤ reachBytes := hall _ (by rw [x1]; simp [DataW.weights, sbytes])
        have r : reachBytes ≤ 140737488355328 := by unfold reachBytes; omega
        exact ⟨by omega, fun m hm => by have := hn2.2 m hm; omega, by omega, by omega, w2⟩
    rcases Deep.open_slice Tryz.underlying23 g3 with ⟨e3, hx3⟩ | ⟨a, len, cap, m, k3, D, Pl, e3, _, hl3, hm3, hmm, hx3, hc⟩
    · simp only [List.cons.injEq, and_true] at e3
      refine fin none 0 0 [] [] e3 ⟨rfl, .inl rfl⟩ (by rw [JSees_nil]) (fun _ => ⟨by simp [reachBytes], by rw [JTights_nil]; trivial⟩)
    · simp only [List.cons.injEq, and_true] at e3
      have hlm : len ≤ m := by rw [hmm]; split <;> omega
      have hbulk : ∀ i, i < len → Rows.uptoBulk (D i) ≤ N := fun i hi => by
        have h1 : Rows.uptoBulk (D i) ≤ Rows.uptoBulkAll ((List.range len).map D) := bulk_mem_t (List.mem_map.2 ⟨i, List.mem_range.2 hi, rfl⟩)
        rw [hx] at hN
        simp only [List.map_cons, List.map_nil, Rows.uptoBulk, Rows.uptoBulkAll, hx3] at hN
        omega
      have each : ∀ i, i < len → ∃ q : J × JV, (∀ j, j < 4 → W.cell? (a.add (i * 4 + j)) = q.2.cells[j]?) ∧ JSee W W.heap.size q.1 q.2 ∧ ((∀ y ∈ (D i).weights Tryz.prog 25, y ≤ reachBytes) → JTight q.1) := fun i hi => by
        obtain ⟨cs', h1, h2⟩ := hc i (by omega)
        rw [cellsJ_t] at h1
        obtain ⟨_, hlen4, hcell⟩ := World.cells?_some h1
        obtain ⟨j, v, rfl, hj, hf⟩ := open_json_t N k3 cs' (D i, Pl i) (hbulk i hi) hlen4 h2
        refine ⟨(j, v), fun j hj => ?_, hj, hf⟩
        rw [← Deep.add_add]
        exact hcell j hj
      have hinh : Inhabited (J × JV) := ⟨(J.zero, JV.zero)⟩
      obtain ⟨f, hfi⟩ := Deep.choose_lt each
      refine fin (some a) len cap ((List.range len).map (fun i => (f i).2)) ((List.range len).map (fun i => (f i).1)) e3 ⟨by simp, ?_⟩ ?_ (fun hall => ?_)
      · by_cases h0 : len = 0
        · exact .inl (by rw [h0]; rfl)
        · obtain ⟨b, off, q⟩ := a
          have h00 : W.cell? ((⟨b, off, q⟩ : Addr).add (0 * 4 + 0)) = some (.int .i64 (f 0).2.k) := (hfi 0 (by omega)).1 0 (by omega)
          have hq : q = none := by simpa [Addr.add] using World.cell?_spot h00
          subst hq
          have hlt := World.block_lt_of_cell? W _ h00
          refine .inr ⟨b, off, rfl, by rw [Go.WideShapes.add_plain] at hlt; exact hlt, fun i v hi j u hu => ?_⟩
          rw [List.getElem?_map] at hi
          obtain ⟨i', hi', rfl⟩ := Option.map_eq_some_iff.1 hi
          obtain ⟨hil, e⟩ := List.getElem?_eq_some_iff.1 hi'
          rw [List.length_range] at hil
          rw [List.getElem_range] at e
          subst e
          have hj4 : j < 4 := (List.getElem?_eq_some_iff.1 hu).1
          have g0 := (hfi i hil).1 j hj4
          rw [Go.WideShapes.add_plain] at g0
          rw [Nat.mul_comm 4 i, g0]
          exact hu
      · have hall : ∀ (l : List Nat), (∀ i ∈ l, i < len) → JSees W W.heap.size (l.map (fun i => (f i).1)) (l.map (fun i => (f i).2)) := fun l => by
          induction l with
          | nil => intro _; rw [List.map_nil, List.map_nil, JSees_nil]
          | cons i l ih =>
            intro hl
            rw [List.map_cons, List.map_cons, JSees_cons]
            exact ⟨_, _, rfl, (hfi i (hl i (by simp))).2.1, ih (fun k hk => hl k (by simp [hk]))⟩
        exact hall _ (fun i hi => List.mem_range.1 hi)
      · rw [hx] at hall
        simp only [List.map_cons, List.map_nil, DataW.weights, Tryz.underlying25, DataW.weightsEach, hx3, Tryz.underlying23] at hall
        refine ⟨?_, ?_⟩
        · have := hall ((((List.range len).map D).length + ((List.range (m - len)).map fun j => D (len + j)).length) * Tryz.prog.bytesOf 25) (by simp)
          rw [bytesJ_t] at this
          simp only [List.length_map, List.length_range] at this ⊢
          omega
        · have hfit : ∀ (l : List Nat), (∀ i ∈ l, i < len) → JTights (l.map (fun i => (f i).1)) := fun l => by
            induction l with
            | nil => intro _; rw [List.map_nil, JTights_nil]; trivial
            | cons i l ih =>
              intro hl
              rw [List.map_cons, JTights_cons]
              refine ⟨(hfi i (hl i (by simp))).2.2 (fun y hy => ?_), ih (fun k hk => hl k (by simp [hk]))⟩
              have hm : y ∈ DataW.weightsAll Tryz.prog 25 ((List.range len).map D) := weightsAll_mem_t (List.mem_map.2 ⟨i, List.mem_range.2 (hl i (by simp)), rfl⟩) y hy
              exact hall y (by simp [hm])
          exact hfit _ (fun i hi => List.mem_range.1 hi)
set_option maxRecDepth 100000 in
/-- A Json that came in as an argument. -/
theorem open_jarg_t {H : Type} {enc : TypeId × Value → H} {W : World} {base : Nat} {v : Value} {d : DataW H} {p : List MemPlace} (hval : Value.okWide Tryz.prog W .any base 25 v)
    (h : DataW.Trod enc Tryz.prog W 0 (fun _ => true) true 25 v d p) :
    ∃ (j : J) (x : JV), v = x.val ∧ JSee W W.heap.size j x ∧ (∀ y ∈ p, y.block < W.heap.size) ∧ ((∀ y ∈ d.weights Tryz.prog 25, y ≤ reachBytes) → JTight j) := by
  obtain ⟨fuel, hf⟩ := h
  have lt0 : ∀ x ∈ p, x.block < W.heap.size := DataW.trod_lt fuel _ _ _ hf
  obtain ⟨cs, rfl, hsz⟩ := okWide_struct Tryz.underlying25 hval
  obtain ⟨j, x, e, hj, hw⟩ := open_json_t _ fuel cs.toList (d, p) (Nat.le_refl _) (by rw [Array.length_toList, hsz]; exact cellsJ_t) hf
  refine ⟨j, x, ?_, hj, lt0, hw⟩
  show Value.agg cs = .agg x.cells.toArray
  rw [← e]
end Go.Proofs.YtiaedngnofablaaGreatDoor
