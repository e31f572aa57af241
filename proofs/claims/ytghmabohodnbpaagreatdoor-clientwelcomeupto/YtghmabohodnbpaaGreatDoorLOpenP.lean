/- What a reading of arguments gives of a list of pairs: its texts in memory, within the bulk that is read, within the reach. -/
import Derived.Test.YtghmabohodnbpaaGreatDoorOpen3
import Derived.Test.YtghmabohodnbpaaGreatDoorXCut
import Derived.Test.YtghmabohodnbpaaGreatDoorXMath
import Derived.Deep.Slices
namespace Go.Proofs.YtghmabohodnbpaaGreatDoor
open Go.ChangeShapes Go.WideShapes Go.ChangeAt Go.RowKit

theorem bulk_tot2 {H : Type} (f : Nat → Two) (g : Nat → DataW H) (len : Nat) (h : ∀ r, r < len → (f r).1.length + (f r).2.length + 3 ≤ Rows.uptoBulk (g r)) : tot2 ((List.range len).map f) ≤ Rows.uptoBulkAll ((List.range len).map g) := by
  induction len with
  | zero => simp [tot2, Rows.uptoBulkAll]
  | succ k ih =>
    rw [List.range_succ, List.map_append, List.map_append, bulkAll_append]
    have h1 := ih (fun r hr => h r (by omega))
    have h2 := h k (by omega)
    have h3 : tot2 ((List.range k).map f ++ [k].map f) = tot2 ((List.range k).map f) + ((f k).1.length + (f k).2.length + 3) := by simp [tot2]
    rw [h3]
    simp only [List.map_cons, List.map_nil, Rows.uptoBulkAll]
    omega
theorem cellsPair : Tryz.prog.cellsOf 58 = 2 := by kernel_rfl
theorem bytesPair : Tryz.prog.bytesOf 58 = 32 := by kernel_rfl
theorem two_of {α : Type} {l : List α} (h : l.length = 2) : ∃ a b, l = [a, b] := by
  match l, h with
  | [a, b], _ => exact ⟨a, b, rfl⟩
theorem weightsAll_mem {H : Type} {P : Program} {e : TypeId} {d : DataW H} : ∀ {l : List (DataW H)}, d ∈ l → ∀ n ∈ d.weights P e, n ∈ DataW.weightsAll P e l
  | x :: l, h, n, hn => by
    rw [DataW.weightsAll, List.mem_append]
    rcases List.mem_cons.1 h with rfl | h
    · exact .inl hn
    · exact .inr (weightsAll_mem h n hn)
set_option maxRecDepth 100000 in
theorem open_pair {H : Type} {enc : TypeId × Value → H} {W : World} {n : Nat} {cs : List Value} {x : DataW H × List MemPlace} (hl : cs.length = 2)
    (h : DataW.trod enc Tryz.prog W 0 (fun _ => true) true n 58 cs = some x) : ∃ q : Two, cs = [.string (bstr q.1), .string (bstr q.2)] ∧ bytes2 q ∧ q.1.length + q.2.length + 3 ≤ Rows.uptoBulk x.1 ∧ q.1.length ∈ x.1.weights Tryz.prog 58 ∧ q.2.length ∈ x.1.weights Tryz.prog 58 := by
  obtain ⟨ys, k, _, hx, _, hlen, hfs⟩ := DataW.trod_struct Tryz.underlying58 h
  obtain ⟨v0, v1, rfl⟩ := two_of hl
  obtain ⟨y0, y1, rfl⟩ := two_of (l := ys) (by rw [hlen]; rfl)
  have c9 : Tryz.prog.cellsOf 9 = 1 := by kernel_rfl
  have g0 := hfs 0 _ rfl
  have g1 := hfs 1 _ rfl
  simp [c9] at g0 g1
  obtain ⟨s0, e0, x0, _⟩ := DataW.trod_string Tryz.underlying9 g0
  obtain ⟨s1, e1, x1, _⟩ := DataW.trod_string Tryz.underlying9 g1
  simp only [List.cons.injEq, and_true] at e0 e1
  subst e0
  subst e1
  have l0 : s0.data.toList.length = (sbytes s0).length := by simp [sbytes]
  have l1 : s1.data.toList.length = (sbytes s1).length := by simp [sbytes]
  refine ⟨(sbytes s0, sbytes s1), by rw [bstr_sbytes, bstr_sbytes], ⟨sbytes_lt s0, sbytes_lt s1⟩, ?_, ?_, ?_⟩
  · rw [hx, x0, x1]
    simp only [List.map_cons, List.map_nil, Rows.uptoBulk, Rows.uptoBulkAll]
    omega
  · rw [hx, x0, x1]
    simp only [List.map_cons, List.map_nil, DataW.weights, Tryz.underlying58, DataW.weightsEach]
    simp [l0]
  · rw [hx, x0, x1]
    simp only [List.map_cons, List.map_nil, DataW.weights, Tryz.underlying58, DataW.weightsEach]
    simp [l1]
set_option maxRecDepth 100000 in
theorem open_pairs {H : Type} {enc : TypeId × Value → H} {W : World} {base : Nat} {v : Value} {d : DataW H} {p : List MemPlace} (hval : Value.okWide Tryz.prog W .any base 42 v)
    (h : DataW.Trod enc Tryz.prog W 0 (fun _ => true) true 42 v d p) :
    ∃ so l pc, v = .slice so l.length pc ∧ l.length ≤ pc ∧ PRow W so l ∧ (∀ q ∈ l, bytes2 q) ∧ (∀ x ∈ p, x.block < W.heap.size) ∧ tot2 l + 1 ≤ Rows.uptoBulk d ∧
      ((∀ x ∈ d.weights Tryz.prog 42, x ≤ reachBytes) → l.length * 32 ≤ reachBytes ∧ ∀ q ∈ l, q.1.length ≤ reachBytes ∧ q.2.length ≤ reachBytes) := by
  obtain ⟨a0, len0, cap0, rfl⟩ := okWide_slice Tryz.underlying42 hval
  obtain ⟨fuel, hf⟩ := h
  have lt0 : ∀ x ∈ p, x.block < W.heap.size := DataW.trod_lt fuel _ _ _ hf
  rcases Deep.open_slice Tryz.underlying42 hf with ⟨hcs, hx⟩ | ⟨a, len, cap, m, n, D, Pl, hcs, _, hl, hm, hmm, hx, hc⟩
  · simp [Value.cells] at hcs
    obtain ⟨rfl, rfl, rfl⟩ := hcs
    simp only [Prod.mk.injEq] at hx
    obtain ⟨rfl, _⟩ := hx
    exact ⟨none, [], 0, rfl, Nat.le_refl _, .inl rfl, by simp, lt0, by simp [tot2, Rows.uptoBulk], fun _ => by simp⟩
  · simp [Value.cells] at hcs
    obtain ⟨rfl, rfl, rfl⟩ := hcs
    simp only [Prod.mk.injEq] at hx
    obtain ⟨rfl, _⟩ := hx
    have hlm : len0 ≤ m := by rw [hmm]; split <;> omega
    have each : ∀ i, i < len0 → ∃ q : Two, (∀ j, j < 2 → W.cell? (a.add (i * 2 + j)) = [Value.string (bstr q.1), .string (bstr q.2)][j]?) ∧ bytes2 q ∧ q.1.length + q.2.length + 3 ≤ Rows.uptoBulk (D i) ∧ q.1.length ∈ (D i).weights Tryz.prog 58 ∧ q.2.length ∈ (D i).weights Tryz.prog 58 := fun i hi => by
      obtain ⟨cs', h1, h2⟩ := hc i (by omega)
      rw [cellsPair] at h1
      obtain ⟨_, hlen, hcell⟩ := World.cells?_some h1
      obtain ⟨q, rfl, hok, hbk, hw1, hw2⟩ := open_pair hlen h2
      refine ⟨q, fun j hj => ?_, hok, hbk, hw1, hw2⟩
      rw [← Deep.add_add]
      exact hcell j hj
    have hinh : Inhabited Two := ⟨([], [])⟩
    obtain ⟨f, hfi⟩ := Deep.choose_lt each
    refine ⟨some a, (List.range len0).map f, cap0, by simp, by simpa using hl, ?_, ?_, lt0, ?_, ?_⟩
    · by_cases h0 : len0 = 0
      · exact .inl (by rw [h0]; rfl)
      · have h00 := (hfi 0 (by omega)).1 0 (by omega)
        obtain ⟨b, off, q⟩ := a
        have hq : q = none := by
          have : W.cell? ((⟨b, off, q⟩ : Addr).add 0) = some _ := h00.trans (by rfl)
          simpa [Addr.add] using World.cell?_spot this
        subst hq
        refine .inr ⟨b, off, rfl, fun i q hiq => ?_⟩
        rw [List.getElem?_map] at hiq
        obtain ⟨i', hi', rfl⟩ := Option.map_eq_some_iff.1 hiq
        obtain ⟨hil, e⟩ := List.getElem?_eq_some_iff.1 hi'
        rw [List.length_range] at hil
        rw [List.getElem_range] at e
        subst e
        have g0 := (hfi i hil).1 0 (by omega)
        have g1 := (hfi i hil).1 1 (by omega)
        rw [Go.WideShapes.add_plain] at g0 g1
        rw [Nat.mul_comm] at g0 g1
        exact ⟨g0, g1⟩
    · intro q hq
      obtain ⟨i, hi, rfl⟩ := List.mem_map.1 hq
      exact (hfi i (List.mem_range.1 hi)).2.1
    · have := bulk_tot2 (H := H) f D len0 (fun r hr => (hfi r hr).2.2.1)
      simp only [Rows.uptoBulk]
      omega
    · intro hw
      simp only [DataW.weights, Tryz.underlying42] at hw
      refine ⟨?_, fun q hq => ?_⟩
      · have := hw _ (List.mem_cons_self ..)
        rw [bytesPair] at this
        simp only [List.length_map, List.length_range] at this ⊢
        omega
      · obtain ⟨i, hi, rfl⟩ := List.mem_map.1 hq
        have hil := List.mem_range.1 hi
        have hm : D i ∈ (List.range len0).map D := List.mem_map.2 ⟨i, hi, rfl⟩
        refine ⟨hw _ (List.mem_cons_of_mem _ (List.mem_append_left _ (weightsAll_mem hm _ (hfi i hil).2.2.2.1))), hw _ (List.mem_cons_of_mem _ (List.mem_append_left _ (weightsAll_mem hm _ (hfi i hil).2.2.2.2)))⟩
theorem pairs_weights {H : Type} {ts : List TypeId} {ds : List (DataW H)} (h : (DataW.weightsEach Tryz.prog ts ds).all (fun x => decide (x ≤ reachBytes)) = true) {j : Nat} {d : DataW H} (ht : ts[j]? = some 42) (hd : ds[j]? = some d) : ∀ x ∈ d.weights Tryz.prog 42, x ≤ reachBytes := fun x hx => by
  have := List.all_eq_true.1 h _ (DataW.weights_mem_each ht hd x hx)
  simpa using this
end Go.Proofs.YtghmabohodnbpaaGreatDoor
