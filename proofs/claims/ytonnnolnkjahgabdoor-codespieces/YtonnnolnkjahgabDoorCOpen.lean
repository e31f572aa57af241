/- What a reading of arguments gives of acts: their cells in memory, within the reach. -/
import Derived.Test.YtonnnolnkjahgabDoorOpen
import Derived.Test.YtonnnolnkjahgabDoorOpenAgg
import Derived.Test.YtonnnolnkjahgabDoorCActs
import Derived.Deep.Slices
namespace Go.Proofs.YtonnnolnkjahgabDoor
open Go.ChangeShapes Go.WideShapes Go.ChangeAt Go.RowKit

/-- All sizes within a datum are within the reach. -/
def Wt {H : Type} (t : TypeId) (d : DataW H) : Prop := ∀ x ∈ d.weights Tryd.prog t, x ≤ reachBytes
theorem wt_param {H : Type} {ts : List TypeId} {ds : List (DataW H)} (h : (DataW.weightsEach Tryd.prog ts ds).all (fun x => decide (x ≤ reachBytes)) = true) {j : Nat} {t : TypeId} {d : DataW H} (ht : ts[j]? = some t) (hd : ds[j]? = some d) : Wt t d := fun x hx => by
  have := List.all_eq_true.1 h _ (DataW.weights_mem_each ht hd x hx)
  simpa using this
theorem wt_field {H : Type} {t t1 : TypeId} {fs : Array Field} {parts : List (DataW H)} {d : DataW H} {j : Nat} (hu : Tryd.prog.underlying t = some (.struct fs)) (h : Wt t (.agg parts)) (ht : (fs.toList.map (·.type))[j]? = some t1) (hd : parts[j]? = some d) : Wt t1 d := fun x hx => by
  refine h x ?_
  simp only [DataW.weights, hu]
  exact DataW.weights_mem_each ht hd x hx
theorem weightsAll_mem {H : Type} {P : Program} {e : TypeId} {d : DataW H} : ∀ {l : List (DataW H)}, d ∈ l → ∀ n ∈ d.weights P e, n ∈ DataW.weightsAll P e l
  | x :: l, h, n, hn => by
    rw [DataW.weightsAll, List.mem_append]
    rcases List.mem_cons.1 h with rfl | h
    · exact .inl hn
    · exact .inr (weightsAll_mem h n hn)
theorem wt_elem {H : Type} {t e : TypeId} {elems spare : List (DataW H)} {d : DataW H} (hu : Tryd.prog.underlying t = some (.slice e)) (h : Wt t (.slice elems spare)) (hd : d ∈ elems) : Wt e d := fun x hx => by
  refine h x ?_
  simp only [DataW.weights, hu]
  exact List.mem_cons_of_mem _ (List.mem_append_left _ (weightsAll_mem hd x hx))
theorem wt_len {H : Type} {t e : TypeId} {elems spare : List (DataW H)} (hu : Tryd.prog.underlying t = some (.slice e)) (h : Wt t (.slice elems spare)) : elems.length * Tryd.prog.bytesOf e ≤ 140737488351232 := by
  have := h ((elems.length + spare.length) * Tryd.prog.bytesOf e) (by simp only [DataW.weights, hu]; exact List.mem_cons_self ..)
  simp only [reachBytes] at this
  have h2 : elems.length * Tryd.prog.bytesOf e ≤ (elems.length + spare.length) * Tryd.prog.bytesOf e := Nat.mul_le_mul_right _ (by omega)
  omega
theorem by_act : Tryd.prog.bytesOf 33 = 32 := by kernel_rfl
theorem by_u8 : Tryd.prog.bytesOf 5 = 1 := by kernel_rfl
theorem ce_int : Tryd.prog.cellsOf 3 = 1 := by kernel_rfl
theorem ce_bytes : Tryd.prog.cellsOf 22 = 1 := by kernel_rfl
theorem ce_act : Tryd.prog.cellsOf 33 = 2 := by kernel_rfl
section
variable {H : Type} {enc : TypeId × Value → H} {W : World}
set_option maxRecDepth 100000 in
theorem field_act {n : Nat} {cs : List Value} {x : DataW H × List MemPlace} (hl : cs.length = 2) (h : DataW.trod enc Tryd.prog W 0 (fun _ => true) true n 33 cs = some x) :
    ∃ f : At, cs = [.int .i64 f.k, .slice f.po f.ps.length f.pc] ∧ Row W f.po f.ps ∧ f.ps.length ≤ f.pc ∧ (∀ y ∈ f.ps, y < 256) ∧ (Wt 33 x.1 → f.ps.length ≤ 140737488351232) := by
  obtain ⟨ys, k, _, hx, _, hlen, hfs⟩ := DataW.trod_struct Tryd.underlying33 h
  match cs, hl, ys, hlen, hx, hfs with
  | [v0, v1], _, [y0, y1], _, hx, hfs =>
    have g0 := hfs 0 _ rfl
    have g1 := hfs 1 _ rfl
    simp [ce_int, ce_bytes] at g0 g1
    obtain ⟨z0, e0, x0, _⟩ := DataW.trod_int Tryd.underlying3 g0
    obtain ⟨ao, xs, cap, rfl, hle, hr, hb, _, hform⟩ := field_bytes g1
    simp only [List.cons.injEq, and_true] at e0
    subst e0
    refine ⟨⟨z0, ao, cap, xs⟩, rfl, hr, hle, hb, fun hw => ?_⟩
    rw [hx] at hw
    rcases hform with ⟨_, rfl⟩ | ⟨elems, spare, e, hl⟩
    · simp
    · have hw1 : Wt 22 y1.1 := wt_field (j := 1) Tryd.underlying33 hw rfl rfl
      rw [e] at hw1
      have h1 := wt_len Tryd.underlying22 hw1
      rw [by_u8] at h1
      simp only
      omega
set_option maxRecDepth 100000 in
theorem open_acts {base : Nat} {v : Value} {d : DataW H} {p : List MemPlace} (hval : Value.okWide Tryd.prog W .any base 23 v)
    (h : DataW.Trod enc Tryd.prog W 0 (fun _ => true) true 23 v d p) :
    ∃ (ao : Option Addr) (l : List At) (cap : Nat), v = .slice ao l.length cap ∧ ASee W ao l ∧ (∀ x ∈ p, x.block < W.heap.size) ∧ (Wt 23 d → l.length ≤ 140737488351232 ∧ AOk l) := by
  obtain ⟨a0, len0, cap0, rfl⟩ := okWide_slice Tryd.underlying23 hval
  obtain ⟨fuel, hf⟩ := h
  have lt0 : ∀ x ∈ p, x.block < W.heap.size := DataW.trod_lt fuel _ _ _ hf
  rcases Deep.open_slice Tryd.underlying23 hf with ⟨hcs, hx⟩ | ⟨a, len, cap, m, n, D, Pl, hcs, _, hl, hm, hmm, hx, hc⟩
  · simp [Value.cells] at hcs
    obtain ⟨rfl, rfl, rfl⟩ := hcs
    exact ⟨none, [], 0, rfl, .inl rfl, lt0, fun _ => ⟨by simp, fun f hf => by cases hf⟩⟩
  · simp [Value.cells] at hcs
    obtain ⟨rfl, rfl, rfl⟩ := hcs
    simp only [Prod.mk.injEq] at hx
    obtain ⟨rfl, _⟩ := hx
    have hlm : len0 ≤ m := by rw [hmm]; split <;> omega
    have each : ∀ i, i < len0 → ∃ f : At, (W.cell? (a.add (i * 2)) = some (.int .i64 f.k) ∧ W.cell? (a.add (i * 2 + 1)) = some (.slice f.po f.ps.length f.pc)) ∧ Row W f.po f.ps ∧ f.ps.length ≤ f.pc ∧ (∀ y ∈ f.ps, y < 256) ∧ (Wt 33 (D i) → f.ps.length ≤ 140737488351232) := fun i hi => by
      obtain ⟨cs', h1, h2⟩ := hc i (by omega)
      rw [ce_act] at h1
      obtain ⟨_, hlen, hcell⟩ := World.cells?_some h1
      obtain ⟨f, rfl, b1⟩ := field_act hlen h2
      have q0 := hcell 0 (by omega)
      have q1 := hcell 1 (by omega)
      rw [Deep.add_add] at q0 q1
      exact ⟨f, ⟨q0, q1⟩, b1⟩
    have hinh : Inhabited At := ⟨⟨0, none, 0, []⟩⟩
    obtain ⟨f, hfi⟩ := Deep.choose_lt each
    refine ⟨some a, (List.range len0).map f, cap0, by simp, ?_, lt0, fun hw => ⟨?_, ?_⟩⟩
    · by_cases h0 : len0 = 0
      · exact .inl (by rw [h0]; rfl)
      obtain ⟨b, off, q⟩ := a
      have hq : q = none := by
        have := (hfi 0 (by omega)).1.1
        simpa [Addr.add] using World.cell?_spot this
      subst hq
      refine .inr ⟨b, off, rfl, fun i x hix => ?_⟩
      rw [List.getElem?_map] at hix
      obtain ⟨i', hi', rfl⟩ := Option.map_eq_some_iff.1 hix
      obtain ⟨hil, e⟩ := List.getElem?_eq_some_iff.1 hi'
      rw [List.length_range] at hil
      rw [List.getElem_range] at e
      subst e
      obtain ⟨⟨c0, c1⟩, hr, _⟩ := hfi i hil
      rw [Go.WideShapes.add_plain] at c0 c1
      rw [← Nat.add_assoc] at c1
      exact ⟨c0, c1, hr⟩
    · have h1 := wt_len Tryd.underlying23 hw
      rw [by_act] at h1
      simp only [List.length_map, List.length_range] at h1 ⊢
      omega
    · intro g hg
      obtain ⟨i, hi, rfl⟩ := List.mem_map.1 hg
      obtain ⟨_, _, h1, h2, h3⟩ := hfi i (List.mem_range.1 hi)
      exact ⟨h1, h3 (wt_elem Tryd.underlying23 hw (List.mem_map.2 ⟨i, hi, rfl⟩)), h2⟩
end
end Go.Proofs.YtonnnolnkjahgabDoor
