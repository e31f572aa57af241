/- What a reading of arguments gives of a story: its acts in memory, within the reach. -/
import Derived.Test.YtmngmkbiibhmkaaOpen3
import Derived.Test.YtmngmkbiibhmkaaVActs
import Derived.Deep.Slices
namespace Go.Proofs.Ytmngmkbiibhmkaa
open Go.ChangeShapes Go.WideShapes Go.ChangeAt Go.RowKit

/-- All sizes within a datum are within the reach. -/
def Wt {H : Type} (t : TypeId) (d : DataW H) : Prop := ∀ x ∈ d.weights Try.prog t, x ≤ reachBytes
theorem wt_param {H : Type} {ts : List TypeId} {ds : List (DataW H)} (h : (DataW.weightsEach Try.prog ts ds).all (fun x => decide (x ≤ reachBytes)) = true) {j : Nat} {t : TypeId} {d : DataW H} (ht : ts[j]? = some t) (hd : ds[j]? = some d) : Wt t d := fun x hx => by
  have := List.all_eq_true.1 h _ (DataW.weights_mem_each ht hd x hx)
  simpa using this
theorem wt_field {H : Type} {t t1 : TypeId} {fs : Array Field} {parts : List (DataW H)} {d : DataW H} {j : Nat} (hu : Try.prog.underlying t = some (.struct fs)) (h : Wt t (.agg parts)) (ht : (fs.toList.map (·.type))[j]? = some t1) (hd : parts[j]? = some d) : Wt t1 d := fun x hx => by
  refine h x ?_
  simp only [DataW.weights, hu]
  exact DataW.weights_mem_each ht hd x hx
theorem weightsAll_mem {H : Type} {P : Program} {e : TypeId} {d : DataW H} : ∀ {l : List (DataW H)}, d ∈ l → ∀ n ∈ d.weights P e, n ∈ DataW.weightsAll P e l
  | x :: l, h, n, hn => by
    rw [DataW.weightsAll, List.mem_append]
    rcases List.mem_cons.1 h with rfl | h
    · exact .inl hn
    · exact .inr (weightsAll_mem h n hn)
theorem wt_elem {H : Type} {t e : TypeId} {elems spare : List (DataW H)} {d : DataW H} (hu : Try.prog.underlying t = some (.slice e)) (h : Wt t (.slice elems spare)) (hd : d ∈ elems) : Wt e d := fun x hx => by
  refine h x ?_
  simp only [DataW.weights, hu]
  exact List.mem_cons_of_mem _ (List.mem_append_left _ (weightsAll_mem hd x hx))
theorem wt_len {H : Type} {t e : TypeId} {elems spare : List (DataW H)} (hu : Try.prog.underlying t = some (.slice e)) (h : Wt t (.slice elems spare)) : elems.length * Try.prog.bytesOf e ≤ 140737488351232 := by
  have := h ((elems.length + spare.length) * Try.prog.bytesOf e) (by simp only [DataW.weights, hu]; exact List.mem_cons_self ..)
  simp only [reachBytes] at this
  have h2 : elems.length * Try.prog.bytesOf e ≤ (elems.length + spare.length) * Try.prog.bytesOf e := Nat.mul_le_mul_right _ (by omega)
  omega
theorem by_act : Try.prog.bytesOf 33 = 24 := by kernel_rfl
theorem ce_int : Try.prog.cellsOf 3 = 1 := by kernel_rfl
theorem ce_u64 : Try.prog.cellsOf 22 = 1 := by kernel_rfl
theorem ce_acts : Try.prog.cellsOf 23 = 1 := by kernel_rfl
theorem ce_act : Try.prog.cellsOf 33 = 3 := by kernel_rfl
theorem ce_story : Try.prog.cellsOf 25 = 2 := by kernel_rfl
section
variable {H : Type} {enc : TypeId × Value → H} {W : World}
theorem field_u64 {n : Nat} {v : Value} {y : DataW H × List MemPlace} (h : DataW.trod enc Try.prog W 0 (fun _ => true) true n 22 [v] = some y) : ∃ z : Nat, v = .int .u64 (z : Int) ∧ z < 18446744073709551616 := by
  obtain ⟨z, e, _, w⟩ := DataW.trod_int Try.underlying22 h
  simp only [List.cons.injEq, and_true] at e
  have hb := bounds_u64 w
  obtain ⟨m, rfl⟩ := Int.eq_ofNat_of_zero_le hb.1
  exact ⟨m, e, by omega⟩
set_option maxRecDepth 100000 in
theorem field_act {n : Nat} {cs : List Value} {x : DataW H × List MemPlace} (hl : cs.length = 3) (h : DataW.trod enc Try.prog W 0 (fun _ => true) true n 33 cs = some x) :
    ∃ f : Ac, cs = [.int .i64 f.k, .int .u64 (f.id : Int), .int .u64 (f.a : Int)] ∧ f.id < 18446744073709551616 ∧ f.a < 18446744073709551616 := by
  obtain ⟨ys, k, _, hx, _, hlen, hfs⟩ := DataW.trod_struct Try.underlying33 h
  match cs, hl, ys, hlen, hx, hfs with
  | [v0, v1, v2], _, [y0, y1, y2], _, hx, hfs =>
    have g0 := hfs 0 _ rfl
    have g1 := hfs 1 _ rfl
    have g2 := hfs 2 _ rfl
    simp [ce_int, ce_u64] at g0 g1 g2
    obtain ⟨z0, e0, x0, _⟩ := DataW.trod_int Try.underlying3 g0
    obtain ⟨z1, rfl, b1⟩ := field_u64 g1
    obtain ⟨z2, rfl, b2⟩ := field_u64 g2
    simp only [List.cons.injEq, and_true] at e0
    subst e0
    exact ⟨⟨z0, z1, z2⟩, rfl, b1, b2⟩
set_option maxRecDepth 100000 in
theorem field_acts {n : Nat} {v : Value} {x : DataW H × List MemPlace} (h : DataW.trod enc Try.prog W 0 (fun _ => true) true n 23 [v] = some x) :
    ∃ (ao : Option Addr) (l : List Ac) (cap : Nat), v = .slice ao l.length cap ∧ ASee W ao l ∧ AOk l ∧ (Wt 23 x.1 → l.length * 24 ≤ 140737488351232) := by
  rcases Deep.open_slice Try.underlying23 h with ⟨hcs, hx⟩ | ⟨a, len0, cap0, m, k, D, Pl, hcs, _, hl, hm, hmm, hx, hc⟩
  · simp only [List.cons.injEq, and_true] at hcs
    subst hcs
    exact ⟨none, [], 0, rfl, .inl rfl, (fun f hf => by cases hf), fun _ => by simp⟩
  · simp only [List.cons.injEq, and_true] at hcs
    subst hcs
    have hlm : len0 ≤ m := by rw [hmm]; split <;> omega
    have each : ∀ i, i < len0 → ∃ f : Ac, (W.cell? (a.add (i * 3)) = some (.int .i64 f.k) ∧ W.cell? (a.add (i * 3 + 1)) = some (.int .u64 (f.id : Int)) ∧ W.cell? (a.add (i * 3 + 2)) = some (.int .u64 (f.a : Int))) ∧ f.id < 18446744073709551616 ∧ f.a < 18446744073709551616 := fun i hi => by
      obtain ⟨cs', h1, h2⟩ := hc i (by omega)
      rw [ce_act] at h1
      obtain ⟨_, hlen, hcell⟩ := World.cells?_some h1
      obtain ⟨f, rfl, b1, b2⟩ := field_act hlen h2
      have q0 := hcell 0 (by omega)
      have q1 := hcell 1 (by omega)
      have q2 := hcell 2 (by omega)
      rw [Deep.add_add] at q0 q1 q2
      exact ⟨f, ⟨q0, q1, q2⟩, b1, b2⟩
    have hinh : Inhabited Ac := ⟨⟨0, 0, 0⟩⟩
    obtain ⟨f, hfi⟩ := Deep.choose_lt each
    refine ⟨some a, (List.range len0).map f, cap0, by simp, ?_, ?_, fun hw => ?_⟩
    · by_cases h0 : len0 = 0
      · exact .inl (by rw [h0]; rfl)
      obtain ⟨b, off, q⟩ := a
      have hq : q = none := by
        have := (hfi 0 (by omega)).1.1
        simpa [Addr.add] using World.cell?_spot this
      subst hq
      refine .inr ⟨b, off, rfl, fun i x hix => ?_⟩
      rw [List.getElem?_map] at hix
      obtain ⟨i', hi', rfl⟩ := Option.map_eq_some_iff.1 hix
      obtain ⟨hil, e⟩ := List.getElem?_eq_some_iff.1 hi'
      rw [List.length_range] at hil
      rw [List.getElem_range] at e
      subst e
      obtain ⟨⟨c0, c1, c2⟩, _⟩ := hfi i hil
      rw [Go.WideShapes.add_plain] at c0 c1 c2
      rw [← Nat.add_assoc] at c1 c2
      exact ⟨c0, c1, c2⟩
    · intro g hg
      obtain ⟨i, hi, rfl⟩ := List.mem_map.1 hg
      exact (hfi i (List.mem_range.1 hi)).2
    · rw [hx] at hw
      have h1 := wt_len Try.underlying23 hw
      rw [by_act] at h1
      simpa using h1
set_option maxRecDepth 100000 in
/-- A story, opened. -/
theorem open_story {base : Nat} {v : Value} {d : DataW H} {p : List MemPlace} (hval : Value.okWide Try.prog W .any base 25 v) (h : DataW.Trod enc Try.prog W 0 (fun _ => true) true 25 v d p) :
    ∃ (now : Nat) (aao : Option Addr) (l : List Ac) (ac : Nat), v = .agg #[.int .u64 (now : Int), .slice aao l.length ac] ∧ now < 18446744073709551616 ∧ ASee W aao l ∧ AOk l ∧ (∀ x ∈ p, x.block < W.heap.size) ∧ (Wt 25 d → l.length * 24 ≤ 140737488351232) := by
  obtain ⟨cs, rfl, hsz⟩ := okWide_struct Try.underlying25 hval
  rw [ce_story] at hsz
  obtain ⟨fuel, hf⟩ := h
  have hlt := DataW.trod_lt fuel _ _ _ hf
  obtain ⟨ys, n, _, hx, _, hlen, hfs⟩ := DataW.trod_struct Try.underlying25 hf
  obtain ⟨cs⟩ := cs
  match cs, hsz, ys, hlen, hx, hfs with
  | [v0, v1], _, [y0, y1], _, hx, hfs =>
    have j0 := hfs 0 _ rfl
    have j1 := hfs 1 _ rfl
    simp [ce_u64, ce_acts, Value.cells] at j0 j1
    obtain ⟨z, rfl, hz⟩ := field_u64 j0
    obtain ⟨aao, l, ac, rfl, hA, hO, hw1⟩ := field_acts j1
    simp only [Prod.mk.injEq] at hx
    refine ⟨z, aao, l, ac, rfl, hz, hA, hO, hlt, fun hw => ?_⟩
    rw [hx.1] at hw
    exact hw1 (wt_field (j := 1) Try.underlying25 hw rfl rfl)
end
end Go.Proofs.Ytmngmkbiibhmkaa
