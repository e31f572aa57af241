/- What a reading of arguments gives of a story, an act, a crash: their rows in memory, within the reach. -/
import Derived.Test.YtmdgecjflkkhdabOpen3
import Derived.Test.YtmdgecjflkkhdabDPlay
import Derived.Deep.Slices
namespace Go.Proofs.Ytmdgecjflkkhdab
open Go.ChangeShapes Go.WideShapes Go.ChangeAt Go.RowKit

/-- All sizes within a datum are within the reach. -/
def Wt {H : Type} (t : TypeId) (d : DataW H) : Prop := ∀ x ∈ d.weights Try.prog t, x ≤ reachBytes
theorem wt_param {H : Type} {ts : List TypeId} {ds : List (DataW H)} (h : (DataW.weightsEach Try.prog ts ds).all (fun x => decide (x ≤ reachBytes)) = true) {j : Nat} {t : TypeId} {d : DataW H} (ht : ts[j]? = some t) (hd : ds[j]? = some d) : Wt t d := fun x hx => by
  have := List.all_eq_true.1 h _ (DataW.weights_mem_each ht hd x hx)
  simpa using this
theorem wt_field {H : Type} {t t1 : TypeId} {fs : Array Field} {parts : List (DataW H)} {d : DataW H} {j : Nat} (hu : Try.prog.underlying t = some (.struct fs)) (h : Wt t (.agg parts)) (ht : (fs.toList.map (·.type))[j]? = some t1) (hd : parts[j]? = some d) : Wt t1 d := fun x hx => by
  refine h x ?_
  simp only [DataW.weights, hu]
  exact DataW.weights_mem_each ht hd x hx
theorem weightsAll_mem {H : Type} {P : Program} {e : TypeId} {d : DataW H} : ∀ {l : List (DataW H)}, d ∈ l → ∀ n ∈ d.weights P e, n ∈ DataW.weightsAll P e l
  | x :: l, h, n, hn => by
    rw [DataW.weightsAll, List.mem_append]
    rcases List.mem_cons.1 h with rfl | h
    · exact .inl hn
    · exact .inr (weightsAll_mem h n hn)
theorem wt_elem {H : Type} {t e : TypeId} {elems spare : List (DataW H)} {d : DataW H} (hu : Try.prog.underlying t = some (.slice e)) (h : Wt t (.slice elems spare)) (hd : d ∈ elems) : Wt e d := fun x hx => by
  refine h x ?_
  simp only [DataW.weights, hu]
  exact List.mem_cons_of_mem _ (List.mem_append_left _ (weightsAll_mem hd x hx))
theorem wt_len {H : Type} {t e : TypeId} {elems spare : List (DataW H)} (hu : Try.prog.underlying t = some (.slice e)) (h : Wt t (.slice elems spare)) : elems.length * Try.prog.bytesOf e ≤ 140737488351232 := by
  have := h ((elems.length + spare.length) * Try.prog.bytesOf e) (by simp only [DataW.weights, hu]; exact List.mem_cons_self ..)
  simp only [reachBytes] at this
  have h2 : elems.length * Try.prog.bytesOf e ≤ (elems.length + spare.length) * Try.prog.bytesOf e := Nat.mul_le_mul_right _ (by omega)
  omega
theorem wt_str {H : Type} {t : TypeId} {b : List UInt8} (h : Wt (H := H) t (.lit (.string b))) : b.length ≤ 140737488351232 := by
  have := h b.length (by simp [DataW.weights])
  simpa [reachBytes] using this
theorem by_u8 : Try.prog.bytesOf 5 = 1 := by kernel_rfl
theorem by_int : Try.prog.bytesOf 3 = 8 := by kernel_rfl
theorem by_file : Try.prog.bytesOf 62 = 40 := by kernel_rfl
theorem by_act : Try.prog.bytesOf 50 = 104 := by kernel_rfl
theorem ce_int : Try.prog.cellsOf 3 = 1 := by kernel_rfl
theorem ce_str : Try.prog.cellsOf 9 = 1 := by kernel_rfl
theorem ce_bys : Try.prog.cellsOf 48 = 1 := by kernel_rfl
theorem ce_ints : Try.prog.cellsOf 26 = 1 := by kernel_rfl
theorem ce_fls : Try.prog.cellsOf 22 = 1 := by kernel_rfl
theorem ce_acts : Try.prog.cellsOf 23 = 1 := by kernel_rfl
theorem ce_file : Try.prog.cellsOf 62 = 2 := by kernel_rfl
theorem ce_crash : Try.prog.cellsOf 28 = 2 := by kernel_rfl
theorem ce_act : Try.prog.cellsOf 50 = 7 := by kernel_rfl
theorem ce_story : Try.prog.cellsOf 25 = 3 := by kernel_rfl
theorem nats_of (l : List Int) (h : ∀ n ∈ l, (Lit.int .u8 n).wf = true) : ∃ xs : List Nat, l = xs.map (fun n : Nat => (n : Int)) ∧ ∀ x ∈ xs, x < 256 := by
  induction l with
  | nil => exact ⟨[], rfl, by simp⟩
  | cons n l ih =>
    obtain ⟨xs, rfl, hb⟩ := ih (fun m hm => h m (by simp [hm]))
    have hn := bounds_u8 (h n (by simp))
    refine ⟨n.toNat :: xs, ?_, ?_⟩
    · simp only [List.map_cons, List.cons.injEq, and_true]; omega
    · intro x hx
      rcases List.mem_cons.1 hx with rfl | hx
      · omega
      · exact hb x hx
section
variable {H : Type} {enc : TypeId × Value → H} {W : World}
theorem field_bytes {n : Nat} {v : Value} {y : DataW H × List MemPlace} (h : DataW.trod enc Try.prog W 0 (fun _ => true) true n 48 [v] = some y) :
    ∃ ao xs cap, v = .slice ao xs.length cap ∧ xs.length ≤ cap ∧ Row W ao xs ∧ (∀ x ∈ xs, x < 256) ∧ (Wt 48 y.1 → xs.length ≤ 140737488351232) := by
  rcases open_ints Try.underlying48 Try.underlying5 (by kernel_rfl) h with ⟨hcs, hx⟩ | ⟨x, len0, cap0, zs, hcs, _, hl, hm, hz, hx, hcell, hwz⟩
  · simp only [List.cons.injEq, and_true] at hcs
    subst hcs
    subst hx
    exact ⟨none, [], 0, rfl, Nat.le_refl _, .inl rfl, by simp, fun _ => by simp⟩
  · simp only [List.cons.injEq, and_true] at hcs
    subst hcs
    subst hx
    have hzl : zs.length = cap0 := by simpa using hz
    obtain ⟨xs, hxs, hb⟩ := nats_of (zs.take len0) (fun n hn => hwz n (List.mem_of_mem_take hn))
    have hlen : xs.length = len0 := by
      have := congrArg List.length hxs
      simp only [List.length_take, List.length_map] at this
      omega
    subst hlen
    have hel : (lits (H := H) .u8 (zs.take xs.length)).length = xs.length := by simp only [lits, List.length_map, List.length_take]; omega
    refine ⟨some x, xs, cap0, rfl, hl, ?_, hb, fun hw => ?_⟩
    · by_cases h0 : xs = []
      · exact .inl h0
      · obtain ⟨b, off, rfl, hc⟩ := ints_at hcell (by have := List.length_pos_iff.2 h0; omega)
        refine .inr ⟨b, off, rfl, fun i hi => ?_⟩
        rw [hc i (by omega)]
        have : zs.getD i 0 = ((xs.getD i 0 : Nat) : Int) := by
          have h2 : (zs.take xs.length)[i]? = (xs.map fun n : Nat => (n : Int))[i]? := by rw [hxs]
          rw [List.getElem?_take, if_pos hi, List.getElem?_map] at h2
          simp only [List.getD, h2, List.getElem?_eq_getElem hi, Option.map_some, Option.getD_some]
        rw [this]
    · have := wt_len Try.underlying48 hw
      rw [by_u8, hel] at this
      omega
theorem field_ints {n : Nat} {v : Value} {y : DataW H × List MemPlace} (h : DataW.trod enc Try.prog W 0 (fun _ => true) true n 26 [v] = some y) :
    ∃ ao zs cap, v = .slice ao zs.length cap ∧ IRow W ao zs ∧ (Wt 26 y.1 → zs.length * 8 ≤ 140737488351232) := by
  rcases open_ints Try.underlying26 Try.underlying3 (by kernel_rfl) h with ⟨hcs, hx⟩ | ⟨x, len0, cap0, zs, hcs, _, hl, hm, hz, hx, hcell, hwz⟩
  · simp only [List.cons.injEq, and_true] at hcs
    subst hcs
    subst hx
    exact ⟨none, [], 0, rfl, .inl rfl, fun _ => by simp⟩
  · simp only [List.cons.injEq, and_true] at hcs
    subst hcs
    subst hx
    have hzl : zs.length = cap0 := by simpa using hz
    have hlen : (zs.take len0).length = len0 := by rw [List.length_take]; omega
    refine ⟨some x, zs.take len0, cap0, by rw [hlen], ?_, fun hw => ?_⟩
    · by_cases h0 : len0 = 0
      · exact .inl (by rw [h0]; rfl)
      · obtain ⟨b, off, rfl, hc⟩ := ints_at hcell (by omega)
        refine .inr ⟨b, off, rfl, fun i hi => ?_⟩
        rw [hlen] at hi
        rw [hc i (by omega)]
        simp [List.getD, hi]
    · have := wt_len Try.underlying26 hw
      rw [by_int] at this
      simp only [lits, List.length_map] at this
      exact this
set_option maxRecDepth 100000 in
theorem field_file {n : Nat} {cs : List Value} {x : DataW H × List MemPlace} (hl : cs.length = 2) (h : DataW.trod enc Try.prog W 0 (fun _ => true) true n 62 cs = some x) :
    ∃ (f : Fi) (bao : Option Addr) (bc : Nat), cs = [.string (str f.1), .slice bao f.2.length bc] ∧ Row W bao f.2 ∧ (∀ b ∈ f.2, b < 256) ∧ (Wt 62 x.1 → f.1.length ≤ 140737488351232 ∧ f.2.length ≤ 140737488351232) := by
  obtain ⟨ys, k, _, hx, _, hlen, hfs⟩ := DataW.trod_struct Try.underlying62 h
  match cs, hl, ys, hlen, hx, hfs with
  | [v0, v1], _, [y0, y1], _, hx, hfs =>
    have g0 := hfs 0 _ rfl
    have g1 := hfs 1 _ rfl
    simp [ce_str, ce_bys] at g0 g1
    obtain ⟨s, e0, x0, _⟩ := DataW.trod_string Try.underlying9 g0
    obtain ⟨ao, xs, cap, rfl, _, hr, hb, hw1⟩ := field_bytes g1
    simp only [List.cons.injEq, and_true] at e0
    subst e0
    refine ⟨(nmOf s, xs), ao, cap, by rw [str_nmOf], hr, hb, fun hw => ?_⟩
    rw [hx] at hw
    have h0 : Wt 9 y0.1 := wt_field (j := 0) Try.underlying62 hw rfl rfl
    have h1 : Wt 48 y1.1 := wt_field (j := 1) Try.underlying62 hw rfl rfl
    rw [x0] at h0
    exact ⟨wt_str h0, hw1 h1⟩
set_option maxRecDepth 100000 in
theorem field_act {n : Nat} {cs : List Value} {x : DataW H × List MemPlace} (hl : cs.length = 7) (h : DataW.trod enc Try.prog W 0 (fun _ => true) true n 50 cs = some x) :
    ∃ (f : Ac) (pao : Option Addr) (pc : Nat) (tao : Option Addr) (tc : Nat), cs = [.int .i64 f.kind, .string (str f.nm), .string (str f.tn), .slice pao f.p.length pc, .int .i64 f.n, .int .i64 f.dir, .slice tao f.ts.length tc] ∧ Row W pao f.p ∧ f.p.length ≤ pc ∧ IRow W tao f.ts ∧ (Wt 50 x.1 → AOk f) := by
  obtain ⟨ys, k, _, hx, _, hlen, hfs⟩ := DataW.trod_struct Try.underlying50 h
  match cs, hl, ys, hlen, hx, hfs with
  | [v0, v1, v2, v3, v4, v5, v6], _, [y0, y1, y2, y3, y4, y5], _, hx, hfs =>
    have g0 := hfs 0 _ rfl
    have g1 := hfs 1 _ rfl
    have g2 := hfs 2 _ rfl
    have g3 := hfs 3 _ rfl
    have g4 := hfs 4 _ rfl
    have g5 := hfs 5 _ rfl
    simp [ce_str, ce_bys, ce_int, ce_crash] at g0 g1 g2 g3 g4 g5
    obtain ⟨z0, e0, x0, _⟩ := DataW.trod_int Try.underlying3 g0
    obtain ⟨s1, e1, x1, _⟩ := DataW.trod_string Try.underlying9 g1
    obtain ⟨s2, e2, x2, _⟩ := DataW.trod_string Try.underlying9 g2
    obtain ⟨ao, xs, cap, rfl, hcp, hr, hb, hw3⟩ := field_bytes g3
    obtain ⟨z4, e4, x4, w4⟩ := DataW.trod_int Try.underlying3 g4
    obtain ⟨zs, k5, _, hx5, _, hlen5, hfs5⟩ := DataW.trod_struct Try.underlying28 g5
    match zs, hlen5, hx5, hfs5 with
    | [u0, u1], _, hx5, hfs5 =>
      have j0 := hfs5 0 _ rfl
      have j1 := hfs5 1 _ rfl
      simp [ce_int, ce_ints] at j0 j1
      obtain ⟨z5, e5, x5, _⟩ := DataW.trod_int Try.underlying3 j0
      obtain ⟨tao, ts, tc, rfl, ht, hw6⟩ := field_ints j1
      simp only [List.cons.injEq, and_true] at e0 e1 e2 e4 e5
      subst e0 e1 e2 e4 e5
      refine ⟨⟨z0, nmOf s1, nmOf s2, xs, z4, z5, ts⟩, ao, cap, tao, tc, by simp only [str_nmOf], hr, hcp, ht, fun hw => ?_⟩
      rw [hx] at hw
      have h1 : Wt 9 y1.1 := wt_field (j := 1) Try.underlying50 hw rfl rfl
      have h2 : Wt 9 y2.1 := wt_field (j := 2) Try.underlying50 hw rfl rfl
      have h3 : Wt 48 y3.1 := wt_field (j := 3) Try.underlying50 hw rfl rfl
      have h5 : Wt 28 y5.1 := wt_field (j := 5) Try.underlying50 hw rfl rfl
      rw [hx5] at h5
      have h6 : Wt 26 u1.1 := wt_field (j := 1) Try.underlying28 h5 rfl rfl
      rw [x1] at h1
      rw [x2] at h2
      have l1 := wt_str h1
      have l2 := wt_str h2
      exact ⟨by unfold maxLen; exact Nat.le_trans l1 (by decide), by unfold maxLen; exact Nat.le_trans l2 (by decide), hw3 h3, hb, (bounds_i64 w4).2, hw6 h6⟩
set_option maxRecDepth 100000 in
theorem field_files {n : Nat} {v : Value} {x : DataW H × List MemPlace} (h : DataW.trod enc Try.prog W 0 (fun _ => true) true n 22 [v] = some x) :
    ∃ (ao : Option Addr) (fs : List Fi) (cap : Nat), v = .slice ao fs.length cap ∧ FSee W ao fs ∧ (∀ f ∈ fs, ∀ b ∈ f.2, b < 256) ∧ (Wt 22 x.1 → fs.length * 40 ≤ 140737488351232 ∧ ∀ f ∈ fs, f.1.length ≤ 140737488351232 ∧ f.2.length ≤ 140737488351232) := by
  rcases Deep.open_slice Try.underlying22 h with ⟨hcs, hx⟩ | ⟨a, len0, cap0, m, k, D, Pl, hcs, _, hl, hm, hmm, hx, hc⟩
  · simp only [List.cons.injEq, and_true] at hcs
    subst hcs
    exact ⟨none, [], 0, rfl, ⟨fun i x hx => by simp at hx⟩, (fun f hf => by cases hf), fun _ => ⟨by simp, fun f hf => by cases hf⟩⟩
  · simp only [List.cons.injEq, and_true] at hcs
    subst hcs
    have hlm : len0 ≤ m := by rw [hmm]; split <;> omega
    have each : ∀ i, i < len0 → ∃ f : Fi, (∃ bao bc, W.cell? (a.add (i * 2)) = some (.string (str f.1)) ∧ W.cell? (a.add (i * 2 + 1)) = some (.slice bao f.2.length bc) ∧ Row W bao f.2) ∧ (∀ b ∈ f.2, b < 256) ∧ (Wt 62 (D i) → f.1.length ≤ 140737488351232 ∧ f.2.length ≤ 140737488351232) := fun i hi => by
      obtain ⟨cs', h1, h2⟩ := hc i (by omega)
      rw [ce_file] at h1
      obtain ⟨_, hlen, hcell⟩ := World.cells?_some h1
      obtain ⟨f, bao, bc, rfl, hr, hb, hw⟩ := field_file hlen h2
      have q0 := hcell 0 (by omega)
      have q1 := hcell 1 (by omega)
      rw [Deep.add_add] at q0 q1
      exact ⟨f, ⟨bao, bc, q0, q1, hr⟩, hb, hw⟩
    have hinh : Inhabited Fi := ⟨([], [])⟩
    obtain ⟨f, hfi⟩ := Deep.choose_lt each
    refine ⟨some a, (List.range len0).map f, cap0, by simp, ⟨fun i x hix => ?_⟩, ?_, fun hw => ?_⟩
    · rw [List.getElem?_map] at hix
      obtain ⟨i', hi', rfl⟩ := Option.map_eq_some_iff.1 hix
      obtain ⟨hil, e⟩ := List.getElem?_eq_some_iff.1 hi'
      rw [List.length_range] at hil
      rw [List.getElem_range] at e
      subst e
      obtain ⟨⟨bao, bc, c0, c1, hr⟩, _⟩ := hfi i hil
      obtain ⟨b, off, q⟩ := a
      have hq : q = none := by
        have := (hfi 0 (by omega)).1
        first
        | (obtain ⟨_, _, c00, _⟩ := this; simpa [Addr.add] using World.cell?_spot c00)
        | (obtain ⟨_, _, _, _, c00, _⟩ := this; simpa [Addr.add] using World.cell?_spot c00)
      subst hq
      rw [Go.WideShapes.add_plain] at c0 c1
      exact ⟨b, off, bao, bc, rfl, c0, by rw [Nat.add_assoc]; exact c1, hr⟩
    · intro g hg
      obtain ⟨i, hi, rfl⟩ := List.mem_map.1 hg
      exact (hfi i (List.mem_range.1 hi)).2.1
    · rw [hx] at hw
      have h1 := wt_len Try.underlying22 hw
      rw [by_file] at h1
      refine ⟨by simpa using h1, fun g hg => ?_⟩
      obtain ⟨i, hi, rfl⟩ := List.mem_map.1 hg
      exact (hfi i (List.mem_range.1 hi)).2.2 (wt_elem Try.underlying22 hw (List.mem_map.2 ⟨i, hi, rfl⟩))
set_option maxRecDepth 100000 in
theorem field_acts {n : Nat} {v : Value} {x : DataW H × List MemPlace} (h : DataW.trod enc Try.prog W 0 (fun _ => true) true n 23 [v] = some x) :
    ∃ (ao : Option Addr) (l : List Ac) (cap : Nat), v = .slice ao l.length cap ∧ ASee W ao l ∧ (Wt 23 x.1 → l.length * 104 ≤ 140737488351232 ∧ ∀ f ∈ l, AOk f) := by
  rcases Deep.open_slice Try.underlying23 h with ⟨hcs, hx⟩ | ⟨a, len0, cap0, m, k, D, Pl, hcs, _, hl, hm, hmm, hx, hc⟩
  · simp only [List.cons.injEq, and_true] at hcs
    subst hcs
    exact ⟨none, [], 0, rfl, ⟨fun i x hx => by simp at hx⟩, fun _ => ⟨by simp, fun f hf => by cases hf⟩⟩
  · simp only [List.cons.injEq, and_true] at hcs
    subst hcs
    have hlm : len0 ≤ m := by rw [hmm]; split <;> omega
    have each : ∀ i, i < len0 → ∃ f : Ac, (∃ pao pc tao tc, W.cell? (a.add (i * 7)) = some (.int .i64 f.kind) ∧ W.cell? (a.add (i * 7 + 1)) = some (.string (str f.nm)) ∧ W.cell? (a.add (i * 7 + 2)) = some (.string (str f.tn)) ∧ W.cell? (a.add (i * 7 + 3)) = some (.slice pao f.p.length pc) ∧ W.cell? (a.add (i * 7 + 4)) = some (.int .i64 f.n) ∧ W.cell? (a.add (i * 7 + 5)) = some (.int .i64 f.dir) ∧ W.cell? (a.add (i * 7 + 6)) = some (.slice tao f.ts.length tc) ∧ Row W pao f.p ∧ IRow W tao f.ts) ∧ (Wt 50 (D i) → AOk f) := fun i hi => by
      obtain ⟨cs', h1, h2⟩ := hc i (by omega)
      rw [ce_act] at h1
      obtain ⟨_, hlen, hcell⟩ := World.cells?_some h1
      obtain ⟨f, pao, pc, tao, tc, rfl, hr, _, ht, hw⟩ := field_act hlen h2
      have q0 := hcell 0 (by omega)
      have q1 := hcell 1 (by omega)
      have q2 := hcell 2 (by omega)
      have q3 := hcell 3 (by omega)
      have q4 := hcell 4 (by omega)
      have q5 := hcell 5 (by omega)
      have q6 := hcell 6 (by omega)
      rw [Deep.add_add] at q0 q1 q2 q3 q4 q5 q6
      exact ⟨f, ⟨pao, pc, tao, tc, q0, q1, q2, q3, q4, q5, q6, hr, ht⟩, hw⟩
    have hinh : Inhabited Ac := ⟨⟨0, [], [], [], 0, 0, []⟩⟩
    obtain ⟨f, hfi⟩ := Deep.choose_lt each
    refine ⟨some a, (List.range len0).map f, cap0, by simp, ⟨fun i x hix => ?_⟩, fun hw => ?_⟩
    · rw [List.getElem?_map] at hix
      obtain ⟨i', hi', rfl⟩ := Option.map_eq_some_iff.1 hix
      obtain ⟨hil, e⟩ := List.getElem?_eq_some_iff.1 hi'
      rw [List.length_range] at hil
      rw [List.getElem_range] at e
      subst e
      obtain ⟨⟨pao, pc, tao, tc, c0, c1, c2, c3, c4, c5, c6, hr, ht⟩, _⟩ := hfi i hil
      obtain ⟨b, off, q⟩ := a
      have hq : q = none := by
        have := (hfi 0 (by omega)).1
        first
        | (obtain ⟨_, _, c00, _⟩ := this; simpa [Addr.add] using World.cell?_spot c00)
        | (obtain ⟨_, _, _, _, c00, _⟩ := this; simpa [Addr.add] using World.cell?_spot c00)
      subst hq
      rw [Go.WideShapes.add_plain] at c0 c1 c2 c3 c4 c5 c6
      rw [← Nat.add_assoc] at c1 c2 c3 c4 c5 c6
      exact ⟨b, off, pao, pc, tao, tc, rfl, c0, c1, c2, c3, c4, c5, c6, hr, ht⟩
    · rw [hx] at hw
      have h1 := wt_len Try.underlying23 hw
      rw [by_act] at h1
      refine ⟨by simpa using h1, fun g hg => ?_⟩
      obtain ⟨i, hi, rfl⟩ := List.mem_map.1 hg
      exact (hfi i (List.mem_range.1 hi)).2 (wt_elem Try.underlying23 hw (List.mem_map.2 ⟨i, hi, rfl⟩))
set_option maxRecDepth 100000 in
/-- A crash, opened. -/
theorem open_crash {base : Nat} {v : Value} {d : DataW H} {p : List MemPlace} (hval : Value.okWide Try.prog W .any base 28 v) (h : DataW.Trod enc Try.prog W 0 (fun _ => true) true 28 v d p) :
    ∃ (dir : Int) (ao : Option Addr) (ts : List Int) (cap : Nat), v = .agg #[.int .i64 dir, .slice ao ts.length cap] ∧ IRow W ao ts ∧ (∀ x ∈ p, x.block < W.heap.size) ∧ (Wt 28 d → ts.length * 8 ≤ 140737488351232) := by
  obtain ⟨cs, rfl, hsz⟩ := okWide_struct Try.underlying28 hval
  rw [ce_crash] at hsz
  obtain ⟨fuel, hf⟩ := h
  have hlt := DataW.trod_lt fuel _ _ _ hf
  obtain ⟨ys, n, _, hx, _, hlen, hfs⟩ := DataW.trod_struct Try.underlying28 hf
  obtain ⟨cs⟩ := cs
  match cs, hsz, ys, hlen, hx, hfs with
  | [v0, v1], _, [y0, y1], _, hx, hfs =>
    have j0 := hfs 0 _ rfl
    have j1 := hfs 1 _ rfl
    simp [ce_int, ce_ints, Value.cells] at j0 j1
    obtain ⟨z0, e0, x0, _⟩ := DataW.trod_int Try.underlying3 j0
    obtain ⟨tao, ts, tc, rfl, ht, hw⟩ := field_ints j1
    simp only [List.cons.injEq, and_true] at e0
    subst e0
    simp only [Prod.mk.injEq] at hx
    exact ⟨z0, tao, ts, tc, rfl, ht, hlt, fun h => hw (wt_field (j := 1) Try.underlying28 (by rw [hx.1] at h; exact h) rfl rfl)⟩
set_option maxRecDepth 100000 in
/-- An act, opened. -/
theorem open_act {base : Nat} {v : Value} {d : DataW H} {p : List MemPlace} (hval : Value.okWide Try.prog W .any base 50 v) (h : DataW.Trod enc Try.prog W 0 (fun _ => true) true 50 v d p) :
    ∃ (f : Ac) (pao : Option Addr) (pc : Nat) (tao : Option Addr) (tc : Nat), v = .agg #[.int .i64 f.kind, .string (str f.nm), .string (str f.tn), .slice pao f.p.length pc, .int .i64 f.n, .int .i64 f.dir, .slice tao f.ts.length tc] ∧ Row W pao f.p ∧ f.p.length ≤ pc ∧ IRow W tao f.ts ∧ (∀ x ∈ p, x.block < W.heap.size) ∧ (Wt 50 d → AOk f) := by
  obtain ⟨cs, rfl, hsz⟩ := okWide_struct Try.underlying50 hval
  rw [ce_act] at hsz
  obtain ⟨fuel, hf⟩ := h
  have hlt := DataW.trod_lt fuel _ _ _ hf
  obtain ⟨f, pao, pc, tao, tc, e, h1, h2, h3, h4⟩ := field_act (by simpa [Value.cells] using hsz) hf
  refine ⟨f, pao, pc, tao, tc, ?_, h1, h2, h3, hlt, h4⟩
  obtain ⟨cs⟩ := cs
  simp only [Value.cells] at e
  rw [show cs = _ from e]
set_option maxRecDepth 100000 in
/-- A story, opened. -/
theorem open_story {base : Nat} {v : Value} {d : DataW H} {p : List MemPlace} (hval : Value.okWide Try.prog W .any base 25 v) (h : DataW.Trod enc Try.prog W 0 (fun _ => true) true 25 v d p) :
    ∃ (fao : Option Addr) (fs : List Fi) (fc : Nat) (room : Int) (aao : Option Addr) (l : List Ac) (ac : Nat), v = .agg #[.slice fao fs.length fc, .int .i64 room, .slice aao l.length ac] ∧ FSee W fao fs ∧ (∀ f ∈ fs, ∀ b ∈ f.2, b < 256) ∧ room ≤ 9223372036854775807 ∧ ASee W aao l ∧ (∀ x ∈ p, x.block < W.heap.size) ∧
      (Wt 25 d → (fs.length * 40 ≤ 140737488351232 ∧ ∀ f ∈ fs, f.1.length ≤ maxLen ∧ f.1.length ≤ 281474976710656 ∧ f.2.length ≤ 140737488355328) ∧ l.length * 104 ≤ 140737488351232 ∧ ∀ x ∈ l, AOk x) := by
  obtain ⟨cs, rfl, hsz⟩ := okWide_struct Try.underlying25 hval
  rw [ce_story] at hsz
  obtain ⟨fuel, hf⟩ := h
  have hlt := DataW.trod_lt fuel _ _ _ hf
  obtain ⟨ys, n, _, hx, _, hlen, hfs⟩ := DataW.trod_struct Try.underlying25 hf
  obtain ⟨cs⟩ := cs
  match cs, hsz, ys, hlen, hx, hfs with
  | [v0, v1, v2], _, [y0, y1, y2], _, hx, hfs =>
    have j0 := hfs 0 _ rfl
    have j1 := hfs 1 _ rfl
    have j2 := hfs 2 _ rfl
    simp [ce_int, ce_fls, ce_acts, Value.cells] at j0 j1 j2
    obtain ⟨fao, fs, fc, rfl, hF, hb, hw0⟩ := field_files j0
    obtain ⟨z, e1, x1, w1⟩ := DataW.trod_int Try.underlying3 j1
    obtain ⟨aao, l, ac, rfl, hA, hw2⟩ := field_acts j2
    simp only [List.cons.injEq, and_true] at e1
    subst e1
    simp only [Prod.mk.injEq] at hx
    refine ⟨fao, fs, fc, z, aao, l, ac, rfl, hF, hb, (bounds_i64 w1).2, hA, hlt, fun hw => ?_⟩
    rw [hx.1] at hw
    have h0 := hw0 (wt_field (j := 0) Try.underlying25 hw rfl rfl)
    refine ⟨⟨h0.1, fun f hf => ?_⟩, hw2 (wt_field (j := 2) Try.underlying25 hw rfl rfl)⟩
    have := h0.2 f hf
    exact ⟨by unfold maxLen; exact Nat.le_trans this.1 (by decide), by omega, by omega⟩
end
end Go.Proofs.Ytmdgecjflkkhdab
