/- The contract of the document's Twin: the same Json as new memory. -/
import Derived.Test.YtiaedngnofablaaGreatDoorRParts
import Derived.Deep.RegionHeldLaw
namespace Go.Proofs.YtiaedngnofablaaGreatDoor
open Go.RowKit

/-- A call, as a step of a region that draws. -/
theorem law_call {P : Program} {w : World} {ops : Array Oper} {o : Oper} {a : Act} {K : Act → World → Prop} {Q : Exit → Act → World → Prop} {E : Prop} (hgd : o.guard = none) (d : Nat) (hd : o.dst = some d) (f : FuncId) (args : Array Value)
    (hv : (execOp a.eval o).run P w = .ok (.enter f args) w) {Post : Ending → World → Prop} (hC : Calls P f args w Post) (h : ∀ e w', Post e w' → ∃ v, e = .returned v ∧ K (a.put o.dst v) w') : if Region.wanted o (yielded ops a.tmps) = true then Oper.wp P o a w K Q else E := by
  rw [if_pos (by simp [Region.wanted, hgd])]
  unfold Oper.wp
  rw [hv, Oper.upon_enter]
  refine hC.mono ?_
  intro e w' hp
  obtain ⟨v, rfl, hk⟩ := h e w' hp
  simp only [hd] at hk ⊢
  exact hk
/-- append of one Json, as a step of a region that draws. -/
theorem law_appJ1 {w : World} {ops : Array Oper} {o : Oper} {a : Act} {K : Act → World → Prop} {Q : Exit → Act → World → Prop} {E : Prop} (hgd : o.guard = none) (s x : Operand)
    (ho : o.op = .call { callee := .builtin .append, args := #[s, x], argTypes := #[23, 23] }) (B : Nat) (v : Value) (l : List JV) (y : JV) (hs : a.eval s = v) (hown : JOwn w B v l)
    (b : Nat) (hx : a.eval x = .slice (some ⟨b, 0, none⟩) 1 1) (hy : Bl w b y.cells 25) (hsz : l.length ≤ 1000000) (hB : B ≤ w.heap.size)
    (h : ∀ ao cap w', JOwn w' B (.slice ao (l.length + 1) cap) (l ++ [y]) → w.grownBy w' v.ownBlock → (Value.ownBlock (.slice ao (l.length + 1) cap) = v.ownBlock ∨ Value.ownBlock (.slice ao (l.length + 1) cap) = some w.heap.size) → K (a.put o.dst (.slice ao (l.length + 1) cap)) w') : if Region.wanted o (yielded ops a.tmps) = true then Oper.wp Tryz.prog o a w K Q else E := by
  obtain ⟨i0, hi, hz0, hz1, hz2⟩ := info_parts infoJson
  rw [if_pos (by simp [Region.wanted, hgd])]
  obtain ⟨v', w', hrun, h1, h2, h3, h4⟩ := run_append_own_at (P := Tryz.prog) w B 23 o.type 25 i0 _ 4 72 Tryz.underlying23 hi hz0 hz1 hz2 rfl (by decide) v l.length (flat4 l) hown ⟨b, 0, none⟩ 1 1 y.cells rfl (fun j u hu => by rw [add_none, Nat.zero_add, hy.cell]; exact hu) (by intro u hu; simp only [JV.cells, List.mem_cons, List.not_mem_nil, or_false] at hu; rcases hu with rfl | rfl | rfl | rfl <;> rfl) (by unfold maxLen; omega) (by omega) hB
  unfold Oper.wp
  simp [execOp, ho, resolve, invoke, builtin, hs, hx, hrun, Result.andThen]
  obtain ⟨ao, cap, rfl⟩ := ownsRow_slice h1
  refine h ao cap w' ?_ h2 h4
  show World.ownsRow _ _ _ _ _ _ _
  rw [flat4_snoc, List.length_append]
  exact h1
/-- append of a row of names to nothing, as a step of a region that draws. -/
theorem law_appNs {w : World} {ops : Array Oper} {o : Oper} {a : Act} {K : Act → World → Prop} {Q : Exit → Act → World → Prop} {E : Prop} (hgd : o.guard = none) (s x : Operand)
    (ho : o.op = .call { callee := .builtin .append, args := #[s, x], argTypes := #[22, 22] }) (B B' : Nat) (v : Value) (ao : Option Addr) (n c : Nat) (ns : List By) (hs : a.eval s = v) (hown : NOwn w B v [])
    (hx : a.eval x = .slice ao n c) (hy : NSee w B' ao n ns) (hsz : ns.length ≤ 1000000) (hB : B ≤ w.heap.size)
    (h : ∀ ao cap w', NOwn w' B (.slice ao ns.length cap) ns → w.grownBy w' v.ownBlock → (Value.ownBlock (.slice ao ns.length cap) = v.ownBlock ∨ Value.ownBlock (.slice ao ns.length cap) = some w.heap.size) → K (a.put o.dst (.slice ao ns.length cap)) w') : if Region.wanted o (yielded ops a.tmps) = true then Oper.wp Tryz.prog o a w K Q else E := by
  obtain ⟨i0, hi, hz0, hz1, hz2⟩ := info_parts infoText
  rw [if_pos (by simp [Region.wanted, hgd])]
  have hn := hy.1
  rcases hy.2 with h0 | ⟨g, off, h1, h2, h3⟩
  · subst h0
    have hn0 : n = 0 := hn
    subst hn0
    have hrun : (Builtin.append_ #[22, 22] o.type #[v, .slice ao 0 c]).run Tryz.prog w = .ok v w := by
      rcases hown.2 with ⟨rfl, _⟩ | ⟨g, cap, cur, rfl, _, _, hnc, _⟩
      · cases ao <;> simp [Builtin.append_, run_underlying Tryz.underlying22, sizeOf, typeInfo, hi, Builtin.lenOf, Builtin.firstCells, loadCells, loadCellsFrom]
      · cases ao <;> simp [Builtin.append_, run_underlying Tryz.underlying22, sizeOf, typeInfo, hi, Builtin.lenOf, Builtin.firstCells, loadCells, loadCellsFrom, storeCells]
    unfold Oper.wp
    simp [execOp, ho, resolve, invoke, builtin, hs, hx, hrun, Result.andThen]
    obtain ⟨ao', cap', rfl⟩ := ownsRow_slice hown
    exact h ao' cap' w hown (World.grownBy.refl w _) (.inl rfl)
  · subst h1
    obtain ⟨v', w', hrun, k1, k2, k3, k4⟩ := run_append_own_at (P := Tryz.prog) w B 22 o.type 9 i0 _ 1 16 Tryz.underlying22 hi hz0 hz1 hz2 rfl (by decide) v 0 [] hown ⟨g, off, none⟩ n c (ns.map tv) (by rw [List.length_map, hn]; omega) (fun j u hu => by
      rw [List.getElem?_map] at hu
      cases hj : ns[j]? with
      | none => rw [hj] at hu; cases hu
      | some nm =>
        rw [hj] at hu
        have hu2 : tv nm = u := Option.some.inj hu
        rw [← hu2]
        have e : (⟨g, off, none⟩ : Addr).add j = ⟨g, off + j, none⟩ := add_none g off j
        rw [e]
        exact h3 j nm hj) (by intro u hu; obtain ⟨nm, _, rfl⟩ := List.mem_map.1 hu; rfl) (by unfold maxLen; omega) (by omega) hB
    unfold Oper.wp
    simp [execOp, ho, resolve, invoke, builtin, hs, hx, hrun, Result.andThen]
    rw [Nat.zero_add, List.nil_append, hn] at k1
    obtain ⟨ao', cap', rfl⟩ := ownsRow_slice k1
    exact h ao' cap' w' k1 k2 k4
/-- While a twin is made: V holds it, as far as it goes; all its memory is new. -/
structure TI (L V : Nat) (k : Int) (t : ByteArray) (wr : World) (ns : List By) (js : List J) : Prop where
  rows : ∃ an ln cn ai ci vs F, Jb wr V k t (.slice an ln cn) (.slice ai vs.length ci) ∧ NOwn wr L (.slice an ln cn) ns ∧ JOwn wr L (.slice ai vs.length ci) vs ∧ JReps wr js vs F ∧ (∀ b, F b → L ≤ b ∧ b < wr.heap.size ∧ b ≠ V) ∧
    (∀ b, Value.ownBlock (.slice an ln cn) = some b → ¬ F b ∧ b ≠ V) ∧ (∀ b, Value.ownBlock (.slice ai vs.length ci) = some b → ¬ F b ∧ b ≠ V) ∧ (∀ b, Value.ownBlock (.slice an ln cn) = some b → Value.ownBlock (.slice ai vs.length ci) = some b → False)
theorem ti_base {L V : Nat} {k : Int} {t : ByteArray} {w2 : World} {ns : List By} {ao : Option Addr} {n cap : Nat} (hn : NOwn w2 L (.slice ao n cap) ns) (hj : Jb w2 V k t (.slice ao n cap) (.slice none 0 0)) (hV : ∀ b, Value.ownBlock (.slice ao n cap) = some b → b ≠ V) : TI L V k t w2 ns [] :=
  ⟨ao, n, cap, none, 0, [], fun _ => False, hj, hn, jown_nil _ _, by rw [JReps_nil], fun b hb => hb.elim, fun b hb => ⟨fun h => h, hV b hb⟩, fun b hb => (by cases hb), fun b _ hb => (by cases hb)⟩
theorem ti_step {L V : Nat} {k : Int} {t : ByteArray} {wr w2 w4 : World} {o : Obj} {ns : List By} {js : List J} {j : J} {y : JV} {an ai ao : Option Addr} {ln cn ci cap : Nat} {vs : List JV} {F : Nat → Prop}
    (g3 : Jb wr V k t (.slice an ln cn) (.slice ai vs.length ci)) (g4 : NOwn wr L (.slice an ln cn) ns) (g5 : JOwn wr L (.slice ai vs.length ci) vs) (g6 : JReps wr js vs F) (g7 : ∀ b, F b → L ≤ b ∧ b < wr.heap.size ∧ b ≠ V)
    (g8 : ∀ b, Value.ownBlock (.slice an ln cn) = some b → ¬ F b ∧ b ≠ V) (g9 : ∀ b, Value.ownBlock (.slice ai vs.length ci) = some b → ¬ F b ∧ b ≠ V) (g10 : ∀ b, Value.ownBlock (.slice an ln cn) = some b → Value.ownBlock (.slice ai vs.length ci) = some b → False)
    (hb : Below wr.heap.size wr w2) (hr : JRep w2 j y (fun b => wr.heap.size ≤ b ∧ b < w2.heap.size)) (hn : JOwn w4 L (.slice ao (vs.length + 1) cap) (vs ++ [y])) (hg : (w2.alloc o).grownBy w4 (Value.ownBlock (.slice ai vs.length ci)))
    (ho : Value.ownBlock (.slice ao (vs.length + 1) cap) = Value.ownBlock (.slice ai vs.length ci) ∨ Value.ownBlock (.slice ao (vs.length + 1) cap) = some (w2.alloc o).heap.size) (hL : L ≤ wr.heap.size) : TI L V k t (w4.setCell ⟨V, 3, none⟩ (.slice ao (vs.length + 1) cap)) ns (js ++ [j]) := by
  have hVs : V < wr.heap.size := Bl.lt g3
  have hz2 := hb.size
  have hz3 : (w2.alloc o).heap.size = w2.heap.size + 1 := by simp
  have hz4 := hg.size
  have hbs : But V w4 (w4.setCell ⟨V, 3, none⟩ (.slice ao (vs.length + 1) cap)) := But.setCell _ _ _ _
  have keep4 : ∀ b, b < w2.heap.size → Value.ownBlock (.slice ai vs.length ci) ≠ some b → w4.heap[b]? = w2.heap[b]? := fun b h1 h2 => (hg.block b (by omega) (fun e => h2 e.symm)).trans (Below.heap_alloc w2 o b h1)
  have keep : ∀ b, b < w2.heap.size → Value.ownBlock (.slice ai vs.length ci) ≠ some b → b ≠ V → (w4.setCell ⟨V, 3, none⟩ (.slice ao (vs.length + 1) cap)).heap[b]? = w2.heap[b]? := fun b h1 h2 h3 => (hbs.block b (by omega) h3).trans (keep4 b h1 h2)
  have ho5 : ∀ b, Value.ownBlock (.slice ai vs.length ci) = some b → b < wr.heap.size := fun b h => (ownsRow_own g5 h).2
  have hnew : ∀ b, Value.ownBlock (.slice ao (vs.length + 1) cap) = some b → (Value.ownBlock (.slice ai vs.length ci) = some b ∨ b = w2.heap.size + 1) := fun b h => by
    rcases ho with e | e
    · exact .inl (e ▸ h)
    · rw [e] at h
      have := Option.some.inj h
      right; omega
  refine ⟨an, ln, cn, ao, cap, vs ++ [y], fun b => F b ∨ (wr.heap.size ≤ b ∧ b < w2.heap.size), ?_, ?_, ?_, ?_, ?_, ?_, ?_, ?_⟩
  · have h1 : Jb w4 V k t (.slice an ln cn) (.slice ai vs.length ci) := ((keep4 V (by omega) (fun e => (g9 V e).2 rfl)).trans (hb.block V hVs)).trans g3
    have h2 := Bl.set h1 3 (.slice ao (vs.length + 1) cap)
    rw [List.length_append]
    exact h2
  · exact ownsRow_stay g4 (fun g hg2 => ((keep g (by have := (ownsRow_own g4 hg2).2; omega) (fun e => g10 g hg2 e) (g8 g hg2).2).trans (hb.block g (ownsRow_own g4 hg2).2)))
  · rw [List.length_append]
    exact ownsRow_stay hn (fun g hg2 => hbs.block g (ownsRow_own hn hg2).2 (by
      rcases hnew g hg2 with e | e
      · exact (g9 g e).2
      · omega))
  · refine JReps.snoc (JReps.stay _ _ _ g6 (fun b hF => (keep b (by have := (g7 b hF).2.1; omega) (fun e => (g9 b e).1 hF) (g7 b hF).2.2).trans (hb.block b (g7 b hF).2.1))) (JRep.stay _ _ _ hr (fun b hb2 => keep b hb2.2 (fun e => by have := ho5 b e; omega) (by omega))) (fun b h1 h2 => by have := (g7 b h1).2.1; omega)
  · intro b hF
    have hs5 := hbs.size
    rcases hF with h | h
    · have := g7 b h
      exact ⟨this.1, by omega, this.2.2⟩
    · exact ⟨by omega, by omega, by omega⟩
  · intro b hb2
    have := (ownsRow_own g4 hb2).2
    exact ⟨fun h => h.elim (g8 b hb2).1 (fun h => by omega), (g8 b hb2).2⟩
  · intro b hb2
    rw [List.length_append] at hb2
    rcases hnew b hb2 with e | e
    · have := ho5 b e
      exact ⟨fun h => h.elim (g9 b e).1 (fun h => by omega), (g9 b e).2⟩
    · exact ⟨fun h => h.elim (fun h => by have := (g7 b h).2.1; omega) (fun h => by omega), by omega⟩
  · intro b hb2 hb3
    rw [List.length_append] at hb3
    rcases hnew b hb3 with e | e
    · exact g10 b hb2 e
    · have := (ownsRow_own g4 hb2).2
      omega
/-- The contract of Twin at a Json. -/
def TwOk (j : J) : Prop := ∀ (x : JV) (B : Nat) (w : World), JSee w B j x → JFit j → JSmall j → B ≤ w.heap.size →
  Calls Tryz.prog 15 #[x.val] w fun e w' => ∃ y : JV, e = .returned y.val ∧ JRep w' j y (fun b => w.heap.size ≤ b ∧ b < w'.heap.size) ∧ Below w.heap.size w w'

set_option maxHeartbeats 8000000 in
set_option maxRecDepth 100000 in
theorem twin_step (k : Int) (t : By) (ns : List By) (is : List J) (ih : ∀ j ∈ is, TwOk j) : TwOk (.mk k t ns is) := by
  intro x B w hx hf hsm hB
  rw [JSee_mk] at hx
  obtain ⟨a1, a2, a3, a4, an, vs, ai, ajs⟩ := hx
  rw [JFit_mk] at hf
  obtain ⟨f1, f2, f3, f4, f5⟩ := hf
  rw [JSmall_mk, jsmalls_iff] at hsm
  obtain ⟨m1, m2, m3⟩ := hsm
  obtain ⟨N, hN⟩ : ∃ N, N = w.heap.size := ⟨_, rfl⟩
  have HU : Hid (Below w.heap.size w ((w.alloc (.cells #[.int .i64 x.k, .string x.t, .slice x.an x.ln x.cn, .slice x.ai x.li x.ci] 25)).alloc (.cells #[.int .i64 0, .string ⟨#[]⟩, .slice none 0 0, .slice none 0 0] 25))) := ((Below.refl _ _).alloc (Nat.le_refl _) _).alloc (by simp) _
  have HJ1 : Hid (Jb ((w.alloc (.cells #[.int .i64 x.k, .string x.t, .slice x.an x.ln x.cn, .slice x.ai x.li x.ci] 25)).alloc (.cells #[.int .i64 0, .string ⟨#[]⟩, .slice none 0 0, .slice none 0 0] 25)) N x.k x.t (.slice x.an x.ln x.cn) (.slice x.ai x.li x.ci)) := by
    rw [hN]; exact (Jb.new w x.k x.t (.slice x.an x.ln x.cn) (.slice x.ai x.li x.ci)).alloc _
  have HJ2 : Hid (Jb ((w.alloc (.cells #[.int .i64 x.k, .string x.t, .slice x.an x.ln x.cn, .slice x.ai x.li x.ci] 25)).alloc (.cells #[.int .i64 0, .string ⟨#[]⟩, .slice none 0 0, .slice none 0 0] 25)) (N + 1) 0 ⟨#[]⟩ (.slice none 0 0) (.slice none 0 0)) := by
    have := Jb.new (w.alloc (.cells #[.int .i64 x.k, .string x.t, .slice x.an x.ln x.cn, .slice x.ai x.li x.ci] 25)) 0 ⟨#[]⟩ (.slice none 0 0) (.slice none 0 0)
    rw [show (w.alloc (.cells #[.int .i64 x.k, .string x.t, .slice x.an x.ln x.cn, .slice x.ai x.li x.ci] 25)).heap.size = N + 1 by rw [hN]; simp] at this
    exact this
  have hus : ((w.alloc (.cells #[.int .i64 x.k, .string x.t, .slice x.an x.ln x.cn, .slice x.ai x.li x.ci] 25)).alloc (.cells #[.int .i64 0, .string ⟨#[]⟩, .slice none 0 0, .slice none 0 0] 25)).heap.size = N + 2 := by rw [hN]; simp
  have HLI : Hid (x.li = is.length) := by show _ = _; rw [ai.1]; exact (JSees.get is vs ajs).1
  have HAN : Hid (∀ W : World, (∀ k, k < B → W.heap[k]? = w.heap[k]?) → NSee W B x.an x.ln ns) := fun W hW => an.stay hW
  have HAI := hide ai
  have HAJ := hide ajs
  have HA4 := hide a4
  have HIH := hide ih
  have HF5 := hide f5
  have HM3 := hide m3
  have HBw := hide hB
  have HKK := hide a1
  have HTT := hide a2
  have HT3 := hide a3
  rw [show x.val = .agg #[.int .i64 x.k, .string x.t, .slice x.an x.ln x.cn, .slice x.ai x.li x.ci] from rfl]
  clear a1 a2 a3 a4 an ai ajs ih f1 f2 f5 m3 hB
  have HNW := hide hN
  go_enter Tryz.func15, Tryz.ntmps15
  go_upto_region 1 with fail
  rw [← hN]
  clear hN
  generalize (w.alloc (.cells #[.int .i64 x.k, .string x.t, .slice x.an x.ln x.cn, .slice x.ai x.li x.ci] 25)).alloc (.cells #[.int .i64 0, .string ⟨#[]⟩, .slice none 0 0, .slice none 0 0] 25) = u at *
  have p0 := HJ1.out.c0
  have p1 := HJ1.out.c1
  have p2 := HJ1.out.c2
  have huz : u.heap.size = N + 2 := hus
  have HGEN : Hid (∀ W : World, (∀ k, k < N + 2 → W.heap[k]? = u.heap[k]?) → NSee W B x.an x.ln ns) := fun W hW => HAN.out W (fun k hk => by
    have h1 := HBw.out
    have h2 := HNW.out
    exact (hW k (by omega)).trans (HU.out.block k (by omega)))
  have HA1 : Hid (NOwn (u.alloc (.cells #[] 9)).drew (N + 2) (.slice (some ⟨N + 2, 0, none⟩) 0 0) []) := by
    have := World.ownsRow_lit (base := N + 2) (e := 9) (size := 1) u #[] 0 (by omega) (by unfold maxLen; omega) rfl
    rw [huz] at this
    exact this
  have HA2 : Hid (NOwn ((u.alloc (.cells #[] 9)).alloc (.cells #[.int .i64 0, .string ⟨#[]⟩, .slice none 0 0, .slice none 0 0] 25)).drew (N + 2) (.slice (some ⟨N + 2, 0, none⟩) 0 0) []) := by
    have := World.ownsRow_lit (base := N + 2) (e := 9) (size := 1) u #[] 0 (by omega) (by unfold maxLen; omega) rfl
    rw [huz] at this
    exact World.ownsRow.alloc this _
  have HA3 : Hid (NOwn ((u.alloc (.cells #[.int .i64 0, .string ⟨#[]⟩, .slice none 0 0, .slice none 0 0] 25)).alloc (.cells #[] 9)).drew (N + 2) (.slice (some ⟨N + 2 + 1, 0, none⟩) 0 0) []) := by
    have := World.ownsRow_lit (base := N + 2) (e := 9) (size := 1) (u.alloc (.cells #[.int .i64 0, .string ⟨#[]⟩, .slice none 0 0, .slice none 0 0] 25)) #[] 0 (by simp; omega) (by unfold maxLen; omega) rfl
    rw [show (u.alloc (.cells #[.int .i64 0, .string ⟨#[]⟩, .slice none 0 0, .slice none 0 0] 25)).heap.size = N + 2 + 1 by simp [huz]] at this
    exact this
  have HL1 : Hid (∀ k, k < N + 2 → (u.alloc (.cells #[] 9)).drew.heap[k]? = u.heap[k]?) := fun k hk => Below.heap_alloc u _ k (by omega)
  have HL2 : Hid (∀ k, k < N + 2 → ((u.alloc (.cells #[] 9)).alloc (.cells #[.int .i64 0, .string ⟨#[]⟩, .slice none 0 0, .slice none 0 0] 25)).drew.heap[k]? = u.heap[k]?) := fun k hk => (Below.heap_alloc (u.alloc (.cells #[] 9)) _ k (by simp; omega)).trans (HL1.out k hk)
  have HL3 : Hid (∀ k, k < N + 2 → ((u.alloc (.cells #[.int .i64 0, .string ⟨#[]⟩, .slice none 0 0, .slice none 0 0] 25)).alloc (.cells #[] 9)).drew.heap[k]? = u.heap[k]?) := fun k hk => (Below.heap_alloc (u.alloc (.cells #[.int .i64 0, .string ⟨#[]⟩, .slice none 0 0, .slice none 0 0] 25)) _ k (by simp; omega)).trans (Below.heap_alloc u _ k (by omega))
  have HV2 : Hid (Jb ((u.alloc (.cells #[] 9)).alloc (.cells #[.int .i64 0, .string ⟨#[]⟩, .slice none 0 0, .slice none 0 0] 25)).drew (N + 2 + 1) 0 ⟨#[]⟩ (.slice none 0 0) (.slice none 0 0)) := by
    have := Jb.new (u.alloc (.cells #[] 9)) 0 ⟨#[]⟩ (.slice none 0 0) (.slice none 0 0)
    rw [show (u.alloc (.cells #[] 9)).heap.size = N + 2 + 1 by simp [huz]] at this
    exact this
  have HV3 : Hid (Jb ((u.alloc (.cells #[.int .i64 0, .string ⟨#[]⟩, .slice none 0 0, .slice none 0 0] 25)).alloc (.cells #[] 9)).drew (N + 2) 0 ⟨#[]⟩ (.slice none 0 0) (.slice none 0 0)) := by
    have := (Jb.new u 0 ⟨#[]⟩ (.slice none 0 0) (.slice none 0 0)).alloc (.cells #[] 9)
    rw [huz] at this
    exact this
  have hlowc : ∀ (W : World) a v, (∀ k, k < N + 2 → W.heap[k]? = u.heap[k]?) → u.cell? a = some v → a.block < N + 2 → W.cell? a = some v := fun W a v hW ha hb => by rw [World.cell?_of_block (hW a.block hb)]; exact ha
  have HLC := hide hlowc
  clear hlowc
  have hne1 : N ≠ N + 2 + 1 := by omega
  have hne2 : N ≠ N + 2 := by omega
  have hne3 : N + 2 + 1 ≠ N := by omega
  have hne4 : N + 2 ≠ N := by omega
  go_cut [3] (fun v3 wx => ∃ V, v3 = .pointer (some ⟨V, 0, none⟩) ∧ N + 2 ≤ V ∧ Hid (TI (N + 2) V x.k x.t wx ns []) ∧ Hid (Below (N + 2) u wx))
  case first =>
    go_region_held_law (fun W => W.cell? ⟨N, 0, none⟩ = some (.int .i64 x.k) ∧ W.cell? ⟨N, 1, none⟩ = some (.string x.t) ∧ W.cell? ⟨N, 2, none⟩ = some (.slice x.an x.ln x.cn)) (go_keep) (first
      | (refine law_appNs rfl (.tmp 9) (.tmp 11) rfl (N + 2) B _ x.an x.ln x.cn ns rfl HA1.out rfl (HGEN.out _ HL1.out) (by omega) (by simp; omega) ?_; intro ao2 cap2 w2 hn2 hg2 ho2; have hlw : ∀ k, k < N + 2 → w2.heap[k]? = u.heap[k]? := (fun k hk => (hg2.block k (by simp; omega) (fun e => by have e2 : k = N + 2 := Option.some.inj e; omega)).trans (HL1.out k hk)); have t0 := HLC.out w2 _ _ hlw p0 (by show N < N + 2; omega); have t1 := HLC.out w2 _ _ hlw p1 (by show N < N + 2; omega); have t2 := HLC.out w2 _ _ hlw p2 (by show N < N + 2; omega); have HN2 := hide hn2; have HLW := hide hlw; have HO2 := hide ho2; have HG2 := hide hg2; clear hn2 hg2 ho2 hlw)
      | (refine law_appNs rfl (.tmp 9) (.tmp 11) rfl (N + 2) B _ x.an x.ln x.cn ns rfl HA2.out rfl (HGEN.out _ HL2.out) (by omega) (by simp; omega) ?_; intro ao2 cap2 w2 hn2 hg2 ho2; have hlw : ∀ k, k < N + 2 → w2.heap[k]? = u.heap[k]? := (fun k hk => (hg2.block k (by simp; omega) (fun e => by have e2 : k = N + 2 := Option.some.inj e; omega)).trans (HL2.out k hk)); have t0 := HLC.out w2 _ _ hlw p0 (by show N < N + 2; omega); have t1 := HLC.out w2 _ _ hlw p1 (by show N < N + 2; omega); have t2 := HLC.out w2 _ _ hlw p2 (by show N < N + 2; omega); have HN2 := hide hn2; have HLW := hide hlw; have HO2 := hide ho2; have HG2 := hide hg2; have hvj : Jb w2 (N + 2 + 1) 0 ⟨#[]⟩ (.slice none 0 0) (.slice none 0 0) := ((hg2.block (N + 2 + 1) (by simp; omega) (fun e => by have e2 : N + 2 + 1 = N + 2 := Option.some.inj e; omega)).trans HV2.out); have HVJ := hide hvj; have y0 := hvj.c0; have y1 := hvj.c1; have y2 := hvj.c2; have y3 := hvj.c3; have z0 := hvj.fz 0; have z1 := hvj.fz 1; have z2 := hvj.fz 2; have z3 := hvj.fz 3; clear hvj; clear hn2 hg2 ho2 hlw)
      | (refine law_appNs rfl (.tmp 9) (.tmp 11) rfl (N + 2) B _ x.an x.ln x.cn ns rfl HA3.out rfl (HGEN.out _ HL3.out) (by omega) (by simp; omega) ?_; intro ao2 cap2 w2 hn2 hg2 ho2; have hlw : ∀ k, k < N + 2 → w2.heap[k]? = u.heap[k]? := (fun k hk => (hg2.block k (by simp; omega) (fun e => by have e2 : k = N + 2 + 1 := Option.some.inj e; omega)).trans (HL3.out k hk)); have t0 := HLC.out w2 _ _ hlw p0 (by show N < N + 2; omega); have t1 := HLC.out w2 _ _ hlw p1 (by show N < N + 2; omega); have t2 := HLC.out w2 _ _ hlw p2 (by show N < N + 2; omega); have HN2 := hide hn2; have HLW := hide hlw; have HO2 := hide ho2; have HG2 := hide hg2; have hvj : Jb w2 (N + 2) 0 ⟨#[]⟩ (.slice none 0 0) (.slice none 0 0) := ((hg2.block (N + 2) (by simp; omega) (fun e => by have e2 : N + 2 = N + 2 + 1 := Option.some.inj e; omega)).trans HV3.out); have HVJ := hide hvj; have y0 := hvj.c0; have y1 := hvj.c1; have y2 := hvj.c2; have y3 := hvj.c3; have z0 := hvj.fz 0; have z1 := hvj.fz 1; have z2 := hvj.fz 2; have z3 := hvj.fz 3; clear hvj; clear hn2 hg2 ho2 hlw))
    · go_wp2_with fail
      go_meet
      refine ⟨w2.heap.size, rfl, ?_, ti_base (World.ownsRow.alloc HN2.out _) (Jb.new w2 x.k x.t _ _) (fun b hb e => ?_), ?_⟩
      · have := HG2.out.size
        simp at this
        omega
      · have := (ownsRow_own HN2.out hb).2
        omega
      · exact ⟨HG2.out.os, HG2.out.tape, HG2.out.output, (by have := HG2.out.size; simp at this ⊢; omega), fun k hk => (Below.heap_alloc w2 _ k (by have := HG2.out.size; simp at this; omega)).trans (HLW.out k hk)⟩
    · go_wp2_with fail
      go_meet
      have hbt := put4_but w2 (N + 2 + 1) 0 ⟨x.k, x.t, ao2, ns.length, cap2, none, 0, 0⟩
      have hown : ∀ b, Value.ownBlock (.slice ao2 ns.length cap2) = some b → b ≠ N + 2 + 1 := fun b hb => by
        rcases HO2.out with h | h
        · rw [h] at hb
          have e2 : N + 2 = b := Option.some.inj hb
          omega
        · rw [h] at hb
          have e2 := Option.some.inj hb
          simp at e2
          omega
      refine ⟨N + 2 + 1, rfl, by omega, ti_base (ownsRow_stay HN2.out (fun g hg => hbt.block g (ownsRow_own HN2.out hg).2 (hown g hg))) (HVJ.out.put4 x.k x.t _ _) hown, ?_⟩
      exact ⟨hbt.os.trans HG2.out.os, hbt.tape.trans HG2.out.tape, hbt.output.trans HG2.out.output, Nat.le_trans (by have := HG2.out.size; simp at this; omega) hbt.size, fun k hk => (hbt.block k (by have := HG2.out.size; simp at this; omega) (by omega)).trans (HLW.out k hk)⟩
    · go_wp2_with fail
      go_meet
      have hbt := put4_but w2 (N + 2) 0 ⟨x.k, x.t, ao2, ns.length, cap2, none, 0, 0⟩
      have hown : ∀ b, Value.ownBlock (.slice ao2 ns.length cap2) = some b → b ≠ N + 2 := fun b hb => by
        rcases HO2.out with h | h
        · rw [h] at hb
          have e2 : N + 2 + 1 = b := Option.some.inj hb
          omega
        · rw [h] at hb
          have e2 := Option.some.inj hb
          simp at e2
          omega
      refine ⟨N + 2, rfl, by omega, ti_base (ownsRow_stay HN2.out (fun g hg => hbt.block g (ownsRow_own HN2.out hg).2 (hown g hg))) (HVJ.out.put4 x.k x.t _ _) hown, ?_⟩
      exact ⟨hbt.os.trans HG2.out.os, hbt.tape.trans HG2.out.tape, hbt.output.trans HG2.out.output, Nat.le_trans (by have := HG2.out.size; simp at this; omega) hbt.size, fun k hk => (hbt.block k (by have := HG2.out.size; simp at this; omega) (by omega)).trans (HLW.out k hk)⟩
  case rest =>
    obtain ⟨V, rfl, hV, HTI, HBV⟩ := hcut
    have hVN : N ≠ V := by omega
    have hVN1 : N + 1 ≠ V := by omega
    have hVN2 : V ≠ N := by omega
    have p3 := HJ1.out.c3
    clear HA1 HA2 HA3 HL1 HL2 HL3 HV2 HV3 HGEN hne1 hne2 hne3 hne4 p0 p1 p2
    have HBVU : Hid (∀ a v, u.cell? a = some v → a.block < N + 2 → ∀ W : World, Below (N + 2) u W → W.cell? a = some v) := fun a v ha hb W hW => by rw [World.cell?_of_block (hW.block a.block hb)]; exact ha
    go_wp2_with fail
    go_loopw [4] (fun v4 wr => ∃ i : Nat, i ≤ is.length ∧ v4 = .int .i64 (i : Int) ∧ Hid (TI (N + 2) V x.k x.t wr ns (is.take i)) ∧ Hid (Below (N + 2) u wr)) (fun v4 _ => is.length - (intOf v4).toNat)
    case atStart => exact ⟨0, Nat.zero_le _, rfl, by rw [List.take_zero]; exact HTI, HBV⟩
    case round =>
      clear HTI HBV
      obtain ⟨i, hi, rfl, HTI, HBV⟩ := hrel
      have s3 := HBVU.out _ _ p3 (by show N < N + 2; omega) wr HBV.out
      have HWW : Hid (Below w.heap.size w wr) := HU.out.trans ⟨HBV.out.os, HBV.out.tape, HBV.out.output, HBV.out.size, fun k hk => HBV.out.block k (by have := HNW.out; omega)⟩
      obtain ⟨an, ln, cn, ai2, ci2, vs2, F, g3, g4, g5, g6, g7, g8, g9, g10⟩ := HTI.out.rows
      have hlen2 : vs2.length = i := by rw [JReps.len g6, List.length_take]; omega
      by_cases hin : i < is.length
      · obtain ⟨v1, hv1, hw1⟩ := (JSees.get is vs HAJ.out).2 i is[i] (List.getElem?_eq_getElem hin)
        obtain ⟨g1, o1, e1, hg1, hc1⟩ : ∃ g off, x.ai = some ⟨g, off, none⟩ ∧ g < B ∧ ∀ i v, vs[i]? = some v → ∀ j u, v.cells[j]? = some u → w.cell? ⟨g, off + (4 * i + j), none⟩ = some u := by
          rcases HAI.out.2 with e | e
          · rw [e] at hv1; simp at hv1
          · exact e
        have hg1V : g1 ≠ V := by have := HBw.out; have := HNW.out; omega
        have hg1V2 : V ≠ g1 := hg1V.symm
        have k0 : wr.cell? ⟨g1, o1 + i * 4, none⟩ = some (.int .i64 v1.k) := by have := cell_kept (hc1 i v1 hv1 0 _ rfl) HWW.out; rw [show o1 + (4 * i + 0) = o1 + i * 4 by omega] at this; exact this
        have k1 : wr.cell? ⟨g1, o1 + i * 4 + 1, none⟩ = some (.string v1.t) := by have := cell_kept (hc1 i v1 hv1 1 _ rfl) HWW.out; rw [show o1 + (4 * i + 1) = o1 + i * 4 + 1 by omega] at this; exact this
        have k2 : wr.cell? ⟨g1, o1 + i * 4 + 2, none⟩ = some (.slice v1.an v1.ln v1.cn) := by have := cell_kept (hc1 i v1 hv1 2 _ rfl) HWW.out; rw [show o1 + (4 * i + 2) = o1 + i * 4 + 2 by omega] at this; exact this
        have k3 : wr.cell? ⟨g1, o1 + i * 4 + 3, none⟩ = some (.slice v1.ai v1.li v1.ci) := by have := cell_kept (hc1 i v1 hv1 3 _ rfl) HWW.out; rw [show o1 + (4 * i + 3) = o1 + i * 4 + 3 by omega] at this; exact this
        rw [e1] at s3
        have hil : (i : Int) < (x.li : Int) := by have := HLI.out; omega
        have y3 := g3.c3
        have hsz10 : vs2.length ≤ 1000000 := by omega
        have HG3 := hide g3
        have HG5 := hide g5
        have hN2 : N + 2 ≤ wr.heap.size := by have := HBV.out.size; omega
        have HSTEP : Hid (∀ (y : JV) (w2 w4 : World) (o : Obj) (ao : Option Addr) (cap : Nat), Below wr.heap.size wr w2 → JRep w2 is[i] y (fun b => wr.heap.size ≤ b ∧ b < w2.heap.size) → JOwn w4 (N + 2) (.slice ao (vs2.length + 1) cap) (vs2 ++ [y]) → (w2.alloc o).grownBy w4 (Value.ownBlock (.slice ai2 vs2.length ci2)) → (Value.ownBlock (.slice ao (vs2.length + 1) cap) = Value.ownBlock (.slice ai2 vs2.length ci2) ∨ Value.ownBlock (.slice ao (vs2.length + 1) cap) = some (w2.alloc o).heap.size) → TI (N + 2) V x.k x.t (w4.setCell ⟨V, 3, none⟩ (.slice ao (vs2.length + 1) cap)) ns (is.take (i + 1))) := fun y w2 w4 o ao cap h1 h2 h3 h4 h5 => by
          rw [show is.take (i + 1) = is.take i ++ [is[i]] by rw [List.take_add_one, List.getElem?_eq_getElem hin]; rfl]
          exact ti_step g3 g4 g5 g6 g7 g8 g9 g10 h1 h2 h3 h4 h5 hN2
        have HOWN : Hid (∀ b, Value.ownBlock (.slice ai2 vs2.length ci2) = some b → N + 2 ≤ b ∧ b ≠ V) := fun b hb => ⟨(ownsRow_own g5 hb).1, (g9 b hb).2⟩
        have HC := hide (HIH.out is[i] (List.getElem_mem hin) v1 B wr.drew (JSee.stay _ _ hw1 (fun k hk => HWW.out.block k (by have := HBw.out; omega))) (JFits.get is HF5.out i _ (List.getElem?_eq_getElem hin)) (HM3.out _ (List.getElem_mem hin)) (by have := HBw.out; have := HWW.out.size; show B ≤ wr.heap.size; omega))
        rw [show v1.val = .agg #[.int .i64 v1.k, .string v1.t, .slice v1.an v1.ln v1.cn, .slice v1.ai v1.li v1.ci] from rfl] at HC
        clear hv1 hw1 hc1 e1 g3 g4 g5 g6 g7 g8 g9 g10 hlen2
        go_wp2_with fail
        go_region_law (first
          | (refine law_call rfl 28 rfl 15 #[.agg #[.int .i64 v1.k, .string v1.t, .slice v1.an v1.ln v1.cn, .slice v1.ai v1.li v1.ci]] (by unfold execOp; simp; go_simp) HC.out ?_; rintro ε w2 ⟨y, rfl, hr, hb⟩; refine ⟨_, rfl, ?_⟩; have hb5 : Below wr.heap.size wr w2 := below_undrewN1 hb; rw [show y.val = .agg #[.int .i64 y.k, .string y.t, .slice y.an y.ln y.cn, .slice y.ai y.li y.ci] from rfl]; have HR5 := hide hr; have HB5 := hide hb5; have t0 := cell_kept s3 hb5; have t1 := cell_kept k0 hb5; have t2 := cell_kept k1 hb5; have t3 := cell_kept k2 hb5; have t4 := cell_kept k3 hb5; have HVJ := hide (HG3.out.keep hb5); have y4 := HVJ.out.c3; have y5 := cell_kept y4 (below_new w2 (.cells #[.int .i64 y.k, .string y.t, .slice y.an y.ln y.cn, .slice y.ai y.li y.ci] 25)); have HBL := hide (Bl.new w2 #[.int .i64 y.k, .string y.t, .slice y.an y.ln y.cn, .slice y.ai y.li y.ci] 25); have HO6 : Hid (JOwn (w2.alloc (.cells #[.int .i64 y.k, .string y.t, .slice y.an y.ln y.cn, .slice y.ai y.li y.ci] 25)) (N + 2) (.slice ai2 vs2.length ci2) vs2) := (World.ownsRow.alloc (ownsRow_stay HG5.out (fun g hg => hb5.block g (ownsRow_own HG5.out hg).2)) _); have hz5 := hb5.size; clear hr hb hb5)
          | (refine law_appJ1 rfl (.tmp 22) (.tmp 29) rfl (N + 2) (.slice ai2 vs2.length ci2) vs2 y rfl HO6.out w2.heap.size rfl HBL.out hsz10 (by simp; omega) ?_; intro ao3 cap3 w4 hn4 hg4 ho4; have HN4 := hide hn4; have HG4 := hide hg4; have HO4 := hide ho4; have hkp : ∀ a v, w2.cell? a = some v → a.block < w2.heap.size → (∀ b, Value.ownBlock (.slice ai2 vs2.length ci2) = some b → a.block ≠ b) → w4.cell? a = some v := (fun a v ha hb2 hne => by rw [World.cell?_of_block ((hg4.block a.block (by simp; omega) (fun e => hne _ e.symm rfl)).trans (Below.heap_alloc w2 _ a.block hb2))]; exact ha); have e0 := hkp _ _ t0 (World.block_lt_of_cell? w2 _ t0) (fun b hb2 => by have := (HOWN.out b hb2).1; show N ≠ b; omega); have e1 := hkp _ _ t1 (World.block_lt_of_cell? w2 _ t1) (fun b hb2 => by have := (HOWN.out b hb2).1; have := HBw.out; have := HNW.out; show g1 ≠ b; omega); have e2 := hkp _ _ t2 (World.block_lt_of_cell? w2 _ t2) (fun b hb2 => by have := (HOWN.out b hb2).1; have := HBw.out; have := HNW.out; show g1 ≠ b; omega); have e3 := hkp _ _ t3 (World.block_lt_of_cell? w2 _ t3) (fun b hb2 => by have := (HOWN.out b hb2).1; have := HBw.out; have := HNW.out; show g1 ≠ b; omega); have e4 := hkp _ _ t4 (World.block_lt_of_cell? w2 _ t4) (fun b hb2 => by have := (HOWN.out b hb2).1; have := HBw.out; have := HNW.out; show g1 ≠ b; omega); have hvj4 : Jb w4 V x.k x.t (.slice an ln cn) (.slice ai2 vs2.length ci2) := ((hg4.block V (by have := Bl.lt HVJ.out; simp; omega) (fun e => (HOWN.out V e.symm).2 rfl)).trans (Below.heap_alloc w2 _ V (Bl.lt HVJ.out))).trans HVJ.out; have e5 := hvj4.c3; have e6 := hvj4.fz 3; clear hn4 hg4 ho4 hkp hvj4))
        all_goals
          have HT2 := hide (HSTEP.out y w2 w4 _ ao3 cap3 HB5.out HR5.out HN4.out HG4.out HO4.out)
          have HB9 : Hid (Below (N + 2) u (w4.setCell ⟨V, 3, none⟩ (.slice ao3 (vs2.length + 1) cap3))) := by
            have hbs : But V w4 (w4.setCell ⟨V, 3, none⟩ (.slice ao3 (vs2.length + 1) cap3)) := But.setCell _ _ _ _
            have h2 := HB5.out
            have h4 := HG4.out
            have hz2 := h2.size
            have hz4 := h4.size
            have hzb := HBV.out.size
            have hz3 : (w2.alloc (.cells #[.int .i64 y.k, .string y.t, .slice y.an y.ln y.cn, .slice y.ai y.li y.ci] 25)).heap.size = w2.heap.size + 1 := by simp
            refine HBV.out.trans ⟨hbs.os.trans (h4.os.trans h2.os), hbs.tape.trans (h4.tape.trans h2.tape), hbs.output.trans (h4.output.trans h2.output), Nat.le_trans (by omega) hbs.size, fun k hk => ?_⟩
            rw [hbs.block k (by omega) (by omega), h4.block k (by omega) (fun e => by have := (HOWN.out k e.symm).1; omega), Below.heap_alloc w2 _ k (by omega)]
            exact h2.block k (by omega)
          clear HSTEP HN4 HG4 HO4
          go_wp2_with fail
          go_roundw
        all_goals first
          | exact ⟨i + 1, by omega, by simp, HT2, HB9⟩
          | (simp [intOf]; omega)
      · have hil : ¬ (i : Int) < (x.li : Int) := by have := HLI.out; omega
        have hJ2w : Jb wr (N + 1) 0 ⟨#[]⟩ (.slice none 0 0) (.slice none 0 0) := (HBV.out.block (N + 1) (by omega)).trans HJ2.out
        rw [List.take_of_length_le (by omega)] at g6
        have hzw := HBV.out.size
        have hbp := put4_but wr (N + 1) 0 ⟨x.k, x.t, an, ln, cn, ai2, vs2.length, ci2⟩
        have HFIN : Hid (∃ y : JV, Ending.returned (.agg #[.int .i64 x.k, .string x.t, .slice an ln cn, .slice ai2 vs2.length ci2]) = .returned y.val ∧ JRep (put4 wr (N + 1) 0 ⟨x.k, x.t, an, ln, cn, ai2, vs2.length, ci2⟩) (.mk k t ns is) y (fun b => w.heap.size ≤ b ∧ b < (put4 wr (N + 1) 0 ⟨x.k, x.t, an, ln, cn, ai2, vs2.length, ci2⟩).heap.size) ∧ Below w.heap.size w (put4 wr (N + 1) 0 ⟨x.k, x.t, an, ln, cn, ai2, vs2.length, ci2⟩)) := by
          refine ⟨⟨x.k, x.t, an, ln, cn, ai2, vs2.length, ci2⟩, rfl, ?_, HWW.out.trans ⟨hbp.os, hbp.tape, hbp.output, hbp.size, fun k hk => hbp.block k (by have := HNW.out; omega) (by have := HNW.out; omega)⟩⟩
          rw [JRep_mk]
          have hnN := HNW.out
          refine ⟨HKK.out, HTT.out, HT3.out, HA4.out, vs2, F, ownsRow_lower (ownsRow_stay g4 (fun g hg => hbp.block g (ownsRow_own g4 hg).2 (by have := (ownsRow_own g4 hg).1; omega))) (Nat.zero_le _), ownsRow_lower (ownsRow_stay g5 (fun g hg => hbp.block g (ownsRow_own g5 hg).2 (by have := (ownsRow_own g5 hg).1; omega))) (Nat.zero_le _), JReps.stay _ _ _ g6 (fun b hF => hbp.block b (g7 b hF).2.1 (by have := (g7 b hF).1; omega)), ?_, ?_, ?_, g10⟩
          · intro b hF
            have := g7 b hF
            rw [put4_size]
            exact ⟨by omega, this.2.1⟩
          · intro b hb
            have := ownsRow_own g4 hb
            rw [put4_size]
            exact ⟨⟨by omega, this.2⟩, (g8 b hb).1⟩
          · intro b hb
            have := ownsRow_own g5 hb
            rw [put4_size]
            exact ⟨⟨by omega, this.2⟩, (g9 b hb).1⟩
        have v0 := g3.c0
        have v1 := g3.c1
        have v2 := g3.c2
        have v3 := g3.c3
        have j0 := hJ2w.c0
        have j1 := hJ2w.c1
        have j2 := hJ2w.c2
        have j3 := hJ2w.c3
        have z0 := hJ2w.fz 0
        have z1 := hJ2w.fz 1
        have z2 := hJ2w.fz 2
        have z3 := hJ2w.fz 3
        simp only [put4, Nat.zero_add] at HFIN
        clear g3 g4 g5 g6 g7 g8 g9 g10 hbp hJ2w HTI hlen2
        go_wp2_with fail
        refine bodyPost_ret (v := .agg #[.int .i64 x.k, .string x.t, .slice an ln cn, .slice ai2 vs2.length ci2]) (by simp [results, Tryz.results15, go_sem, j0, j1, j2, j3]) rfl ?_
        exact HFIN.out
theorem twin_any (j : J) : TwOk j := (J.both (M1 := TwOk) (M2 := fun js => ∀ j ∈ js, TwOk j) twin_step (fun j h => by cases h) (fun j js h1 h2 j' h => by
    rcases List.mem_cons.1 h with e | e
    · rw [e]; exact h1
    · exact h2 j' e)).1 j
end Go.Proofs.YtiaedngnofablaaGreatDoor
