/- slices.AppendSeq, Collect, Sorted over the keys of a map from numbers to numbers. -/
import Derived.Test.YtmngmkbiibhmkaaVKeys
namespace Go.Proofs.Ytmngmkbiibhmkaa
open Go.RowKit Go.Shelf Go.Maps

attribute [local go_sem] Oper.semAt_some

theorem wpListIn_append_nums {F : Fence} {m : Nat} {w : World} {ops : Array Oper} {rest : List Oper} {o : Oper} {a : Act} {Q : Exit → Act → World → Prop} (hgd : o.guard = none) (s x : Operand) (t t2 : TypeId) (hu : Try.prog.underlying t = some (.slice 22)) (hu2 : Try.prog.underlying t2 = some (.slice 22))
    (ho : o.op = .call { callee := .builtin .append, args := #[s, x], argTypes := #[t, t2] }) (B : Nat) (v : Value) (xs : List Nat) (hs : a.eval s = v) (hown : Own w B v xs)
    (ao : Option Addr) (n c : Nat) (ys : List Nat) (hn : n = ys.length) (hx : a.eval x = .slice ao n c) (hy : Row w ao ys) (hsz : xs.length + ys.length ≤ 17592186044416) (hB : B ≤ w.heap.size)
    (h : ∀ v' w', Own w' B v' (xs ++ ys) → w.grownBy w' v.ownBlock → (v'.ownBlock = v.ownBlock ∨ v'.ownBlock = some w.heap.size) → wpListIn F m Try.prog ops Q rest (a.put o.dst v') w') : wpListIn F m Try.prog ops Q (o :: rest) a w := by
  refine wpListIn_plain hgd fun K hK => ?_
  obtain ⟨v', w', hrun, h1, h2, h3⟩ := run_append_nums t t2 hu hu2 hown ao c hy hsz hB o.type
  subst hn
  unfold Oper.wpIn
  refine ⟨by simp [Oper.about, ho, resolve, Target.leads, Sem.run_pure], ?_⟩
  rw [Oper.semAt_plain F _ _ (by rw [ho]; intro c hc'; cases hc')]
  simp [execOp, ho, resolve, invoke, builtin, hs, hx, hrun, Result.andThen]
  exact hK _ _ (h v' w' h1 h2 h3)
/-- What AppendSeq keeps between the rounds: the box at N, and the row that it holds, behind the loop's own blocks. -/
def Seq (w : World) (N : Nat) (ss : List Nat) (W : World) : Prop := ∃ v, Bl W N [v] 48 ∧ Own W (N + 4) v ss ∧ Below N w W
theorem Seq.out {w : World} {N : Nat} {ss : List Nat} {W W' : World} (h : Seq w N ss W) (hs : N < W.heap.size) (k : Out3 (N + 1) W W') : Seq w N ss W' := by
  obtain ⟨v, h1, h2, h3⟩ := h
  refine ⟨v, (k.block N hs (.inl (by omega))).trans h1, h2.same fun g hg => k.block g (h2.lt g hg).2 (.inr (by have := (h2.lt g hg).1; omega)), h3.trans ⟨k.os, k.tape, k.output, k.size, fun j hj => k.block j (by omega) (.inl (by omega))⟩⟩
theorem own_walk {W : World} {B : Nat} {v : Value} {ss : List Nat} (h : Own W B v ss) : ∀ (j : Nat) (o : Obj), v.ownBlock = some j → W.heap[j]? = some o → o.isWalk = false := by
  intro j o hj ho
  rcases h.2 with ⟨h1, _⟩ | ⟨g, cap, cur, rfl, _, hg, _⟩
  · subst h1; simp [Value.ownBlock] at hj
  · simp [Value.ownBlock] at hj
    subst hj
    rw [hg] at ho
    cases ho
    rfl
set_option maxRecDepth 100000 in
set_option maxHeartbeats 1600000 in
theorem appendSeq_in (n Bm b : Nat) (L : List Tm) (hn : (L.map Prod.fst).Nodup) (hhas : ∀ x : Nat, has (DT L) (.int .u64 (x : Int)) = true ↔ x ∈ L.map Prod.fst) (hl : L.length ≤ 1000000) (w : World)
    (hBm : Bm < w.heap.size) (hm : w.cell? ⟨Bm, 0, none⟩ = some (.map (some b))) (hown : MapAt w b L) :
    CallsIn Fence.wide n Try.prog 67 #[.slice none 0 0, .func (.func 56) #[] #[.pointer (some ⟨Bm, 0, none⟩)]] w fun e w' => ∃ (v : Value) (ss : List Nat), e = .returned v ∧ ss.Perm (L.map Prod.fst) ∧ Own w' w.heap.size v ss ∧ Below w.heap.size w w' := by
  refine callsIn_of_wp_marks Try.func67 rfl trivial ?_ rfl
  simp only [Try.ntmps67, List.size_toArray, List.length_cons, List.length_nil, Nat.reduceAdd, Nat.reduceSub, Array.replicate_succ, Array.replicate_zero, List.push_toArray, List.append_toArray, List.nil_append, List.cons_append]
  have HB0 := hide (Bl.new w #[.slice none 0 0] 48)
  have HBW := hide (below_new w (.cells #[.slice none 0 0] 48))
  have hsz : (w.alloc (.cells #[.slice none 0 0] 48)).heap.size = w.heap.size + 1 := by simp
  have HM := hide hm
  have HO := hide hown
  have HN := hide hn
  have HH := hide hhas
  clear hm hown hn hhas
  gi_wp2
  generalize hbN : w.heap.size = N at *
  generalize w.alloc (.cells #[.slice none 0 0] 48) = W0 at *
  refine range_keys (A1 := ?A) (Bm := Bm) (b := b) HN.out HH.out rfl rfl (by omega) ((HBW.out.cell hBm).trans HM.out) (HO.out.same (HBW.out.block _ (by rw [← hbN]; exact HO.out.lt)))
    (fun ss W => N < W.heap.size ∧ Seq w N ss W) (fun ss W W' h k => ⟨Nat.lt_of_lt_of_le h.1 k.size, h.2.out h.1 (by rw [← hsz]; exact k)⟩) ⟨by omega, _, HB0.out, own_nil _ _, HBW.out⟩ ?hassign ?hbody ?hdone
  case hassign =>
    intro l x W1 K hK
    gi_wp2
    exact hK
  case hbody =>
    rintro pre x W ⟨h0, v, h1, h2, h3⟩ hs hlen
    rw [hsz] at hs
    obtain ⟨ao, k, cap, rfl⟩ := own_shape h2
    have c0 : W.cell? ⟨N, 0, none⟩ = some (.slice ao k cap) := by rw [h1.cell 0]; rfl
    have HV := hide h1
    have HW2 := hide h2
    have HW3 := hide h3
    clear h1 h2 h3
    gi_wp2_with (gi_at_builtin; refine wpListIn_append_nums rfl _ _ 48 48 Try.underlying48 Try.underlying48 rfl (N + 4) (.slice ao k cap) pre rfl (HW2.out.keep (below_new _ _)) (some ⟨W.heap.size, 0, none⟩) 1 1 [x] rfl rfl (row_one W x 22) (by simp; omega) (by simp; omega) ?_; intro v2 w3 h4 g3 l3; obtain ⟨ao2, k2, cap2, rfl⟩ := own_shape h4; have B3 : Bl w3 N [.slice ao k cap] 48 := (g3.block N (by simp; omega) (fun e => by have := (HW2.out.lt N e.symm).1; omega)).trans (HV.out.alloc _); have c3 : w3.cell? ⟨N, 0, none⟩ = some (.slice ao k cap) := (by rw [B3.cell 0]; rfl); have f3 := B3.frozen 0; have HB3 := hide B3; have H4 := hide h4; have G3 := hide g3; clear B3 h4 g3 l3)
    have hge : ∀ g, Value.ownBlock (.slice ao k cap) = some g → N + 4 ≤ g := fun g hg => (HW2.out.lt g hg).1
    have hge2 : ∀ g, Value.ownBlock (.slice ao2 k2 cap2) = some g → N + 4 ≤ g := fun g hg => (H4.out.lt g hg).1
    have hs3 := G3.out.size
    simp only [World.size_alloc] at hs3
    have hset : ∀ g, g ≠ N → (w3.setCell ⟨N, 0, none⟩ (.slice ao2 k2 cap2)).heap[g]? = w3.heap[g]? := fun g hg => heap_setCell_other w3 ⟨N, 0, none⟩ g _ hg
    have hold : ∀ g, g < W.heap.size → g < N + 4 → w3.heap[g]? = W.heap[g]? := fun g g1 g2 => (G3.out.block g (by simp; omega) (fun e => by have := hge g e.symm; omega)).trans (Below.heap_alloc _ _ _ (by omega))
    refine ⟨fun g g1 g2 => (hset g (by omega)).trans (hold g (by omega) (by omega)), by omega, ((KeepsWalks.alloc W _).trans (KeepsWalks.of_grownBy G3.out (own_walk (HW2.out.keep (below_new _ _))))).trans (KeepsWalks.setCell _ _ _), by omega, ?_⟩
    refine ⟨.slice ao2 k2 cap2, HB3.out.set 0 _, H4.out.same fun g hg => hset g (by have := hge2 g hg; omega), HW3.out.trans ⟨G3.out.os, G3.out.tape, G3.out.output, by simp; omega, fun j hj => (hset j (by omega)).trans (hold j (by omega) (by omega))⟩⟩
  case hdone =>
    rintro ss W hp ⟨h0, v, h1, h2, h3⟩ hD
    have c0 : W.cell? ⟨N, 0, none⟩ = some v := by rw [h1.cell 0]; rfl
    obtain ⟨ao, k, cap, rfl⟩ := own_shape h2
    have HD := hide hD
    have H2 := hide h2
    have H3 := hide h3
    have HP := hide hp
    clear h1 h2 h3 hD hp
    gi_wp2
    refine ⟨by simp, .inl ⟨_, _, rfl, run_takeDeferred HD.out, ?_⟩⟩
    refine ⟨_, results_tmp rfl _ _ _, .slice ao k cap, ss, rfl, HP.out, ?_, by rw [hbN]; exact H3.out.trans (putObj_below _ _ (by omega))⟩
    exact (H2.out.lower (by omega)).same fun g hg => World.putObj_heap_other (by have := (H2.out.lt g hg).1; omega)
end Go.Proofs.Ytmngmkbiibhmkaa
