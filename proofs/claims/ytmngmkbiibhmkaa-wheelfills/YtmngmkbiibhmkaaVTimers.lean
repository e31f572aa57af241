/- The law's timers: what Each tells, one behind the other. -/
import Derived.Test.YtmngmkbiibhmkaaVIter2
namespace Go.Proofs.Ytmngmkbiibhmkaa
open Go.RowKit Go.Shelf Go.Maps

attribute [local go_sem] Oper.semAt_some

def flat2 (L : List Tm) : List Nat := L.flatMap fun t => [t.1, t.2]
theorem flat2_snoc {L : List Tm} {i : Nat} {x : Tm} (h : L[i]? = some x) : flat2 (L.take (i + 1)) = flat2 (L.take i) ++ [x.1, x.2] := by
  rw [List.take_add_one, h]; simp [flat2]
theorem flat2_len (L : List Tm) : (flat2 L).length = 2 * L.length := by
  induction L with
  | nil => rfl
  | cons t L ih => simp [flat2] at ih ⊢; omega
theorem func_neG (Bk : Nat) (W : World) : (binOp BinOp.eql 86 (.func (.func 50) #[] #[.pointer (some ⟨Bk, 0, none⟩)]) .nilFunc).run Try.prog W = .ok (.bool false) W := by
  simp [binOp, go_sem]
  unfold Op.equal Op.maxDepth Op.equalIn
  simp [run_underlying Try.underlying86, go_sem, Result.andThen]
theorem cell_lt {w : World} {b o : Nat} {v : Value} (h : w.cell? ⟨b, o, none⟩ = some v) : b < w.heap.size := by
  rcases Nat.lt_or_ge b w.heap.size with h1 | h1
  · exact h1
  · have h2 : w.heap[b]? = none := Array.getElem?_eq_none_iff.2 h1
    simp [World.cell?, h2] at h
/-- Two numbers that were just laid are a row. -/
theorem row_two (w : World) (n k : Nat) (t : TypeId) : Row (w.alloc (.cells #[.int .u64 (n : Int), .int .u64 (k : Int)] t)) (some ⟨w.heap.size, 0, none⟩) [n, k] := by
  refine .inr ⟨_, 0, rfl, fun i hi => ?_⟩
  rw [Nat.zero_add, (Bl.new w #[.int .u64 (n : Int), .int .u64 (k : Int)] t).cell i]
  match i, hi with
  | 0, _ => rfl
  | 1, _ => rfl
/-- What timers keeps between the rounds: the box at N, the row that it holds. -/
def TI (w1 : World) (N : Nat) (L : List Tm) (i : Nat) (W : World) : Prop := ∃ v, Bl W N [v] 48 ∧ Own W (w1.heap.size + 2) v (flat2 (L.take i)) ∧ But N w1 W
theorem TI.out {w1 : World} {N i : Nat} {L : List Tm} {W W' : World} (h : TI w1 N L i W) (hN : N < w1.heap.size) (k : Out2 w1.heap.size W W') : TI w1 N L i W' := by
  obtain ⟨v, h1, h2, h3⟩ := h
  have hs := h3.size
  exact ⟨v, (k.block N (by omega) (.inl hN)).trans h1, h2.same fun g hg => k.block g (h2.lt g hg).2 (.inr (h2.lt g hg).1), k.os.trans h3.os, k.tape.trans h3.tape, k.output.trans h3.output, Nat.le_trans hs k.size, fun j hj hjn => (k.block j (by omega) (.inl hj)).trans (h3.block j hj hjn)⟩
set_option maxRecDepth 100000 in
set_option maxHeartbeats 1600000 in
theorem timers_in (wp now : Nat) (L : List Tm) (Y : Lay) (w : World) (h : Whl w wp now L Y) : CallsIn Fence.wide 9 Try.prog 24 #[pw wp] w fun e w' => ∃ v, e = .returned v ∧ Own w' w.heap.size v (flat2 L) ∧ Below w.heap.size w w' := by
  have hlen : L.length ≤ 8192 := by obtain ⟨S, _, h2⟩ := h; exact h2.len
  refine callsIn_of_wp_marks Try.func24 rfl trivial ?_ rfl
  simp only [Try.ntmps24, List.size_toArray, List.length_cons, List.length_nil, Nat.reduceAdd, Nat.reduceSub, Array.replicate_succ, Array.replicate_zero, List.push_toArray, List.append_toArray, List.nil_append, List.cons_append]
  have HB0 := hide (Bl.new w #[.slice none 0 0] 48)
  have HBW := hide (below_new w (.cells #[.slice none 0 0] 48))
  have hsz : (w.alloc (.cells #[.slice none 0 0] 48)).heap.size = w.heap.size + 1 := by simp
  have HC := hide (callsIn_wide.2 (each_any wp now L Y _ (h.below (below_new w (.cells #[.slice none 0 0] 48)))) : CallsIn Fence.wide 8 Try.prog _ _ _ _)
  clear h
  unfold pw at HC ⊢
  gi_wp2_with fail
  generalize hbN : w.heap.size = N at *
  generalize w.alloc (.cells #[.slice none 0 0] 48) = W0 at *
  generalize hM : W0.heap.size = M at *
  subst hsz
  refine ⟨trivial, HC.out.mono ?_⟩
  rintro e w1 ⟨rfl, hb1, hek⟩
  obtain ⟨ko, kc, b1, b2, b3⟩ := hek
  have HK3 := hide b3
  have hfn := func_neG (N + 1)
  have hM1 : N + 1 < w1.heap.size := b1.lt
  have HK1 := hide b1
  have HK2 := hide b2
  have HB1 := hide hb1
  clear HC b1 b2 b3 hb1
  gi_wp2_with fail
  refine range_outer2 (A1 := ?A) (ko := ko) (ds := L) (kc := kc) (Bk := N + 1) (by omega) rfl rfl
    (fun i W => TI w1 N L i W) (fun _ _ _ => False) (fun i W W' h k => h.out (by omega) k) (fun _ _ _ _ h _ => h.elim)
    (fun i W h => ?hK) ⟨_, HB0.out.below HB1.out (by omega), own_nil _ _, But.refl _ _⟩ ?hassign ?hbody ?hdone ?hstop
  case hK =>
    obtain ⟨v, _, _, h3⟩ := h
    have hMN : N + 1 ≠ N := by omega
    have kb : Bl W (N + 1) [.slice ko L.length kc] 78 := HK1.out.but h3 hMN
    refine ⟨kb.cell 0, ?_⟩
    rcases HK2.out with h0 | ⟨b, off, h0, hc⟩
    · exact .inl h0
    · have hbn := HK3.out _ h0
      refine .inr ⟨b, off, h0, fun j x hx => ?_⟩
      have k1 := (hc j x hx)
      have e : ∀ o, W.cell? ⟨b, o, none⟩ = w1.cell? ⟨b, o, none⟩ := fun o => World.cell?_of_block (h3.block b (cell_lt k1.1) (by simp at hbn; omega))
      rw [e, e]
      exact k1
  case hassign =>
    intro l x W1 K hK
    gi_wp2
    exact hK
  case hbody =>
    rintro i x W hx ⟨v, h1, h2, h3⟩ hs _
    obtain ⟨ao, k, cap, rfl⟩ := own_shape h2
    have c0 : W.cell? ⟨N, 0, none⟩ = some (.slice ao k cap) := by rw [h1.cell 0]; rfl
    have HV := hide h1
    have HW2 := hide h2
    have HW3 := hide h3
    have HX := hide hx
    have hl2 : (flat2 (L.take i)).length ≤ 20000 := by rw [flat2_len, List.length_take]; omega
    obtain ⟨x1, x2⟩ := x
    clear h1 h2 h3 hx
    gi_wp2_with (gi_at_builtin; refine wpListIn_append_nums rfl _ _ 48 48 Try.underlying48 Try.underlying48 rfl (w1.heap.size + 2) (.slice ao k cap) (flat2 (L.take i)) rfl (HW2.out.keep (below_new _ _)) (some ⟨W.heap.size, 0, none⟩) 2 2 [x1, x2] rfl rfl (row_two W x1 x2 22) (by simp; omega) (by simp; omega) ?_; intro v2 w3 h4 g3 l3; obtain ⟨ao2, k2, cap2, rfl⟩ := own_shape h4; have B3 : Bl w3 N [.slice ao k cap] 48 := (g3.block N (by simp; omega) (fun e => by have := (HW2.out.lt N e.symm).1; omega)).trans (HV.out.alloc _); have c3 : w3.cell? ⟨N, 0, none⟩ = some (.slice ao k cap) := (by rw [B3.cell 0]; rfl); have f3 := B3.frozen 0; have HB3 := hide B3; have H4 := hide h4; have G3 := hide g3; clear B3 h4 g3 l3)
    have hge : ∀ g, Value.ownBlock (.slice ao k cap) = some g → w1.heap.size + 2 ≤ g := fun g hg => (HW2.out.lt g hg).1
    have hge2 : ∀ g, Value.ownBlock (.slice ao2 k2 cap2) = some g → w1.heap.size + 2 ≤ g := fun g hg => (H4.out.lt g hg).1
    have hs3 := G3.out.size
    simp only [World.size_alloc] at hs3
    have hset : ∀ g, g ≠ N → (w3.setCell ⟨N, 0, none⟩ (.slice ao2 k2 cap2)).heap[g]? = w3.heap[g]? := fun g hg => heap_setCell_other w3 ⟨N, 0, none⟩ g _ hg
    have hold : ∀ g, g < w1.heap.size + 2 → w3.heap[g]? = W.heap[g]? := fun g g2 => (G3.out.block g (by simp; omega) (fun e => by have := hge g e.symm; omega)).trans (Below.heap_alloc _ _ _ (by omega))
    refine ⟨fun g g1 g2 => (hset g (by omega)).trans (hold g (by omega)), by simp; omega, .slice ao2 k2 cap2, HB3.out.set 0 _, ?_, ?_⟩
    · rw [flat2_snoc HX.out]
      exact H4.out.same fun g hg => hset g (by have := hge2 g hg; omega)
    · exact ⟨G3.out.os.trans HW3.out.os, G3.out.tape.trans HW3.out.tape, G3.out.output.trans HW3.out.output, by simp; omega, fun j hj hjn => (hset j hjn).trans ((hold j (by omega)).trans (HW3.out.block j hj hjn))⟩
  case hstop => exact fun _ _ _ _ h => h.elim
  case hdone =>
    rintro W ⟨v, h1, h2, h3⟩ hs hD
    have c0 : W.cell? ⟨N, 0, none⟩ = some v := by rw [h1.cell 0]; rfl
    obtain ⟨ao, k, cap, rfl⟩ := own_shape h2
    have HD := hide hD
    have H2 := hide h2
    have H3 := hide h3
    clear h1 h2 h3 hD
    gi_wp2
    refine ⟨by simp, .inl ⟨_, _, rfl, run_takeDeferred HD.out, ?_⟩⟩
    have hw1 := HB1.out.size
    refine ⟨_, results_tmp rfl _ _ _, .slice ao k cap, rfl, ?_, ?_⟩
    · have h2 := H2.out
      rw [List.take_of_length_le (Nat.le_refl _)] at h2
      exact (h2.lower (by omega)).same fun g hg => World.putObj_heap_other (by have := (h2.lt g hg).1; omega)
    · rw [hbN]
      exact ((HBW.out.trans (HB1.out.mono (by omega))).trans (H3.out.below (Nat.le_refl _) (by omega))).trans (putObj_below _ _ (by omega))
theorem timers_any (wp now : Nat) (L : List Tm) (Y : Lay) (w : World) (h : Whl w wp now L Y) : Calls Try.prog 24 #[pw wp] w fun e w' => ∃ v, e = .returned v ∧ Own w' w.heap.size v (flat2 L) ∧ Below w.heap.size w w' := callsIn_wide.1 (timers_in wp now L Y w h)
end Go.Proofs.Ytmngmkbiibhmkaa
