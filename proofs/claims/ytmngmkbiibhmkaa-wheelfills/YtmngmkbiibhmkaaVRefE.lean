/- The document's Advance. -/
import Derived.BigQuiet
import Derived.Laws.OwnMore
import Derived.Test.YtmngmkbiibhmkaaVRefB
namespace Go.Proofs.Ytmngmkbiibhmkaa
open Go.RowKit Go.Maps

/-- What is due, in order. -/
def dueL (tt : Nat) (M : List Tm) : List Tm := (advD tt M).mergeSort leT
theorem dueL_perm (tt : Nat) (M : List Tm) : (dueL tt M).Perm (advD tt M) := List.mergeSort_perm _ leT
theorem dueL_len (tt : Nat) (M : List Tm) : (dueL tt M).length ≤ M.length := by
  rw [(dueL_perm tt M).length_eq]
  exact List.length_filter_le ..
theorem leT_of {p q : Tm} (h : p.2 < q.2 ∨ (p.2 = q.2 ∧ p.1 ≤ q.1)) : leT p q = true := by
  unfold leT
  simp
  omega
theorem leT_le {p q : Tm} (h : leT p q = true) : p.2 ≤ q.2 := by
  unfold leT at h
  simp at h
  omega
theorem due_ins {tt : Nat} {M : List Tm} {x : Tm} {k : Nat} (hr : ∀ p ∈ M, p.1 < x.1) (hx : x.2 ≤ tt) (h1 : k = 0 ∨ ∃ y, (dueL tt M)[k - 1]? = some y ∧ y.2 ≤ x.2) (h2 : ∀ p ∈ (dueL tt M).drop k, x.2 < p.2) : dueL tt (M ++ [x]) = (dueL tt M).take k ++ [x] ++ (dueL tt M).drop k := by
  have hs : (dueL tt M).Pairwise fun a b => leT a b = true := merge_sorted _
  have hid : ∀ p ∈ dueL tt M, p.1 < x.1 := fun p hp => hr p (List.mem_filter.1 ((dueL_perm tt M).mem_iff.1 hp)).1
  have hpe := dueL_perm tt M
  have hsort2 := merge_sorted (advD tt (M ++ [x]))
  have hperm2 : (dueL tt (M ++ [x])).Perm (advD tt M ++ [x]) := by
    have := dueL_perm tt (M ++ [x])
    unfold advD at this ⊢
    rw [List.filter_append, List.filter_cons_of_pos (by simpa using hx)] at this
    exact this
  change (dueL tt (M ++ [x])).Pairwise _ at hsort2
  generalize dueL tt M = D at *
  have hle : ∀ p ∈ D.take k, p.2 ≤ x.2 := fun p hp => by
    rcases h1 with rfl | ⟨y, hy, hyx⟩
    · simp at hp
    · obtain ⟨i, hi, e⟩ := List.getElem_of_mem hp
      rw [List.length_take] at hi
      rw [List.getElem_take] at e
      obtain ⟨hkl, ey⟩ := List.getElem?_eq_some_iff.1 hy
      rcases Nat.lt_or_ge i (k - 1) with h | h
      · have := List.pairwise_iff_getElem.1 hs i (k - 1) (by omega) hkl h
        rw [e, ey] at this
        have := leT_le this
        omega
      · have : i = k - 1 := by omega
        subst this
        rw [ey] at e
        rw [← e]; exact hyx
  refine sorted_eq hsort2 ?_ ?_
  · rw [List.append_assoc, List.pairwise_append]
    refine ⟨hs.sublist (List.take_sublist _ _), ?_, fun a ha b hb => ?_⟩
    · rw [List.singleton_append, List.pairwise_cons]
      exact ⟨fun p hp => leT_of (.inl (h2 p hp)), hs.sublist (List.drop_sublist _ _)⟩
    · rw [List.singleton_append] at hb
      have ha1 := hle a ha
      have ha2 := hid a (List.mem_of_mem_take ha)
      rcases List.mem_cons.1 hb with rfl | hb
      · exact leT_of (by omega)
      · have := h2 b hb
        exact leT_of (.inl (by omega))
  · refine hperm2.trans ?_
    have h3 : (D.take k ++ [x] ++ D.drop k).Perm (D.take k ++ D.drop k ++ [x]) := by
      rw [List.append_assoc, List.append_assoc]
      exact (List.perm_append_comm (l₁ := [x]) (l₂ := D.drop k)).append_left _
    rw [List.take_append_drop] at h3
    exact (hpe.symm.append_right _).trans h3.symm
/-- A timer laid over another of the row. -/
theorem flat_set (t : Tm) : ∀ (ds : List Tm) (k : Nat), k < ds.length → ((ds.flatMap encT).set (k * 2) (.int .u64 (t.1 : Int))).set (k * 2 + 1) (.int .u64 (t.2 : Int)) = (ds.set k t).flatMap encT
  | d :: r, 0, _ => by simp [encT]
  | d :: r, k + 1, h => by
    have ih := flat_set t r k (by simpa using h)
    rw [List.set_cons_succ, List.flatMap_cons, List.flatMap_cons, ← ih]
    have e : (encT d).length = 2 := rfl
    rw [List.set_append_right _ _ (by rw [e]; omega), List.set_append_right _ _ (by rw [e]; omega), e, show (k + 1) * 2 - 2 = k * 2 by omega, show (k + 1) * 2 + 1 - 2 = k * 2 + 1 by omega]
theorem ROwn.set {w : World} {B g n c : Nat} {ds : List Tm} (h : ROwn w B (.slice (some ⟨g, 0, none⟩) n c) ds) (k : Nat) (hk : k < ds.length) (t : Tm) : ROwn ((w.setCell ⟨g, k * 2, none⟩ (.int .u64 (t.1 : Int))).setCell ⟨g, k * 2 + 1, none⟩ (.int .u64 (t.2 : Int))) B (.slice (some ⟨g, 0, none⟩) n c) (ds.set k t) := by
  have hn : n = ds.length := by
    obtain ⟨ao, c', e, _⟩ := h.read
    injection e
  subst hn
  unfold ROwn at h ⊢
  have h1 := (World.ownsRow.stored h (k * 2) (.int .u64 (t.1 : Int))).1
  have h2 := (World.ownsRow.stored h1 (k * 2 + 1) (.int .u64 (t.2 : Int))).1
  rw [flat_set t ds k hk] at h2
  rw [List.length_set]
  exact h2
theorem take_set_drop {D : List Tm} {k : Nat} {z y : Tm} (hk : k < D.length) (hy : D[k]? = some y) : (D.take (k + 1) ++ [z] ++ D.drop (k + 1)).set (k + 1) y = D.take k ++ [y] ++ D.drop k := by
  have e1 : D.take (k + 1) = D.take k ++ [y] := by rw [List.take_add_one, hy]; rfl
  have e2 : D.drop k = y :: D.drop (k + 1) := by
    rw [List.drop_eq_getElem_cons hk, (List.getElem?_eq_some_iff.1 hy).2]
  have hl : (D.take k).length = k := by rw [List.length_take]; omega
  rw [e1, e2, List.append_assoc, List.append_assoc, List.set_append_right _ _ (by omega), hl, show k + 1 - k = 1 by omega]
  simp
theorem take_set_here {D : List Tm} {k : Nat} {z x : Tm} (hk : k ≤ D.length) : (D.take k ++ [z] ++ D.drop k).set k x = D.take k ++ [x] ++ D.drop k := by
  have hl : (D.take k).length = k := by rw [List.length_take]; omega
  rw [List.append_assoc, List.append_assoc, List.set_append_right _ _ (by omega), hl, Nat.sub_self]
  simp
theorem adv_get {D : List Tm} {k j : Nat} {z : Tm} (hj : j < k) (hk : k ≤ D.length) : (D.take k ++ [z] ++ D.drop k)[j]? = D[j]? := by
  rw [List.append_assoc, List.getElem?_append_left (by rw [List.length_take]; omega), List.getElem?_take, if_pos hj]
theorem adv_len {D : List Tm} {k : Nat} {z : Tm} (hk : k ≤ D.length) : (D.take k ++ [z] ++ D.drop k).length = D.length + 1 := by
  rw [List.length_append, List.length_append, List.length_take, List.length_drop, List.length_singleton]; omega
/-- What Advance has at a round's head: what is due, and what is left. -/
structure AVI (w1 wr : World) (tt : Nat) (M : List Tm) (dv rv : Value) : Prop where
  bel : Below w1.heap.size w1 wr
  due : ROwn wr w1.heap.size dv (dueL tt M)
  rest : ROwn wr w1.heap.size rv (advL tt M)
  ap : ∀ g, dv.ownBlock = some g → rv.ownBlock ≠ some g
theorem AVI.start (w1 : World) (tt : Nat) : AVI w1 w1 tt [] (.slice none 0 0) (.slice none 0 0) := ⟨Below.refl _ _, by rw [show dueL tt [] = [] from by simp [dueL, advD]]; exact rown_nil _ _, rown_nil _ _, fun g hg => by cases hg⟩
theorem AVI.below {w1 wr w' : World} {tt : Nat} {M : List Tm} {dv rv : Value} (h : AVI w1 wr tt M dv rv) (hb : Below wr.heap.size wr w') : AVI w1 w' tt M dv rv := ⟨h.bel.trans (hb.mono h.bel.size), h.due.keep hb, h.rest.keep hb, h.ap⟩
theorem advL_snoc_out {tt : Nat} {M : List Tm} {x : Tm} (hx : x.2 ≤ tt) : advL tt (M ++ [x]) = advL tt M := by
  unfold advL
  rw [List.filter_append, List.filter_cons_of_neg (by simp; omega)]
  simp
theorem advL_snoc_in {tt : Nat} {M : List Tm} {x : Tm} (hx : tt < x.2) : advL tt (M ++ [x]) = advL tt M ++ [x] := by
  unfold advL
  rw [List.filter_append, List.filter_cons_of_pos (by simpa using hx)]
  rfl
theorem dueL_snoc_in {tt : Nat} {M : List Tm} {x : Tm} (hx : tt < x.2) : dueL tt (M ++ [x]) = dueL tt M := by
  unfold dueL advD
  rw [List.filter_append, List.filter_cons_of_neg (by simp; omega)]
  simp
/-- A timer that is not due goes to the rest. -/
theorem AVI.later {w1 wr w4 : World} {tt : Nat} {M : List Tm} {dv rv rv' : Value} {x : Tm} (h : AVI w1 wr tt M dv rv) (o : Obj) (hx : tt < x.2) (hg : (wr.alloc o).grownBy w4 rv.ownBlock) (h3 : ROwn w4 w1.heap.size rv' (advL tt M ++ [x])) (hl : rv'.ownBlock = rv.ownBlock ∨ rv'.ownBlock = some (wr.alloc o).heap.size) : AVI w1 w4 tt (M ++ [x]) dv rv' := by
  have hb : Below w1.heap.size w1 w4 := (h.bel.trans ((below_new wr o).mono h.bel.size)).grown hg (by have := h.bel.size; simp; omega) fun k hk => (h.rest.lt k hk).1
  refine ⟨hb, ?_, by rw [advL_snoc_in hx]; exact h3, fun g hg1 hg2 => ?_⟩
  · rw [dueL_snoc_in hx]
    refine h.due.same fun g hg1 => ?_
    exact (hg.block g (by have := (h.due.lt g hg1).2; simp; omega) (fun e => h.ap g hg1 e.symm)).trans (Below.heap_alloc wr o g (h.due.lt g hg1).2)
  · rcases hl with e | e
    · exact h.ap g hg1 (e ▸ hg2)
    · rw [e] at hg2
      cases hg2
      have := (h.due.lt _ hg1).2
      simp at this
      omega
/-- While a timer is let in: the row with a gap at k. -/
structure AVK (w1 wr : World) (tt : Nat) (M : List Tm) (g n c : Nat) (rv : Value) (k : Nat) (x : Tm) (tb : Nat) : Prop where
  bel : Below w1.heap.size w1 wr
  row : ∃ z, ROwn wr w1.heap.size (.slice (some ⟨g, 0, none⟩) n c) ((dueL tt M).take k ++ [z] ++ (dueL tt M).drop k)
  rest : ROwn wr w1.heap.size rv (advL tt M)
  ap : rv.ownBlock ≠ some g
  box : Bl wr tb [.int .u64 (x.1 : Int), .int .u64 (x.2 : Int)] 58
  tbg : w1.heap.size ≤ tb
  tne : tb ≠ g ∧ rv.ownBlock ≠ some tb
  aft : ∀ p ∈ (dueL tt M).drop k, x.2 < p.2
  le : k ≤ (dueL tt M).length
theorem AVK.drewN {w1 wr : World} {tt g n c k tb : Nat} {M : List Tm} {rv : Value} {x : Tm} (h : AVK w1 wr tt M g n c rv k x tb) (q : Nat) : AVK w1 (wr.drewN q) tt M g n c rv k x tb :=
  ⟨below_drewN h.bel q, by obtain ⟨z, hz⟩ := h.row; exact ⟨z, hz.same fun _ _ => rfl⟩, h.rest.same fun _ _ => rfl, h.ap, h.box.drewN q, h.tbg, h.tne, h.aft, h.le⟩
theorem AVK.set {w1 wr : World} {tt g n c k tb : Nat} {M : List Tm} {rv : Value} {x : Tm} (h : AVK w1 wr tt M g n c rv (k + 1) x tb) {y : Tm} (hy : (dueL tt M)[k]? = some y) (hlt : x.2 < y.2) : AVK w1 ((wr.setCell ⟨g, (k + 1) * 2, none⟩ (.int .u64 (y.1 : Int))).setCell ⟨g, (k + 1) * 2 + 1, none⟩ (.int .u64 (y.2 : Int))) tt M g n c rv k x tb := by
  obtain ⟨z, hz⟩ := h.row
  have hle := h.le
  have hg := (hz.lt g rfl).1
  have hoth : ∀ b, b ≠ g → ((wr.setCell ⟨g, (k + 1) * 2, none⟩ (.int .u64 (y.1 : Int))).setCell ⟨g, (k + 1) * 2 + 1, none⟩ (.int .u64 (y.2 : Int))).heap[b]? = wr.heap[b]? := fun b hb => (heap_setCell_other _ ⟨g, (k + 1) * 2 + 1, none⟩ b _ hb).trans (heap_setCell_other _ ⟨g, (k + 1) * 2, none⟩ b _ hb)
  refine ⟨?_, ⟨y, ?_⟩, h.rest.same fun b hb => hoth b (fun e => h.ap (by rw [hb, e])), h.ap, (hoth tb h.tne.1).trans h.box, h.tbg, h.tne, fun p hp => ?_, by omega⟩
  · exact h.bel.trans (((But.setCell g wr _ _).trans (But.setCell g _ _ _)).below hg (h.bel.size))
  · have := hz.set (k + 1) (by rw [adv_len hle]; omega) y
    rw [take_set_drop (by omega) hy] at this
    exact this
  · rw [List.drop_eq_getElem_cons (by omega), (List.getElem?_eq_some_iff.1 hy).2] at hp
    rcases List.mem_cons.1 hp with rfl | hp
    · exact hlt
    · exact h.aft p hp
theorem AVK.done {w1 wr : World} {tt g n c k tb : Nat} {M : List Tm} {rv : Value} {x : Tm} (h : AVK w1 wr tt M g n c rv k x tb) (hr : ∀ p ∈ M, p.1 < x.1) (hx : x.2 ≤ tt) (h1 : k = 0 ∨ ∃ y, (dueL tt M)[k - 1]? = some y ∧ y.2 ≤ x.2) : AVI w1 ((wr.setCell ⟨g, k * 2, none⟩ (.int .u64 (x.1 : Int))).setCell ⟨g, k * 2 + 1, none⟩ (.int .u64 (x.2 : Int))) tt (M ++ [x]) (.slice (some ⟨g, 0, none⟩) n c) rv := by
  obtain ⟨z, hz⟩ := h.row
  have hle := h.le
  have hg := (hz.lt g rfl).1
  have hoth : ∀ b, b ≠ g → ((wr.setCell ⟨g, k * 2, none⟩ (.int .u64 (x.1 : Int))).setCell ⟨g, k * 2 + 1, none⟩ (.int .u64 (x.2 : Int))).heap[b]? = wr.heap[b]? := fun b hb => (heap_setCell_other _ ⟨g, k * 2 + 1, none⟩ b _ hb).trans (heap_setCell_other _ ⟨g, k * 2, none⟩ b _ hb)
  refine ⟨?_, ?_, ?_, fun b hb e => ?_⟩
  · exact h.bel.trans (((But.setCell g wr _ _).trans (But.setCell g _ _ _)).below hg (h.bel.size))
  · have := hz.set k (by rw [adv_len hle]; omega) x
    rw [take_set_here hle, ← due_ins hr hx h1 h.aft] at this
    exact this
  · rw [advL_snoc_out hx]
    exact h.rest.same fun b hb => hoth b (fun e => h.ap (by rw [hb, e]))
  · cases hb
    exact h.ap e
/-- A timer that is due is laid behind the row first. -/
theorem AVI.begin {w1 wr wt w4 : World} {tt tb : Nat} {M : List Tm} {dv rv : Value} {x : Tm} {g n c : Nat} (h : AVI w1 wt tt M dv rv) (hbox : Bl wt tb [.int .u64 (x.1 : Int), .int .u64 (x.2 : Int)] 58) (htb : wr.heap.size ≤ tb) (h0 : AVI w1 wr tt M dv rv) (o : Obj) (hg : (wt.alloc o).grownBy w4 dv.ownBlock) (h3 : ROwn w4 w1.heap.size (.slice (some ⟨g, 0, none⟩) n c) (dueL tt M ++ [x])) (hl : (Value.slice (some ⟨g, 0, none⟩) n c).ownBlock = dv.ownBlock ∨ (Value.slice (some ⟨g, 0, none⟩) n c).ownBlock = some (wt.alloc o).heap.size) : AVK w1 w4 tt M g n c rv (dueL tt M).length x tb := by
  have hb : Below w1.heap.size w1 w4 := (h.bel.trans ((below_new wt o).mono h.bel.size)).grown hg (by have := h.bel.size; simp; omega) fun k hk => (h.due.lt k hk).1
  have hgne : ∀ b, b < wt.heap.size → dv.ownBlock ≠ some b → b ≠ g := fun b hb1 hb2 e => by
    rcases hl with e1 | e1
    · exact hb2 (by rw [← e1, e]; rfl)
    · simp only [Value.ownBlock, Option.some.injEq] at e1
      simp at e1
      omega
  have hdt : dv.ownBlock ≠ some tb := fun e => by have := (h0.due.lt tb e).2; omega
  have hrt : rv.ownBlock ≠ some tb := fun e => by have := (h0.rest.lt tb e).2; omega
  have hkeep : ∀ b, b < wt.heap.size → dv.ownBlock ≠ some b → w4.heap[b]? = wt.heap[b]? := fun b hb1 hb2 => (hg.block b (by simp; omega) (fun e => hb2 e.symm)).trans (Below.heap_alloc wt o b hb1)
  refine ⟨hb, ⟨x, by rw [List.take_of_length_le (Nat.le_refl _), List.drop_of_length_le (Nat.le_refl _), List.append_nil]; exact h3⟩, ?_, ?_, ?_, Nat.le_trans h0.bel.size htb, ⟨?_, hrt⟩, (fun p hp => by rw [List.drop_of_length_le (Nat.le_refl _)] at hp; cases hp), Nat.le_refl _⟩
  · exact h.rest.same fun b hb1 => hkeep b (h.rest.lt b hb1).2 (fun e => h.ap b e hb1)
  · intro e
    exact hgne g (h.rest.lt g e).2 (fun e2 => h.ap g e2 e) rfl
  · exact (hkeep tb hbox.lt hdt).trans hbox
  · exact hgne tb hbox.lt hdt
end Go.Proofs.Ytmngmkbiibhmkaa
