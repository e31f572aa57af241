/- WheelOnce, walked. -/
import Derived.Test.YtkebdfegpbnpaaaVOut
import Derived.Test.YtkebdfegpbnpaaaVGuard
import Derived.Test.YtkebdfegpbnpaaaVOnceM
import Derived.Test.YtkebdfegpbnpaaaVActs
namespace Go.Proofs.Ytkebdfegpbnpaaa
open Go.RowKit Go.Maps

structure OInv (w1 wr : World) (wp nw : Nat) (v : Value) (T L : List Tm) : Prop where
  mine : MineG w1 wr wp nw L (vb v)
  own : ROwn wr w1.heap.size v T
  perm : T.Perm L
theorem OInv.short {w1 wr : World} {wp nw : Nat} {v : Value} {T L : List Tm} (h : OInv w1 wr wp nw v T L) : T.length ≤ 8192 := by
  obtain ⟨S, hs⟩ := h.mine.ok
  rw [h.perm.length_eq]
  exact hs.len
theorem OInv.rise {w1 wr : World} {wp nw : Nat} {v : Value} {T L : List Tm} (h : OInv w1 wr wp nw v T L) : Rise L := by
  obtain ⟨S, hs⟩ := h.mine.ok
  exact hs.rise
/-- A wheel of one's own, an act beside it. -/
structure OAct (w1 u : World) (wp nw : Nat) (v : Value) (T L : List Tm) (A : Nat) (x : Ac) : Prop where
  mine : MineG w1 u wp nw L (A :: vb v)
  own : ROwn u w1.heap.size v T
  perm : T.Perm L
  act : Bl u A [.int .i64 x.k, .int .u64 (x.id : Int), .int .u64 (x.a : Int)] 35
theorem OInv.act {w1 wr : World} {wp nw : Nat} {v : Value} {T L : List Tm} (h : OInv w1 wr wp nw v T L) (x : Ac) : OAct w1 (wr.alloc (.cells #[.int .i64 x.k, .int .u64 (x.id : Int), .int .u64 (x.a : Int)] 35)) wp nw v T L wr.heap.size x :=
  ⟨h.mine.fresh (below_new _ _) fun g hg => by
    rcases List.mem_cons.1 hg with rfl | hg
    · exact .inr (Nat.le_refl _)
    · exact .inl hg, h.own.keep (below_new _ _), h.perm, Bl.new _ _ _⟩
theorem OAct.lts {w1 u : World} {wp nw : Nat} {v : Value} {T L : List Tm} {A : Nat} {x : Ac} (h : OAct w1 u wp nw v T L A x) : ∀ g ∈ A :: vb v, g < u.heap.size := fun g hg => by
  rcases List.mem_cons.1 hg with rfl | hg
  · exact h.act.lt
  · exact (h.own.lt g (mem_vb.1 hg)).2
theorem OAct.next {w1 u : World} {wp nw : Nat} {v : Value} {T L : List Tm} {A : Nat} {x : Ac} (h : OAct w1 u wp nw v T L A x) : OInv w1 u wp nw v T L :=
  ⟨h.mine.fresh (Below.refl _ _) fun _ hg => .inl (List.mem_cons_of_mem _ hg), h.own, h.perm⟩
/-- A call on the wheel that leaves the list as it is. -/
theorem OAct.held {w1 u u' : World} {wp nw nw' : Nat} {v : Value} {T L L' : List Tm} {A : Nat} {x : Ac} {G : List Nat} (h : OAct w1 u wp nw v T L A x) (hm : MineG w1 u' wp nw' L' (G ++ (A :: vb v))) (hh : Held (A :: vb v) u u') (hp : T.Perm L') : OAct w1 u' wp nw' v T L' A x :=
  ⟨hm.fresh (Below.refl _ _) fun _ hg => .inl (List.mem_append_right _ hg), h.own.same fun g hg => hh g (List.mem_cons_of_mem _ (mem_vb.2 hg)), hp, (hh A (List.mem_cons_self ..)).trans h.act⟩
theorem OAct.heldB {w1 u u' : World} {wp nw nw' : Nat} {v : Value} {T L L' : List Tm} {A : Nat} {x : Ac} (h : OAct w1 u wp nw v T L A x) (hm : MineG w1 u' wp nw' L' (A :: vb v)) (hh : Held (A :: vb v) u u') : (MineG w1 u' wp nw' L' (A :: vb v)) ∧ ROwn u' w1.heap.size v T ∧ Bl u' A [.int .i64 x.k, .int .u64 (x.id : Int), .int .u64 (x.a : Int)] 35 :=
  ⟨hm, h.own.same fun g hg => hh g (List.mem_cons_of_mem _ (mem_vb.2 hg)), (hh A (List.mem_cons_self ..)).trans h.act⟩
theorem once_add {w1 u w4 : World} {wp nw : Nat} {v v' : Value} {T L : List Tm} {A : Nat} {t : Tm} (hm : MineG w1 u wp nw L (A :: vb v)) (ho : ROwn u w1.heap.size v T) (o : Obj) (hg : (u.alloc o).grownBy w4 v.ownBlock) (h3 : ROwn w4 w1.heap.size v' (T ++ [t])) (hl : v'.ownBlock = v.ownBlock ∨ v'.ownBlock = some (u.alloc o).heap.size) (hp : (T ++ [t]).Perm L) : OInv w1 w4 wp nw v' (T ++ [t]) L :=
  ⟨hm.apart (fr_new_grown o hg) (fun b hb => .inl (List.mem_cons_of_mem _ hb)) (fun b hb => (ho.lt b (mem_vb.1 hb)).1) fun g hg => by
    rcases new_or o hl g (mem_vb.1 hg) with h | h
    · exact .inl (List.mem_cons_of_mem _ (mem_vb.2 h))
    · exact .inr h, h3, hp⟩
theorem once_out {w1 u w4 : World} {wp nw : Nat} {v' : Value} {T' L : List Tm} {G : List Nat} (hm : MineG w1 u wp nw L G) (hb : Below u.heap.size u w4) (h3 : ROwn w4 u.heap.size v' T') (hp : T'.Perm L) : OInv w1 w4 wp nw v' T' L :=
  ⟨hm.fresh hb fun g hg => .inr ((h3.lt g (mem_vb.1 hg)).1), h3.lower hm.bel.size, hp⟩
theorem OInv.below {w1 wr w' : World} {wp nw : Nat} {v : Value} {T L : List Tm} (h : OInv w1 wr wp nw v T L) (hb : Below wr.heap.size wr w') : OInv w1 w' wp nw v T L := ⟨h.mine.below hb, h.own.keep hb, h.perm⟩
/-- Behind an Advance: the wheel, the list as it was, what was told. -/
structure OAdv (w1 u : World) (wp tt : Nat) (v vl : Value) (T L : List Tm) (A : Nat) (x : Ac) : Prop where
  mine : MineG w1 u wp tt (advL tt L) (vb v)
  own : ROwn u w1.heap.size v T
  perm : T.Perm L
  rise : Rise L
  act : Bl u A [.int .i64 x.k, .int .u64 (x.id : Int), .int .u64 (x.a : Int)] 35
  told : Own u 0 vl (told tt L)
theorem OAct.adv {w1 u u' : World} {wp nw nw' tt : Nat} {v vl : Value} {T L : List Tm} {A : Nat} {x : Ac} {G : List Nat} (h : OAct w1 u wp nw v T L A x) (hr : Rise L) (hm : MineG w1 u' wp nw' (advL tt L) (G ++ (A :: vb v))) (he : nw' = tt) (hh : Held (A :: vb v) u u') (ho : Own u' u.heap.size vl (told tt L)) : OAdv w1 u' wp tt v vl T L A x :=
  ⟨he ▸ hm.fresh (Below.refl _ _) fun _ hg => .inl (List.mem_append_right _ (List.mem_cons_of_mem _ hg)), h.own.same fun g hg => hh g (List.mem_cons_of_mem _ (mem_vb.2 hg)), h.perm, hr, (hh A (List.mem_cons_self ..)).trans h.act, ho.lower (Nat.zero_le _)⟩
theorem OAdv.below {w1 u u' : World} {wp tt : Nat} {v vl : Value} {T L : List Tm} {A : Nat} {x : Ac} (h : OAdv w1 u wp tt v vl T L A x) (hb : Below u.heap.size u u') : OAdv w1 u' wp tt v vl T L A x :=
  ⟨h.mine.below hb, h.own.keep hb, h.perm, h.rise, h.act.keep hb, h.told.keep hb⟩
/-- The list, going over what was told. -/
structure OTell (w1 wv wr : World) (wp tt : Nat) (v v' vl : Value) (T L : List Tm) (k : Nat) : Prop where
  bel : Below wv.heap.size wv wr
  own : ROwn wr w1.heap.size v' (without T ((told tt L).take k))
  loc : ∀ g, v'.ownBlock = some g → v.ownBlock = some g ∨ wv.heap.size ≤ g
theorem OTell.start {w1 wv : World} {wp tt : Nat} {v vl : Value} {T L : List Tm} {A : Nat} {x : Ac} (h : OAdv w1 wv wp tt v vl T L A x) : OTell w1 wv wv wp tt v v vl T L 0 :=
  ⟨Below.refl _ _, by rw [List.take_zero, without_nil]; exact h.own, fun _ e => .inl e⟩
theorem OTell.done {w1 wv wr : World} {wp tt : Nat} {v v' vl : Value} {T L : List Tm} {A k : Nat} {x : Ac} (h : OAdv w1 wv wp tt v vl T L A x) (t : OTell w1 wv wr wp tt v v' vl T L k) (hk : (told tt L).length ≤ k) : OInv w1 wr wp tt v' (without T (told tt L)) (advL tt L) :=
  ⟨h.mine.fresh t.bel fun g hg => by
    rcases t.loc g (mem_vb.1 hg) with e | e
    · exact .inl (mem_vb.2 e)
    · exact .inr e, by have := t.own; rwa [List.take_of_length_le hk] at this, without_all h.perm h.rise tt⟩
theorem OTell.step {w1 wv wr w' : World} {wp tt : Nat} {v v' v2 vl : Value} {T L : List Tm} {k id : Nat} (hv : w1.heap.size ≤ wv.heap.size) (t : OTell w1 wv wr wp tt v v' vl T L k) (hk : (told tt L).take (k + 1) = (told tt L).take k ++ [id]) (ho : ROwn w' wr.heap.size v2 (tdel id (without T ((told tt L).take k)))) (hb : Below wr.heap.size wr w') : OTell w1 wv w' wp tt v v2 vl T L (k + 1) :=
  ⟨t.bel.trans (hb.mono t.bel.size), by rw [without_snoc, ← hk] at ho; exact ho.lower (Nat.le_trans hv t.bel.size), fun g e => .inr (Nat.le_trans t.bel.size (ho.lt g e).1)⟩
theorem adv_gone {now tt : Nat} {L : List Tm} {S : List (List Nat)} (hok : Ok now L S) (h : tt < now) : advL tt L = L := by
  rw [advL, List.filter_eq_self]
  intro p hp
  have := (hok.big p hp).2.2
  simp; omega
theorem add_some {now : Nat} {L T : List Tm} {id a : Nat} (hp : T.Perm L) (h : addE now L id a = 0) : (T ++ [(id, a)]).Perm (addL now L id a) := by
  unfold addL
  rw [if_pos h]
  exact ((hp.append_right _).trans (List.perm_append_singleton _ _)).trans (tins_perm _ _).symm
theorem add_none' {now : Nat} {L : List Tm} {id a : Nat} (h : addE now L id a ≠ 0) : addL now L id a = L := by
  unfold addL
  rw [if_neg h]
theorem rem_none {L : List Tm} {id : Nat} (h : remE L id ≠ 0) : tdel id L = L := by
  unfold remE at h
  split at h
  · exact absurd rfl h
  · next h2 =>
    have : tget id L = none := by simpa using h2
    exact tdel_none (tget_none this)
end Go.Proofs.Ytkebdfegpbnpaaa
