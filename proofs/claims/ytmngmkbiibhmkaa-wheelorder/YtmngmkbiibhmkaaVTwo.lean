/- Two wheels side by side, and a row of timers beside both. -/
import Derived.Test.YtmngmkbiibhmkaaVGuard
import Derived.Test.YtmngmkbiibhmkaaVOnceF
import Derived.Test.YtmngmkbiibhmkaaVArr
import Derived.Test.YtmngmkbiibhmkaaVSpreadL
namespace Go.Proofs.Ytmngmkbiibhmkaa
open Go.RowKit Go.Shelf Go.Maps

/-- Two wheels, made since u, in blocks of their own. -/
structure Two (u w : World) (wp xp n1 n2 : Nat) (L1 L2 : List Tm) (Y1 Y2 : Lay) : Prop where
  one : Whl w wp n1 L1 Y1
  two : Whl w xp n2 L2 Y2
  ge1 : ∀ b ∈ Y1.blocks wp, u.heap.size ≤ b
  ge2 : ∀ b ∈ Y2.blocks xp, u.heap.size ≤ b
  dis : ∀ b ∈ Y1.blocks wp, b ∉ Y2.blocks xp
  bel : Below u.heap.size u w
theorem Two.symm {u w : World} {wp xp n1 n2 : Nat} {L1 L2 : List Tm} {Y1 Y2 : Lay} (h : Two u w wp xp n1 n2 L1 L2 Y1 Y2) : Two u w xp wp n2 n1 L2 L1 Y2 Y1 := ⟨h.two, h.one, h.ge2, h.ge1, fun b h1 h2 => h.dis b h2 h1, h.bel⟩
theorem Two.below {u w w' : World} {wp xp n1 n2 : Nat} {L1 L2 : List Tm} {Y1 Y2 : Lay} (h : Two u w wp xp n1 n2 L1 L2 Y1 Y2) (hb : Below w.heap.size w w') : Two u w' wp xp n1 n2 L1 L2 Y1 Y2 := ⟨h.one.below hb, h.two.below hb, h.ge1, h.ge2, h.dis, h.bel.trans (hb.mono h.bel.size)⟩
theorem Two.adv {u w w' : World} {wp xp n1 n2 n3 : Nat} {L1 L2 L3 : List Tm} {Y1 Y2 Y3 : Lay} (h : Two u w wp xp n1 n2 L1 L2 Y1 Y2) (k : Whl w' wp n3 L3 Y3) (hA : Aft wp Y1 Y3 w w') : Two u w' wp xp n3 n2 L3 L2 Y3 Y2 := by
  have hlt := h.two.lt
  refine ⟨k, h.two.apart hA.fr fun b hb hm => h.dis b hm hb, fun b hb => ?_, h.ge2, fun b hb hm => ?_, h.bel.trans (hA.fr.below _ h.bel.size h.ge1)⟩
  · rcases hA.new b hb with h1 | h1
    · exact h.ge1 b h1
    · exact Nat.le_trans h.bel.size h1
  · rcases hA.new b hb with h1 | h1
    · exact h.dis b h1 hm
    · have := hlt b hm; omega
theorem two_made {w1 w2 w3 : World} {wp xp n1 n2 : Nat} {L1 L2 : List Tm} (h : MineG w1 w2 wp n1 L1 []) (k : MineG w2 w3 xp n2 L2 []) : ∃ Y1 Y2, Two w1 w3 wp xp n1 n2 L1 L2 Y1 Y2 := by
  obtain ⟨⟨Y1, h1, h2, _⟩, h3⟩ := h
  obtain ⟨⟨Y2, k1, k2, _⟩, k3⟩ := k
  have hlt := h1.lt
  exact ⟨Y1, Y2, h1.below k3, k1, h2, fun b hb => Nat.le_trans h3.size (k2 b hb), fun b hb hm => by have := hlt b hb; have := k2 b hm; omega, h3.trans (k3.mono h3.size)⟩
theorem own_fr {w w' : World} {B : Nat} {v : Value} {xs fp : List Nat} (h : Own w B v xs) (hf : Fr fp w w') (hn : ∀ g, v.ownBlock = some g → g ∉ fp) : Own w' B v xs := h.same fun g hg => hf.block g (h.lt g hg).2 (hn g hg)
theorem spread_form (now : Nat) (L : List Tm) : ∃ y0 y1 y2 y3 y4 : Nat, spreadV now L = .agg #[.int .i64 (y0 : Int), .int .i64 (y1 : Int), .int .i64 (y2 : Int), .int .i64 (y3 : Int), .int .i64 (y4 : Int)] := ⟨_, _, _, _, _, rfl⟩
theorem five_eq (y0 y1 y2 y3 y4 : Nat) (V : World) : (Op.equalIn 10000 46 (.agg #[.int .i64 (y0 : Int), .int .i64 (y1 : Int), .int .i64 (y2 : Int), .int .i64 (y3 : Int), .int .i64 (y4 : Int)]) (.agg #[.int .i64 (y0 : Int), .int .i64 (y1 : Int), .int .i64 (y2 : Int), .int .i64 (y3 : Int), .int .i64 (y4 : Int)])).run Try.prog V = .ok true V := by
  have := arr5_eq [y0, y1, y2, y3, y4] [y0, y1, y2, y3, y4] V rfl rfl
  rw [decide_eq_true rfl] at this
  exact this
/-- Two wheels at one time, and a row of timers beside both. -/
structure OrdI (u w : World) (ap bp now : Nat) (La Lb : List Tm) (v : Value) (T : List Tm) : Prop where
  two : ∃ Y1 Y2, Two u w ap bp now now La Lb Y1 Y2 ∧ ∀ g, v.ownBlock = some g → g ∉ Y1.blocks ap ∧ g ∉ Y2.blocks bp
  own : ROwn w u.heap.size v T
theorem OrdI.bel {u w : World} {ap bp now : Nat} {La Lb : List Tm} {v : Value} {T : List Tm} (h : OrdI u w ap bp now La Lb v T) : Below u.heap.size u w := by
  obtain ⟨_, _, h, _⟩ := h.two
  exact h.bel
theorem OrdI.okA {u w : World} {ap bp now : Nat} {La Lb : List Tm} {v : Value} {T : List Tm} (h : OrdI u w ap bp now La Lb v T) : Rise La ∧ La.length ≤ 8192 ∧ ∀ p ∈ La, p.1 < 18446744073709551616 ∧ p.2 < 18446744073709551616 ∧ now < p.2 := by
  obtain ⟨_, _, h, _⟩ := h.two
  obtain ⟨S, _, hs⟩ := h.one
  exact ⟨hs.rise, hs.len, hs.big⟩
theorem OrdI.okB {u w : World} {ap bp now : Nat} {La Lb : List Tm} {v : Value} {T : List Tm} (h : OrdI u w ap bp now La Lb v T) : Rise Lb := by
  obtain ⟨_, _, h, _⟩ := h.two
  obtain ⟨S, _, hs⟩ := h.two
  exact hs.rise
theorem OrdI.below {u w w' : World} {ap bp now : Nat} {La Lb : List Tm} {v : Value} {T : List Tm} (h : OrdI u w ap bp now La Lb v T) (hb : Below w.heap.size w w') : OrdI u w' ap bp now La Lb v T := by
  obtain ⟨⟨Y1, Y2, h1, h2⟩, h3⟩ := h
  exact ⟨⟨Y1, Y2, h1.below hb, h2⟩, h3.keep hb⟩
theorem OrdI.addA {u w : World} {ap bp now : Nat} {La Lb : List Tm} {v : Value} {T : List Tm} (h : OrdI u w ap bp now La Lb v T) (id a : Nat) (hid : id < 18446744073709551616) (ha : a < 18446744073709551616) :
    Calls Try.prog 14 #[pw ap, .int .u64 (id : Int), .int .u64 (a : Int)] w fun e w' => e = .returned (.int .i64 (addE now La id a : Int)) ∧ OrdI u w' ap bp now (addL now La id a) Lb v T := by
  obtain ⟨⟨Y1, Y2, h1, h2⟩, h3⟩ := h
  refine (add_any ap now id a La Y1 w h1.one hid ha).mono fun _ w' ⟨he, Y', k1, k2⟩ => ⟨he, ⟨Y', Y2, h1.adv k1 k2, fun g hg => ⟨fun hm => ?_, (h2 g hg).2⟩⟩, h3.same fun g hg => k2.fr.block g (h3.lt g hg).2 (h2 g hg).1⟩
  rcases k2.new g hm with h | h
  · exact (h2 g hg).1 h
  · have := (h3.lt g hg).2; omega
theorem OrdI.addB {u w : World} {ap bp now : Nat} {La Lb : List Tm} {v : Value} {T : List Tm} (h : OrdI u w ap bp now La Lb v T) (id a : Nat) (hid : id < 18446744073709551616) (ha : a < 18446744073709551616) :
    Calls Try.prog 14 #[pw bp, .int .u64 (id : Int), .int .u64 (a : Int)] w fun e w' => e = .returned (.int .i64 (addE now Lb id a : Int)) ∧ OrdI u w' ap bp now La (addL now Lb id a) v T := by
  obtain ⟨⟨Y1, Y2, h1, h2⟩, h3⟩ := h
  refine (add_any bp now id a Lb Y2 w h1.two hid ha).mono fun _ w' ⟨he, Y', k1, k2⟩ => ⟨he, ⟨Y1, Y', (h1.symm.adv k1 k2).symm, fun g hg => ⟨(h2 g hg).1, fun hm => ?_⟩⟩, h3.same fun g hg => k2.fr.block g (h3.lt g hg).2 (h2 g hg).2⟩
  rcases k2.new g hm with h | h
  · exact (h2 g hg).2 h
  · have := (h3.lt g hg).2; omega
theorem OrdI.remB {u w : World} {ap bp now : Nat} {La Lb : List Tm} {v : Value} {T : List Tm} (h : OrdI u w ap bp now La Lb v T) (id : Nat) (hid : id < 18446744073709551616) :
    Calls Try.prog 23 #[pw bp, .int .u64 (id : Int)] w fun e w' => e = .returned (.int .i64 (remE Lb id : Int)) ∧ OrdI u w' ap bp now La (tdel id Lb) v T := by
  obtain ⟨⟨Y1, Y2, h1, h2⟩, h3⟩ := h
  refine (remove_any bp now id Lb Y2 w h1.two hid).mono fun _ w' ⟨he, Y', k1, k2⟩ => ⟨he, ⟨Y1, Y', (h1.symm.adv k1 k2).symm, fun g hg => ⟨(h2 g hg).1, fun hm => ?_⟩⟩, h3.same fun g hg => k2.fr.block g (h3.lt g hg).2 (h2 g hg).2⟩
  rcases k2.new g hm with h | h
  · exact (h2 g hg).2 h
  · have := (h3.lt g hg).2; omega
/-- The row grows by a timer. -/
theorem OrdI.grow {u w w4 : World} {ap bp now : Nat} {La Lb : List Tm} {v v' : Value} {T T' : List Tm} (h : OrdI u w ap bp now La Lb v T) (o : Obj) (hg : (w.alloc o).grownBy w4 v.ownBlock) (h3 : ROwn w4 u.heap.size v' T') (hl : v'.ownBlock = v.ownBlock ∨ v'.ownBlock = some (w.alloc o).heap.size) : OrdI u w4 ap bp now La Lb v' T' := by
  obtain ⟨⟨Y1, Y2, h1, h2⟩, h4⟩ := h
  have hf := fr_new_grown o hg
  have l1 := h1.one.lt
  have l2 := h1.two.lt
  have hn1 : ∀ b ∈ Y1.blocks ap, b ∉ vb v := fun b hb hm => (h2 b (mem_vb.1 hm)).1 hb
  have hn2 : ∀ b ∈ Y2.blocks bp, b ∉ vb v := fun b hb hm => (h2 b (mem_vb.1 hm)).2 hb
  refine ⟨⟨Y1, Y2, ⟨h1.one.apart hf hn1, h1.two.apart hf hn2, h1.ge1, h1.ge2, h1.dis, h1.bel.trans (hf.below _ h1.bel.size fun b hb => (h4.lt b (mem_vb.1 hb)).1)⟩, fun g hg => ?_⟩, h3⟩
  rcases new_or o hl g hg with h | h
  · exact h2 g h
  · exact ⟨fun hm => by have := l1 g hm; omega, fun hm => by have := l2 g hm; omega⟩
/- The mathematics of the order. -/
theorem tdel_tins {L : List Tm} (hL : Rise L) {x : Tm} (hx : ∀ p ∈ L, p.1 ≠ x.1) : tdel x.1 (tins x L) = L := rise_ext (rise_del (rise_ins hL hx)) hL fun p => by
  rw [tdel_mem, tins_mem]
  constructor
  · rintro ⟨rfl | h, h2⟩
    · exact absurd rfl h2
    · exact h
  · intro h
    exact ⟨.inr h, hx p h⟩
theorem addE_zero {now : Nat} {L : List Tm} {id a : Nat} (h1 : ∀ p ∈ L, p.1 ≠ id) (h2 : now < a) (h3 : L.length < 8192) : addE now L id a = 0 := by
  unfold addE
  rw [tget_none_of h1, if_neg (by simp), if_neg (by omega), if_neg (by omega)]
theorem drop_len {T La Lb : List Tm} {j : Nat} {x : Tm} (hp : T.Perm La) (hl : La.length ≤ 8192) (hb : Lb.Perm (T.drop (j + 1))) (hx : T[j]? = some x) : Lb.length < 8192 := by
  have h1 := (List.getElem?_eq_some_iff.1 hx).1
  rw [hb.length_eq, List.length_drop]
  have := hp.length_eq
  omega
theorem ord_gone {now : Nat} {T La Lb : List Tm} {j : Nat} {x : Tm} {g : Nat} (hp : T.Perm La) (ha : La.length ≤ 8192 ∧ ∀ p ∈ La, p.1 < 18446744073709551616 ∧ p.2 < 18446744073709551616 ∧ now < p.2) (hb : Lb.Perm (T.drop (j + 1))) (hrb : Rise Lb) (hx : T[j]? = some x) (hg : tget g T = none) :
    addE now Lb g x.2 = 0 ∧ remE (addL now Lb g x.2) g = 0 ∧ tdel g (addL now Lb g x.2) = Lb := by
  have h1 : ∀ p ∈ Lb, p.1 ≠ g := fun p hm => tget_none hg p (List.mem_of_mem_drop (hb.mem_iff.1 hm))
  have h0 := addE_zero (a := x.2) h1 (ha.2 x (hp.mem_iff.1 (List.mem_of_getElem? hx))).2.2 (drop_len hp ha.1 hb hx)
  refine ⟨h0, ?_, ?_⟩
  · unfold addL remE
    rw [if_pos h0]
    have : tget g (tins (g, x.2) Lb) = some x.2 := tget_mem (rise_ins hrb h1) (p := (g, x.2)) ((tins_mem _ _ _).2 (.inl rfl))
    rw [this]
    rfl
  · unfold addL
    rw [if_pos h0]
    exact tdel_tins (x := (g, x.2)) hrb h1
theorem ord_add {now : Nat} {T La Lb : List Tm} {j : Nat} {x : Tm} (hp : T.Perm La) (hra : Rise La) (ha : La.length ≤ 8192 ∧ ∀ p ∈ La, p.1 < 18446744073709551616 ∧ p.2 < 18446744073709551616 ∧ now < p.2) (hb : Lb.Perm (T.drop (j + 1))) (hx : T[j]? = some x) :
    addE now Lb x.1 x.2 = 0 ∧ (addL now Lb x.1 x.2).Perm (T.drop j) := by
  obtain ⟨hj, hjx⟩ := List.getElem?_eq_some_iff.1 hx
  have e : T.drop j = x :: T.drop (j + 1) := by rw [← hjx]; exact List.drop_eq_getElem_cons hj
  have nd : (T.map (·.1)).Nodup := ((hp.map _).nodup_iff).2 (rise_nodup hra)
  have nd2 : ((T.drop j).map (·.1)).Nodup := nd.sublist ((List.drop_sublist j T).map _)
  rw [e, List.map_cons, List.nodup_cons] at nd2
  have h1 : ∀ p ∈ Lb, p.1 ≠ x.1 := fun p hm he => nd2.1 (List.mem_map.2 ⟨p, hb.mem_iff.1 hm, he⟩)
  have h0 := addE_zero (a := x.2) h1 (ha.2 x (hp.mem_iff.1 (List.mem_of_getElem? hx))).2.2 (drop_len hp ha.1 hb hx)
  refine ⟨h0, ?_⟩
  unfold addL
  rw [if_pos h0, e]
  exact (tins_perm _ _).trans (hb.cons x)
theorem ord_end {T La Lb : List Tm} (hp : T.Perm La) (hra : Rise La) (hb : Lb.Perm (T.drop 0)) (hrb : Rise Lb) : Lb = La := rise_ext hrb hra fun p => by
  rw [hb.mem_iff, List.drop_zero, hp.mem_iff]
theorem ord_some {now : Nat} {L T : List Tm} {id a : Nat} (hp : T.Perm L) (h : addE now L id a = 0) : (T ++ [(id, a)]).Perm (addL now L id a) := by
  unfold addL
  rw [if_pos h]
  exact ((hp.append_right _).trans (List.perm_append_singleton _ _)).trans (tins_perm _ _).symm
theorem ord_none {now : Nat} {L : List Tm} {id a : Nat} (h : addE now L id a ≠ 0) : addL now L id a = L := by
  unfold addL
  rw [if_neg h]
end Go.Proofs.Ytmngmkbiibhmkaa
