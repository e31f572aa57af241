/- Two calls, and two new variables for what they answer, in whatever order they come up: c, d := f(a), f(b). -/
import Derived.OrdersHeld
import Derived.Test.YtiaedngnofablaaGreatDoorRTwin
namespace Go.Proofs.YtiaedngnofablaaGreatDoor
open Go.RowKit

/-- Two boxes of Jsons, made since w0. -/
def TwoBox (w0 : World) (j1 j2 : J) (wx : World) (b5 b6 : Nat) : Prop := ∃ y1 y2 : JV, b5 ≠ b6 ∧ Jb wx b5 y1.k y1.t (.slice y1.an y1.ln y1.cn) (.slice y1.ai y1.li y1.ci) ∧ Jb wx b6 y2.k y2.t (.slice y2.an y2.ln y2.cn) (.slice y2.ai y2.li y2.ci) ∧ JSee wx wx.heap.size j1 y1 ∧ JSee wx wx.heap.size j2 y2 ∧ Below w0.heap.size w0 wx
def putJ (w : World) (b : Nat) (y : JV) : World := (((w.setCell ⟨b, 0, none⟩ (.int .i64 y.k)).setCell ⟨b, 1, none⟩ (.string y.t)).setCell ⟨b, 2, none⟩ (.slice y.an y.ln y.cn)).setCell ⟨b, 3, none⟩ (.slice y.ai y.li y.ci)
abbrev Zj : Obj := .cells #[.int .i64 0, .string ⟨#[]⟩, .slice none 0 0, .slice none 0 0] 25
def Zb (w : World) (b : Nat) : Prop := Jb w b 0 ⟨#[]⟩ (.slice none 0 0) (.slice none 0 0)
theorem putJ_but (w : World) (b : Nat) (y : JV) : But b w (putJ w b y) := But.put4 b w _ _ _ _
theorem Zb.lt {w : World} {b : Nat} (h : Zb w b) : b < w.heap.size := Bl.lt h
theorem Zb.keep {w w' : World} {b : Nat} (h : Zb w b) (hb : Below w.heap.size w w') : Zb w' b := Jb.keep h hb
/-- How far it has come: c of the calls; is the first variable there, the second? -/
structure GN (w3 : World) (j1 j2 : J) (c : Nat) (p5 p6 : Bool) (W : World) (y1 y2 : JV) (l1 h1 l2 h2 b5 b6 : Nat) : Prop where
  bel : Below w3.heap.size w3 W
  r1 : 1 ≤ c → JRep W j1 y1 (fun b => l1 ≤ b ∧ b < h1) ∧ w3.heap.size ≤ l1 ∧ h1 ≤ W.heap.size
  r2 : 2 ≤ c → JRep W j2 y2 (fun b => l2 ≤ b ∧ b < h2) ∧ w3.heap.size ≤ l2 ∧ h2 ≤ W.heap.size
  z5 : p5 = true → Zb W b5 ∧ w3.heap.size ≤ b5 ∧ (1 ≤ c → b5 < l1 ∨ h1 ≤ b5) ∧ (2 ≤ c → b5 < l2 ∨ h2 ≤ b5)
  z6 : p6 = true → Zb W b6 ∧ w3.heap.size ≤ b6 ∧ (1 ≤ c → b6 < l1 ∨ h1 ≤ b6) ∧ (2 ≤ c → b6 < l2 ∨ h2 ≤ b6)
  ne : p5 = true → p6 = true → b5 ≠ b6
section
variable {w3 W W' : World} {j1 j2 : J} {c : Nat} {p5 p6 : Bool} {y1 y2 y : JV} {l1 h1 l2 h2 b5 b6 : Nat}
theorem GN.call1 (h : GN w3 j1 j2 0 p5 p6 W y1 y2 l1 h1 l2 h2 b5 b6) (hb : Below W.heap.size W W') (hr : JRep W' j1 y (fun b => W.heap.size ≤ b ∧ b < W'.heap.size)) : GN w3 j1 j2 1 p5 p6 W' y y2 W.heap.size W'.heap.size l2 h2 b5 b6 :=
  ⟨h.bel.trans (hb.mono h.bel.size), fun _ => ⟨hr, h.bel.size, Nat.le_refl _⟩, fun h => by omega, fun e => ⟨(h.z5 e).1.keep hb, (h.z5 e).2.1, fun _ => .inl (h.z5 e).1.lt, fun h => by omega⟩, fun e => ⟨(h.z6 e).1.keep hb, (h.z6 e).2.1, fun _ => .inl (h.z6 e).1.lt, fun h => by omega⟩, h.ne⟩
theorem GN.call2 (h : GN w3 j1 j2 1 p5 p6 W y1 y2 l1 h1 l2 h2 b5 b6) (hb : Below W.heap.size W W') (hr : JRep W' j2 y (fun b => W.heap.size ≤ b ∧ b < W'.heap.size)) : GN w3 j1 j2 2 p5 p6 W' y1 y l1 h1 W.heap.size W'.heap.size b5 b6 := by
  obtain ⟨q1, q2, q3⟩ := h.r1 (Nat.le_refl _)
  have hs := hb.size
  exact ⟨h.bel.trans (hb.mono h.bel.size), fun _ => ⟨JRep.stay _ _ _ q1 (fun b hbb => hb.block b (by omega)), q2, by omega⟩, fun _ => ⟨hr, h.bel.size, Nat.le_refl _⟩, fun e => ⟨(h.z5 e).1.keep hb, (h.z5 e).2.1, fun _ => (h.z5 e).2.2.1 (Nat.le_refl _), fun _ => .inl (h.z5 e).1.lt⟩, fun e => ⟨(h.z6 e).1.keep hb, (h.z6 e).2.1, fun _ => (h.z6 e).2.2.1 (Nat.le_refl _), fun _ => .inl (h.z6 e).1.lt⟩, h.ne⟩
theorem GN.grow (h : GN w3 j1 j2 c p5 p6 W y1 y2 l1 h1 l2 h2 b5 b6) (o : Obj) : GN w3 j1 j2 c p5 p6 (W.alloc o) y1 y2 l1 h1 l2 h2 b5 b6 := by
  have hb := below_new W o
  have hs := hb.size
  refine ⟨h.bel.trans (hb.mono h.bel.size), fun e => ?_, fun e => ?_, fun e => ⟨(h.z5 e).1.keep hb, (h.z5 e).2⟩, fun e => ⟨(h.z6 e).1.keep hb, (h.z6 e).2⟩, h.ne⟩
  · obtain ⟨q1, q2, q3⟩ := h.r1 e
    exact ⟨JRep.stay _ _ _ q1 (fun b hbb => hb.block b (by omega)), q2, by omega⟩
  · obtain ⟨q1, q2, q3⟩ := h.r2 e
    exact ⟨JRep.stay _ _ _ q1 (fun b hbb => hb.block b (by omega)), q2, by omega⟩
theorem GN.alloc5 (h : GN w3 j1 j2 c false p6 W y1 y2 l1 h1 l2 h2 b5 b6) : GN w3 j1 j2 c true p6 (W.alloc Zj) y1 y2 l1 h1 l2 h2 W.heap.size b6 := by
  have g := h.grow Zj
  exact ⟨g.bel, g.r1, g.r2, fun _ => ⟨Jb.new W _ _ _ _, h.bel.size, fun e => .inr (h.r1 e).2.2, fun e => .inr (h.r2 e).2.2⟩, g.z6, fun _ e2 => by have := (h.z6 e2).1.lt; omega⟩
theorem GN.alloc6 (h : GN w3 j1 j2 c p5 false W y1 y2 l1 h1 l2 h2 b5 b6) : GN w3 j1 j2 c p5 true (W.alloc Zj) y1 y2 l1 h1 l2 h2 b5 W.heap.size := by
  have g := h.grow Zj
  exact ⟨g.bel, g.r1, g.r2, g.z5, fun _ => ⟨Jb.new W _ _ _ _, h.bel.size, fun e => .inr (h.r1 e).2.2, fun e => .inr (h.r2 e).2.2⟩, fun e _ => by have := (h.z5 e).1.lt; omega⟩
theorem GN.done (h : GN w3 j1 j2 2 true true W y1 y2 l1 h1 l2 h2 b5 b6) : TwoBox w3 j1 j2 (putJ (putJ W b5 y1) b6 y2) b5 b6 := by
  obtain ⟨z5, n5, a5, a5'⟩ := h.z5 rfl
  obtain ⟨z6, n6, a6, a6'⟩ := h.z6 rfl
  obtain ⟨q1, m1, k1⟩ := h.r1 (by omega)
  obtain ⟨q2, m2, k2⟩ := h.r2 (by omega)
  have hne := h.ne rfl rfl
  have p5 := putJ_but W b5 y1
  have p6 := putJ_but (putJ W b5 y1) b6 y2
  have s5 := p5.size
  have s6 := p6.size
  have keep : ∀ b, b < W.heap.size → b ≠ b5 → b ≠ b6 → (putJ (putJ W b5 y1) b6 y2).heap[b]? = W.heap[b]? := fun b hb e5 e6 => (p6.block b (by omega) e6).trans (p5.block b hb e5)
  have l5 := z5.lt
  have l6 := z6.lt
  refine ⟨y1, y2, hne, Jb.but (Jb.put4 z5 y1.k y1.t _ _) p6 hne, Jb.put4 (Jb.but z6 p5 (Ne.symm hne)) y2.k y2.t _ _, ?_, ?_, ?_⟩
  · exact JRep.see _ _ _ (JRep.stay _ _ _ q1 (fun b hb => keep b (by omega) (fun e => by have := a5 (by omega); omega) (fun e => by have := a6 (by omega); omega))) (fun b hb => by omega)
  · exact JRep.see _ _ _ (JRep.stay _ _ _ q2 (fun b hb => keep b (by omega) (fun e => by have := a5' (by omega); omega) (fun e => by have := a6' (by omega); omega))) (fun b hb => by omega)
  · have hs := h.bel.size
    exact h.bel.trans ((p5.below n5 (by omega)).trans (p6.below n6 (by omega)))
end
theorem both_true {p5 p6 : Bool} (h : 0 = (1 - p5.toNat) + (1 - p6.toNat)) : p5 = true ∧ p6 = true := by
  cases p5 <;> cases p6 <;> first | exact ⟨rfl, rfl⟩ | (simp at h)
def rests (p5 p6 : Bool) : List Nat := (if p5 then [] else [4]) ++ (if p6 then [] else [5])
abbrev lst (c1 c2 p5 p6 : Bool) : Array Bool := #[true, c1, true, c2, p5, p6, false, false]
/-- What is asked of the eight operations: two loads that are done, two calls, two variables that are made, two stores. -/
structure Eight (P : Program) (ops : Array Oper) (f : FuncId) (X1 X2 : Value) (d1 d2 v1 v2 : Nat) (AF : Value → Value → Value → Value → Act) : Prop where
  c1 : ∃ o, ops[1]? = some o ∧ o.guard = none ∧ o.dst = some d1 ∧ ∀ v5 v6 u1 u2 W, (execOp (AF v5 v6 u1 u2).eval o).run P W = .ok (.enter f #[X1]) W
  c2 : ∃ o, ops[3]? = some o ∧ o.guard = none ∧ o.dst = some d2 ∧ ∀ v5 v6 u1 u2 W, (execOp (AF v5 v6 u1 u2).eval o).run P W = .ok (.enter f #[X2]) W
  a1 : ∃ o, ops[4]? = some o ∧ o.guard = none ∧ o.dst = some v1 ∧ ∀ v5 v6 u1 u2 W, (execOp (AF v5 v6 u1 u2).eval o).run P W = .ok (.value (.pointer (some ⟨W.heap.size, 0, none⟩))) (W.alloc Zj)
  a2 : ∃ o, ops[5]? = some o ∧ o.guard = none ∧ o.dst = some v2 ∧ ∀ v5 v6 u1 u2 W, (execOp (AF v5 v6 u1 u2).eval o).run P W = .ok (.value (.pointer (some ⟨W.heap.size, 0, none⟩))) (W.alloc Zj)
  s1 : ∃ o, ops[6]? = some o ∧ o.guard = none ∧ o.dst = none ∧ ∀ b v6 (y : JV) u2 W, Zb W b → (execOp (AF (.pointer (some ⟨b, 0, none⟩)) v6 y.val u2).eval o).run P W = .ok .skip (putJ W b y)
  s2 : ∃ o, ops[7]? = some o ∧ o.guard = none ∧ o.dst = none ∧ ∀ b v5 (y : JV) u1 W, Zb W b → (execOp (AF v5 (.pointer (some ⟨b, 0, none⟩)) u1 y.val).eval o).run P W = .ok .skip (putJ W b y)
  p1 : ∀ v5 v6 u1 u2 v, (AF v5 v6 u1 u2).put (some d1) v = AF v5 v6 v u2
  p2 : ∀ v5 v6 u1 u2 v, (AF v5 v6 u1 u2).put (some d2) v = AF v5 v6 u1 v
  q1 : ∀ v5 v6 u1 u2 v, (AF v5 v6 u1 u2).put (some v1) v = AF v v6 u1 u2
  q2 : ∀ v5 v6 u1 u2 v, (AF v5 v6 u1 u2).put (some v2) v = AF v5 v u1 u2
  r0 : ∀ p5 p6, Region.ready .any ops (lst false false p5 p6) = 1 :: rests p5 p6
  r1 : ∀ p5 p6, Region.ready .any ops (lst true false p5 p6) = 3 :: rests p5 p6
  r2 : ∀ p5 p6, (p5 && p6) = false → Region.ready .any ops (lst true true p5 p6) = rests p5 p6
  r3 : Region.ready .any ops (lst true true true true) = [6]
  r4 : Region.ready .any ops #[true, true, true, true, true, true, true, false] = [7]
  r5 : Region.ready .any ops #[true, true, true, true, true, true, true, true] = []
section
variable {P : Program} {ops : Array Oper} {Q : Exit → Act → World → Prop} {f : FuncId} {X1 X2 : Value} {d1 d2 v1 v2 : Nat} {AF : Value → Value → Value → Value → Act}
theorem op_value {i d : Nat} {o : Oper} {a : Act} {w w' : World} {v : Value} {K : Act → World → Prop} (hi : ops[i]? = some o) (hg : o.guard = none) (hd : o.dst = some d) (hv : (execOp a.eval o).run P w = .ok (.value v) w') (hk : K (a.put (some d) v) w') : wpOp P ops Q i K a w := by
  unfold wpOp
  simp only [hi]
  rw [if_pos (by simp [Region.wanted, hg])]
  refine .inl ?_
  unfold Oper.wp
  rw [hv, Oper.upon_value]
  simp only [hd]
  exact hk
theorem op_skip {i : Nat} {o : Oper} {a : Act} {w w' : World} {K : Act → World → Prop} (hi : ops[i]? = some o) (hg : o.guard = none) (hd : o.dst = none) (hv : (execOp a.eval o).run P w = .ok .skip w') (hk : K a w') : wpOp P ops Q i K a w := by
  unfold wpOp
  simp only [hi]
  rw [if_pos (by simp [Region.wanted, hg])]
  refine .inl ?_
  unfold Oper.wp
  rw [hv, Oper.upon_skip]
  simp only [hd]
  exact hk
theorem op_call {i d : Nat} {o : Oper} {a : Act} {w : World} {args : Array Value} {K : Act → World → Prop} (hi : ops[i]? = some o) (hg : o.guard = none) (hd : o.dst = some d) (hv : (execOp a.eval o).run P w = .ok (.enter f args) w) (hk : Calls P f args w fun e w' => ∃ v, e = .returned v ∧ K (a.put (some d) v) w') : wpOp P ops Q i K a w := by
  unfold wpOp
  simp only [hi]
  rw [if_pos (by simp [Region.wanted, hg])]
  refine .inl ?_
  unfold Oper.wp
  rw [hv, Oper.upon_enter]
  refine hk.mono ?_
  rintro e w' ⟨v, rfl, h⟩
  simp only [hd]
  exact h
theorem heldRun {S : World → Prop} {md : Region.Mode} {i : Nat} {oi : Oper} {fuel : Nat} {listed : Array Bool} {a : Act} {w : World} (d : Nat) (v : Value) (hi : ops[i]? = some oi) (hd : oi.dst = some d)
    (hs : Region.noSelect ops = true) (hf : Region.free md ops listed i = true) (hr : (Region.ready md ops listed).contains i = true)
    (hQ : ∀ c a w, Q (.panic c) (a.put oi.dst v) w → Q (.panic c) a w) (hw : Region.wanted oi (yielded ops a.tmps) = true) (hv : ∀ w, S w → (execOp a.eval oi).run P w = .ok (.value v) w) (hS : S w)
    (h : wpAnyH P md ops Q S fuel (listed.setIfInBounds i true) (a.put (some d) v) w) : wpAnyH P md ops Q S (fuel + 1) listed a w :=
  wpAnyH_take hi hs hf hr hQ (.inl ⟨hw, hv⟩) hS (by rw [hd]; exact h)
variable {w3 : World} {j1 j2 : J}
theorem fresh_end (E : Eight P ops f X1 X2 d1 d2 v1 v2 AF) (hQ : ∀ b5 b6 u1 u2 W, TwoBox w3 j1 j2 W b5 b6 → Q .normal (AF (.pointer (some ⟨b5, 0, none⟩)) (.pointer (some ⟨b6, 0, none⟩)) u1 u2) W)
    {W : World} {y1 y2 : JV} {l1 h1 l2 h2 b5 b6 : Nat} (h : GN w3 j1 j2 2 true true W y1 y2 l1 h1 l2 h2 b5 b6) : wpAnyH P .any ops Q (fun W => Below w3.heap.size w3 W) 2 (lst true true true true) (AF (.pointer (some ⟨b5, 0, none⟩)) (.pointer (some ⟨b6, 0, none⟩)) y1.val y2.val) W := by
  obtain ⟨o6, i6, g6, t6, e6⟩ := E.s1
  obtain ⟨o7, i7, g7, t7, e7⟩ := E.s2
  obtain ⟨z5, n5, _⟩ := h.z5 rfl
  obtain ⟨z6, n6, _⟩ := h.z6 rfl
  have hne := h.ne rfl rfl
  have hp5 := putJ_but W b5 y1
  have hs := h.bel.size
  refine wpAnyH_all E.r3 (by simp) fun i hi => ?_
  obtain rfl := List.mem_singleton.1 hi
  refine op_skip i6 g6 t6 (e6 b5 _ y1 _ W z5) ⟨h.bel.trans (hp5.below n5 (by omega)), ?_⟩
  refine wpAnyH_all E.r4 (by simp) fun i hi => ?_
  obtain rfl := List.mem_singleton.1 hi
  have hd := h.done
  refine op_skip i7 g7 t7 (e7 b6 _ y2 _ _ (Jb.but z6 hp5 (Ne.symm hne))) ⟨?_, wpAnyH_done E.r5 (hQ _ _ _ _ _ hd) _⟩
  obtain ⟨_, _, _, _, _, _, _, hb⟩ := hd
  exact hb
theorem fresh_two (E : Eight P ops f X1 X2 d1 d2 v1 v2 AF) (hQ : ∀ b5 b6 u1 u2 W, TwoBox w3 j1 j2 W b5 b6 → Q .normal (AF (.pointer (some ⟨b5, 0, none⟩)) (.pointer (some ⟨b6, 0, none⟩)) u1 u2) W) : ∀ (n : Nat) (p5 p6 : Bool) (W : World) (y1 y2 : JV) (l1 h1 l2 h2 b5 b6 : Nat) (v5 v6 : Value), n = (1 - p5.toNat) + (1 - p6.toNat) → (p5 = true → v5 = .pointer (some ⟨b5, 0, none⟩)) → (p6 = true → v6 = .pointer (some ⟨b6, 0, none⟩)) →
    GN w3 j1 j2 2 p5 p6 W y1 y2 l1 h1 l2 h2 b5 b6 → wpAnyH P .any ops Q (fun W => Below w3.heap.size w3 W) (n + 2) (lst true true p5 p6) (AF v5 v6 y1.val y2.val) W := by
  intro n
  induction n with
  | zero =>
    intro p5 p6 W y1 y2 l1 h1 l2 h2 b5 b6 v5 v6 hn e5 e6 h
    obtain ⟨t5, t6⟩ := both_true hn
    subst t5; subst t6
    rw [e5 rfl, e6 rfl]
    exact fresh_end E hQ h
  | succ n ih =>
    intro p5 p6 W y1 y2 l1 h1 l2 h2 b5 b6 v5 v6 hn e5 e6 h
    obtain ⟨o4, i4, g4, t4, r4⟩ := E.a1
    obtain ⟨o5, i5, g5, t5, r5⟩ := E.a2
    have hpp : (p5 && p6) = false := by cases p5 <;> cases p6 <;> simp at hn ⊢
    refine wpAnyH_all (E.r2 p5 p6 hpp) (by cases p5 <;> cases p6 <;> simp [rests] at hpp ⊢) fun i hi => ?_
    rcases List.mem_append.1 hi with hi | hi
    · cases p5 with
      | true => cases hi
      | false =>
        obtain rfl := List.mem_singleton.1 hi
        refine op_value i4 g4 t4 (r4 _ _ _ _ W) ?_
        rw [E.q1]
        have g := h.alloc5
        exact ⟨g.bel, ih true p6 _ y1 y2 l1 h1 l2 h2 _ b6 _ v6 (by simp at hn ⊢; omega) (fun _ => rfl) e6 g⟩
    · cases p6 with
      | true => cases hi
      | false =>
        obtain rfl := List.mem_singleton.1 hi
        refine op_value i5 g5 t5 (r5 _ _ _ _ W) ?_
        rw [E.q2]
        have g := h.alloc6
        exact ⟨g.bel, ih p5 true _ y1 y2 l1 h1 l2 h2 b5 _ v5 _ (by simp at hn ⊢; omega) e5 (fun _ => rfl) g⟩
variable (T1 : ∀ W, Below w3.heap.size w3 W → Calls P f #[X1] W fun e w' => ∃ y : JV, e = .returned y.val ∧ JRep w' j1 y (fun b => W.heap.size ≤ b ∧ b < w'.heap.size) ∧ Below W.heap.size W w')
  (T2 : ∀ W, Below w3.heap.size w3 W → Calls P f #[X2] W fun e w' => ∃ y : JV, e = .returned y.val ∧ JRep w' j2 y (fun b => W.heap.size ≤ b ∧ b < w'.heap.size) ∧ Below W.heap.size W w')
include T2
theorem fresh_one (E : Eight P ops f X1 X2 d1 d2 v1 v2 AF) (hQ : ∀ b5 b6 u1 u2 W, TwoBox w3 j1 j2 W b5 b6 → Q .normal (AF (.pointer (some ⟨b5, 0, none⟩)) (.pointer (some ⟨b6, 0, none⟩)) u1 u2) W) : ∀ (n : Nat) (p5 p6 : Bool) (W : World) (y1 y2 : JV) (l1 h1 l2 h2 b5 b6 : Nat) (v5 v6 u2 : Value), n = (1 - p5.toNat) + (1 - p6.toNat) → (p5 = true → v5 = .pointer (some ⟨b5, 0, none⟩)) → (p6 = true → v6 = .pointer (some ⟨b6, 0, none⟩)) →
    GN w3 j1 j2 1 p5 p6 W y1 y2 l1 h1 l2 h2 b5 b6 → wpAnyH P .any ops Q (fun W => Below w3.heap.size w3 W) (n + 3) (lst true false p5 p6) (AF v5 v6 y1.val u2) W := by
  intro n
  induction n with
  | zero =>
    intro p5 p6 W y1 y2 l1 h1 l2 h2 b5 b6 v5 v6 u2 hn e5 e6 h
    obtain ⟨o3, i3, g3, t3, r3⟩ := E.c2
    obtain ⟨t5, t6⟩ := both_true hn
    subst t5; subst t6
    refine wpAnyH_all (E.r1 true true) (by simp) fun i hi => ?_
    obtain rfl : i = 3 := by simpa [rests] using hi
    refine op_call i3 g3 t3 (r3 _ _ _ _ W) ((T2 W h.bel).mono ?_)
    rintro e w' ⟨y, rfl, hr, hb⟩
    refine ⟨_, rfl, ?_⟩
    rw [E.p2]
    have g := h.call2 hb hr
    exact ⟨g.bel, fresh_two E hQ 0 true true w' y1 y l1 h1 _ _ b5 b6 v5 v6 rfl e5 e6 g⟩
  | succ n ih =>
    intro p5 p6 W y1 y2 l1 h1 l2 h2 b5 b6 v5 v6 u2 hn e5 e6 h
    obtain ⟨o3, i3, g3, t3, r3⟩ := E.c2
    obtain ⟨o4, i4, g4, t4, r4⟩ := E.a1
    obtain ⟨o5, i5, g5, t5, r5⟩ := E.a2
    refine wpAnyH_all (E.r1 p5 p6) (by simp) fun i hi => ?_
    rcases List.mem_cons.1 hi with rfl | hi
    · refine op_call i3 g3 t3 (r3 _ _ _ _ W) ((T2 W h.bel).mono ?_)
      rintro e w' ⟨y, rfl, hr, hb⟩
      refine ⟨_, rfl, ?_⟩
      rw [E.p2]
      have g := h.call2 hb hr
      exact ⟨g.bel, fresh_two E hQ (n + 1) p5 p6 w' y1 y l1 h1 _ _ b5 b6 v5 v6 hn e5 e6 g⟩
    rcases List.mem_append.1 hi with hi | hi
    · cases p5 with
      | true => cases hi
      | false =>
        obtain rfl := List.mem_singleton.1 hi
        refine op_value i4 g4 t4 (r4 _ _ _ _ W) ?_
        rw [E.q1]
        have g := h.alloc5
        exact ⟨g.bel, ih true p6 _ y1 y2 l1 h1 l2 h2 _ b6 _ v6 u2 (by simp at hn ⊢; omega) (fun _ => rfl) e6 g⟩
    · cases p6 with
      | true => cases hi
      | false =>
        obtain rfl := List.mem_singleton.1 hi
        refine op_value i5 g5 t5 (r5 _ _ _ _ W) ?_
        rw [E.q2]
        have g := h.alloc6
        exact ⟨g.bel, ih p5 true _ y1 y2 l1 h1 l2 h2 b5 _ v5 _ u2 (by simp at hn ⊢; omega) e5 (fun _ => rfl) g⟩
include T1
theorem fresh_none (E : Eight P ops f X1 X2 d1 d2 v1 v2 AF) (hQ : ∀ b5 b6 u1 u2 W, TwoBox w3 j1 j2 W b5 b6 → Q .normal (AF (.pointer (some ⟨b5, 0, none⟩)) (.pointer (some ⟨b6, 0, none⟩)) u1 u2) W) : ∀ (n : Nat) (p5 p6 : Bool) (W : World) (y1 y2 : JV) (l1 h1 l2 h2 b5 b6 : Nat) (v5 v6 u1 u2 : Value), n = (1 - p5.toNat) + (1 - p6.toNat) → (p5 = true → v5 = .pointer (some ⟨b5, 0, none⟩)) → (p6 = true → v6 = .pointer (some ⟨b6, 0, none⟩)) →
    GN w3 j1 j2 0 p5 p6 W y1 y2 l1 h1 l2 h2 b5 b6 → wpAnyH P .any ops Q (fun W => Below w3.heap.size w3 W) (n + 4) (lst false false p5 p6) (AF v5 v6 u1 u2) W := by
  intro n
  induction n with
  | zero =>
    intro p5 p6 W y1 y2 l1 h1 l2 h2 b5 b6 v5 v6 u1 u2 hn e5 e6 h
    obtain ⟨o1, i1, g1, t1, r1⟩ := E.c1
    obtain ⟨t5, t6⟩ := both_true hn
    subst t5; subst t6
    refine wpAnyH_all (E.r0 true true) (by simp) fun i hi => ?_
    obtain rfl : i = 1 := by simpa [rests] using hi
    refine op_call i1 g1 t1 (r1 _ _ _ _ W) ((T1 W h.bel).mono ?_)
    rintro e w' ⟨y, rfl, hr, hb⟩
    refine ⟨_, rfl, ?_⟩
    rw [E.p1]
    have g := h.call1 hb hr
    exact ⟨g.bel, fresh_one T2 E hQ 0 true true w' y y2 _ _ l2 h2 b5 b6 v5 v6 u2 rfl e5 e6 g⟩
  | succ n ih =>
    intro p5 p6 W y1 y2 l1 h1 l2 h2 b5 b6 v5 v6 u1 u2 hn e5 e6 h
    obtain ⟨o1, i1, g1, t1, r1⟩ := E.c1
    obtain ⟨o4, i4, g4, t4, r4⟩ := E.a1
    obtain ⟨o5, i5, g5, t5, r5⟩ := E.a2
    refine wpAnyH_all (E.r0 p5 p6) (by simp) fun i hi => ?_
    rcases List.mem_cons.1 hi with rfl | hi
    · refine op_call i1 g1 t1 (r1 _ _ _ _ W) ((T1 W h.bel).mono ?_)
      rintro e w' ⟨y, rfl, hr, hb⟩
      refine ⟨_, rfl, ?_⟩
      rw [E.p1]
      have g := h.call1 hb hr
      exact ⟨g.bel, fresh_one T2 E hQ (n + 1) p5 p6 w' y y2 _ _ l2 h2 b5 b6 v5 v6 u2 hn e5 e6 g⟩
    rcases List.mem_append.1 hi with hi | hi
    · cases p5 with
      | true => cases hi
      | false =>
        obtain rfl := List.mem_singleton.1 hi
        refine op_value i4 g4 t4 (r4 _ _ _ _ W) ?_
        rw [E.q1]
        have g := h.alloc5
        exact ⟨g.bel, ih true p6 _ y1 y2 l1 h1 l2 h2 _ b6 _ v6 u1 u2 (by simp at hn ⊢; omega) (fun _ => rfl) e6 g⟩
    · cases p6 with
      | true => cases hi
      | false =>
        obtain rfl := List.mem_singleton.1 hi
        refine op_value i5 g5 t5 (r5 _ _ _ _ W) ?_
        rw [E.q2]
        have g := h.alloc6
        exact ⟨g.bel, ih p5 true _ y1 y2 l1 h1 l2 h2 b5 _ v5 _ u1 u2 (by simp at hn ⊢; omega) e5 (fun _ => rfl) g⟩
end
end Go.Proofs.YtiaedngnofablaaGreatDoor
