/- The program's readHead. -/
import Derived.Test.YtaenccjlokiejaaGreatDoorHLines
import Derived.Test.YtaenccjlokiejaaGreatDoorHAdd
namespace Go.Proofs.YtaenccjlokiejaaGreatDoor
open Go.RowKit Go.Shelf

attribute [local go_sem] Oper.semAt_some

set_option maxHeartbeats 400000 in
set_option maxRecDepth 100000 in
theorem lines_any (raw : U) (k : Nat) (w : World) : Calls Tryz.prog 95 #[.string (str raw), .int .i64 (k : Int)] w fun e w' => e = .returned (.func (.func 111) #[] #[.pointer (some ⟨w.heap.size, 0, none⟩), .pointer (some ⟨w.heap.size + 1, 0, none⟩)]) ∧ w' = (w.alloc (.cells #[.string (str raw)] 9)).alloc (.cells #[.int .i64 (k : Int)] 3) := by
  have hmf : ∀ (fn : Fn) (first cap : Array Value) (w : World), (Instr.makeFunc fn first cap).run Tryz.prog w = .ok (.func fn first cap) w := fun _ _ _ _ => rfl
  generalize str raw = s
  go_enter Tryz.func95, Tryz.ntmps95
  go_wp2
  go_ret
  exact ⟨rfl, rfl⟩
/-- What readHead has laid in its results' cells. -/
def ResAt (B H E P : Nat) (W : World) : Except (Nat × Nat) (Hd × Nat) → Prop
  | .error (e, p) => HdB W H (.slice none 0 0) (.int .i64 0) (.bool false) ∧ Boxed W E 23 (.int .i64 (e : Int)) ∧ Boxed W P 3 (.int .i64 (p : Int)) ∧ e ≠ 0
  | .ok (h, j) => ∃ v, HdB W H v (.int .i64 ((h.len.getD 0 : Nat) : Int)) (.bool h.len.isSome) ∧ FOwn 78 W B v h.fs ∧ h.fs.length ≤ 64 ∧ Boxed W E 23 (.int .i64 0) ∧ Boxed W P 3 (.int .i64 (j : Int))
/-- Between two lines. -/
structure Mid (w : World) (B A : Nat) (h : Hd) (k : Nat) (W : World) : Prop where
  hk : k ≤ 32768
  h64 : h.fs.length ≤ 64
  own : ∃ v, HdB W (A + 4) v (.int .i64 ((h.len.getD 0 : Nat) : Int)) (.bool h.len.isSome) ∧ FOwn 78 W B v h.fs
  atk : Boxed W A 3 (.int .i64 (k : Int))
  res : HdB W (A + 1) (.slice none 0 0) (.int .i64 0) (.bool false)
  err : Boxed W (A + 2) 23 (.int .i64 0)
  pl : Boxed W (A + 3) 3 (.int .i64 0)
  env : Env W
  low : Below w.heap.size w W
  big : B ≤ W.heap.size
theorem own_keeps {B : Nat} {W W' : World} {row : Option Nat} (hg : W.grownBy W' row) (hr : ∀ r, row = some r → B ≤ r ∧ ∃ o : Obj, W.heap[r]? = some o ∧ o.isCells = false) :
    (∀ (j : Nat) (cs : Array Value) (t : TypeId), W.heap[j]? = some (.cells cs t (0, 0)) → W'.heap[j]? = some (.cells cs t (0, 0))) := by
  intro j cs t h
  refine (hg.block j (Array.getElem?_eq_some_iff.1 h).1 (fun e => ?_)).trans h
  obtain ⟨_, o, ho, hc⟩ := hr j e.symm
  rw [h] at ho
  cases ho
  cases hc
theorem fown_cellsK {t : TypeId} {B : Nat} {W W' : World} {v : Value} {l : List Fl} (h : FOwn t W B v l) (hk : ∀ (j : Nat) (cs : Array Value) (t : TypeId), W.heap[j]? = some (.cells cs t (0, 0)) → W'.heap[j]? = some (.cells cs t (0, 0))) : FOwn t W' B v l := by
  refine ⟨h.1, ?_⟩
  rcases h.2 with h2 | ⟨g, cap, cur, e, hg, hh, r⟩
  · exact .inl h2
  · exact .inr ⟨g, cap, cur, e, hg, hk _ _ _ hh, r⟩
theorem HdB.other {w : World} {b b' : Nat} {x y z : Value} (h : HdB w b x y z) (hne : b ≠ b') (i : Nat) (u : Value) : HdB (w.setCell ⟨b', i, none⟩ u) b x y z := (Below.heap_setCell w ⟨b', i, none⟩ u b hne).trans h
theorem FOwn.other {t : TypeId} {w : World} {B : Nat} {v : Value} {l : List Fl} (h : FOwn t w B v l) (b i : Nat) (hb : b < B) (u : Value) : FOwn t (w.setCell ⟨b, i, none⟩ u) B v l := h.setOther b i hb u
theorem boxed_keep {w w' : World} {b : Nat} {t : TypeId} {v : Value} (h : Boxed w b t v) (hb : Below w.heap.size w w') : Boxed w' b t v := (hb.block b h.lt).trans h
theorem boxed_frm {B c : Nat} {w w' : World} {b : Nat} {t : TypeId} {v : Value} (h : Boxed w b t v) (f : Frm B c w w') (h1 : b < B) (h2 : b ≠ c) : Boxed w' b t v := (f.block b h1 h2).trans h
theorem HdB.frm {B c : Nat} {w w' : World} {b : Nat} {x y z : Value} (h : HdB w b x y z) (f : Frm B c w w') (h1 : b < B) (h2 : b ≠ c) : HdB w' b x y z := (f.block b h1 h2).trans h
theorem Env.blk {W W' : World} (E : Env W) (h : ∀ j, j < 6 → W'.heap[j]? = W.heap[j]?) : Env W' := by
  refine E.kpL (bR := 0) (bK := 0) fun j hj => ?_
  rcases hj with h1 | h1 | h1
  · exact h j h1
  · subst h1; exact h 0 (by decide)
  · subst h1; exact h 0 (by decide)
theorem Env.six {W : World} (E : Env W) : 6 ≤ W.heap.size := Nat.lt_of_le_of_lt (by decide : 5 ≤ 5) E.size
theorem Mid.own_from {w : World} {B A : Nat} {h : Hd} {k : Nat} (h6 : 6 ≤ B) (hB : w.heap.size ≤ B) {W W' : World} {row : Option Nat} (hm : Mid w B A h k W) (hg : W.grownBy W' row) (hr : ∀ r, row = some r → B ≤ r ∧ ∃ o : Obj, W.heap[r]? = some o ∧ o.isCells = false) : Mid w B A h k W' := by
  have hc := own_keeps hg hr
  obtain ⟨v, h1, h2⟩ := hm.own
  refine ⟨hm.hk, hm.h64, ⟨v, hc _ _ _ h1, fown_cellsK h2 hc⟩, hc _ _ _ hm.atk, hc _ _ _ hm.res, hc _ _ _ hm.err, hc _ _ _ hm.pl, ?_, ?_, Nat.le_trans hm.big hg.size⟩
  · refine hm.env.blk fun j hj => hg.block j (by have := hm.env.six; omega) (fun e => ?_)
    have := (hr j e.symm).1
    omega
  · exact hm.low.grown hg hm.low.size (fun x e => Nat.le_trans hB (hr x e).1)
/-- What stands when the head is over. -/
def Fin (w : World) (B A : Nat) (R : Except (Nat × Nat) (Hd × Nat)) (W : World) : Prop := ResAt B (A + 1) (A + 2) (A + 3) W R ∧ Below w.heap.size w W
theorem Fin.own_from {w : World} {B A : Nat} {R : Except (Nat × Nat) (Hd × Nat)} (hB : w.heap.size ≤ B) {W W' : World} {row : Option Nat} (hm : Fin w B A R W) (hg : W.grownBy W' row) (hr : ∀ r, row = some r → B ≤ r ∧ ∃ o : Obj, W.heap[r]? = some o ∧ o.isCells = false) : Fin w B A R W' := by
  have hc := own_keeps hg hr
  refine ⟨?_, hm.2.grown hg hm.2.size (fun x e => Nat.le_trans hB (hr x e).1)⟩
  have h := hm.1
  unfold ResAt at h ⊢
  cases R with
  | error x => exact ⟨hc _ _ _ h.1, hc _ _ _ h.2.1, hc _ _ _ h.2.2.1, h.2.2.2⟩
  | ok x =>
    obtain ⟨v, h1, h2, h3, h4, h5⟩ := h
    exact ⟨v, hc _ _ _ h1, fown_cellsK h2 hc, h3, hc _ _ _ h4, hc _ _ _ h5⟩
theorem boxed_o {w : World} {b b' : Nat} {t : TypeId} {v : Value} (h : Boxed w b t v) (hne : b ≠ b') (i : Nat) (u : Value) : Boxed (w.setCell ⟨b', i, none⟩ u) b t v := (Below.heap_setCell w ⟨b', i, none⟩ u b hne).trans h
/-- Five stores of a head's end, in whatever order. -/
structure Sts (w : World) (B A : Nat) (W W' : World) (x y z e p : Value) : Prop where
  hd : HdB W' (A + 1) x y z
  er : Boxed W' (A + 2) 23 e
  pl : Boxed W' (A + 3) 3 p
  own : ∀ v l, FOwn 78 W B v l → FOwn 78 W' B v l
  low : Below w.heap.size w W'
  oth : KeepsOthers W W'
theorem sts0 {w : World} {B A k : Nat} {h : Hd} {W : World} (hM : Mid w B A h k W) (hA : w.heap.size = A) (hB : A + 7 ≤ B) (x y z e p : Value) : Sts w B A W (((((W.setCell ⟨A + 1, 0, none⟩ x).setCell ⟨A + 1, 1, none⟩ y).setCell ⟨A + 1, 2, none⟩ z).setCell ⟨A + 2, 0, none⟩ e).setCell ⟨A + 3, 0, none⟩ p) x y z e p := by
  refine ⟨(HdB.other (HdB.other (HdB.set2 (HdB.set1 (HdB.set0 hM.res _) _) _) (by omega) _ _) (by omega) _ _), (boxed_o (Boxed.set _ (boxed_o (boxed_o (boxed_o hM.err (by omega) _ _) (by omega) _ _) (by omega) _ _)) (by omega) _ _), (Boxed.set _ (boxed_o (boxed_o (boxed_o (boxed_o hM.pl (by omega) _ _) (by omega) _ _) (by omega) _ _) (by omega) _ _)), fun v l ho => ?_, ?_, ?_⟩
  · exact FOwn.other (FOwn.other (FOwn.other (FOwn.other (FOwn.other ho _ _ (by omega) _) _ _ (by omega) _) _ _ (by omega) _) _ _ (by omega) _) _ _ (by omega) _
  · exact ((((hM.low.setCell (by show _ ≤ _; simp only; omega) _).setCell (by show _ ≤ _; simp only; omega) _).setCell (by show _ ≤ _; simp only; omega) _).setCell (by show _ ≤ _; simp only; omega) _).setCell (by show _ ≤ _; simp only; omega) _
  · exact ((((KeepsOthers.setCell _ _ _).trans (KeepsOthers.setCell _ _ _)).trans (KeepsOthers.setCell _ _ _)).trans (KeepsOthers.setCell _ _ _)).trans (KeepsOthers.setCell _ _ _)
theorem sts1 {w : World} {B A k : Nat} {h : Hd} {W : World} (hM : Mid w B A h k W) (hA : w.heap.size = A) (hB : A + 7 ≤ B) (x y z e p : Value) : Sts w B A W (((((W.setCell ⟨A + 1, 0, none⟩ x).setCell ⟨A + 1, 1, none⟩ y).setCell ⟨A + 1, 2, none⟩ z).setCell ⟨A + 3, 0, none⟩ p).setCell ⟨A + 2, 0, none⟩ e) x y z e p := by
  refine ⟨(HdB.other (HdB.other (HdB.set2 (HdB.set1 (HdB.set0 hM.res _) _) _) (by omega) _ _) (by omega) _ _), (Boxed.set _ (boxed_o (boxed_o (boxed_o (boxed_o hM.err (by omega) _ _) (by omega) _ _) (by omega) _ _) (by omega) _ _)), (boxed_o (Boxed.set _ (boxed_o (boxed_o (boxed_o hM.pl (by omega) _ _) (by omega) _ _) (by omega) _ _)) (by omega) _ _), fun v l ho => ?_, ?_, ?_⟩
  · exact FOwn.other (FOwn.other (FOwn.other (FOwn.other (FOwn.other ho _ _ (by omega) _) _ _ (by omega) _) _ _ (by omega) _) _ _ (by omega) _) _ _ (by omega) _
  · exact ((((hM.low.setCell (by show _ ≤ _; simp only; omega) _).setCell (by show _ ≤ _; simp only; omega) _).setCell (by show _ ≤ _; simp only; omega) _).setCell (by show _ ≤ _; simp only; omega) _).setCell (by show _ ≤ _; simp only; omega) _
  · exact ((((KeepsOthers.setCell _ _ _).trans (KeepsOthers.setCell _ _ _)).trans (KeepsOthers.setCell _ _ _)).trans (KeepsOthers.setCell _ _ _)).trans (KeepsOthers.setCell _ _ _)
theorem sts2 {w : World} {B A k : Nat} {h : Hd} {W : World} (hM : Mid w B A h k W) (hA : w.heap.size = A) (hB : A + 7 ≤ B) (x y z e p : Value) : Sts w B A W (((((W.setCell ⟨A + 2, 0, none⟩ e).setCell ⟨A + 1, 0, none⟩ x).setCell ⟨A + 1, 1, none⟩ y).setCell ⟨A + 1, 2, none⟩ z).setCell ⟨A + 3, 0, none⟩ p) x y z e p := by
  refine ⟨(HdB.other (HdB.set2 (HdB.set1 (HdB.set0 (HdB.other hM.res (by omega) _ _) _) _) _) (by omega) _ _), (boxed_o (boxed_o (boxed_o (boxed_o (Boxed.set _ hM.err) (by omega) _ _) (by omega) _ _) (by omega) _ _) (by omega) _ _), (Boxed.set _ (boxed_o (boxed_o (boxed_o (boxed_o hM.pl (by omega) _ _) (by omega) _ _) (by omega) _ _) (by omega) _ _)), fun v l ho => ?_, ?_, ?_⟩
  · exact FOwn.other (FOwn.other (FOwn.other (FOwn.other (FOwn.other ho _ _ (by omega) _) _ _ (by omega) _) _ _ (by omega) _) _ _ (by omega) _) _ _ (by omega) _
  · exact ((((hM.low.setCell (by show _ ≤ _; simp only; omega) _).setCell (by show _ ≤ _; simp only; omega) _).setCell (by show _ ≤ _; simp only; omega) _).setCell (by show _ ≤ _; simp only; omega) _).setCell (by show _ ≤ _; simp only; omega) _
  · exact ((((KeepsOthers.setCell _ _ _).trans (KeepsOthers.setCell _ _ _)).trans (KeepsOthers.setCell _ _ _)).trans (KeepsOthers.setCell _ _ _)).trans (KeepsOthers.setCell _ _ _)
theorem sts3 {w : World} {B A k : Nat} {h : Hd} {W : World} (hM : Mid w B A h k W) (hA : w.heap.size = A) (hB : A + 7 ≤ B) (x y z e p : Value) : Sts w B A W (((((W.setCell ⟨A + 2, 0, none⟩ e).setCell ⟨A + 3, 0, none⟩ p).setCell ⟨A + 1, 0, none⟩ x).setCell ⟨A + 1, 1, none⟩ y).setCell ⟨A + 1, 2, none⟩ z) x y z e p := by
  refine ⟨(HdB.set2 (HdB.set1 (HdB.set0 (HdB.other (HdB.other hM.res (by omega) _ _) (by omega) _ _) _) _) _), (boxed_o (boxed_o (boxed_o (boxed_o (Boxed.set _ hM.err) (by omega) _ _) (by omega) _ _) (by omega) _ _) (by omega) _ _), (boxed_o (boxed_o (boxed_o (Boxed.set _ (boxed_o hM.pl (by omega) _ _)) (by omega) _ _) (by omega) _ _) (by omega) _ _), fun v l ho => ?_, ?_, ?_⟩
  · exact FOwn.other (FOwn.other (FOwn.other (FOwn.other (FOwn.other ho _ _ (by omega) _) _ _ (by omega) _) _ _ (by omega) _) _ _ (by omega) _) _ _ (by omega) _
  · exact ((((hM.low.setCell (by show _ ≤ _; simp only; omega) _).setCell (by show _ ≤ _; simp only; omega) _).setCell (by show _ ≤ _; simp only; omega) _).setCell (by show _ ≤ _; simp only; omega) _).setCell (by show _ ≤ _; simp only; omega) _
  · exact ((((KeepsOthers.setCell _ _ _).trans (KeepsOthers.setCell _ _ _)).trans (KeepsOthers.setCell _ _ _)).trans (KeepsOthers.setCell _ _ _)).trans (KeepsOthers.setCell _ _ _)
theorem sts4 {w : World} {B A k : Nat} {h : Hd} {W : World} (hM : Mid w B A h k W) (hA : w.heap.size = A) (hB : A + 7 ≤ B) (x y z e p : Value) : Sts w B A W (((((W.setCell ⟨A + 3, 0, none⟩ p).setCell ⟨A + 1, 0, none⟩ x).setCell ⟨A + 1, 1, none⟩ y).setCell ⟨A + 1, 2, none⟩ z).setCell ⟨A + 2, 0, none⟩ e) x y z e p := by
  refine ⟨(HdB.other (HdB.set2 (HdB.set1 (HdB.set0 (HdB.other hM.res (by omega) _ _) _) _) _) (by omega) _ _), (Boxed.set _ (boxed_o (boxed_o (boxed_o (boxed_o hM.err (by omega) _ _) (by omega) _ _) (by omega) _ _) (by omega) _ _)), (boxed_o (boxed_o (boxed_o (boxed_o (Boxed.set _ hM.pl) (by omega) _ _) (by omega) _ _) (by omega) _ _) (by omega) _ _), fun v l ho => ?_, ?_, ?_⟩
  · exact FOwn.other (FOwn.other (FOwn.other (FOwn.other (FOwn.other ho _ _ (by omega) _) _ _ (by omega) _) _ _ (by omega) _) _ _ (by omega) _) _ _ (by omega) _
  · exact ((((hM.low.setCell (by show _ ≤ _; simp only; omega) _).setCell (by show _ ≤ _; simp only; omega) _).setCell (by show _ ≤ _; simp only; omega) _).setCell (by show _ ≤ _; simp only; omega) _).setCell (by show _ ≤ _; simp only; omega) _
  · exact ((((KeepsOthers.setCell _ _ _).trans (KeepsOthers.setCell _ _ _)).trans (KeepsOthers.setCell _ _ _)).trans (KeepsOthers.setCell _ _ _)).trans (KeepsOthers.setCell _ _ _)
theorem sts5 {w : World} {B A k : Nat} {h : Hd} {W : World} (hM : Mid w B A h k W) (hA : w.heap.size = A) (hB : A + 7 ≤ B) (x y z e p : Value) : Sts w B A W (((((W.setCell ⟨A + 3, 0, none⟩ p).setCell ⟨A + 2, 0, none⟩ e).setCell ⟨A + 1, 0, none⟩ x).setCell ⟨A + 1, 1, none⟩ y).setCell ⟨A + 1, 2, none⟩ z) x y z e p := by
  refine ⟨(HdB.set2 (HdB.set1 (HdB.set0 (HdB.other (HdB.other hM.res (by omega) _ _) (by omega) _ _) _) _) _), (boxed_o (boxed_o (boxed_o (Boxed.set _ (boxed_o hM.err (by omega) _ _)) (by omega) _ _) (by omega) _ _) (by omega) _ _), (boxed_o (boxed_o (boxed_o (boxed_o (Boxed.set _ hM.pl) (by omega) _ _) (by omega) _ _) (by omega) _ _) (by omega) _ _), fun v l ho => ?_, ?_, ?_⟩
  · exact FOwn.other (FOwn.other (FOwn.other (FOwn.other (FOwn.other ho _ _ (by omega) _) _ _ (by omega) _) _ _ (by omega) _) _ _ (by omega) _) _ _ (by omega) _
  · exact ((((hM.low.setCell (by show _ ≤ _; simp only; omega) _).setCell (by show _ ≤ _; simp only; omega) _).setCell (by show _ ≤ _; simp only; omega) _).setCell (by show _ ≤ _; simp only; omega) _).setCell (by show _ ≤ _; simp only; omega) _
  · exact ((((KeepsOthers.setCell _ _ _).trans (KeepsOthers.setCell _ _ _)).trans (KeepsOthers.setCell _ _ _)).trans (KeepsOthers.setCell _ _ _)).trans (KeepsOthers.setCell _ _ _)
theorem addR_len {h h' : Hd} {l : U} (e : addR h l = .ok h') (h64 : h.fs.length ≤ 64) : h'.fs.length ≤ 64 := by
  unfold addR at e
  cases hf : fieldR l with
  | none => rw [hf] at e; cases e
  | some f =>
    rw [hf] at e
    simp only at e
    split at e
    · cases e
    · split at e
      · split at e
        · injection e with e; subst e; exact h64
        · cases e
      · split at e
        · cases e
        · injection e with e; subst e; simp only [List.length_append, List.length_cons, List.length_nil]; omega
theorem Mid.added {w : World} {B A k : Nat} {h h' : Hd} {W W' : World} {v : Value} (hm : Mid w B A h k W) (hA : w.heap.size = A) (h6 : 6 ≤ A) (hB : A + 7 ≤ B) (h64 : h'.fs.length ≤ 64)
    (h1 : HdB W' (A + 4) v (.int .i64 ((h'.len.getD 0 : Nat) : Int)) (.bool h'.len.isSome)) (h2 : FOwn 78 W' B v h'.fs) (hf : Frm B (A + 4) W W') : Mid w B A h' k W' :=
  ⟨hm.hk, h64, ⟨v, h1, h2⟩, boxed_frm hm.atk hf (by omega) (by omega), hm.res.frm hf (by omega) (by omega), boxed_frm hm.err hf (by omega) (by omega), boxed_frm hm.pl hf (by omega) (by omega), hm.env.frm (by omega) (by omega) hf,
    ⟨hf.os.trans hm.low.os, hf.tape.trans hm.low.tape, hf.output.trans hm.low.output, Nat.le_trans hm.low.size hf.size, fun j hj => (hf.block j (by omega) (by omega)).trans (hm.low.block j hj)⟩, Nat.le_trans hm.big hf.size⟩
theorem Mid.below {w : World} {B A k : Nat} {h : Hd} {W W' : World} (hm : Mid w B A h k W) (hb : Below W.heap.size W W') : Mid w B A h k W' := by
  obtain ⟨v, h1, h2⟩ := hm.own
  exact ⟨hm.hk, hm.h64, ⟨v, h1.keep hb, h2.keep hb⟩, boxed_keep hm.atk hb, hm.res.keep hb, boxed_keep hm.err hb, boxed_keep hm.pl hb, hm.env.keep hb, hm.low.trans (hb.mono hm.low.size), Nat.le_trans hm.big hb.size⟩
theorem Mid.setAt {w : World} {B A k : Nat} {h : Hd} {W : World} (hm : Mid w B A h k W) (hA : w.heap.size = A) (h6 : 6 ≤ A) (hB : A + 7 ≤ B) (n : Nat) (hn : n ≤ 32768) : Mid w B A h n (W.setCell ⟨A, 0, none⟩ (.int .i64 (n : Int))) := by
  obtain ⟨v, h1, h2⟩ := hm.own
  refine ⟨hn, hm.h64, ⟨v, h1.other (by omega) _ _, h2.other _ _ (by omega) _⟩, Boxed.set _ hm.atk, hm.res.other (by omega) _ _, boxed_o hm.err (by omega) _ _, boxed_o hm.pl (by omega) _ _, hm.env.blk fun j hj => Below.heap_setCell _ _ _ _ (by show _ ≠ A; omega), hm.low.setCell (by show _ ≤ _; simp only; omega) _, by have := hm.big; simpa using this⟩
theorem Sts.drew {w : World} {B A : Nat} {W W' : World} {x y z e p : Value} (h : Sts w B A W W' x y z e p) : Sts w B A W W'.drew x y z e p := ⟨h.hd, h.er, h.pl, h.own, below_drewN h.low 1, h.oth.trans (KeepsOthers.drew _)⟩
/-- The seven blocks that readHead lays ahead of its loop. -/
def laid7 (w : World) (raw : U) (k0 : Nat) : World := ((((((w.alloc (.cells #[.int .i64 (k0 : Int)] 3)).alloc (.cells #[.slice none 0 0, .int .i64 0, .bool false] 96)).alloc (.cells #[.int .i64 0] 23)).alloc (.cells #[.int .i64 0] 3)).alloc (.cells #[.slice none 0 0, .int .i64 0, .bool false] 96)).alloc (.cells #[.string (str raw)] 9)).alloc (.cells #[.int .i64 (k0 : Int)] 3)
theorem laid7_below (w : World) (raw : U) (k0 : Nat) : Below w.heap.size w (laid7 w raw k0) := by
  unfold laid7
  repeat (refine Below.alloc ?_ (by simp <;> omega) _)
  exact Below.refl _ _
theorem up_at {W : World} {k : Nat} {x : Obj} (o : Obj) (h : W.heap[k]? = some x) : (W.alloc o).heap[k]? = some x := (Below.heap_alloc W o k (Array.getElem?_eq_some_iff.1 h).1).trans h
theorem new_at (W : World) (o : Obj) (n : Nat) (hn : W.heap.size = n) : (W.alloc o).heap[n]? = some o := by
  subst hn
  exact heap_alloc_new W o
theorem laid7_mid (w : World) (raw : U) (k0 : Nat) (hk : k0 ≤ 32768) (E : Env w) : Mid w (w.heap.size + 7) w.heap.size ⟨[], none⟩ k0 (laid7 w raw k0) ∧ (laid7 w raw k0).cell? ⟨w.heap.size + 5, 0, none⟩ = some (.string (str raw)) ∧ (laid7 w raw k0).cell? ⟨w.heap.size + 6, 0, none⟩ = some (.int .i64 (k0 : Int)) ∧ (laid7 w raw k0).heap.size = w.heap.size + 7 := by
  have hb := laid7_below w raw k0
  have b0 : Boxed (laid7 w raw k0) w.heap.size 3 (.int .i64 (k0 : Int)) := up_at _ (up_at _ (up_at _ (up_at _ (up_at _ (up_at _ (new_at w _ _ rfl))))))
  have b1 : HdB (laid7 w raw k0) (w.heap.size + 1) (.slice none 0 0) (.int .i64 0) (.bool false) := up_at _ (up_at _ (up_at _ (up_at _ (up_at _ (new_at _ _ _ (by simp))))))
  have b2 : Boxed (laid7 w raw k0) (w.heap.size + 2) 23 (.int .i64 0) := up_at _ (up_at _ (up_at _ (up_at _ (new_at _ _ _ (by simp)))))
  have b3 : Boxed (laid7 w raw k0) (w.heap.size + 3) 3 (.int .i64 0) := up_at _ (up_at _ (up_at _ (new_at _ _ _ (by simp))))
  have b4 : HdB (laid7 w raw k0) (w.heap.size + 4) (.slice none 0 0) (.int .i64 0) (.bool false) := up_at _ (up_at _ (new_at _ _ _ (by simp)))
  have b5 : Boxed (laid7 w raw k0) (w.heap.size + 5) 9 (.string (str raw)) := up_at _ (new_at _ _ _ (by simp))
  have b6 : Boxed (laid7 w raw k0) (w.heap.size + 6) 3 (.int .i64 (k0 : Int)) := new_at _ _ _ (by simp)
  exact ⟨⟨hk, by simp, ⟨.slice none 0 0, b4, fown_nil _ _ _⟩, b0, b1, b2, b3, E.keep hb, hb, by simp [laid7]⟩, b5.cell, b6.cell, by simp [laid7]⟩
def hdR (raw : U) (k0 : Nat) : Except (Nat × Nat) (Hd × Nat) := hdL (linesR (raw.length + 1) (raw.drop k0) k0) ⟨[], none⟩ k0
def hdV (v : Value) : Except (Nat × Nat) (Hd × Nat) → Value
  | .error (e, p) => .tuple #[.agg #[.slice none 0 0, .int .i64 0, .bool false], .int .i64 (e : Int), .int .i64 (p : Int)]
  | .ok (h, j) => .tuple #[.agg #[v, .int .i64 ((h.len.getD 0 : Nat) : Int), .bool h.len.isSome], .int .i64 0, .int .i64 (j : Int)]
/-- What readHead leaves. -/
def HdPost (w : World) (R : Except (Nat × Nat) (Hd × Nat)) (e : Ending) (w' : World) : Prop :=
  ∃ v, e = .returned (hdV v R) ∧ (match R with | .error x => x.1 ≠ 0 | .ok (h, _) => FOwn 78 w' w.heap.size v h.fs ∧ h.fs.length ≤ 64) ∧ Below w.heap.size w w'
set_option maxHeartbeats 4000000 in
set_option maxRecDepth 100000 in
theorem readHead_any (raw : U) (k0 : Nat) (w : World) (hraw : raw.length ≤ 32768) (hk0 : k0 ≤ raw.length) (E : Env w) :
    Calls Tryz.prog 66 #[.string (str raw), .int .i64 (k0 : Int)] w fun e w' => HdPost w (hdR raw k0) e w' := by
  refine callsIn_wide (n := 9).1 ?_
  have HE := hide E
  have h6 := E.six
  have HLN := hide (fun W => callsIn_wide (n := 8).2 (lines_any raw k0 W))
  have HRAW := hide hraw
  have HK0 := hide hk0
  have hst := fun (m : Nat) (W : World) bR bK h1 h2 EE => lines1_stops m bR bK raw k0 W hraw hk0 h1 h2 EE
  have HST := hide hst
  obtain ⟨R, hR⟩ : ∃ R, R = hdR raw k0 := ⟨_, rfl⟩
  rw [← hR]
  have HR := hide hR
  clear hst hR E hraw hk0
  refine callsIn_of_wp_marks Tryz.func66 rfl trivial ?_ rfl
  simp only [Tryz.ntmps66, List.size_toArray, List.length_cons, List.length_nil, Nat.reduceAdd, Nat.reduceSub, Array.replicate_succ, Array.replicate_zero, List.push_toArray, List.append_toArray, List.nil_append, List.cons_append]
  gi_wp2_with fail
  refine ⟨trivial, (HLN.out _).mono ?_⟩
  rintro e w1 ⟨rfl, hw1⟩
  simp only [World.size_alloc, Nat.add_assoc, Nat.reduceAdd] at hw1 ⊢
  have hw2 : w1 = laid7 w raw k0 := hw1
  clear hw1
  obtain ⟨hM, hcR, hcK, hsz⟩ := laid7_mid w raw k0 (by have := HK0.out; have := HRAW.out; omega) HE.out
  rw [← hw2] at hM hcR hcK hsz
  have HM := hide hM
  have HSTT := hide (HST.out 8 w1 (w.heap.size + 5) (w.heap.size + 6) hcR hcK hM.env)
  clear hw2 hcR hcK HST hM HLN
  gi_wp2
  refine wpIn_rangeFunc_ownF rfl (by omega) rfl trivial (enters_of Tryz.func111 (by kernel_rfl) rfl) HSTT.out ?hKt ?hKb (Below.refl _ _) (fun _ => rfl)
    (fun pre W => ∃ h k, goL (pre.map Subtype.val) ⟨[], none⟩ k0 = some (h, k) ∧ Mid w (w.heap.size + 7) w.heap.size h k W)
    (fun c pre W => c = .ret ∧ ∃ R', (∀ r, hdL (pre.map Subtype.val ++ r) ⟨[], none⟩ k0 = R') ∧ Fin w (w.heap.size + 7) w.heap.size R' W)
    ?hI ?hIx ?h0 ?a1 ?hassign ?hbody ?hdone ?hstop
  case hassign =>
    intro l x W K hK
    unfold encL
    gi_wp2
    exact hK
  case hKt => exact fun h1 h2 j hj => (h2 j hj).trans (h1 j hj)
  case hKb =>
    intro W l o o' hl _ _ _ j hj
    exact World.putObj_heap_other (by omega)
  case hI =>
    rintro s W W' row ⟨h, k, e, hm⟩ hg hr
    exact ⟨h, k, e, hm.own_from (by omega) (by omega) hg (by rw [hsz] at hr; exact hr)⟩
  case hIx =>
    rintro c s W W' row ⟨e, R', e2, hm⟩ hg hr
    exact ⟨e, R', e2, hm.own_from (by omega) hg (by rw [hsz] at hr; exact hr)⟩
  case h0 => exact ⟨⟨[], none⟩, k0, rfl, HM.out⟩
  case hbody =>
    rintro l pre x W ⟨h, k, hgo, hm⟩ hlen
    obtain ⟨⟨a, nx⟩, hal, hnx⟩ := x
    simp only at hal hnx
    have HGO := hide hgo
    have HMI := hide hm
    generalize hwz : w.heap.size = A at *
    clear hm hgo HSTT
    by_cases ha : a = []
    · subst ha
      have he : ((str ([] : U)).toList == ([] : List UInt8)) = true := by rw [toList_str]; rfl
      obtain ⟨v, hv1, hv2⟩ := HMI.out.own
      obtain ⟨ao, cap, rfl, _, _, _⟩ := hv2.shape
      have HV1 := hide hv1
      have HV2 := hide hv2
      obtain ⟨c0, c1, c2⟩ := hv1.cells
      clear hv1 hv2
      have f0 := HMI.out.res.frozen 0
      have f1 := HMI.out.res.frozen 1
      have f2 := HMI.out.res.frozen 2
      obtain ⟨r0, r1, r2⟩ := HMI.out.res.cells
      have e0 := HMI.out.err.cell
      have g0 := HMI.out.err.frozen
      have p0 := HMI.out.pl.cell
      have q0 := HMI.out.pl.frozen
      gi_wp2
      have hs := sts0 HMI.out hwz (Nat.le_refl _) (.slice ao h.fs.length cap) (.int .i64 ((h.len.getD 0 : Nat) : Int)) (.bool h.len.isSome) (.int .i64 0) (.int .i64 (nx : Int))
      refine ⟨hs.oth, rfl, .ok (h, nx), ?_, ⟨_, hs.hd, hs.own _ _ HV2.out, HMI.out.h64, hs.er, hs.pl⟩, hs.low⟩
      intro r
      rw [List.map_append, List.append_assoc, hdL_go _ _ _ _ _ HGO.out]
      rfl
    have he : ((str a).toList == ([] : List UInt8)) = false := by rw [toList_str]; simpa using ha
    obtain ⟨v, hv1, hv2⟩ := HMI.out.own
    have HADD := hide (add_any a (A + 7) (A + 4) v h W (by omega) hv1 hv2 HMI.out.h64 (by omega) HMI.out.big (by omega) HMI.out.env)
    have HAE := hide ha
    clear hv1 hv2 ha
    generalize hsa : str a = sa at *
    gi_wp2_with fail
    refine ⟨trivial, ?_⟩
    refine (CallsIn.inRound l (callsIn_wide.2 HADD.out)).mono ?_
    rintro e w2 hp
    unfold AddPost at hp
    cases hr : addR h a with
    | error y =>
      rw [hr] at hp
      obtain ⟨rfl, hb, hy⟩ := hp
      have HM2 := hide (HMI.out.below hb)
      have HKO : Hid (KeepsOthers W w2) := ⟨hb.size, fun k o hk _ => (hb.block k (Array.getElem?_eq_some_iff.1 hk).1).trans hk⟩
      have hyn : ((y : Int) != 0) = true := by rw [bne_iff_ne]; omega
      have a0 := HM2.out.atk.cell
      have f0 := HM2.out.res.frozen 0
      have f1 := HM2.out.res.frozen 1
      have f2 := HM2.out.res.frozen 2
      obtain ⟨r0, r1, r2⟩ := HM2.out.res.cells
      have e0 := HM2.out.err.cell
      have g0 := HM2.out.err.frozen
      have p0 := HM2.out.pl.cell
      have q0 := HM2.out.pl.frozen
      have HR2 := hide hr
      have HY := hide hy
      clear hb HADD hr hy
      have HCL : Hid (∀ r, hdL ((pre ++ [(⟨(a, nx), ⟨hal, hnx⟩⟩ : LA)]).map Subtype.val ++ r) ⟨[], none⟩ k0 = .error (y, k)) := by
        intro r
        rw [List.map_append, List.append_assoc, hdL_go _ _ _ _ _ HGO.out]
        show hdL ((a, nx) :: r) h k = _
        rw [hdL, if_neg HAE.out, HR2.out]
      have HSS := hide (sts0 HM2.out hwz (Nat.le_refl _) (.slice none 0 0) (.int .i64 0) (.bool false) (.int .i64 (y : Int)) (.int .i64 (k : Int))).drew
      gi_wp2
      gi_region
      all_goals
        gi_wp2
        exact ⟨HKO.out.trans HSS.out.oth, rfl, .error (y, k), HCL.out, ⟨⟨HSS.out.hd, HSS.out.er, HSS.out.pl, HY.out⟩, HSS.out.low⟩⟩
    | ok h' =>
      rw [hr] at hp
      obtain ⟨rfl, v', h1, h2, h3⟩ := hp
      have HM2 := hide (HMI.out.added hwz h6 (Nat.le_refl _) (addR_len hr HMI.out.h64) h1 h2 h3)
      have HF2 := hide h3
      have a0 := HM2.out.atk.cell
      have b0 := HM2.out.atk.frozen
      have HR2 := hide hr
      clear HADD hr h1 h2 h3
      gi_wp2
      refine ⟨HF2.out.oth.trans (KeepsOthers.setCell _ _ _), ?_, h', nx, ?_, HM2.out.setAt hwz h6 (Nat.le_refl _) nx hnx⟩
      · intro j hj
        refine (Below.heap_setCell _ _ _ _ (by show _ ≠ A; omega)).trans (HF2.out.block j (by omega) (by omega))
      · rw [List.map_append]
        exact goL_snoc _ _ _ _ _ _ _ HGO.out HAE.out HR2.out
  case hdone =>
    rintro D ys W hD hS ⟨h, k, hgo, hm⟩ hK
    have HRE : Hid (R = .error (153, k)) := by
      show _ = _
      rw [HR.out]
      unfold hdR
      rw [← hS]
      have := hdL_go _ [] _ _ _ hgo
      rw [List.append_nil] at this
      exact this
    have HMI := hide hm
    generalize hwz : w.heap.size = A at *
    have a0 := HMI.out.atk.cell
    have f0 := HMI.out.res.frozen 0
    have f1 := HMI.out.res.frozen 1
    have f2 := HMI.out.res.frozen 2
    obtain ⟨r0, r1, r2⟩ := HMI.out.res.cells
    have e0 := HMI.out.err.cell
    have g0 := HMI.out.err.frozen
    have p0 := HMI.out.pl.cell
    have q0 := HMI.out.pl.frozen
    have HSS := hide (sts0 HMI.out hwz (Nat.le_refl _) (.slice none 0 0) (.int .i64 0) (.bool false) (.int .i64 153) (.int .i64 (k : Int))).drew
    have HKD := hide hK
    clear hm hgo hS hK HSTT
    gi_wp2
    gi_region
    all_goals
      gi_wp2
      have HK4 := hide (HSS.out.oth.same D _ HKD.out rfl)
      refine ⟨by simp, .inl ⟨_, _, rfl, run_takeDeferred HK4.out, ?_⟩⟩
      generalize (((((W.setCell ⟨A + 1, 0, none⟩ (.slice none 0 0)).setCell ⟨A + 1, 1, none⟩ (.int .i64 0)).setCell ⟨A + 1, 2, none⟩ (.bool false)).setCell ⟨A + 2, 0, none⟩ (.int .i64 153)).setCell ⟨A + 3, 0, none⟩ (.int .i64 (k : Int))).drew = W5 at *
      have hd5 : HdB (W5.putObj D (.deferred none)) (A + 1) (.slice none 0 0) (.int .i64 0) (.bool false) := (World.putObj_heap_other (by omega)).trans HSS.out.hd
      have er5 : Boxed (W5.putObj D (.deferred none)) (A + 2) 23 (.int .i64 153) := (World.putObj_heap_other (by omega)).trans HSS.out.er
      have pl5 : Boxed (W5.putObj D (.deferred none)) (A + 3) 3 (.int .i64 (k : Int)) := (World.putObj_heap_other (by omega)).trans HSS.out.pl
      obtain ⟨u0, u1, u2⟩ := hd5.cells
      have u3 := er5.cell
      have u4 := pl5.cell
      refine ⟨hdV (.slice none 0 0) (.error (153, k)), by simp [results, Tryz.results66, go_sem, u0, u1, u2, u3, u4, hdV], .slice none 0 0, by rw [HRE.out], by rw [HRE.out]; show (153 : Nat) ≠ 0; decide, ?_⟩
      rw [hwz]
      exact (hwz ▸ HSS.out.low : Below A w W5).grown (grownBy_putObj' W5 D (.deferred none)) (by have := HSS.out.low.size; omega) (fun x e => by cases e; omega)
  case hstop =>
    rintro D c pre W hD ⟨r, hr⟩ ⟨rfl, R', hR', hfin⟩ hK
    have HRE : Hid (R = R') := by
      show _ = _
      rw [HR.out]
      unfold hdR
      rw [← hr]
      exact hR' r
    have HFI := hide hfin
    have HKD := hide hK
    generalize hwz : w.heap.size = A at *
    clear hr hR' hfin hK HSTT
    gi_wp2
    refine ⟨by simp, .inl ⟨_, _, rfl, run_takeDeferred HKD.out, ?_⟩⟩
    rw [HRE.out]
    obtain ⟨hres, hlow⟩ := HFI.out
    have hb : Below A w (W.putObj D (.deferred none)) := (hwz ▸ hlow : Below A w W).grown (grownBy_putObj' W D (.deferred none)) (by have := hlow.size; omega) (fun x e => by cases e; omega)
    cases R' with
    | error x =>
      obtain ⟨e, p⟩ := x
      obtain ⟨h1, h2, h3, h4⟩ := hres
      have hd5 : HdB (W.putObj D (.deferred none)) (A + 1) (.slice none 0 0) (.int .i64 0) (.bool false) := (World.putObj_heap_other (by omega)).trans h1
      have er5 : Boxed (W.putObj D (.deferred none)) (A + 2) 23 (.int .i64 (e : Int)) := (World.putObj_heap_other (by omega)).trans h2
      have pl5 : Boxed (W.putObj D (.deferred none)) (A + 3) 3 (.int .i64 (p : Int)) := (World.putObj_heap_other (by omega)).trans h3
      obtain ⟨u0, u1, u2⟩ := hd5.cells
      have u3 := er5.cell
      have u4 := pl5.cell
      exact ⟨hdV (.slice none 0 0) (.error (e, p)), by simp [results, Tryz.results66, go_sem, u0, u1, u2, u3, u4, hdV], .slice none 0 0, rfl, h4, hwz ▸ hb⟩
    | ok x =>
      obtain ⟨h, j⟩ := x
      obtain ⟨v, h1, h2, h3, h4, h5⟩ := hres
      have hd5 : HdB (W.putObj D (.deferred none)) (A + 1) v (.int .i64 ((h.len.getD 0 : Nat) : Int)) (.bool h.len.isSome) := (World.putObj_heap_other (by omega)).trans h1
      have er5 : Boxed (W.putObj D (.deferred none)) (A + 2) 23 (.int .i64 0) := (World.putObj_heap_other (by omega)).trans h4
      have pl5 : Boxed (W.putObj D (.deferred none)) (A + 3) 3 (.int .i64 (j : Int)) := (World.putObj_heap_other (by omega)).trans h5
      obtain ⟨u0, u1, u2⟩ := hd5.cells
      have u3 := er5.cell
      have u4 := pl5.cell
      obtain ⟨ao, cap, hv, _, _, _⟩ := h2.shape
      subst hv
      refine ⟨hdV (.slice ao h.fs.length cap) (.ok (h, j)), by simp [results, Tryz.results66, go_sem, u0, u1, u2, u3, u4, hdV], .slice ao h.fs.length cap, rfl, ⟨?_, h3⟩, hwz ▸ hb⟩
      have hc : ∀ (j : Nat) (cs : Array Value) (t : TypeId), W.heap[j]? = some (.cells cs t (0, 0)) → (W.putObj D (.deferred none)).heap[j]? = some (.cells cs t (0, 0)) := fun j cs t hj => by
        refine (World.putObj_heap_other (fun e => ?_)).trans hj
        subst e
        have := HKD.out
        rw [hj] at this
        cases this
      exact (fown_cellsK h2 hc).lower (by omega)
end Go.Proofs.YtaenccjlokiejaaGreatDoor
