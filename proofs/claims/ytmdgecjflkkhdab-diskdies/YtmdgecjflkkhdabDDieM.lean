/- Two disks of the call's own; a disk that is armed beside one that was never. -/
import Derived.Test.YtmdgecjflkkhdabDOne
namespace Go.Proofs.Ytmdgecjflkkhdab
open Go.RowKit Go.Maps

structure Two (w0 w : World) (pa pb : Nat) (A B : DS) : Prop where
  rep : ∃ LA LB, Rep w pa A LA A.files.length ∧ Rep w pb B LB B.files.length ∧ (∀ b ∈ LA.blocks pa, w0.heap.size ≤ b) ∧ (∀ b ∈ LB.blocks pb, w0.heap.size ≤ b) ∧ ∀ b ∈ LA.blocks pa, b ∉ LB.blocks pb
  oka : Ok A
  okb : Ok B
  bel : Below w0.heap.size w0 w
theorem Two.swap {w0 w : World} {pa pb : Nat} {A B : DS} (h : Two w0 w pa pb A B) : Two w0 w pb pa B A := by
  obtain ⟨LA, LB, h1, h2, h3, h4, h5⟩ := h.rep
  exact ⟨⟨LB, LA, h2, h1, h4, h3, fun b hb ha => h5 b ha hb⟩, h.okb, h.oka, h.bel⟩
theorem Two.a {w0 w : World} {pa pb : Nat} {A B : DS} (h : Two w0 w pa pb A B) : Dsk w0 w pa A := by
  obtain ⟨LA, LB, h1, h2, h3, h4, h5⟩ := h.rep
  exact ⟨⟨LA, h1, h3⟩, h.oka, h.bel⟩
theorem Two.below {w0 w w' : World} {pa pb : Nat} {A B : DS} (h : Two w0 w pa pb A B) (hb : Below w.heap.size w w') : Two w0 w' pa pb A B := by
  obtain ⟨LA, LB, h1, h2, h3, h4, h5⟩ := h.rep
  exact ⟨⟨LA, LB, h1.below hb, h2.below hb, h3, h4, h5⟩, h.oka, h.okb, h.bel.trans (hb.mono h.bel.size)⟩
theorem Two.make {u wa wb : World} {pa pb : Nat} {A B : DS} (ha : Dsk u wa pa A) (hb : Dsk wa wb pb B) : Two u wb pa pb A B := by
  obtain ⟨LA, h1, h2⟩ := ha.rep
  obtain ⟨LB, h3, h4⟩ := hb.rep
  exact ⟨⟨LA, LB, h1.below hb.bel, h3, h2, fun b hm => Nat.le_trans ha.bel.size (h4 b hm), fun b h5 h6 => by have := h1.lt b h5; have := h4 b h6; omega⟩, ha.ok, hb.ok, (ha.below hb.bel).bel⟩
theorem Two.on {w0 w : World} {pa pb : Nat} {A A' B : DS} {f : FuncId} {args : Array Value} {R : Ending → Prop} (h : Two w0 w pa pb A B) (hc : ∀ G, DskG G w0 w pa A → Calls Try.prog f args w fun e w' => R e ∧ DskG G w0 w' pa A' ∧ Held G w w') : Calls Try.prog f args w fun e w' => R e ∧ Two w0 w' pa pb A' B := by
  obtain ⟨LA, LB, h1, h2, h3, h4, h5⟩ := h.rep
  refine (hc (fun b => b ∈ LB.blocks pb) ⟨⟨LA, h1, fun b hb => ⟨h3 b hb, h5 b hb⟩⟩, h.oka, h.bel, fun g hg => h2.lt g hg⟩).mono fun e w' ⟨he, hd, hh⟩ => ⟨he, ?_⟩
  obtain ⟨LA', k1, k2⟩ := hd.rep
  exact ⟨⟨LA', LB, k1, h2.keep hh.1 hh.2, fun b hb => (k2 b hb).1, h4, fun b hb => (k2 b hb).2⟩, hd.ok, h.okb, hd.bel⟩
theorem Two.drewN {w0 w : World} {pa pb : Nat} {A B : DS} (h : Two w0 w pa pb A B) (n : Nat) : Two w0 (w.drewN n) pa pb A B := h.below (below_drewN (Below.refl _ _) n)
/-- The same disk, armed otherwise. -/
def armd (S : DS) (a : Nat) : DS := { S with armed := a }
/-- What an operation does that goes. -/
structure Goer (f : DS → DS) : Prop where
  armed : ∀ T a, f (armd T a) = armd (f T) a
  ops : ∀ T, (f T).ops = T.ops
  dead : ∀ T, (f T).dead = T.dead
  arm : ∀ T, (f T).armed = T.armed
theorem opOf_goes (x : Ac) (S : DS) (hd : S.dead = false) : (∃ c, c ≠ 0 ∧ ∀ a, opOf x (armd S a) = (c, armd S a)) ∨ ∃ f, Goer f ∧ ∀ a, opOf x (armd S a) = goes (armd S a) f := by
  have e1 : ∀ a, (armd S a).dead = false := fun _ => hd
  have e2 : ∀ a, (armd S a).dir = S.dir := fun _ => rfl
  have e3 : ∀ a, (armd S a).files = S.files := fun _ => rfl
  have e4 : ∀ a, (armd S a).room = S.room := fun _ => rfl
  unfold opOf
  split
  · unfold create
    simp only [e1, e2, Bool.false_eq_true, if_false]
    by_cases c1 : isNm x.nm = false
    · exact .inl ⟨50, by omega, fun a => by rw [if_pos c1]⟩
    by_cases c2 : (dget x.nm S.dir).isSome
    · exact .inl ⟨8, by omega, fun a => by rw [if_neg c1, if_pos c2]⟩
    by_cases c3 : 64 ≤ S.dir.length
    · exact .inl ⟨5, by omega, fun a => by rw [if_neg c1, if_neg c2, if_pos c3]⟩
    exact .inr ⟨fun T => change ⟨[], x.nm, T.files.length⟩ { T with files := T.files ++ [⟨[], 0⟩] }, ⟨fun _ _ => rfl, fun _ => rfl, fun _ => rfl, fun _ => rfl⟩, fun a => by rw [if_neg c1, if_neg c2, if_neg c3]⟩
  split
  · unfold append
    simp only [e1, e2, e3, e4, Bool.false_eq_true, if_false]
    cases hg : dget x.nm S.dir with
    | none => exact .inl ⟨7, by omega, fun a => rfl⟩
    | some i =>
      simp only
      by_cases c1 : 4194304 < (flAt S.files i).bys.length + x.p.length ∨ S.room < sizes S.files S.dir + x.p.length
      · exact .inl ⟨5, by omega, fun a => by rw [if_pos c1]⟩
      · exact .inr ⟨setFile i ⟨(flAt S.files i).bys ++ x.p, (flAt S.files i).syn⟩, ⟨fun _ _ => rfl, fun _ => rfl, fun _ => rfl, fun _ => rfl⟩, fun a => by rw [if_neg c1]⟩
  split
  · unfold sync
    simp only [e1, e2, e3, Bool.false_eq_true, if_false]
    cases hg : dget x.nm S.dir with
    | none => exact .inl ⟨7, by omega, fun a => rfl⟩
    | some i => exact .inr ⟨setFile i ⟨(flAt S.files i).bys, (flAt S.files i).bys.length⟩, ⟨fun _ _ => rfl, fun _ => rfl, fun _ => rfl, fun _ => rfl⟩, fun a => rfl⟩
  split
  · unfold rename
    simp only [e1, e2, Bool.false_eq_true, if_false]
    cases hg : dget x.nm S.dir with
    | none => exact .inl ⟨7, by omega, fun a => rfl⟩
    | some i =>
      simp only
      by_cases c1 : isNm x.tn = false
      · exact .inl ⟨50, by omega, fun a => by rw [if_pos c1]⟩
      by_cases c2 : x.nm = x.tn
      · exact .inr ⟨id, ⟨fun _ _ => rfl, fun _ => rfl, fun _ => rfl, fun _ => rfl⟩, fun a => by rw [if_neg c1, if_pos c2]⟩
      · exact .inr ⟨change ⟨x.nm, x.tn, i⟩, ⟨fun _ _ => rfl, fun _ => rfl, fun _ => rfl, fun _ => rfl⟩, fun a => by rw [if_neg c1, if_neg c2]⟩
  split
  · unfold remove
    simp only [e1, e2, Bool.false_eq_true, if_false]
    cases hg : dget x.nm S.dir with
    | none => exact .inl ⟨7, by omega, fun a => rfl⟩
    | some i => exact .inr ⟨change ⟨x.nm, [], 0⟩, ⟨fun _ _ => rfl, fun _ => rfl, fun _ => rfl, fun _ => rfl⟩, fun a => rfl⟩
  · unfold syncDir
    simp only [e1, Bool.false_eq_true, if_false]
    exact .inr ⟨fun T => { T with safe := T.dir, chg := [] }, ⟨fun _ _ => rfl, fun _ => rfl, fun _ => rfl, fun _ => rfl⟩, fun a => rfl⟩
/-- The armed disk beside the other, ahead of the operation at which the power fails. -/
structure Beside (n : Nat) (A B : DS) : Prop where
  eq : A = armd B (n - B.ops)
  dead : B.dead = false
  armed : B.armed = 0
  lt : B.ops < n
theorem armd_self {B : DS} (h : B.armed = 0) : B = armd B 0 := by cases B; simp_all [armd]
theorem beside_step {n : Nat} {A B : DS} (h : Beside n A B) (x : Ac) (hne : B.ops ≠ n - 1) : (opOf x A).1 = (opOf x B).1 ∧ Beside n (opOf x A).2 (opOf x B).2 := by
  have hlt := h.lt
  have hB := armd_self h.armed
  rcases opOf_goes x B h.dead with ⟨c, hc, e⟩ | ⟨f, hf, e⟩
  · have e1 := e (n - B.ops)
    have e2 := e 0
    rw [← h.eq] at e1
    rw [← hB] at e2
    rw [e1, e2]
    exact ⟨rfl, h⟩
  · have e1 := e (n - B.ops)
    have e2 := e 0
    rw [← h.eq] at e1
    rw [← hB] at e2
    rw [e1, e2]
    have a1 : A.ops = B.ops := by rw [h.eq]; rfl
    have a2 : A.armed = n - B.ops := by rw [h.eq]; rfl
    unfold goes
    rw [a1, a2, h.armed]
    by_cases c1 : 1048576 ≤ B.ops
    · rw [if_pos c1, if_pos c1]
      exact ⟨rfl, h⟩
    · rw [if_neg c1, if_neg c1, if_neg (by omega), if_neg (by omega)]
      refine ⟨rfl, ?_, ?_, ?_, ?_⟩
      · simp only
        have k1 : ({ A with armed := n - B.ops - 1, ops := B.ops + 1 } : DS) = armd { B with armed := 0 - 1, ops := B.ops + 1 } (n - B.ops - 1) := by rw [h.eq]; rfl
        rw [k1, hf.armed, hf.ops]
        congr 1
      · simp only; rw [hf.dead]; exact h.dead
      · simp only; rw [hf.arm]
      · simp only; rw [hf.ops]; show B.ops + 1 < n; omega
theorem beside_last {n : Nat} {A B : DS} (h : Beside n A B) (x : Ac) (he : B.ops = n - 1) : ((opOf x A).2 = A ∧ (opOf x B).2 = B ∧ (opOf x A).1 = (opOf x B).1 ∧ (opOf x A).1 ≠ 0) ∨ opOf x A = (51, { A with armed := 0, dead := true }) := by
  have hlt := h.lt
  have hB := armd_self h.armed
  rcases opOf_goes x B h.dead with ⟨c, hc, e⟩ | ⟨f, hf, e⟩
  · have e1 := e (n - B.ops)
    have e2 := e 0
    rw [← h.eq] at e1
    rw [← hB] at e2
    rw [e1, e2]
    exact .inl ⟨rfl, rfl, rfl, hc⟩
  · have e1 := e (n - B.ops)
    have e2 := e 0
    rw [← h.eq] at e1
    rw [← hB] at e2
    rw [e1, e2]
    have a1 : A.ops = B.ops := by rw [h.eq]; rfl
    have a2 : A.armed = n - B.ops := by rw [h.eq]; rfl
    unfold goes
    rw [a1, a2, h.armed]
    by_cases c1 : 1048576 ≤ B.ops
    · rw [if_pos c1, if_pos c1]
      exact .inl ⟨rfl, rfl, rfl, by simp⟩
    · rw [if_neg c1, if_neg c1, if_pos (by omega)]
      exact .inr rfl
theorem beside_left {n : Nat} {A B : DS} (h : Beside n A B) (dir : Int) (ts : List Int) : left A dir ts = left B dir ts := by rw [h.eq]; rfl
theorem beside_dead {n : Nat} {A B : DS} (h : Beside n A B) : A.dead = false := by rw [h.eq]; exact h.dead
theorem beside_ops {n : Nat} {A B : DS} (h : Beside n A B) : A.ops = B.ops := by rw [h.eq]; rfl
theorem beside_born (fs : List Fi) (room : Nat) (n : Int) (hn : 1 ≤ n) : Beside n.toNat (arm (born fs room) n) (born fs room) := ⟨rfl, rfl, rfl, by show 0 < _; omega⟩
end Go.Proofs.Ytmdgecjflkkhdab
