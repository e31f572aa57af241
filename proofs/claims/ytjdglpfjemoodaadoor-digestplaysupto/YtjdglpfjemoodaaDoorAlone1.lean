/- Facts on rows of the call's own, for the contract of the laws' alone: what a store, an append leave of them and of the others. -/
import Derived.Test.YtjdglpfjemoodaaDoorMath
namespace Go.Proofs.YtjdglpfjemoodaaDoor
open Go.RowKit

theorem info25 : (Tryd.prog.info? 26).map (fun i => (i.zero, i.size, i.bytes)) = some (some (.slice none 0 0), 1, 24) := by kernel_rfl
/-- The outer row: k slices. -/
def Outer (w : World) (B : Nat) (l : Value) (k : Nat) (V : Nat → Value) : Prop := w.ownsRow B 26 1 l k ((List.range k).map V)
theorem Outer.cell {w : World} {B k kc : Nat} {lo : Option Addr} {V : Nat → Value} (h : Outer w B (.slice lo k kc) k V) (i : Nat) (hi : i < k) : ∃ hb, lo = some ⟨hb, 0, none⟩ ∧ w.cell? ⟨hb, i, none⟩ = some (V i) := by
  rcases h.2 with ⟨he, hk⟩ | ⟨g, cap, cur, he, _⟩
  · omega
  · cases he
    refine ⟨g, rfl, ?_⟩
    have := World.ownsRow.cells h (g := g) rfl i (V i) (by simp [hi])
    have hadd : (⟨g, 0, none⟩ : Addr).add i = ⟨g, i, none⟩ := by unfold Addr.add; split <;> simp_all
    rwa [hadd] at this
theorem Outer.kept {w w' : World} {B k : Nat} {l : Value} {V : Nat → Value} {row : Option Nat} (h : Outer w B l k V) (hg : w.grownBy w' row) (hne : l.ownBlock = none ∨ l.ownBlock ≠ row) : Outer w' B l k V := World.ownsRow.kept h hg hne
/-- A row of bytes and a row of slices lie in two blocks. -/
theorem own_ne_outer {w : World} {B B' k : Nat} {v l : Value} {xs : List Nat} {V : Nat → Value} (h : Own w B v xs) (h' : Outer w B' l k V) : ∀ g, v.ownBlock = some g → l.ownBlock ≠ some g := by
  intro g hg hl
  rcases h.2 with ⟨rfl, _⟩ | ⟨g1, c1, cur1, rfl, _, hh1, _⟩
  · simp [Value.ownBlock] at hg
  · rcases h'.2 with ⟨rfl, _⟩ | ⟨g2, c2, cur2, rfl, _, hh2, _⟩
    · simp [Value.ownBlock] at hl
    · simp [Value.ownBlock] at hg hl
      subst hg; subst hl
      rw [hh1] at hh2
      simp at hh2
theorem Own.ltSize {w : World} {B : Nat} {v : Value} {xs : List Nat} (h : Own w B v xs) : ∀ g, v.ownBlock = some g → g < w.heap.size := fun g hg => (World.ownsRow.lt h g hg).2
theorem grownBy_set (w : World) (g i : Nat) (v : Value) : w.grownBy (w.setCell ⟨g, i, none⟩ v) (some g) :=
  ⟨rfl, rfl, rfl, by simp [World.setCell], fun k _ hk => Below.heap_setCell _ _ _ _ (fun h => hk (by rw [h]))⟩
theorem grown_trans {a b c : World} {r : Option Nat} (h : a.grownBy b r) (k : b.grownBy c r) : a.grownBy c r :=
  ⟨k.os.trans h.os, k.tape.trans h.tape, k.output.trans h.output, Nat.le_trans h.size k.size, fun i hi hr => (k.block i (Nat.lt_of_lt_of_le hi h.size) hr).trans (h.block i hi hr)⟩
/-- Behind a step that touches a younger block, too. -/
theorem grown_young {a b c : World} {r s : Option Nat} (h : a.grownBy b r) (k : b.grownBy c s) (hs : ∀ g, s = some g → a.heap.size ≤ g) : a.grownBy c r :=
  ⟨k.os.trans h.os, k.tape.trans h.tape, k.output.trans h.output, Nat.le_trans h.size k.size, fun i hi hr => (k.block i (Nat.lt_of_lt_of_le hi h.size) (fun e => by have := hs i e.symm; omega)).trans (h.block i hi hr)⟩
/-- A store into a row of the call's own. -/
theorem Own.set {w : World} {B g c j x : Nat} {xs : List Nat} (h : Own w B (.slice (some ⟨g, 0, none⟩) xs.length c) xs) : Own (w.setCell ⟨g, j, none⟩ (.int .u8 (x : Int))) B (.slice (some ⟨g, 0, none⟩) (xs.set j x).length c) (xs.set j x) := by
  have := World.ownsRow.stored h j (.int .u8 (x : Int))
  unfold Own
  rw [List.length_set, List.map_set]
  exact this.1
theorem Own.at {w : World} {B g n c : Nat} {xs : List Nat} (h : Own w B (.slice (some ⟨g, 0, none⟩) n c) xs) : n = xs.length := by
  rcases h.2 with ⟨he, _⟩ | ⟨g', c', cur, he, _⟩
  · cases he
  · cases he; rfl
theorem Own.cellOf {w : World} {B g n c : Nat} {xs : List Nat} (h : Own w B (.slice (some ⟨g, 0, none⟩) n c) xs) (i : Nat) (hi : i < xs.length) : w.cell? ⟨g, i, none⟩ = some (.int .u8 ((xs.getD i 0 : Nat) : Int)) := by
  have := World.ownsRow.cells h (g := g) rfl i (bv (xs.getD i 0)) (by simp [hi])
  have hadd : (⟨g, 0, none⟩ : Addr).add i = ⟨g, i, none⟩ := by unfold Addr.add; split <;> simp_all
  rwa [hadd] at this
theorem Own.freeOf {w : World} {B g n c : Nat} {xs : List Nat} (h : Own w B (.slice (some ⟨g, 0, none⟩) n c) xs) (i : Nat) : w.frozen? ⟨g, i, none⟩ = false := by
  have hn := h.at
  subst hn
  exact World.ownsRow.frozenAt h i
theorem Own.shape {w : World} {B n c : Nat} {ao : Option Addr} {xs : List Nat} (h : Own w B (.slice ao n c) xs) : n = xs.length ∧ ((ao = none ∧ n = 0 ∧ c = 0) ∨ ∃ g, ao = some ⟨g, 0, none⟩) := by
  rcases h.2 with ⟨he, hn⟩ | ⟨g', c', cur, he, _⟩
  · cases he; exact ⟨by omega, .inl ⟨rfl, rfl, rfl⟩⟩
  · cases he; exact ⟨rfl, .inr ⟨_, rfl⟩⟩
/-- Two rows in one block with one capacity: the shorter reads as the longer's beginning. -/
theorem Own.shorter {w : World} {B g n m c : Nat} {xs : List Nat} (h : Own w B (.slice (some ⟨g, 0, none⟩) m c) xs) (hn : n ≤ m) : Own w B (.slice (some ⟨g, 0, none⟩) n c) (xs.take n) := by
  have hm := h.at
  rcases h.2 with ⟨he, _⟩ | ⟨g', c', cur, he, hb, hg, hle, hmax, hcs, ht⟩
  · cases he
  · cases he
    have hl : (xs.take n).length = n := by simp; omega
    unfold Own
    rw [hl]
    refine ⟨by simp; omega, .inr ⟨g, c, cur, rfl, hb, hg, by omega, hmax, hcs, ?_⟩⟩
    have e : cur.toList.take (n * 1) = (cur.toList.take (xs.length * 1)).take n := by rw [List.take_take]; congr 1; omega
    rw [e, ht, List.map_take]
theorem take_replicate' (n m x : Nat) (h : n ≤ m) : (List.replicate m x).take n = List.replicate n x := by rw [List.take_replicate]; congr 1; omega

/-- append of one byte to a row of the call's own, and where the new row lies. -/
theorem run_append_one {w : World} {B : Nat} {v : Value} {xs : List Nat} (hown : Own w B v xs) (a : Addr) (c x : Nat) (hx : w.cell? (a.add 0) = some (.int .u8 (x : Int))) (hsz : xs.length + 1 ≤ 140737488355328) (hB : B ≤ w.heap.size) (ty : TypeId) :
    ∃ v' w', (Builtin.append_ #[26, 26] ty #[v, .slice (some a) 1 c]).run Tryd.prog w = .ok v' w' ∧ Own w' B v' (xs ++ [x]) ∧ w.grownBy w' v.ownBlock ∧
      ((∃ g cap, v = .slice (some ⟨g, 0, none⟩) xs.length cap ∧ v' = .slice (some ⟨g, 0, none⟩) (xs.length + 1) cap) ∨ (v'.ownBlock = some w.heap.size ∧ w.grownBy w' none)) := by
  obtain ⟨i0, hi, hz0, hz1, hz2⟩ := info_parts info8
  have hnews : ∀ j u, ([x].map bv)[j]? = some u → w.cell? (a.add j) = some u := by
    intro j u hu
    match j, hu with
    | 0, hu => simp at hu; subst hu; exact hx
  obtain ⟨v', w', h1, h2, h3, _⟩ := run_append_own (P := Tryd.prog) w B 26 ty 5 i0 (.int .u8 0) 1 1 Tryd.underlying26 hi hz0 hz1 hz2 rfl (by decide) v xs.length (xs.map bv) hown a 1 c ([x].map bv) rfl hnews (bv_one [x]) (by unfold maxLen; omega) (by omega) hB
  refine ⟨v', w', h1, by unfold Own; rw [List.length_append, List.map_append]; exact h2, h3, ?_⟩
  rcases hown.2 with ⟨rfl, hn⟩ | ⟨g, cap, cur, rfl, hbg, hg, hnc, hcm, hcs, htake⟩
  · right
    have hr := run_append_nil (P := Tryd.prog) w 26 ty 5 i0 (.int .u8 0) Tryd.underlying26 hi hz0 a 1 c ([x].map bv) (by simp [hz1]) hnews (by decide) (by decide) (by rw [hz2]; decide)
    rw [h1] at hr
    injection hr with e1 e2
    subst e1
    exact ⟨rfl, h3⟩
  · by_cases hroom : xs.length + 1 ≤ cap
    · left
      obtain ⟨w2, hr, _⟩ := run_append_fits (P := Tryd.prog) w B 26 ty 5 i0 1 Tryd.underlying26 hi hz1 g xs.length cap (xs.map bv) hown a 1 c ([x].map bv) rfl hnews (bv_one [x]) hroom
      rw [h1] at hr
      injection hr with e1 e2
      exact ⟨g, cap, rfl, e1⟩
    · right
      have holds : ∀ j u, (xs.map bv)[j]? = some u → w.cell? ((⟨g, 0, none⟩ : Addr).add j) = some u := World.ownsRow.cells hown (g := g) rfl
      have hr := run_append_grow (P := Tryd.prog) w 26 ty 5 i0 (.int .u8 0) Tryd.underlying26 hi hz0 ⟨g, 0, none⟩ xs.length cap (xs.map bv) (by simp [hz1]) holds a 1 c ([x].map bv) (by simp [hz1]) hnews (by omega) (by omega) (growslice_fits (by omega) (by rw [hz2]; omega))
      rw [h1] at hr
      injection hr with e1 e2
      subst e1; subst e2
      exact ⟨rfl, ⟨rfl, rfl, rfl, by simp, fun k hk _ => Below.heap_alloc w.drew _ k hk⟩⟩
theorem wpList_append_one {w : World} {ops : Array Oper} {rest : List Oper} {o : Oper} {a : Act} {Q : Exit → Act → World → Prop} (hgd : o.guard = none) (s x : Operand)
    (ho : o.op = .call { callee := .builtin .append, args := #[s, x], argTypes := #[26, 26] }) (B : Nat) (v : Value) (xs : List Nat) (hs : a.eval s = v) (hown : Own w B v xs)
    (ad : Addr) (c y : Nat) (hx : a.eval x = .slice (some ad) 1 c) (hy : w.cell? (ad.add 0) = some (.int .u8 (y : Int))) (hsz : xs.length + 1 ≤ 140737488355328) (hB : B ≤ w.heap.size)
    (h : ∀ v' w', Own w' B v' (xs ++ [y]) → w.grownBy w' v.ownBlock → Hid ((∃ g cap, v = .slice (some ⟨g, 0, none⟩) xs.length cap ∧ v' = .slice (some ⟨g, 0, none⟩) (xs.length + 1) cap) ∨ (v'.ownBlock = some w.heap.size ∧ w.grownBy w' none)) → wpList Tryd.prog ops Q rest (a.put o.dst v') w') : wpList Tryd.prog ops Q (o :: rest) a w := by
  refine wpList_plain hgd fun K hK => ?_
  obtain ⟨v', w', hrun, h1, h2, h3⟩ := run_append_one hown ad c y hy hsz hB o.type
  unfold Oper.wp
  simp [execOp, ho, resolve, invoke, builtin, hs, hx, hrun, Result.andThen]
  exact hK _ _ (h v' w' h1 h2 h3)

/-- One round of the growing of a row by its mark: the state behind j rounds. 'w0': the world as the rounds begin; 'v': the row that is grown; 'm': the row as it stands. -/
structure Grow (w0 w : World) (B : Nat) (v m : Value) (n x j : Nat) : Prop where
  own : Own w B m (List.replicate (n + j) x)
  old : Own w B v (List.replicate n x)
  grown : w0.grownBy w v.ownBlock
  low : ∀ g, v.ownBlock = some g → g < w0.heap.size
  link : (∃ g c, v = .slice (some ⟨g, 0, none⟩) n c ∧ m = .slice (some ⟨g, 0, none⟩) (n + j) c) ∨ (∀ g, m.ownBlock = some g → w0.heap.size ≤ g)
theorem Grow.start {w0 : World} {B : Nat} {v : Value} {n x : Nat} (h : Own w0 B v (List.replicate n x)) : Grow w0 w0 B v v n x 0 := by
  refine ⟨h, h, World.grownBy.refl _ _, h.ltSize, ?_⟩
  rcases h.2 with ⟨rfl, _⟩ | ⟨g, cap, cur, rfl, _⟩
  · exact .inr (fun g hg => by simp [Value.ownBlock] at hg)
  · exact .inl ⟨g, cap, by simp, by simp⟩
theorem Grow.alloc {w0 w : World} {B : Nat} {v m : Value} {n x j : Nat} (h : Grow w0 w B v m n x j) (o : Obj) : Grow w0 (w.alloc o) B v m n x j :=
  ⟨h.own.alloc o, h.old.alloc o, grown_young h.grown (World.grownBy_alloc w o none) (fun g hg => by cases hg), h.low, h.link⟩
theorem Grow.step {w0 w w' : World} {B : Nat} {v m m' : Value} {n x j : Nat} (h : Grow w0 w B v m n x j) (h1 : Own w' B m' (List.replicate (n + j) x ++ [x])) (h2 : w.grownBy w' m.ownBlock)
    (h3 : (∃ g cap, m = .slice (some ⟨g, 0, none⟩) (List.replicate (n + j) x).length cap ∧ m' = .slice (some ⟨g, 0, none⟩) ((List.replicate (n + j) x).length + 1) cap) ∨ (m'.ownBlock = some w.heap.size ∧ w.grownBy w' none)) : Grow w0 w' B v m' n x (j + 1) := by
  have e : List.replicate (n + j) x ++ [x] = List.replicate (n + (j + 1)) x := by rw [← List.replicate_succ']; rfl
  rw [e] at h1
  have hs := h.grown.size
  rcases h3 with ⟨g, cap, rfl, rfl⟩ | ⟨hb, hg⟩
  · rw [List.length_replicate] at *
    rcases h.link with ⟨g', c', rfl, hm⟩ | hy
    · cases hm
      refine ⟨h1, ?_, grown_trans h.grown h2, h.low, .inl ⟨g, cap, rfl, rfl⟩⟩
      have := h1.shorter (n := n) (by omega)
      rwa [take_replicate' _ _ _ (by omega)] at this
    · have hge := hy g rfl
      refine ⟨h1, h.old.kept h2 ?_, grown_young h.grown h2 (fun k hk => by cases hk; exact hge), h.low, .inr (fun k hk => by cases hk; exact hge)⟩
      cases hv : v.ownBlock with
      | none => exact .inl rfl
      | some k =>
        right
        intro e2
        simp [Value.ownBlock] at e2
        subst e2
        have := h.low _ hv
        omega
  · refine ⟨h1, h.old.kept hg (by cases hv : v.ownBlock <;> simp), grown_young h.grown hg (fun g hg => by cases hg), h.low, .inr (fun g hg => by rw [hb] at hg; cases hg; exact hs)⟩
theorem Grow.step2 {w0 w w' : World} {B nc : Nat} {v v2 : Value} {na : Option Addr} {n x j : Nat} (o : Obj) (h : Grow w0 w B v (.slice na (n + j) nc) n x j) (h1 : Own w' B v2 (List.replicate (n + j) x ++ [x])) (h2 : (w.alloc o).grownBy w' (Value.slice na (n + j) nc).ownBlock)
    (h3 : (∃ g cap, (na = some ⟨g, 0, none⟩ ∧ nc = cap) ∧ v2 = .slice (some ⟨g, 0, none⟩) (n + j + 1) cap) ∨ v2.ownBlock = some (w.heap.size + 1) ∧ (w.alloc o).grownBy w' none) : Grow w0 w' B v v2 n x (j + 1) := by
  refine (h.alloc o).step h1 h2 ?_
  rcases h3 with ⟨g, cap, ⟨rfl, rfl⟩, rfl⟩ | ⟨h4, h5⟩
  · exact .inl ⟨g, nc, by simp, by simp⟩
  · exact .inr ⟨by rw [h4]; simp, h5⟩
end Go.Proofs.YtjdglpfjemoodaaDoor
/- The states of the laws' alone, round by round: rows written full, rows grown, rows held against their marks. -/
namespace Go.Proofs.YtjdglpfjemoodaaDoor
open Go.RowKit

/-- What stays: the rows' values, that no two lie in one block. -/
structure Apart (k : Nat) (V : Nat → Value) : Prop where
  sep : ∀ i j, i < k → j < k → i ≠ j → ∀ g, (V i).ownBlock = some g → (V j).ownBlock ≠ some g
/-- Of what was there nothing has turned but the rows' own blocks. -/
structure Spare (w0 w : World) (k : Nat) (V : Nat → Value) : Prop where
  os : w.os = w0.os
  tape : w.tape = w0.tape
  output : w.output = w0.output
  size : w0.heap.size ≤ w.heap.size
  block : ∀ g, g < w0.heap.size → (∀ r, r < k → (V r).ownBlock ≠ some g) → w.heap[g]? = w0.heap[g]?
theorem Spare.refl (w : World) (k : Nat) (V : Nat → Value) : Spare w w k V := ⟨rfl, rfl, rfl, Nat.le_refl _, fun _ _ _ => rfl⟩
theorem Spare.grown {w0 w w' : World} {k : Nat} {V : Nat → Value} {row : Option Nat} (h : Spare w0 w k V) (hg : w.grownBy w' row) (hr : ∀ g, row = some g → w0.heap.size ≤ g ∨ ∃ r, r < k ∧ (V r).ownBlock = some g) : Spare w0 w' k V :=
  ⟨hg.os.trans h.os, hg.tape.trans h.tape, hg.output.trans h.output, Nat.le_trans h.size hg.size, fun g hlt hne => (hg.block g (Nat.lt_of_lt_of_le hlt h.size) (fun e => by
    rcases hr g e.symm with a | ⟨r, hr, hv⟩
    · omega
    · exact hne r hr hv)).trans (h.block g hlt hne)⟩
/-- The rows hold X. -/
structure Held (w0 w : World) (B : Nat) (l : Value) (k : Nat) (V : Nat → Value) (X : Nat → List Nat) : Prop where
  outer : Outer w B l k V
  rows : ∀ r, r < k → Own w B (V r) (X r)
  frame : Spare w0 w k V
  base : B ≤ w0.heap.size
theorem Held.below {w0 w : World} {B k : Nat} {l : Value} {V : Nat → Value} {X : Nat → List Nat} (h : Held w0 w B l k V X) : Below B w0 w :=
  ⟨h.frame.os, h.frame.tape, h.frame.output, h.frame.size, fun g hg => h.frame.block g (Nat.lt_of_lt_of_le hg h.base) (fun r hr e => by have := (h.rows r hr).ge g e; omega)⟩
theorem Held.size {w0 w : World} {B k : Nat} {l : Value} {V : Nat → Value} {X : Nat → List Nat} (h : Held w0 w B l k V X) : B ≤ w.heap.size := Nat.le_trans h.base h.frame.size
/-- Any step that touches the block of row i alone (or younger ones). -/
theorem Held.touch {w0 w w' : World} {B k i : Nat} {l : Value} {V : Nat → Value} {X : Nat → List Nat} (h : Held w0 w B l k V X) (ha : Apart k V) (hi : i < k) (hg : w.grownBy w' (V i).ownBlock) (ys : List Nat) (hy : Own w' B (V i) ys) :
    Held w0 w' B l k V (fun r => if r = i then ys else X r) := by
  refine ⟨h.outer.kept hg ?_, fun r hr => ?_, h.frame.grown hg (fun g hg => .inr ⟨i, hi, hg⟩), h.base⟩
  · cases hv : (V i).ownBlock with
    | none => cases l.ownBlock <;> simp
    | some g => exact .inr (own_ne_outer (h.rows i hi) h.outer g hv)
  · by_cases e : r = i
    · subst e; simpa using hy
    · simp only [e, if_false]
      refine (h.rows r hr).kept hg ?_
      cases hv : (V r).ownBlock with
      | none => exact .inl rfl
      | some g => exact .inr (fun e2 => ha.sep r i hr hi e g hv e2.symm)
theorem Held.congr {w0 w : World} {B k : Nat} {l : Value} {V : Nat → Value} {X Y : Nat → List Nat} (h : Held w0 w B l k V X) (e : ∀ r, r < k → X r = Y r) : Held w0 w B l k V Y :=
  ⟨h.outer, fun r hr => e r hr ▸ h.rows r hr, h.frame, h.base⟩

/-- The first two loops: i rows written full, j places of row i. -/
def P1 (N : Nat → Nat) (X : Nat → List Nat) (i j r : Nat) : List Nat := if r < i then List.replicate (N r) (r + 1) else if r = i then List.replicate j (i + 1) ++ (X i).drop j else X r
theorem P1_zero (N : Nat → Nat) (X : Nat → List Nat) (r : Nat) : P1 N X 0 0 r = X r := by
  unfold P1
  by_cases h : r = 0
  · subst h; simp
  · simp [h]
theorem P1_row (N : Nat → Nat) (X : Nat → List Nat) (i r : Nat) (hl : (X i).length = N i) : P1 N X i (N i) r = P1 N X (i + 1) 0 r := by
  unfold P1
  by_cases h1 : r < i
  · simp [h1, show r < i + 1 by omega]
  · by_cases h2 : r = i
    · subst h2
      simp [List.drop_eq_nil_of_le (show (X r).length ≤ N r by omega)]
    · by_cases h3 : r = i + 1
      · subst h3; simp; intro h; omega
      · simp [h1, h2, h3, show ¬ r < i + 1 by omega]
theorem P1_length (N : Nat → Nat) (X : Nat → List Nat) (i j : Nat) (hl : (X i).length = N i) (hj : j ≤ N i) : (P1 N X i j i).length = N i := by
  unfold P1
  simp
  omega
theorem P1_set (N : Nat → Nat) (X : Nat → List Nat) (i j r : Nat) (hl : (X i).length = N i) (hj : j < N i) : (if r = i then (P1 N X i j i).set j (i + 1) else P1 N X i j r) = P1 N X i (j + 1) r := by
  by_cases h2 : r = i
  · subst h2
    rw [if_pos rfl]
    unfold P1
    rw [if_neg (by omega), if_pos rfl, if_neg (by omega), if_pos rfl]
    rw [List.set_append_right (h := by simp)]
    simp only [List.length_replicate, Nat.sub_self]
    rw [List.drop_eq_getElem_cons (by omega), List.set_cons_zero, List.replicate_succ', List.append_assoc]
    rfl
  · unfold P1
    simp [h2]
theorem Held.write {w0 w : World} {B k i j g c : Nat} {l : Value} {V : Nat → Value} {N : Nat → Nat} {X : Nat → List Nat} (h : Held w0 w B l k V (P1 N X i j)) (ha : Apart k V) (hi : i < k) (hv : V i = .slice (some ⟨g, 0, none⟩) (N i) c) (hl : (X i).length = N i) (hj : j < N i)
    (x : Int) (hx : x = ((i + 1 : Nat) : Int)) : Held w0 (w.setCell ⟨g, j, none⟩ (.int .u8 x)) B l k V (P1 N X i (j + 1)) := by
  subst hx
  have ho := h.rows i hi
  have hlen := P1_length N X i j hl (by omega)
  rw [hv, ← hlen] at ho
  have hs := ho.set (j := j) (x := i + 1)
  rw [List.length_set, hlen, ← hv] at hs
  have hg : w.grownBy (w.setCell ⟨g, j, none⟩ (.int .u8 ((i + 1 : Nat) : Int))) (V i).ownBlock := by rw [hv]; exact grownBy_set w g j _
  exact (h.touch ha hi hg _ hs).congr (fun r _ => P1_set N X i j r hl hj)

/-- The next two loops: i rows grown. -/
def Full (N : Nat → Nat) (r : Nat) : List Nat := List.replicate (N r) (r + 1)
structure Grown2 (w0 w : World) (B B2 : Nat) (l : Value) (k : Nat) (V : Nat → Value) (N : Nat → Nat) (more : Value) (i : Nat) (M : Nat → Value) : Prop where
  held : Held w0 w B l k V (Full N)
  list : Outer w B2 more i M
  low : ∀ g, l.ownBlock = some g → g < B2
  base : B2 ≤ w.heap.size
  above : w0.heap.size ≤ B2
  news : ∀ r, r < i → Own w B (M r) (List.replicate (N r + 64) (r + 1))
  sep : ∀ r, r < i → ∀ s, i ≤ s → s < k → ∀ g, (M r).ownBlock = some g → (V s).ownBlock ≠ some g
theorem Grown2.start {w0 w : World} {B k : Nat} {l : Value} {V : Nat → Value} {N : Nat → Nat} {X : Nat → List Nat} (h : Held w0 w B l k V (P1 N X k 0)) (M : Nat → Value) : Grown2 w0 w B w.heap.size l k V N (.slice none 0 0) 0 M :=
  ⟨h.congr (fun r hr => by unfold P1 Full; rw [if_pos hr]), World.ownsRow_nil _ _ _ _, fun g hg => (World.ownsRow.lt h.outer g hg).2, Nat.le_refl _, h.frame.size, fun r hr => by omega, fun r hr => by omega⟩
/-- Row i has been grown: what the others are behind it. -/
theorem Grown2.rows {w0 w w1 : World} {B B2 k i : Nat} {l more m : Value} {V M : Nat → Value} {N : Nat → Nat} (h : Grown2 w0 w B B2 l k V N more i M) (ha : Apart k V) (hi : i < k) (hg : Grow w w1 B (V i) m (N i) (i + 1) 64) :
    Held w0 w1 B l k V (Full N) ∧ Outer w1 B2 more i M ∧ (∀ r, r < i → Own w1 B (M r) (List.replicate (N r + 64) (r + 1))) := by
  refine ⟨(h.held.touch ha hi hg.grown _ hg.old).congr (fun r _ => by by_cases e : r = i <;> simp [e, Full]), h.list.kept hg.grown ?_, fun r hr => (h.news r hr).kept hg.grown ?_⟩
  · cases hv : (V i).ownBlock with
    | none => cases more.ownBlock <;> simp
    | some g => exact .inr (own_ne_outer (h.held.rows i hi) h.list g hv)
  · cases hv : (M r).ownBlock with
    | none => exact .inl rfl
    | some g => exact .inr (fun e => h.sep r hr i (Nat.le_refl _) hi g hv e.symm)
theorem Grown2.next {w0 w w1 w2 : World} {B B2 k i : Nat} {l more more' m : Value} {V M : Nat → Value} {N : Nat → Nat} (h : Grown2 w0 w B B2 l k V N more i M) (ha : Apart k V) (hi : i < k) (hg : Grow w w1 B (V i) m (N i) (i + 1) 64) (o : Obj)
    (h1 : w2.ownsRow B2 26 1 more' (i + 1) ((List.range i).map M ++ [m])) (h2 : (w1.alloc o).grownBy w2 more.ownBlock) : Grown2 w0 w2 B B2 l k V N more' (i + 1) (fun r => if r = i then m else M r) := by
  obtain ⟨q1, q2, q3⟩ := h.rows ha hi hg
  have ne : ∀ (v : Value) (xs : List Nat), Own w1 B v xs → v.ownBlock = none ∨ v.ownBlock ≠ more.ownBlock := fun v xs hv => by
    cases e : v.ownBlock with
    | none => exact .inl rfl
    | some g => exact .inr (fun e2 => own_ne_outer hv q2 g e e2.symm)
  have keep : ∀ (v : Value) (xs : List Nat), Own w1 B v xs → Own w2 B v xs := fun v xs hv => (hv.alloc o).kept h2 (ne v xs hv)
  refine ⟨⟨?_, fun r hr => keep _ _ (q1.rows r hr), ?_, q1.base⟩, ?_, h.low, ?_, h.above, fun r hr => ?_, fun r hr s hs hsk g hgm => ?_⟩
  · have e2 : Outer (w1.alloc o) B l k V := World.ownsRow.alloc q1.outer o
    refine e2.kept h2 ?_
    cases e : l.ownBlock with
    | none => exact .inl rfl
    | some g =>
      right
      intro e3
      have a := h.low g e
      have b := (World.ownsRow.lt q2 g e3.symm).1
      omega
  · refine (q1.frame.grown (World.grownBy_alloc w1 o none) (fun g hg => by cases hg)).grown h2 (fun g hg => .inl ?_)
    exact Nat.le_trans h.above (World.ownsRow.lt q2 g hg).1
  · unfold Outer
    rw [List.range_succ, List.map_append, List.map_singleton]
    have e : (List.range i).map (fun r => if r = i then m else M r) = (List.range i).map M := List.map_congr_left (fun r hr => by have := List.mem_range.1 hr; rw [if_neg (by omega)])
    rw [e]
    simpa using h1
  · have a := h2.size
    have b := hg.grown.size
    have c := h.base
    simp at a
    omega
  · by_cases e : r = i
    · subst e; simp only [if_true]; exact keep _ _ hg.own
    · simp only [e, if_false]; exact keep _ _ (q3 r (by omega))
  · by_cases e : r = i
    · subst e
      simp only [if_true] at hgm
      rcases hg.link with ⟨g', c', hv, hm⟩ | hy
      · have : (V r).ownBlock = some g := by rw [hm] at hgm; rw [hv]; exact hgm
        exact ha.sep r s hi hsk (by omega) g this
      · have h5 := hy g hgm
        intro e2
        have := (h.held.rows s hsk).ltSize g e2
        omega
    · simp only [e, if_false] at hgm
      exact h.sep r (by omega) s (by omega) hsk g hgm
end Go.Proofs.YtjdglpfjemoodaaDoor
