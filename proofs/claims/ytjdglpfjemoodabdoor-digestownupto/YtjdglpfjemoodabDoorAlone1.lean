/- Facts on rows of the call's own, for the contract of the laws' alone: what a store, an append leave of them and of the others. -/
import Derived.Test.YtjdglpfjemoodabDoorRowsG
namespace Go.Proofs.YtjdglpfjemoodabDoor
open Go.RowKit

theorem info25 : (Tryd.prog.info? 22).map (fun i => (i.zero, i.size, i.bytes)) = some (some (.slice none 0 0), 1, 24) := by kernel_rfl
/-- The outer row: k slices. -/
def Outer (w : World) (B : Nat) (l : Value) (k : Nat) (V : Nat → Value) : Prop := w.ownsRow B 22 1 l k ((List.range k).map V)
theorem Outer.cell {w : World} {B k kc : Nat} {lo : Option Addr} {V : Nat → Value} (h : Outer w B (.slice lo k kc) k V) (i : Nat) (hi : i < k) : ∃ hb, lo = some ⟨hb, 0, none⟩ ∧ w.cell? ⟨hb, i, none⟩ = some (V i) := by
  rcases h.2 with ⟨he, hk⟩ | ⟨g, cap, cur, he, _⟩
  · omega
  · cases he
    refine ⟨g, rfl, ?_⟩
    have := World.ownsRow.cells h (g := g) rfl i (V i) (by simp [hi])
    have hadd : (⟨g, 0, none⟩ : Addr).add i = ⟨g, i, none⟩ := by unfold Addr.add; split <;> simp_all
    rwa [hadd] at this
theorem Outer.kept {w w' : World} {B k : Nat} {l : Value} {V : Nat → Value} {row : Option Nat} (h : Outer w B l k V) (hg : w.grownBy w' row) (hne : l.ownBlock = none ∨ l.ownBlock ≠ row) : Outer w' B l k V := World.ownsRow.kept h hg hne
/-- A row of bytes and a row of slices lie in two blocks. -/
theorem own_ne_outer {w : World} {B B' k : Nat} {v l : Value} {xs : List Nat} {V : Nat → Value} (h : Own w B v xs) (h' : Outer w B' l k V) : ∀ g, v.ownBlock = some g → l.ownBlock ≠ some g := by
  intro g hg hl
  rcases h.2 with ⟨rfl, _⟩ | ⟨g1, c1, cur1, rfl, _, hh1, _⟩
  · simp [Value.ownBlock] at hg
  · rcases h'.2 with ⟨rfl, _⟩ | ⟨g2, c2, cur2, rfl, _, hh2, _⟩
    · simp [Value.ownBlock] at hl
    · simp [Value.ownBlock] at hg hl
      subst hg; subst hl
      rw [hh1] at hh2
      simp at hh2
theorem Own.ltSize {w : World} {B : Nat} {v : Value} {xs : List Nat} (h : Own w B v xs) : ∀ g, v.ownBlock = some g → g < w.heap.size := fun g hg => (World.ownsRow.lt h g hg).2
theorem grownBy_set (w : World) (g i : Nat) (v : Value) : w.grownBy (w.setCell ⟨g, i, none⟩ v) (some g) :=
  ⟨rfl, rfl, rfl, by simp [World.setCell], fun k _ hk => Below.heap_setCell _ _ _ _ (fun h => hk (by rw [h]))⟩
theorem grown_trans {a b c : World} {r : Option Nat} (h : a.grownBy b r) (k : b.grownBy c r) : a.grownBy c r :=
  ⟨k.os.trans h.os, k.tape.trans h.tape, k.output.trans h.output, Nat.le_trans h.size k.size, fun i hi hr => (k.block i (Nat.lt_of_lt_of_le hi h.size) hr).trans (h.block i hi hr)⟩
/-- Behind a step that touches a younger block, too. -/
theorem grown_young {a b c : World} {r s : Option Nat} (h : a.grownBy b r) (k : b.grownBy c s) (hs : ∀ g, s = some g → a.heap.size ≤ g) : a.grownBy c r :=
  ⟨k.os.trans h.os, k.tape.trans h.tape, k.output.trans h.output, Nat.le_trans h.size k.size, fun i hi hr => (k.block i (Nat.lt_of_lt_of_le hi h.size) (fun e => by have := hs i e.symm; omega)).trans (h.block i hi hr)⟩
/-- A store into a row of the call's own. -/
theorem Own.set {w : World} {B g c j x : Nat} {xs : List Nat} (h : Own w B (.slice (some ⟨g, 0, none⟩) xs.length c) xs) : Own (w.setCell ⟨g, j, none⟩ (.int .u8 (x : Int))) B (.slice (some ⟨g, 0, none⟩) (xs.set j x).length c) (xs.set j x) := by
  have := World.ownsRow.stored h j (.int .u8 (x : Int))
  unfold Own
  rw [List.length_set, List.map_set]
  exact this.1
theorem Own.at {w : World} {B g n c : Nat} {xs : List Nat} (h : Own w B (.slice (some ⟨g, 0, none⟩) n c) xs) : n = xs.length := by
  rcases h.2 with ⟨he, _⟩ | ⟨g', c', cur, he, _⟩
  · cases he
  · cases he; rfl
theorem Own.cellOf {w : World} {B g n c : Nat} {xs : List Nat} (h : Own w B (.slice (some ⟨g, 0, none⟩) n c) xs) (i : Nat) (hi : i < xs.length) : w.cell? ⟨g, i, none⟩ = some (.int .u8 ((xs.getD i 0 : Nat) : Int)) := by
  have := World.ownsRow.cells h (g := g) rfl i (bv (xs.getD i 0)) (by simp [hi])
  have hadd : (⟨g, 0, none⟩ : Addr).add i = ⟨g, i, none⟩ := by unfold Addr.add; split <;> simp_all
  rwa [hadd] at this
theorem Own.freeOf {w : World} {B g n c : Nat} {xs : List Nat} (h : Own w B (.slice (some ⟨g, 0, none⟩) n c) xs) (i : Nat) : w.frozen? ⟨g, i, none⟩ = false := by
  have hn := h.at
  subst hn
  exact World.ownsRow.frozenAt h i
theorem Own.shape {w : World} {B n c : Nat} {ao : Option Addr} {xs : List Nat} (h : Own w B (.slice ao n c) xs) : n = xs.length ∧ ((ao = none ∧ n = 0 ∧ c = 0) ∨ ∃ g, ao = some ⟨g, 0, none⟩) := by
  rcases h.2 with ⟨he, hn⟩ | ⟨g', c', cur, he, _⟩
  · cases he; exact ⟨by omega, .inl ⟨rfl, rfl, rfl⟩⟩
  · cases he; exact ⟨rfl, .inr ⟨_, rfl⟩⟩
/-- Two rows in one block with one capacity: the shorter reads as the longer's beginning. -/
theorem Own.shorter {w : World} {B g n m c : Nat} {xs : List Nat} (h : Own w B (.slice (some ⟨g, 0, none⟩) m c) xs) (hn : n ≤ m) : Own w B (.slice (some ⟨g, 0, none⟩) n c) (xs.take n) := by
  have hm := h.at
  rcases h.2 with ⟨he, _⟩ | ⟨g', c', cur, he, hb, hg, hle, hmax, hcs, ht⟩
  · cases he
  · cases he
    have hl : (xs.take n).length = n := by simp; omega
    unfold Own
    rw [hl]
    refine ⟨by simp; omega, .inr ⟨g, c, cur, rfl, hb, hg, by omega, hmax, hcs, ?_⟩⟩
    have e : cur.toList.take (n * 1) = (cur.toList.take (xs.length * 1)).take n := by rw [List.take_take]; congr 1; omega
    rw [e, ht, List.map_take]
theorem take_replicate' (n m x : Nat) (h : n ≤ m) : (List.replicate m x).take n = List.replicate n x := by rw [List.take_replicate]; congr 1; omega

/-- append of one byte to a row of the call's own, and where the new row lies. -/
theorem run_append_one {w : World} {B : Nat} {v : Value} {xs : List Nat} (hown : Own w B v xs) (a : Addr) (c x : Nat) (hx : w.cell? (a.add 0) = some (.int .u8 (x : Int))) (hsz : xs.length + 1 ≤ 140737488355328) (hB : B ≤ w.heap.size) (ty : TypeId) :
    ∃ v' w', (Builtin.append_ #[22, 22] ty #[v, .slice (some a) 1 c]).run Tryd.prog w = .ok v' w' ∧ Own w' B v' (xs ++ [x]) ∧ w.grownBy w' v.ownBlock ∧
      ((∃ g cap, v = .slice (some ⟨g, 0, none⟩) xs.length cap ∧ v' = .slice (some ⟨g, 0, none⟩) (xs.length + 1) cap) ∨ (v'.ownBlock = some w.heap.size ∧ w.grownBy w' none)) := by
  obtain ⟨i0, hi, hz0, hz1, hz2⟩ := info_parts info8
  have hnews : ∀ j u, ([x].map bv)[j]? = some u → w.cell? (a.add j) = some u := by
    intro j u hu
    match j, hu with
    | 0, hu => simp at hu; subst hu; exact hx
  obtain ⟨v', w', h1, h2, h3, _⟩ := run_append_own (P := Tryd.prog) w B 22 ty 5 i0 (.int .u8 0) 1 1 Tryd.underlying22 hi hz0 hz1 hz2 rfl (by decide) v xs.length (xs.map bv) hown a 1 c ([x].map bv) rfl hnews (bv_one [x]) (by unfold maxLen; omega) (by omega) hB
  refine ⟨v', w', h1, by unfold Own; rw [List.length_append, List.map_append]; exact h2, h3, ?_⟩
  rcases hown.2 with ⟨rfl, hn⟩ | ⟨g, cap, cur, rfl, hbg, hg, hnc, hcm, hcs, htake⟩
  · right
    have hr := run_append_nil (P := Tryd.prog) w 22 ty 5 i0 (.int .u8 0) Tryd.underlying22 hi hz0 a 1 c ([x].map bv) (by simp [hz1]) hnews (by decide) (by decide) (by rw [hz2]; decide)
    rw [h1] at hr
    injection hr with e1 e2
    subst e1
    exact ⟨rfl, h3⟩
  · by_cases hroom : xs.length + 1 ≤ cap
    · left
      obtain ⟨w2, hr, _⟩ := run_append_fits (P := Tryd.prog) w B 22 ty 5 i0 1 Tryd.underlying22 hi hz1 g xs.length cap (xs.map bv) hown a 1 c ([x].map bv) rfl hnews (bv_one [x]) hroom
      rw [h1] at hr
      injection hr with e1 e2
      exact ⟨g, cap, rfl, e1⟩
    · right
      have holds : ∀ j u, (xs.map bv)[j]? = some u → w.cell? ((⟨g, 0, none⟩ : Addr).add j) = some u := World.ownsRow.cells hown (g := g) rfl
      have hr := run_append_grow (P := Tryd.prog) w 22 ty 5 i0 (.int .u8 0) Tryd.underlying22 hi hz0 ⟨g, 0, none⟩ xs.length cap (xs.map bv) (by simp [hz1]) holds a 1 c ([x].map bv) (by simp [hz1]) hnews (by omega) (by omega) (growslice_fits (by omega) (by rw [hz2]; omega))
      rw [h1] at hr
      injection hr with e1 e2
      subst e1; subst e2
      exact ⟨rfl, ⟨rfl, rfl, rfl, by simp, fun k hk _ => Below.heap_alloc w.drew _ k hk⟩⟩
theorem wpList_append_one {w : World} {ops : Array Oper} {rest : List Oper} {o : Oper} {a : Act} {Q : Exit → Act → World → Prop} (hgd : o.guard = none) (s x : Operand)
    (ho : o.op = .call { callee := .builtin .append, args := #[s, x], argTypes := #[22, 22] }) (B : Nat) (v : Value) (xs : List Nat) (hs : a.eval s = v) (hown : Own w B v xs)
    (ad : Addr) (c y : Nat) (hx : a.eval x = .slice (some ad) 1 c) (hy : w.cell? (ad.add 0) = some (.int .u8 (y : Int))) (hsz : xs.length + 1 ≤ 140737488355328) (hB : B ≤ w.heap.size)
    (h : ∀ v' w', Own w' B v' (xs ++ [y]) → w.grownBy w' v.ownBlock → Hid ((∃ g cap, v = .slice (some ⟨g, 0, none⟩) xs.length cap ∧ v' = .slice (some ⟨g, 0, none⟩) (xs.length + 1) cap) ∨ (v'.ownBlock = some w.heap.size ∧ w.grownBy w' none)) → wpList Tryd.prog ops Q rest (a.put o.dst v') w') : wpList Tryd.prog ops Q (o :: rest) a w := by
  refine wpList_plain hgd fun K hK => ?_
  obtain ⟨v', w', hrun, h1, h2, h3⟩ := run_append_one hown ad c y hy hsz hB o.type
  unfold Oper.wp
  simp [execOp, ho, resolve, invoke, builtin, hs, hx, hrun, Result.andThen]
  exact hK _ _ (h v' w' h1 h2 h3)

/-- One round of the growing of a row by its mark: the state behind j rounds. 'w0': the world as the rounds begin; 'v': the row that is grown; 'm': the row as it stands. -/
structure Grow (w0 w : World) (B : Nat) (v m : Value) (n x j : Nat) : Prop where
  own : Own w B m (List.replicate (n + j) x)
  old : Own w B v (List.replicate n x)
  grown : w0.grownBy w v.ownBlock
  low : ∀ g, v.ownBlock = some g → g < w0.heap.size
  link : (∃ g c, v = .slice (some ⟨g, 0, none⟩) n c ∧ m = .slice (some ⟨g, 0, none⟩) (n + j) c) ∨ (∀ g, m.ownBlock = some g → w0.heap.size ≤ g)
theorem Grow.start {w0 : World} {B : Nat} {v : Value} {n x : Nat} (h : Own w0 B v (List.replicate n x)) : Grow w0 w0 B v v n x 0 := by
  refine ⟨h, h, World.grownBy.refl _ _, h.ltSize, ?_⟩
  rcases h.2 with ⟨rfl, _⟩ | ⟨g, cap, cur, rfl, _⟩
  · exact .inr (fun g hg => by simp [Value.ownBlock] at hg)
  · exact .inl ⟨g, cap, by simp, by simp⟩
theorem Grow.alloc {w0 w : World} {B : Nat} {v m : Value} {n x j : Nat} (h : Grow w0 w B v m n x j) (o : Obj) : Grow w0 (w.alloc o) B v m n x j :=
  ⟨h.own.alloc o, h.old.alloc o, grown_young h.grown (World.grownBy_alloc w o none) (fun g hg => by cases hg), h.low, h.link⟩
theorem Grow.step {w0 w w' : World} {B : Nat} {v m m' : Value} {n x j : Nat} (h : Grow w0 w B v m n x j) (h1 : Own w' B m' (List.replicate (n + j) x ++ [x])) (h2 : w.grownBy w' m.ownBlock)
    (h3 : (∃ g cap, m = .slice (some ⟨g, 0, none⟩) (List.replicate (n + j) x).length cap ∧ m' = .slice (some ⟨g, 0, none⟩) ((List.replicate (n + j) x).length + 1) cap) ∨ (m'.ownBlock = some w.heap.size ∧ w.grownBy w' none)) : Grow w0 w' B v m' n x (j + 1) := by
  have e : List.replicate (n + j) x ++ [x] = List.replicate (n + (j + 1)) x := by rw [← List.replicate_succ']; rfl
  rw [e] at h1
  have hs := h.grown.size
  rcases h3 with ⟨g, cap, rfl, rfl⟩ | ⟨hb, hg⟩
  · rw [List.length_replicate] at *
    rcases h.link with ⟨g', c', rfl, hm⟩ | hy
    · cases hm
      refine ⟨h1, ?_, grown_trans h.grown h2, h.low, .inl ⟨g, cap, rfl, rfl⟩⟩
      have := h1.shorter (n := n) (by omega)
      rwa [take_replicate' _ _ _ (by omega)] at this
    · have hge := hy g rfl
      refine ⟨h1, h.old.kept h2 ?_, grown_young h.grown h2 (fun k hk => by cases hk; exact hge), h.low, .inr (fun k hk => by cases hk; exact hge)⟩
      cases hv : v.ownBlock with
      | none => exact .inl rfl
      | some k =>
        right
        intro e2
        simp [Value.ownBlock] at e2
        subst e2
        have := h.low _ hv
        omega
  · refine ⟨h1, h.old.kept hg (by cases hv : v.ownBlock <;> simp), grown_young h.grown hg (fun g hg => by cases hg), h.low, .inr (fun g hg => by rw [hb] at hg; cases hg; exact hs)⟩
theorem Grow.step2 {w0 w w' : World} {B nc : Nat} {v v2 : Value} {na : Option Addr} {n x j : Nat} (o : Obj) (h : Grow w0 w B v (.slice na (n + j) nc) n x j) (h1 : Own w' B v2 (List.replicate (n + j) x ++ [x])) (h2 : (w.alloc o).grownBy w' (Value.slice na (n + j) nc).ownBlock)
    (h3 : (∃ g cap, (na = some ⟨g, 0, none⟩ ∧ nc = cap) ∧ v2 = .slice (some ⟨g, 0, none⟩) (n + j + 1) cap) ∨ v2.ownBlock = some (w.heap.size + 1) ∧ (w.alloc o).grownBy w' none) : Grow w0 w' B v v2 n x (j + 1) := by
  refine (h.alloc o).step h1 h2 ?_
  rcases h3 with ⟨g, cap, ⟨rfl, rfl⟩, rfl⟩ | ⟨h4, h5⟩
  · exact .inl ⟨g, nc, by simp, by simp⟩
  · exact .inr ⟨by rw [h4]; simp, h5⟩
end Go.Proofs.YtjdglpfjemoodabDoor
