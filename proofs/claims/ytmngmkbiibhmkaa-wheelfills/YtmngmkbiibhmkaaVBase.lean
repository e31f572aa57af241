/- Small facts that all texts of this layer share: whole blocks of cells, what stays, what is new; rows of 64-bit numbers; the frame of a call that turns the blocks of a list. -/
import Derived.Test.YtmngmkbiibhmkaaProg
import Derived.WalkKit
import Derived.WalkSpells
import Derived.WalkLawsBesides
import Derived.Handy
import Derived.Laws.BitsAllLaws
import Derived.Laws.AppendOwnNone
import Derived.Laws.CopyOwn
import Derived.BigQuiet
import Derived.Deep.QuietTactic
import Derived.Deep.DeepCutAuto
import Derived.Deep.RegionHeld
import Derived.Maps.RangeWalk
import Derived.Maps.AppendAt
namespace Go.Proofs.Ytmngmkbiibhmkaa
open Go.RowKit Go.Maps

theorem hide {p : Prop} (h : p) : Hid p := h
theorem cell_kept {w1 w2 : World} {a : Addr} {v : Value} (h : w1.cell? a = some v) (hb : Below w1.heap.size w1 w2) : w2.cell? a = some v := (hb.cell (World.block_lt_of_cell? w1 a h)).trans h
theorem below_new (w : World) (o : Obj) : Below w.heap.size w (w.alloc o) := (Below.refl _ _).alloc (Nat.le_refl _) _
theorem below_undrewN1 {w w' : World} (h : Below w.drew.heap.size w.drew w') : Below w.heap.size w w' := ⟨h.os, h.tape, h.output, h.size, h.block⟩
theorem add_none (g off k : Nat) : (⟨g, off, none⟩ : Addr).add k = ⟨g, off + k, none⟩ := by unfold Addr.add; split <;> simp_all
theorem one_new (W : World) (n : Nat) (hn : n = W.heap.size) (x : Value) (t : TypeId) : ∀ j u, [x][j]? = some u → (W.alloc (.cells #[x] t)).cell? ((⟨n, 0, none⟩ : Addr).add j) = some u := by
  intro j u h
  subst hn
  rw [add_none, Nat.zero_add]
  match j, h with
  | 0, h => simpa using h
theorem two_new (W : World) (n : Nat) (hn : n = W.heap.size) (x y : Value) (t : TypeId) : ∀ j u, [x, y][j]? = some u → (W.alloc (.cells #[x, y] t)).cell? ((⟨n, 0, none⟩ : Addr).add j) = some u := by
  intro j u h
  subst hn
  rw [add_none, Nat.zero_add]
  match j, h with
  | 0, h => simpa using h
  | 1, h => simpa using h
/-- A whole block of cells, not frozen. -/
def Bl (w : World) (g : Nat) (cs : List Value) (t : TypeId) : Prop := w.heap[g]? = some (.cells cs.toArray t (0, 0))
theorem Bl.lt {w : World} {g : Nat} {cs : List Value} {t : TypeId} (h : Bl w g cs t) : g < w.heap.size := (Array.getElem?_eq_some_iff.1 h).1
theorem Bl.cell {w : World} {g : Nat} {cs : List Value} {t : TypeId} (h : Bl w g cs t) (i : Nat) : w.cell? ⟨g, i, none⟩ = cs[i]? := by
  rw [cell_of_row w g i _ t (0, 0) h]; simp
theorem Bl.frozen {w : World} {g : Nat} {cs : List Value} {t : TypeId} (h : Bl w g cs t) (i : Nat) : w.frozen? ⟨g, i, none⟩ = false := frozen_of_row w g i _ t h
theorem Bl.set {w : World} {g : Nat} {cs : List Value} {t : TypeId} (h : Bl w g cs t) (i : Nat) (v : Value) : Bl (w.setCell ⟨g, i, none⟩ v) g (cs.set i v) t := by
  have := heap_setCell_same w g i _ t v h
  unfold Bl
  rw [this]
  congr 2
  apply Array.ext'
  simp
theorem Bl.other {w : World} {g k : Nat} {cs : List Value} {t : TypeId} (h : Bl w k cs t) (hk : k ≠ g) (i : Nat) (v : Value) : Bl (w.setCell ⟨g, i, none⟩ v) k cs t := (heap_setCell_other w ⟨g, i, none⟩ k v hk).trans h
theorem Bl.new (w : World) (cs : Array Value) (t : TypeId) : Bl (w.alloc (.cells cs t)) w.heap.size cs.toList t := by unfold Bl; rw [heap_alloc_new w _]
theorem Bl.alloc {w : World} {g : Nat} {cs : List Value} {t : TypeId} (h : Bl w g cs t) (o : Obj) : Bl (w.alloc o) g cs t := (Below.heap_alloc w o g h.lt).trans h
theorem Bl.below {w w' : World} {g B : Nat} {cs : List Value} {t : TypeId} (h : Bl w g cs t) (hb : Below B w w') (hg : g < B) : Bl w' g cs t := (hb.block g hg).trans h
theorem Bl.keep {w w' : World} {g : Nat} {cs : List Value} {t : TypeId} (h : Bl w g cs t) (hb : Below w.heap.size w w') : Bl w' g cs t := h.below hb h.lt
theorem Bl.drewN {w : World} {g : Nat} {cs : List Value} {t : TypeId} (h : Bl w g cs t) (n : Nat) : Bl (w.drewN n) g cs t := h
/-- Of what was there nothing has turned but block g. -/
structure But (g : Nat) (w w' : World) : Prop where
  os : w'.os = w.os
  tape : w'.tape = w.tape
  output : w'.output = w.output
  size : w.heap.size ≤ w'.heap.size
  block : ∀ k, k < w.heap.size → k ≠ g → w'.heap[k]? = w.heap[k]?
theorem But.refl (g : Nat) (w : World) : But g w w := ⟨rfl, rfl, rfl, Nat.le_refl _, fun _ _ _ => rfl⟩
theorem But.trans {g : Nat} {a b c : World} (h : But g a b) (k : But g b c) : But g a c :=
  ⟨k.os.trans h.os, k.tape.trans h.tape, k.output.trans h.output, Nat.le_trans h.size k.size, fun i hi hn => (k.block i (Nat.lt_of_lt_of_le hi h.size) hn).trans (h.block i hi hn)⟩
theorem But.of {g : Nat} {w w' : World} (h : Below w.heap.size w w') : But g w w' := ⟨h.os, h.tape, h.output, h.size, fun k hk _ => h.block k hk⟩
theorem But.below {g B : Nat} {w w' : World} (h : But g w w') (hB : B ≤ g) (hs : B ≤ w.heap.size) : Below B w w' := ⟨h.os, h.tape, h.output, h.size, fun k hk => h.block k (by omega) (by omega)⟩
theorem But.setCell (g : Nat) (w : World) (i : Nat) (v : Value) : But g w (w.setCell ⟨g, i, none⟩ v) := ⟨rfl, rfl, rfl, by simp [World.setCell], fun k _ hk => heap_setCell_other w ⟨g, i, none⟩ k v hk⟩
theorem But.alloc (g : Nat) (w : World) (o : Obj) : But g w (w.alloc o) := But.of (below_new w o)
theorem But.drewN (g : Nat) (w : World) (n : Nat) : But g w (w.drewN n) := ⟨rfl, rfl, rfl, Nat.le_refl _, fun _ _ _ => rfl⟩
theorem Bl.but {w w' : World} {g k : Nat} {cs : List Value} {t : TypeId} (h : Bl w k cs t) (hb : But g w w') (hk : k ≠ g) : Bl w' k cs t := (hb.block k h.lt hk).trans h
theorem below_drewN {B : Nat} {a w : World} (h : Below B a w) (n : Nat) : Below B a (w.drewN n) := h.trans ⟨rfl, rfl, rfl, Nat.le_refl _, fun _ _ => rfl⟩
/-- Of what was there nothing has turned but the blocks of a list. -/
structure Fr (fp : List Nat) (w w' : World) : Prop where
  os : w'.os = w.os
  tape : w'.tape = w.tape
  output : w'.output = w.output
  size : w.heap.size ≤ w'.heap.size
  block : ∀ k, k < w.heap.size → k ∉ fp → w'.heap[k]? = w.heap[k]?
theorem Fr.refl (fp : List Nat) (w : World) : Fr fp w w := ⟨rfl, rfl, rfl, Nat.le_refl _, fun _ _ _ => rfl⟩
theorem Fr.of {fp : List Nat} {w w' : World} (h : Below w.heap.size w w') : Fr fp w w' := ⟨h.os, h.tape, h.output, h.size, fun k hk _ => h.block k hk⟩
theorem Fr.grown {fp : List Nat} {w w' : World} {row : Option Nat} (h : w.grownBy w' row) (hr : ∀ j, row = some j → j ∈ fp) : Fr fp w w' := ⟨h.os, h.tape, h.output, h.size, fun k hk hn => h.block k hk (fun e => hn (hr k e.symm))⟩
theorem Fr.trans {fp fq : List Nat} {a b c : World} (h : Fr fp a b) (k : Fr fq b c) (hq : ∀ x ∈ fq, x ∈ fp ∨ a.heap.size ≤ x) : Fr fp a c :=
  ⟨k.os.trans h.os, k.tape.trans h.tape, k.output.trans h.output, Nat.le_trans h.size k.size, fun i hi hn => (k.block i (Nat.lt_of_lt_of_le hi h.size) (fun e => by
    rcases hq i e with h1 | h1
    · exact hn h1
    · omega)).trans (h.block i hi hn)⟩
theorem Fr.mono {fp fq : List Nat} {a b : World} (h : Fr fp a b) (hq : ∀ x ∈ fp, x ∈ fq ∨ a.heap.size ≤ x) : Fr fq a b :=
  ⟨h.os, h.tape, h.output, h.size, fun i hi hn => h.block i hi (fun e => by
    rcases hq i e with h1 | h1
    · exact hn h1
    · omega)⟩
theorem Fr.below {fp : List Nat} {a b : World} (h : Fr fp a b) (B : Nat) (hB : B ≤ a.heap.size) (hf : ∀ x ∈ fp, B ≤ x) : Below B a b := ⟨h.os, h.tape, h.output, h.size, fun k hk => h.block k (by omega) (fun e => by have := hf k e; omega)⟩
theorem Fr.setCell (fp : List Nat) (w : World) (g i : Nat) (v : Value) (hg : g ∈ fp) : Fr fp w (w.setCell ⟨g, i, none⟩ v) := ⟨rfl, rfl, rfl, by simp [World.setCell], fun k _ hk => heap_setCell_other w ⟨g, i, none⟩ k v (fun e => hk (by rw [e]; exact hg))⟩
theorem Fr.nil {w w' : World} (h : Fr [] w w') : Below w.heap.size w w' := h.below _ (Nat.le_refl _) (fun x hx => by cases hx)

def vb (v : Value) : List Nat := v.ownBlock.toList
theorem owns_same {w w' : World} {B : Nat} {e : TypeId} {sz n : Nat} {v : Value} {xs : List Value} (h : w.ownsRow B e sz v n xs) (hb : ∀ g, v.ownBlock = some g → w'.heap[g]? = w.heap[g]?) : w'.ownsRow B e sz v n xs := by
  refine ⟨h.1, ?_⟩
  rcases h.2 with h2 | ⟨g, cap, cur, rfl, h0, h1, r⟩
  · exact .inl h2
  · exact .inr ⟨g, cap, cur, rfl, h0, (hb g rfl).trans h1, r⟩
theorem mem_vb {v : Value} {g : Nat} : g ∈ vb v ↔ v.ownBlock = some g := by
  unfold vb
  cases h : v.ownBlock <;> simp [eq_comm]
theorem Fr.alloc (fp : List Nat) (w : World) (o : Obj) : Fr fp w (w.alloc o) := Fr.of (below_new w o)
theorem Fr.bl {fp : List Nat} {w w' : World} {g : Nat} {cs : List Value} {t : TypeId} (h : Bl w g cs t) (hf : Fr fp w w') (hg : g ∉ fp) : Bl w' g cs t := (hf.block g h.lt hg).trans h
theorem Fr.drewN (fp : List Nat) (w : World) (n : Nat) : Fr fp w (w.drewN n) := ⟨rfl, rfl, rfl, Nat.le_refl _, fun _ _ _ => rfl⟩
theorem ret_int {k : IntKind} {a b : Int} (h : a = b) : Ending.returned (.int k a) = .returned (.int k b) := by rw [h]
theorem ret_bool {a b : Bool} (h : a = b) : Ending.returned (.bool a) = .returned (.bool b) := by rw [h]

/-- Numbers of 64 bits as cells. -/
def uv (n : Nat) : Value := .int .u64 (n : Int)
def Own (w : World) (B : Nat) (v : Value) (xs : List Nat) : Prop := w.ownsRow B 22 1 v xs.length (xs.map uv)
theorem info64 : (Try.prog.info? 22).map (fun i => (i.zero, i.size, i.bytes)) = some (some (.int .u64 0), 1, 8) := by kernel_rfl
theorem uv_one (xs : List Nat) : ∀ u ∈ xs.map uv, u.oneCell' = true := by
  intro u hu
  obtain ⟨n, _, rfl⟩ := List.mem_map.1 hu
  rfl
/-- A row of numbers in memory: none, or cells from an address on. -/
def Row (w : World) (ao : Option Addr) (xs : List Nat) : Prop :=
  xs = [] ∨ ∃ b off, ao = some ⟨b, off, none⟩ ∧ ∀ i, i < xs.length → w.cell? ⟨b, off + i, none⟩ = some (uv (xs.getD i 0))
theorem Row.cells {w : World} {a : Addr} {xs : List Nat} (h : Row w (some a) xs) : ∀ j u, (xs.map uv)[j]? = some u → w.cell? (a.add j) = some u := by
  intro j u hu
  rcases h with rfl | ⟨b, off, ha, hc⟩
  · simp at hu
  · cases ha
    have hj : j < xs.length := by
      rcases Nat.lt_or_ge j xs.length with h | h
      · exact h
      · simp [List.getElem?_eq_none (show (xs.map uv).length ≤ j by simpa using h)] at hu
    rw [add_none, hc j hj]
    simp only [List.getElem?_map, List.getElem?_eq_getElem hj, Option.map_some, Option.some.injEq] at hu
    subst hu
    simp [uv, List.getD, List.getElem?_eq_getElem hj]
theorem Own.read {w : World} {B : Nat} {v : Value} {xs : List Nat} (h : Own w B v xs) : ∃ ao cap, v = .slice ao xs.length cap ∧ xs.length ≤ cap ∧ Row w ao xs := by
  rcases h.2 with ⟨rfl, hn⟩ | ⟨g, cap, cur, rfl, hb, hg, hle, _, _, ht⟩
  · exact ⟨none, 0, by rw [hn], by omega, .inl (List.length_eq_zero_iff.1 hn)⟩
  · refine ⟨_, cap, rfl, hle, .inr ⟨g, 0, rfl, fun i hi => ?_⟩⟩
    have := World.ownsRow.cells h (g := g) rfl i (uv (xs.getD i 0)) (by simp [hi])
    rw [add_none] at this
    exact this
theorem Own.same {w w' : World} {B : Nat} {v : Value} {xs : List Nat} (h : Own w B v xs) (hb : ∀ g, v.ownBlock = some g → w'.heap[g]? = w.heap[g]?) : Own w' B v xs := owns_same h hb
theorem Own.lt {w : World} {B : Nat} {v : Value} {xs : List Nat} (h : Own w B v xs) : ∀ g, v.ownBlock = some g → B ≤ g ∧ g < w.heap.size := fun g hg => World.ownsRow.lt h g hg
theorem Own.keep {w w' : World} {B : Nat} {v : Value} {xs : List Nat} (h : Own w B v xs) (hb : Below w.heap.size w w') : Own w' B v xs := h.same fun g hg => hb.block g (h.lt g hg).2
theorem Own.lower {w : World} {B B' : Nat} {v : Value} {xs : List Nat} (h : Own w B v xs) (hb : B' ≤ B) : Own w B' v xs := by
  refine ⟨h.1, ?_⟩
  rcases h.2 with h2 | ⟨g, cap, cur, e, hg, r⟩
  · exact .inl h2
  · exact .inr ⟨g, cap, cur, e, Nat.le_trans hb hg, r⟩
theorem Own.raise {w : World} {B B' : Nat} {v : Value} {xs : List Nat} (h : Own w B v xs) (hb : ∀ g, v.ownBlock = some g → B' ≤ g) : Own w B' v xs := by
  refine ⟨h.1, ?_⟩
  rcases h.2 with h2 | ⟨g, cap, cur, e, hg, r⟩
  · exact .inl h2
  · exact .inr ⟨g, cap, cur, e, hb g (by rw [e]; rfl), r⟩
theorem own_shape {w : World} {B : Nat} {v : Value} {xs : List Nat} (h : Own w B v xs) : ∃ ao n cap, v = .slice ao n cap := by
  obtain ⟨ao, cap, h, _⟩ := h.read
  exact ⟨ao, _, cap, h⟩
theorem own_nil (w : World) (B : Nat) : Own w B (.slice none 0 0) [] := World.ownsRow_nil _ _ _ _
theorem Row.keep {w w' : World} {ao : Option Addr} {xs : List Nat} (h : Row w ao xs) (hb : Below w.heap.size w w') : Row w' ao xs := by
  rcases h with h | ⟨b, off, rfl, hc⟩
  · exact .inl h
  · refine .inr ⟨b, off, rfl, fun i hi => ?_⟩
    rw [hb.cell (p := ⟨b, off + i, none⟩) (World.block_lt_of_cell? w _ (hc i hi))]; exact hc i hi
theorem Row.cell {w : World} {b off : Nat} {xs : List Nat} (h : Row w (some ⟨b, off, none⟩) xs) (i : Nat) (hi : i < xs.length) : w.cell? ⟨b, off + i, none⟩ = some (.int .u64 ((xs.getD i 0 : Nat) : Int)) := by
  rcases h with h | ⟨b', off', h, hc⟩
  · subst h; simp at hi
  · cases h; exact hc i hi
theorem Row.form {w : World} {ao : Option Addr} {xs : List Nat} (h : Row w ao xs) (hne : 0 < xs.length) : ∃ b off, ao = some ⟨b, off, none⟩ := by
  rcases h with rfl | ⟨b, off, rfl, _⟩
  · simp at hne
  · exact ⟨b, off, rfl⟩
theorem append_types {t t2 : TypeId} (h1 : Try.prog.underlying t = some (.slice 22)) (h2 : Try.prog.underlying t2 = some (.slice 22)) (ty : TypeId) (w : World) (v x : Value) :
    (Builtin.append_ #[t, t2] ty #[v, x]).run Try.prog w = (Builtin.append_ #[t, t] ty #[v, x]).run Try.prog w := by
  obtain ⟨i0, hi, hz0, hz1, hz2⟩ := info_parts info64
  have hs : (sizeOf 22).run Try.prog w = .ok 1 w := by simp [sizeOf, typeInfo, hi, hz1]
  unfold Builtin.append_
  cases v
  case slice base n c =>
    simp only [List.getElem?_toArray, List.getElem?_cons_zero, List.getElem?_cons_succ, Sem.run_bind, run_underlying h1, run_underlying h2, hs, Result.andThen_ok]
  all_goals simp only [List.getElem?_toArray, List.getElem?_cons_zero, List.getElem?_cons_succ, Sem.run_bind, run_underlying h1, Result.andThen_ok]
/-- append(v, ys...) where v is the call's own and ys is whatever row of numbers. -/
theorem run_append_nums {w : World} {B : Nat} {v : Value} {xs ys : List Nat} (t t2 : TypeId) (hu : Try.prog.underlying t = some (.slice 22)) (hu2 : Try.prog.underlying t2 = some (.slice 22)) (hown : Own w B v xs) (ao : Option Addr) (c : Nat) (hy : Row w ao ys) (hsz : xs.length + ys.length ≤ 17592186044416) (hB : B ≤ w.heap.size) (ty : TypeId) :
    ∃ v' w', (Builtin.append_ #[t, t2] ty #[v, .slice ao ys.length c]).run Try.prog w = .ok v' w' ∧ Own w' B v' (xs ++ ys) ∧ w.grownBy w' v.ownBlock ∧ (v'.ownBlock = v.ownBlock ∨ v'.ownBlock = some w.heap.size) := by
  obtain ⟨i0, hi, hz0, hz1, hz2⟩ := info_parts info64
  cases ao with
  | none =>
    rcases hy with rfl | ⟨b, off, h, _⟩
    · refine ⟨v, w, ?_, by rw [List.append_nil]; exact hown, World.grownBy.refl _ _, .inl rfl⟩
      have hc0 : ∀ c', (Builtin.append_ #[t, t] ty #[v, .slice none 0 c']).run Try.prog w = (Builtin.append_ #[t, t] ty #[v, .slice none 0 0]).run Try.prog w := fun c' => rfl
      rw [List.length_nil, append_types hu hu2, hc0]
      exact run_append_owned_none (P := Try.prog) (w := w) B t ty 22 i0 1 hu hi v _ _ hown
    · cases h
  | some a =>
    obtain ⟨v', w', h1, h2, h3, _, h4⟩ := run_append_own_at (P := Try.prog) w B t ty 22 i0 (.int .u64 0) 1 8 hu hi hz0 hz1 hz2 rfl (by decide) v xs.length (xs.map uv) hown a ys.length c (ys.map uv) (by simp) hy.cells (uv_one ys) (by unfold maxLen; omega) (by omega) hB
    exact ⟨v', w', (append_types hu hu2 ty w _ _).trans h1, by unfold Own; rw [List.length_append, List.map_append]; exact h2, h3, h4⟩
theorem wpList_append_nums {w : World} {ops : Array Oper} {rest : List Oper} {o : Oper} {a : Act} {Q : Exit → Act → World → Prop} (hgd : o.guard = none) (s x : Operand) (t t2 : TypeId) (hu : Try.prog.underlying t = some (.slice 22)) (hu2 : Try.prog.underlying t2 = some (.slice 22))
    (ho : o.op = .call { callee := .builtin .append, args := #[s, x], argTypes := #[t, t2] }) (B : Nat) (v : Value) (xs : List Nat) (hs : a.eval s = v) (hown : Own w B v xs)
    (ao : Option Addr) (n c : Nat) (ys : List Nat) (hn : n = ys.length) (hx : a.eval x = .slice ao n c) (hy : Row w ao ys) (hsz : xs.length + ys.length ≤ 17592186044416) (hB : B ≤ w.heap.size)
    (h : ∀ v' w', Own w' B v' (xs ++ ys) → w.grownBy w' v.ownBlock → (v'.ownBlock = v.ownBlock ∨ v'.ownBlock = some w.heap.size) → wpList Try.prog ops Q rest (a.put o.dst v') w') : wpList Try.prog ops Q (o :: rest) a w := by
  refine wpList_plain hgd fun K hK => ?_
  obtain ⟨v', w', hrun, h1, h2, h3⟩ := run_append_nums t t2 hu hu2 hown ao c hy hsz hB o.type
  subst hn
  unfold Oper.wp
  simp [execOp, ho, resolve, invoke, builtin, hs, hx, hrun, Result.andThen]
  exact hK _ _ (h v' w' h1 h2 h3)
theorem row_one (w : World) (n : Nat) (t : TypeId) : Row (w.alloc (.cells #[.int .u64 (n : Int)] t)) (some ⟨w.heap.size, 0, none⟩) [n] := by
  refine .inr ⟨_, _, rfl, fun i hi => ?_⟩
  have : i = 0 := by simpa using hi
  subst this
  simp [uv]
end Go.Proofs.Ytmngmkbiibhmkaa
