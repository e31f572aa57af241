/- Rows of fields in memory; a builder of a call's own. -/
import Derived.Test.YtaenccjlokiejaaGreatDoorHIs
import Derived.Test.YtaenccjlokiejaaGreatDoorXBld
namespace Go.Proofs.YtaenccjlokiejaaGreatDoor
open Go.RowKit Go.Shelf

def flat2 (l : List Fl) : List Value := l.flatMap fun q => [.string (str q.1), .string (str q.2)]
theorem flat2_len (l : List Fl) : (flat2 l).length = 2 * l.length := by
  induction l with
  | nil => rfl
  | cons q l ih => simp only [flat2, List.flatMap_cons, List.length_append, List.length_cons, List.length_nil] at ih ⊢; omega
theorem flat2_snoc (l : List Fl) (q : Fl) : flat2 (l ++ [q]) = flat2 l ++ [.string (str q.1), .string (str q.2)] := by simp [flat2]
theorem flat2_get : ∀ (l : List Fl) (i : Nat) (q : Fl), l[i]? = some q → (flat2 l)[2 * i]? = some (.string (str q.1)) ∧ (flat2 l)[2 * i + 1]? = some (.string (str q.2))
  | [], i, q, h => by simp at h
  | p :: l, 0, q, h => by
    simp only [List.getElem?_cons_zero, Option.some.injEq] at h
    subst h
    exact ⟨rfl, rfl⟩
  | p :: l, i + 1, q, h => by
    simp only [List.getElem?_cons_succ] at h
    have := flat2_get l i q h
    simpa [flat2, Nat.mul_succ] using this
theorem flat2_one (l : List Fl) : ∀ u ∈ flat2 l, u.oneCell' = true := by
  intro u hu
  obtain ⟨q, _, hu⟩ := List.mem_flatMap.1 hu
  simp only [List.mem_cons, List.not_mem_nil, or_false] at hu
  rcases hu with rfl | rfl <;> rfl

/-- A row of pairs in memory: none, or cells from an address on. -/
def FRow (w : World) (ao : Option Addr) (l : List Fl) : Prop :=
  l = [] ∨ ∃ b off, ao = some ⟨b, off, none⟩ ∧ ∀ i q, l[i]? = some q → w.cell? ⟨b, off + 2 * i, none⟩ = some (.string (str q.1)) ∧ w.cell? ⟨b, off + 2 * i + 1, none⟩ = some (.string (str q.2))
theorem FRow.keep {w w' : World} {ao : Option Addr} {l : List Fl} (h : FRow w ao l) (hb : Below w.heap.size w w') : FRow w' ao l := by
  rcases h with h | ⟨b, off, rfl, hc⟩
  · exact .inl h
  · refine .inr ⟨b, off, rfl, fun i q hi => ?_⟩
    obtain ⟨h1, h2⟩ := hc i q hi
    exact ⟨cell_kept h1 hb, cell_kept h2 hb⟩
theorem FRow.form {w : World} {ao : Option Addr} {l : List Fl} (h : FRow w ao l) (hne : 0 < l.length) : ∃ b off, ao = some ⟨b, off, none⟩ := by
  rcases h with rfl | ⟨b, off, rfl, _⟩
  · simp at hne
  · exact ⟨b, off, rfl⟩
theorem FRow.cell {w : World} {b off : Nat} {l : List Fl} (h : FRow w (some ⟨b, off, none⟩) l) {i : Nat} {q : Fl} (hi : l[i]? = some q) : w.cell? ⟨b, off + 2 * i, none⟩ = some (.string (str q.1)) ∧ w.cell? ⟨b, off + 2 * i + 1, none⟩ = some (.string (str q.2)) := by
  rcases h with rfl | ⟨b', off', h, hc⟩
  · simp at hi
  · cases h; exact hc i q hi

theorem infoPair : (Tryz.prog.info? 78).map (fun i => (i.zero, i.size, i.bytes)) = some (some (.agg #[.string { data := #[] }, .string { data := #[] }]), 2, 32) := by kernel_rfl
/-- A slice of pairs that is the call's own. -/
def FOwn (t : TypeId) (w : World) (B : Nat) (v : Value) (l : List Fl) : Prop := w.ownsRow B t 2 v l.length (flat2 l)
theorem fown_nil (t : TypeId) (w : World) (B : Nat) : FOwn t w B (.slice none 0 0) [] := World.ownsRow_nil _ _ _ _
theorem FOwn.keep {t : TypeId} {w w' : World} {B : Nat} {v : Value} {l : List Fl} (h : FOwn t w B v l) (hb : Below w.heap.size w w') : FOwn t w' B v l := by
  refine ⟨h.1, ?_⟩
  rcases h.2 with h2 | ⟨g, cap, cur, e, hg, hh, r⟩
  · exact .inl h2
  · exact .inr ⟨g, cap, cur, e, hg, (hb.block g (Array.getElem?_eq_some_iff.1 hh).1).trans hh, r⟩
theorem FOwn.lower {t : TypeId} {w : World} {B B' : Nat} {v : Value} {l : List Fl} (h : FOwn t w B v l) (hB : B' ≤ B) : FOwn t w B' v l := by
  refine ⟨h.1, ?_⟩
  rcases h.2 with h2 | ⟨g, cap, cur, e, hg, r⟩
  · exact .inl h2
  · exact .inr ⟨g, cap, cur, e, Nat.le_trans hB hg, r⟩
theorem FOwn.shape {t : TypeId} {w : World} {B : Nat} {v : Value} {l : List Fl} (h : FOwn t w B v l) : ∃ ao cap, v = .slice ao l.length cap ∧ l.length ≤ cap ∧ FRow w ao l ∧ (∀ a, ao = some a → B ≤ a.block) := by
  rcases h.2 with ⟨rfl, hn⟩ | ⟨g, cap, cur, rfl, hb, hg, hle, _, _, ht⟩
  · exact ⟨none, 0, by rw [hn], by omega, .inl (List.length_eq_zero_iff.1 hn), fun a ha => by cases ha⟩
  · refine ⟨_, cap, rfl, hle, .inr ⟨g, 0, rfl, fun i q hi => ?_⟩, fun a ha => by cases ha; exact hb⟩
    obtain ⟨h1, h2⟩ := flat2_get l i q hi
    have c1 := World.ownsRow.cells h (g := g) rfl (2 * i) _ h1
    have c2 := World.ownsRow.cells h (g := g) rfl (2 * i + 1) _ h2
    rw [add_none] at c1 c2
    exact ⟨c1, c2⟩
theorem FOwn.ge {t : TypeId} {w : World} {B : Nat} {v : Value} {l : List Fl} (h : FOwn t w B v l) : ∀ k, v.ownBlock = some k → B ≤ k := fun k hk => (World.ownsRow.lt h k hk).1
theorem builderAt_keep {B b : Nat} {p : Value} {xs : List Value} {w w' : World} (h : Lib.BuilderAtF 112 5 B b p xs w) (hb : Below w.heap.size w w') : Lib.BuilderAtF 112 5 B b p xs w' := by
  have hlt := h.lt
  obtain ⟨hB, v, hbk, hown, hne⟩ := h
  refine ⟨hB, v, (hb.block b hlt).trans hbk, ⟨hown.1, ?_⟩, hne⟩
  rcases hown.2 with h2 | ⟨g, cap, cur, fz, e, hg, hh, r⟩
  · exact .inl h2
  · exact .inr ⟨g, cap, cur, fz, e, hg, (hb.block g (Array.getElem?_eq_some_iff.1 hh).1).trans hh, r⟩
/-- A builder that holds these bytes, of a call that began at w0. -/
def BU (B b : Nat) (w0 w : World) (xs : U) : Prop := Lib.IsBuilderF 112 5 B b (Lib.byteCells xs) w ∧ Below B w0 w
theorem BU.keep {B b : Nat} {w0 w w' : World} {xs : U} (h : BU B b w0 w xs) (hb : Below w.heap.size w w') (hB : B ≤ w.heap.size) : BU B b w0 w' xs :=
  ⟨h.1.elim (fun x => .inl (builderAt_keep x hb)) (fun x => .inr (builderAt_keep x hb)), h.2.trans (hb.mono hB)⟩
theorem BU.size {B b : Nat} {w0 w : World} {xs : U} (h : BU B b w0 w xs) : w0.heap.size ≤ w.heap.size := h.2.size
theorem BU.lt {B b : Nat} {w0 w : World} {xs : U} (h : BU B b w0 w xs) : b < w.heap.size := h.1.elim (fun x => x.lt) (fun x => x.lt)
/-- A pair of the call's own, in a block. -/
def PBk (w : World) (p : Nat) (f : Fl) : Prop := w.heap[p]? = some (.cells #[.string (str f.1), .string (str f.2)] 78 (0, 0))
theorem PBk.cell0 {w : World} {p : Nat} {q : Fl} (h : PBk w p q) : w.cell? ⟨p, 0, none⟩ = some (.string (str q.1)) := by rw [Lib.cell_of_heap h]; rfl
theorem PBk.cell1 {w : World} {p : Nat} {q : Fl} (h : PBk w p q) : w.cell? ⟨p, 1, none⟩ = some (.string (str q.2)) := by rw [Lib.cell_of_heap h]; rfl
theorem PBk.kept {b : Nat} {w w' : World} {p : Nat} {q : Fl} (h : PBk w p q) (hp : p ≠ b) (hk : Lib.OthersKept 5 (some b) w w') : PBk w' p q := by
  refine hk p _ h (by simpa using hp) ?_
  intro c fz e
  rw [Obj.cells.injEq] at e
  exact absurd e.2.1 (by decide)
theorem PBk.keep {w w' : World} {p : Nat} {q : Fl} (h : PBk w p q) (hb : Below w.heap.size w w') : PBk w' p q := (hb.block p (Array.getElem?_eq_some_iff.1 h).1).trans h
theorem byteCells_append (xs ys : U) : Lib.byteCells (xs ++ ys) = Lib.byteCells xs ++ Lib.byteCells ys := by simp [Lib.byteCells]
theorem strCells_str (l : U) : Lib.strCells (str l) = Lib.byteCells l := by simp [Lib.strCells, Lib.byteCells]
theorem putB_any (B b : Nat) (w0 w : World) (xs : U) (c : UInt8) (hB0 : B ≤ w0.heap.size) (h : BU B b w0 w xs) (hlen : xs.length + 1 ≤ 140737488355328) :
    Calls Tryz.prog 85 #[.pointer (some ⟨b, 0, none⟩), .int .u8 (c.toNat : Int)] w fun e w' => e = .returned .nilIface ∧ Hid (BU B b w0 w' (xs ++ [c])) ∧ Hid (∀ p q, PBk w p q → p ≠ b → PBk w' p q) := by
  have hs := h.size
  refine (writeByte_any B b (Lib.byteCells xs) (c.toNat : Int) w h.1 (by simpa [Lib.byteCells] using hlen) (by omega)).mono ?_
  rintro e w' ⟨rfl, h1, h2, h3⟩
  refine ⟨rfl, ⟨.inr ?_, h.2.trans h2⟩, fun p q hp hne => hp.kept hne h3⟩
  rw [byteCells_append]
  exact h1
theorem putS_any (B b : Nat) (w0 w : World) (xs ys : U) (hB0 : B ≤ w0.heap.size) (h : BU B b w0 w xs) (hlen : xs.length + ys.length ≤ 140737488355328) :
    Calls Tryz.prog 74 #[.pointer (some ⟨b, 0, none⟩), .string (str ys)] w fun e w' => e = .returned (.tuple #[.int .i64 (ys.length : Int), .nilIface]) ∧ Hid (BU B b w0 w' (xs ++ ys)) ∧ Hid (∀ p q, PBk w p q → p ≠ b → PBk w' p q) := by
  have hs := h.size
  refine (writeString_any B b (Lib.byteCells xs) (str ys) w h.1 (by rw [str_size]; simpa [Lib.byteCells] using hlen) (by omega)).mono ?_
  rintro e w' ⟨rfl, h1, h2, h3⟩
  refine ⟨by rw [str_size], ⟨.inr ?_, h.2.trans h2⟩, fun p q hp hne => hp.kept hne h3⟩
  rw [byteCells_append, ← strCells_str ys]
  exact h1
theorem getS_any (B b : Nat) (w0 w : World) (xs : U) (hB0 : B ≤ w0.heap.size) (h : BU B b w0 w xs) :
    Calls Tryz.prog 79 #[.pointer (some ⟨b, 0, none⟩)] w fun e w' => e = .returned (.string (str xs)) ∧ Hid (Below B w0 w') := by
  have hs := h.size
  refine (Any.Builder_String_any_k lays169 Builder_Extra_169 B b xs w h.1 (by omega)).mono ?_
  rintro e w' ⟨rfl, _, h2, _⟩
  exact ⟨rfl, h.2.trans h2⟩
theorem BU.slot {B b : Nat} {w0 w : World} {xs : U} (h : BU B b w0 w xs) : ∃ so cap, w.cell? ⟨b, 1, none⟩ = some (.slice so xs.length cap) := by
  have f : ∀ v, Lib.BuilderAtF 112 5 B b v (Lib.byteCells xs) w → ∃ so cap, w.cell? ⟨b, 1, none⟩ = some (.slice so xs.length cap) := by
    rintro v ⟨_, u, hbk, hown, _⟩
    have hc : w.cell? ⟨b, 1, none⟩ = some u := by rw [Lib.cell_of_heap hbk]; rfl
    rw [Lib.byteCells_length] at hown
    rcases hown.2 with ⟨rfl, h0⟩ | ⟨g, cap, cur, fz, rfl, _⟩
    · exact ⟨none, 0, by rw [hc, h0]⟩
    · exact ⟨_, cap, hc⟩
  rcases h.1 with h1 | h1
  · exact f _ h1
  · exact f _ h1
set_option maxHeartbeats 400000 in
set_option maxRecDepth 100000 in
theorem lenS_any (B b : Nat) (w0 w : World) (xs : U) (h : BU B b w0 w xs) :
    Calls Tryz.prog 78 #[.pointer (some ⟨b, 0, none⟩)] w fun e w' => e = .returned (.int .i64 (xs.length : Int)) ∧ w' = w := by
  obtain ⟨so, cap, hc⟩ := h.slot
  clear h
  obtain ⟨n, hn⟩ : ∃ n, n = xs.length := ⟨_, rfl⟩
  rw [← hn] at hc ⊢
  clear hn
  go_enter Tryz.func78, Tryz.ntmps78
  go_wp2
  go_ret
  exact ⟨rfl, rfl⟩
theorem bu_fresh (w : World) : BU w.heap.size w.heap.size w (w.alloc (.cells #[.pointer none, .slice none 0 0] 112)) [] := ⟨Lib.IsBuilderF.of (Lib.fresh_isBuilder _ _ _), below_new _ _⟩
end Go.Proofs.YtaenccjlokiejaaGreatDoor
