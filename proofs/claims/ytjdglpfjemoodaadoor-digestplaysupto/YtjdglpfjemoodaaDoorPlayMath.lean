/- Four Hashes beside one another: the program's and the document's, and the variables of a step over them. -/
import Derived.Test.YtjdglpfjemoodaaDoorRefWrite
import Derived.Test.YtjdglpfjemoodaaDoorApart
import Derived.Test.YtjdglpfjemoodaaDoorOpenAgg
import Derived.Deep.Slices
namespace Go.Proofs.YtjdglpfjemoodaaDoor
open Go.RowKit

/-- One of the four: the program's Hash lies in block g; the document's has register r behind past bytes, and the bytes bs since. -/
structure Slot where
  g : Nat
  r : List Nat
  past : Nat
  n : Nat
  cap : Nat
  ao : Option Addr
  bs : List Nat
def Slot.row (q : Slot) : List Value := rhash q.r q.past (.slice q.ao q.n q.cap)
def upd (f : Nat → Slot) (i : Nat) (v : Slot) : Nat → Slot := fun j => if j = i then v else f j
theorem upd_same (f : Nat → Slot) (i : Nat) (v : Slot) : upd f i v i = v := by simp [upd]
theorem upd_other (f : Nat → Slot) {i j : Nat} (v : Slot) (h : j ≠ i) : upd f i v j = f j := by simp [upd, h]
theorem upd_upd (f : Nat → Slot) (i : Nat) (u v : Slot) : upd (upd f i u) i v = upd f i v := by funext j; unfold upd; split <;> rfl
theorem upd_g (f : Nat → Slot) (i : Nat) (v : Slot) (hg : v.g = (f i).g) (x : Nat) : (upd f i v x).g = (f x).g := by
  by_cases e : x = i
  · rw [e, upd_same, hg]
  · rw [upd_other f v e]
def hptr (q : Slot) : Value := .pointer (some ⟨q.g, 0, none⟩)
def hcells (f : Nat → Slot) : List Value := [hptr (f 0), hptr (f 1), hptr (f 2), hptr (f 3)]
def rcells (f : Nat → Slot) : List Value := (f 0).row ++ ((f 1).row ++ ((f 2).row ++ (f 3).row))
theorem hcells_set (f : Nat → Slot) (i : Nat) (v : Slot) (hi : i < 4) : (hcells f).set i (hptr v) = hcells (upd f i v) := by
  rcases (show i = 0 ∨ i = 1 ∨ i = 2 ∨ i = 3 by omega) with rfl | rfl | rfl | rfl <;> simp [hcells, upd]
theorem hcells_get (f : Nat → Slot) (i : Nat) (hi : i < 4) : (hcells f)[i]? = some (hptr (f i)) := by
  rcases (show i = 0 ∨ i = 1 ∨ i = 2 ∨ i = 3 by omega) with rfl | rfl | rfl | rfl <;> simp [hcells]

/-- The document's bytes lie in another block than g. -/
def Slot.away (q : Slot) (g : Nat) : Prop := q.bs ≠ [] → ∀ a, q.ao = some a → a.block ≠ g
theorem Row.but' {w w' : World} {g : Nat} {ao : Option Addr} {xs : List Nat} (h : Row w ao xs) (hb : But g w w') (hn : xs ≠ [] → ∀ a, ao = some a → a.block ≠ g) : Row w' ao xs := by
  by_cases e : xs = []
  · exact .inl e
  · exact h.but hb (hn e)
/-- What holds of one of the four. -/
structure Fit (W : World) (B lid : Nat) (q : Slot) : Prop where
  st : HState W q.g q.r q.past q.bs
  lt : ∀ x ∈ q.r, x < 4294967296
  zero : q.past = 0 → q.r = first8
  len : q.n = q.bs.length
  cap : q.n ≤ q.cap
  row : Row W q.ao q.bs
  past : q.past ≤ 1152921504606846976
  lid : q.n ≤ lid
  young : B ≤ q.g
theorem Fit.r8 {W : World} {B lid : Nat} {q : Slot} (h : Fit W B lid q) : q.r.length = 8 := h.st.2.2.1
theorem Fit.bytes {W : World} {B lid : Nat} {q : Slot} (h : Fit W B lid q) : ∀ x ∈ q.bs, x < 256 := h.st.2.2.2
theorem Fit.row10 {W : World} {B lid : Nat} {q : Slot} (h : Fit W B lid q) : q.row.length = 10 := by simp [Slot.row, rhash, h.r8]
theorem Fit.keep {W W' : World} {B lid : Nat} {q : Slot} (h : Fit W B lid q) (hb : Below W.heap.size W W') : Fit W' B lid q := ⟨h.st.keep hb, h.lt, h.zero, h.len, h.cap, h.row.keep hb, h.past, h.lid, h.young⟩
theorem Fit.but {W W' : World} {B lid g : Nat} {q : Slot} (h : Fit W B lid q) (hb : But g W W') (hg : q.g ≠ g) (ha : q.away g) : Fit W' B lid q := ⟨h.st.but hb hg, h.lt, h.zero, h.len, h.cap, h.row.but' hb ha, h.past, h.lid, h.young⟩
theorem Fit.up {W : World} {B lid lid' : Nat} {q : Slot} (h : Fit W B lid q) (hl : lid ≤ lid') : Fit W B lid' q := ⟨h.st, h.lt, h.zero, h.len, h.cap, h.row, h.past, Nat.le_trans h.lid hl, h.young⟩
structure Fits (W : World) (B lid : Nat) (f : Nat → Slot) : Prop where
  each : ∀ i, i < 4 → Fit W B lid (f i)
  apart : ∀ i j, i < 4 → j < 4 → i ≠ j → (f i).g ≠ (f j).g
  aside : ∀ i j, i < 4 → j < 4 → (f i).away (f j).g
theorem Fits.keep {W W' : World} {B lid : Nat} {f : Nat → Slot} (h : Fits W B lid f) (hb : Below W.heap.size W W') : Fits W' B lid f := ⟨fun i hi => (h.each i hi).keep hb, h.apart, h.aside⟩
theorem Fits.up {W : World} {B lid lid' : Nat} {f : Nat → Slot} (h : Fits W B lid f) (hl : lid ≤ lid') : Fits W B lid' f := ⟨fun i hi => (h.each i hi).up hl, h.apart, h.aside⟩
/-- A block that is none of theirs may turn. -/
theorem Fits.but {W W' : World} {B lid g : Nat} {f : Nat → Slot} (h : Fits W B lid f) (hb : But g W W') (hg : ∀ i, i < 4 → (f i).g ≠ g) (ha : ∀ i, i < 4 → (f i).away g) : Fits W' B lid f :=
  ⟨fun i hi => (h.each i hi).but hb (hg i hi) (ha i hi), h.apart, h.aside⟩
theorem Fit.old {W : World} {B lid : Nat} {q : Slot} (h : Fit W B lid q) : q.bs ≠ [] → ∀ a, q.ao = some a → a.block < W.heap.size := by
  intro hne a ha
  have hr := h.row
  obtain ⟨b, off, e⟩ := hr.form (List.length_pos_iff.2 hne)
  rw [e] at ha hr
  cases ha
  exact hr.lt hne
/-- One of the four is laid anew. -/
theorem Fits.put {W : World} {B lid i : Nat} {f : Nat → Slot} {q : Slot} (h : Fits W B lid f) (hq : Fit W B lid q) (hg : ∀ j, j < 4 → j ≠ i → (f j).g ≠ q.g) (hf : ∀ j, j < 4 → j ≠ i → (f j).away q.g)
    (ha : ∀ j, j < 4 → j ≠ i → q.away (f j).g) (hs : q.away q.g) : Fits W B lid (upd f i q) := by
  refine ⟨fun j hj => ?_, fun j k hj hk hne => ?_, fun j k hj hk => ?_⟩
  · by_cases e : j = i
    · rw [e, upd_same]; exact hq
    · rw [upd_other f q e]; exact h.each j hj
  · by_cases e : j = i
    · have e2 : k ≠ i := fun e' => hne (e.trans e'.symm)
      rw [e, upd_same, upd_other f q e2]; exact fun e3 => hg k hk e2 e3.symm
    · by_cases e2 : k = i
      · rw [e2, upd_same, upd_other f q e]; exact hg j hj e
      · rw [upd_other f q e, upd_other f q e2]; exact h.apart j k hj hk hne
  · by_cases e1 : j = i
    · rw [e1, upd_same]
      by_cases e2 : k = i
      · rw [e2, upd_same]; exact hs
      · rw [upd_other f q e2]; exact ha k hk e2
    · rw [upd_other f q e1]
      by_cases e2 : k = i
      · rw [e2, upd_same]; exact hf j hj e1
      · rw [upd_other f q e2]; exact h.aside j k hj hk
/-- None of their blocks is one of a step's variables. -/
def Slot.clear (s : Slot) (q : Nat) : Prop := (s.g < q ∨ q + 5 ≤ s.g) ∧ (s.bs ≠ [] → ∀ a, s.ao = some a → a.block < q ∨ q + 5 ≤ a.block)
def Clear (q : Nat) (f : Nat → Slot) : Prop := ∀ j, j < 4 → (f j).clear q
theorem Fits.clear {W : World} {B lid : Nat} {f : Nat → Slot} (h : Fits W B lid f) : Clear W.heap.size f := fun j hj => ⟨.inl (h.each j hj).st.lt, fun hne a ha => .inl ((h.each j hj).old hne a ha)⟩
theorem Clear.put {q i : Nat} {f : Nat → Slot} {s : Slot} (h : Clear q f) (hs : s.clear q) : Clear q (upd f i s) := fun j hj => by
  by_cases e : j = i
  · rw [e, upd_same]; exact hs
  · rw [upd_other f s e]; exact h j hj
theorem fin_ok {W : World} {B lid q : Nat} {f : Nat → Slot} (h : Fits W B lid f) (hc : Clear q f) (x y : Array Value) : Fits ((W.setRow (q + 3) x).setRow (q + 4) y) B lid f := by
  refine (h.but (But.setRow (q + 3) W x) ?_ ?_).but (But.setRow (q + 4) _ y) ?_ ?_
  · intro i hi; have := (hc i hi).1; omega
  · intro i hi hne a ha; have := (hc i hi).2 hne a ha; omega
  · intro i hi; have := (hc i hi).1; omega
  · intro i hi hne a ha; have := (hc i hi).2 hne a ha; omega
/-- Of what was there nothing has turned but the program's four. -/
def Kept (f : Nat → Slot) (w w' : World) : Prop := ∀ x, x < w.heap.size → (∀ i, i < 4 → (f i).g ≠ x) → w'.heap[x]? = w.heap[x]?
theorem Kept.of {f : Nat → Slot} {w W : World} (h : Below w.heap.size w W) : Kept f w W := fun x hx _ => h.block x hx
theorem Kept.but {f : Nat → Slot} {w W W' : World} {g : Nat} (h : Kept f w W) (hb : But g W W') (hs : w.heap.size ≤ W.heap.size) (hg : w.heap.size ≤ g) : Kept f w W' := fun x hx hn => (hb.block x (by omega) (by omega)).trans (h x hx hn)
theorem Kept.keep {f : Nat → Slot} {w W W' : World} (h : Kept f w W) (hb : Below W.heap.size W W') (hs : w.heap.size ≤ W.heap.size) : Kept f w W' := fun x hx hn => (hb.block x (by omega)).trans (h x hx hn)
theorem Kept.one {f : Nat → Slot} {w W W' : World} {i : Nat} (h : Below w.heap.size w W) (hb : But (f i).g W W') (hi : i < 4) : Kept f w W' := fun x hx hn => (hb.block x (Nat.lt_of_lt_of_le hx h.size) (fun e => hn i hi e.symm)).trans (h.block x hx)
theorem fin_kept {f : Nat → Slot} {w W : World} (h : Kept f w W) (x y : Array Value) : Kept f w ((W.setRow (w.heap.size + 3) x).setRow (w.heap.size + 4) y) := fun k hk hn => by
  rw [Go.setRow_other _ _ _ _ (by omega), Go.setRow_other _ _ _ _ (by omega)]
  exact h k hk hn
/-- A block that none of the four has. -/
def Free (f : Nat → Slot) (p : Nat) : Prop := ∀ a, a < 4 → (f a).g ≠ p ∧ (f a).away p
theorem Free.put {f : Nat → Slot} {p i : Nat} {v : Slot} (h : Free f p) (hg : v.g ≠ p) (ha : v.away p) : Free (upd f i v) p := fun a h4 => by
  by_cases e : a = i
  · rw [e, upd_same]; exact ⟨hg, ha⟩
  · rw [upd_other f v e]; exact h a h4
theorem fin_below {w W : World} {B q : Nat} (h : Below B w W) (hB : B ≤ q) (x y : Array Value) : Below B w ((W.setRow (q + 3) x).setRow (q + 4) y) := below_setRow (below_setRow h (by omega) x) (by omega) y

theorem own_row {w : World} {B n c : Nat} {ao : Option Addr} {xs : List Nat} (h : Own w B (.slice ao n c) xs) : Row w ao xs := by
  obtain ⟨a, c', e, _, r⟩ := h.read
  simp only [Value.slice.injEq] at e
  rw [e.1]
  exact r
/-- A block of n cells and more. -/
def Big (W : World) (g n : Nat) : Prop := ∃ (cs : List Value) (t : TypeId), Bl W g cs t ∧ n ≤ cs.length
theorem own_big {W : World} {B g n c : Nat} {xs : List Nat} (h : Own W B (.slice (some ⟨g, 0, none⟩) n c) xs) : Big W g n := by
  rcases h.2 with ⟨e, _⟩ | ⟨gg, cap, cur, e, _, hg, hn, _, hs, _⟩
  · cases e
  · cases e
    exact ⟨cur.toList, _, hg, by have e : cur.toList.length = c * 1 := hs; omega⟩
theorem Big.lt {W : World} {g n : Nat} (h : Big W g n) : g < W.heap.size := by obtain ⟨cs, t, hb, _⟩ := h; exact hb.lt
theorem Big.keep {W W' : World} {g n : Nat} (h : Big W g n) (hb : Below W.heap.size W W') : Big W' g n := by obtain ⟨cs, t, h, hn⟩ := h; exact ⟨cs, t, h.keep hb, hn⟩
theorem Big.but {W W' : World} {g k n : Nat} (h : Big W g n) (hb : But k W W') (hk : g ≠ k) : Big W' g n := by obtain ⟨cs, t, h, hn⟩ := h; exact ⟨cs, t, h.but hb hk, hn⟩
theorem Big.set {W : World} {g n : Nat} (h : Big W g n) (i : Nat) (v : Value) : Big (W.setCell ⟨g, i, none⟩ v) g n := by obtain ⟨cs, t, h, hn⟩ := h; exact ⟨cs.set i v, t, h.set i v, by rw [List.length_set]; exact hn⟩
theorem Big.cell {W : World} {g n : Nat} (h : Big W g n) (i : Nat) (hi : i < n) : ∃ v, W.cell? ⟨g, i, none⟩ = some v := by obtain ⟨cs, t, h, hn⟩ := h; exact ⟨cs[i], by rw [h.cell, List.getElem?_eq_getElem]⟩
theorem Big.frozen {W : World} {g n : Nat} (h : Big W g n) (i : Nat) : W.frozen? ⟨g, i, none⟩ = false := by obtain ⟨cs, t, h, hn⟩ := h; exact h.frozen i
/-- The 40 cells of the document's four, at one of them. -/
def preR (f : Nat → Slot) (i : Nat) : List Value := if i = 0 then [] else if i = 1 then (f 0).row else if i = 2 then (f 0).row ++ (f 1).row else (f 0).row ++ ((f 1).row ++ (f 2).row)
def postR (f : Nat → Slot) (i : Nat) : List Value := if i = 0 then (f 1).row ++ ((f 2).row ++ (f 3).row) else if i = 1 then (f 2).row ++ (f 3).row else if i = 2 then (f 3).row else []
theorem rcells_at (f : Nat → Slot) (i : Nat) (hi : i < 4) : rcells f = preR f i ++ ((f i).row ++ postR f i) := by
  rcases (show i = 0 ∨ i = 1 ∨ i = 2 ∨ i = 3 by omega) with rfl | rfl | rfl | rfl <;> simp [rcells, preR, postR]
theorem rcells_upd (f : Nat → Slot) (i : Nat) (v : Slot) (hi : i < 4) : rcells (upd f i v) = preR f i ++ (v.row ++ postR f i) := by
  rcases (show i = 0 ∨ i = 1 ∨ i = 2 ∨ i = 3 by omega) with rfl | rfl | rfl | rfl <;> simp [rcells, preR, postR, upd]
theorem preR_length (f : Nat → Slot) (i : Nat) (hi : i < 4) (h : ∀ j, j < 4 → (f j).row.length = 10) : (preR f i).length = i * 10 := by
  have h0 := h 0 (by omega)
  have h1 := h 1 (by omega)
  have h2 := h 2 (by omega)
  rcases (show i = 0 ∨ i = 1 ∨ i = 2 ∨ i = 3 by omega) with rfl | rfl | rfl | rfl <;> simp [preR, h0, h1, h2]
theorem rcells_length (f : Nat → Slot) (h : ∀ j, j < 4 → (f j).row.length = 10) : (rcells f).length = 40 := by
  simp [rcells, h 0 (by omega), h 1 (by omega), h 2 (by omega), h 3 (by omega)]
theorem row_one' (q : Slot) : ∀ u ∈ q.row, u.oneCell' = true := rhash_one _ _ _ rfl
theorem rcells_one (f : Nat → Slot) : ∀ u ∈ rcells f, u.oneCell' = true := by
  intro u hu
  simp only [rcells, List.mem_append] at hu
  rcases hu with h | h | h | h <;> exact row_one' _ u h
theorem hcells_one (f : Nat → Slot) : ∀ u ∈ hcells f, u.oneCell' = true := by
  intro u hu
  simp only [hcells, List.mem_cons, List.not_mem_nil, or_false] at hu
  rcases hu with rfl | rfl | rfl | rfl <;> rfl

def zeroP4 : List Value := [.pointer none, .pointer none, .pointer none, .pointer none]
def zeroR1 : List Value := rhash (List.replicate 8 0) 0 (.slice none 0 0)
def zeroR4 : List Value := zeroR1 ++ (zeroR1 ++ (zeroR1 ++ zeroR1))
theorem zeroP4info : (Tryd.prog.info? 35).map (fun i => (i.zero, i.size)) = some (some (.agg zeroP4.toArray), 4) := by kernel_rfl
theorem zeroR4info : (Tryd.prog.info? 42).map (fun i => (i.zero, i.size)) = some (some (.agg zeroR4.toArray), 40) := by kernel_rfl

/-- The variables of a step: what is done, the program's four, the document's four, and the two that are answered. -/
structure Fr (W : World) (q : Nat) (k h t : Int) (po : Option Addr) (m c : Nat) (f : Nat → Slot) : Prop where
  op : Bl W q [.int .i64 k, .int .i64 h, .int .i64 t, .slice po m c] 46
  hs : Bl W (q + 1) (hcells f) 35
  rs : Bl W (q + 2) (rcells f) 42
  oh : Bl W (q + 3) zeroP4 35
  or : Bl W (q + 4) zeroR4 42
  ten : ∀ j, j < 4 → (f j).row.length = 10
section
variable {W W' : World} {q m c : Nat} {k h t : Int} {po : Option Addr} {f : Nat → Slot}
theorem Fr.lt (x : Fr W q k h t po m c f) : q + 5 ≤ W.heap.size := by have := x.or.lt; omega
theorem Fr.keep (x : Fr W q k h t po m c f) (hb : Below W.heap.size W W') : Fr W' q k h t po m c f := ⟨x.op.keep hb, x.hs.keep hb, x.rs.keep hb, x.oh.keep hb, x.or.keep hb, x.ten⟩
theorem Fr.below {B : Nat} (x : Fr W q k h t po m c f) (hb : Below B W W') (hB : q + 5 ≤ B) : Fr W' q k h t po m c f := ⟨x.op.below hb (by omega), x.hs.below hb (by omega), x.rs.below hb (by omega), x.oh.below hb (by omega), x.or.below hb (by omega), x.ten⟩
theorem Fr.but {g : Nat} (x : Fr W q k h t po m c f) (hb : But g W W') (hg : g < q ∨ q + 5 ≤ g) : Fr W' q k h t po m c f :=
  ⟨x.op.but hb (by omega), x.hs.but hb (by omega), x.rs.but hb (by omega), x.oh.but hb (by omega), x.or.but hb (by omega), x.ten⟩
theorem Fr.c0 (x : Fr W q k h t po m c f) : W.cell? ⟨q, 0, none⟩ = some (.int .i64 k) := x.op.cell 0
theorem Fr.c1 (x : Fr W q k h t po m c f) : W.cell? ⟨q, 1, none⟩ = some (.int .i64 h) := x.op.cell 1
theorem Fr.c2 (x : Fr W q k h t po m c f) : W.cell? ⟨q, 2, none⟩ = some (.int .i64 t) := x.op.cell 2
theorem Fr.c3 (x : Fr W q k h t po m c f) : W.cell? ⟨q, 3, none⟩ = some (.slice po m c) := x.op.cell 3
theorem hcell_of (x : Bl W (q + 1) (hcells f) 35) (i : Nat) (hi : i < 4) : W.cell? ⟨q + 1, i, none⟩ = some (.pointer (some ⟨(f i).g, 0, none⟩)) := by rw [x.cell, hcells_get f i hi]; rfl
theorem Fr.hcell (x : Fr W q k h t po m c f) (i : Nat) (hi : i < 4) : W.cell? ⟨q + 1, i, none⟩ = some (.pointer (some ⟨(f i).g, 0, none⟩)) := hcell_of x.hs i hi
theorem range_of (x : Bl W (q + 2) (rcells f) 42) (ht : ∀ j, j < 4 → (f j).row.length = 10) (i : Nat) (hi : i < 4) : W.rangeAt (q + 2) (i * 10) (f i).row := by
  have h := x
  rw [rcells_at f i hi] at h
  have := h.range
  rw [preR_length f i hi ht] at this
  exact this
theorem Fr.range (x : Fr W q k h t po m c f) (i : Nat) (hi : i < 4) : W.rangeAt (q + 2) (i * 10) (f i).row := range_of x.rs x.ten i hi
theorem rload_of (x : Bl W (q + 2) (rcells f) 42) (ht : ∀ j, j < 4 → (f j).row.length = 10) (i : Nat) (hi : i < 4) : (Instr.loadAt 40 (.pointer (some ⟨q + 2, i * 10, none⟩))).run Tryd.prog W = .ok (.agg (f i).row.toArray) W :=
  run_loadAt_mid W (q + 2) (i * 10) 40 (f i).row _ (range_of x ht i hi) Tryd.underlying40 rfl (by rw [size40, ht i hi])
theorem Fr.hall (x : Fr W q k h t po m c f) : (Instr.loadAt 35 (.pointer (some ⟨q + 1, 0, none⟩))).run Tryd.prog W = .ok (.agg (hcells f).toArray) W := by
  simp only [Instr.loadAt, Instr.sureAddr, Sem.run_bind, Sem.run_pure, Result.andThen_ok, run_loadVar_row W (q + 1) _ _ _ _ _ x.hs Tryd.underlying35 rfl (by rw [(zero_of_info zeroP4info).2]; rfl)]
theorem Fr.rall (x : Fr W q k h t po m c f) : (Instr.loadAt 42 (.pointer (some ⟨q + 2, 0, none⟩))).run Tryd.prog W = .ok (.agg (rcells f).toArray) W := by
  simp only [Instr.loadAt, Instr.sureAddr, Sem.run_bind, Sem.run_pure, Result.andThen_ok, run_loadVar_row W (q + 2) _ _ _ _ _ x.rs Tryd.underlying42 rfl (by rw [(zero_of_info zeroR4info).2]; simp [rcells_length f x.ten])]
theorem hall_of (x : Bl W (q + 1) (hcells f) 35) : (Instr.loadAt 35 (.pointer (some ⟨q + 1, 0, none⟩))).run Tryd.prog W = .ok (.agg (hcells f).toArray) W := by
  simp only [Instr.loadAt, Instr.sureAddr, Sem.run_bind, Sem.run_pure, Result.andThen_ok, run_loadVar_row W (q + 1) _ _ _ _ _ x Tryd.underlying35 rfl (by rw [(zero_of_info zeroP4info).2]; rfl)]
theorem rall_of (x : Bl W (q + 2) (rcells f) 42) (ht : ∀ j, j < 4 → (f j).row.length = 10) : (Instr.loadAt 42 (.pointer (some ⟨q + 2, 0, none⟩))).run Tryd.prog W = .ok (.agg (rcells f).toArray) W := by
  simp only [Instr.loadAt, Instr.sureAddr, Sem.run_bind, Sem.run_pure, Result.andThen_ok, run_loadVar_row W (q + 2) _ _ _ _ _ x Tryd.underlying42 rfl (by rw [(zero_of_info zeroR4info).2]; simp [rcells_length f ht])]
/-- What is loaded while a step answers. -/
def Two (q : Nat) (f : Nat → Slot) (W : World) : Prop := Bl W (q + 1) (hcells f) 35 ∧ Bl W (q + 2) (rcells f) 42
theorem Fr.two (x : Fr W q k h t po m c f) : Two q f W := ⟨x.hs, x.rs⟩
theorem Two.put3 {g : Nat} (x : Two q f W) (hg : g = q + 3 ∨ g = q + 4) (y : Array Value) : Two q f (W.setRow g y) := ⟨x.1.setRow_other (by omega) _, x.2.setRow_other (by omega) _⟩
/-- The same, and what is done. -/
def Three (q : Nat) (k h t : Int) (po : Option Addr) (m c : Nat) (f : Nat → Slot) (W : World) : Prop := Bl W q [.int .i64 k, .int .i64 h, .int .i64 t, .slice po m c] 46 ∧ Two q f W
theorem Fr.three (x : Fr W q k h t po m c f) : Three q k h t po m c f W := ⟨x.op, x.two⟩
theorem Three.put3 {g : Nat} (x : Three q k h t po m c f W) (hg : g = q + 3 ∨ g = q + 4) (y : Array Value) : Three q k h t po m c f (W.setRow g y) := ⟨x.1.setRow_other (by omega) _, x.2.put3 hg y⟩
theorem Three.c3 (x : Three q k h t po m c f W) : W.cell? ⟨q, 3, none⟩ = some (.slice po m c) := x.1.cell 3
theorem Fr.hput (x : Fr W q k h t po m c f) (i : Nat) (hi : i < 4) (v : Slot) (hv : v.row = (f i).row) : Fr (W.setCell ⟨q + 1, i, none⟩ (hptr v)) q k h t po m c (upd f i v) := by
  refine ⟨x.op.other (by omega) _ _, ?_, ?_, x.oh.other (by omega) _ _, x.or.other (by omega) _ _, fun j hj => ?_⟩
  · have := x.hs.set i (hptr v)
    rw [hcells_set f i v hi] at this
    exact this
  · rw [rcells_upd f i v hi, hv, ← rcells_at f i hi]
    exact x.rs.other (by omega) _ _
  · by_cases e : j = i
    · rw [e, upd_same, hv]; exact x.ten i hi
    · rw [upd_other f v e]; exact x.ten j hj
theorem Fr.there (x : Fr W q k h t po m c f) (i : Nat) (hi : i < 4) : W.there (q + 2) (i * 10) 10 := x.rs.there _ _ (by rw [rcells_length f x.ten]; omega)
theorem Fr.rput (x : Fr W q k h t po m c f) (i : Nat) (hi : i < 4) (v : Slot) (hg : v.g = (f i).g) (hv : v.row.length = 10) : Fr (W.setCells (q + 2) (i * 10) v.row) q k h t po m c (upd f i v) := by
  have hh : hcells (upd f i v) = hcells f := by
    rcases (show i = 0 ∨ i = 1 ∨ i = 2 ∨ i = 3 by omega) with rfl | rfl | rfl | rfl <;> simp [hcells, upd, hptr, hg]
  refine ⟨x.op.but (But.setCells _ _ _ _) (by omega), by rw [hh]; exact x.hs.but (But.setCells _ _ _ _) (by omega), ?_, x.oh.but (But.setCells _ _ _ _) (by omega), x.or.but (But.setCells _ _ _ _) (by omega), fun j hj => ?_⟩
  · have h := x.rs
    rw [rcells_at f i hi] at h
    have := h.setCells (vs := v.row) (by rw [hv, x.ten i hi])
    rw [preR_length f i hi x.ten] at this
    rw [rcells_upd f i v hi]
    exact this
  · by_cases e : j = i
    · rw [e, upd_same]; exact hv
    · rw [upd_other f v e]; exact x.ten j hj
theorem rowstore (W : World) (i : Nat) (v : Slot) (ht : W.there (q + 2) (i * 10) 10) (hv : v.row.length = 10) : (Instr.storeAt 40 (.pointer (some ⟨q + 2, i * 10, none⟩)) (.agg v.row.toArray)).run Tryd.prog W = .ok () (W.setCells (q + 2) (i * 10) v.row) :=
  run_storeAt_mid W (q + 2) (i * 10) 40 v.row.toArray (by rw [List.size_toArray, hv]; exact ht) (by rw [size40, List.size_toArray, hv]) (all_oneCell_toArray (row_one' v))
theorem row_size (v : Slot) (hv : v.row.length = 10) : v.row.toArray.size = 10 := by rw [List.size_toArray, hv]
theorem row_info (v : Slot) (hv : v.row.length = 10) : (Tryd.prog.info? 40).map (·.size) = some v.row.toArray.size := by rw [row_size v hv]; exact size40
/-- One of the document's four is stored. -/
theorem wpList_rput {ops : Array Oper} {rest : List Oper} {o : Oper} {a : Act} {Q : Exit → Act → World → Prop} (hgd : o.guard = none) (hd : o.dst = none) (y z : Operand) (ho : o.op = .store 40 y z) (x : Fr W q k h t po m c f) (i : Nat) (hi : i < 4) (v : Slot) (hv : v.row.length = 10)
    (hx : a.eval y = .pointer (some ⟨q + 2, i * 10, none⟩)) (hy : a.eval z = .agg v.row.toArray) (hn : wpList Tryd.prog ops Q rest a (W.setCells (q + 2) (i * 10) v.row)) : wpList Tryd.prog ops Q (o :: rest) a W :=
  wpList_store_mid hgd 40 y z ho (q + 2) (i * 10) v.row.toArray hx hy (by rw [row_size v hv]; exact x.there i hi) (row_info v hv) (all_oneCell_toArray (row_one' v)) (by rw [hd]; exact hn)
/-- One of the document's four is loaded. -/
theorem wpList_rget {ops : Array Oper} {rest : List Oper} {o : Oper} {a : Act} {Q : Exit → Act → World → Prop} (hgd : o.guard = none) (y : Operand) (ho : o.op = .load 40 y) (x : Fr W q k h t po m c f) (i : Nat) (hi : i < 4) (r : List Value) (hr : (f i).row = r)
    (hx : a.eval y = .pointer (some ⟨q + 2, i * 10, none⟩)) (hn : wpList Tryd.prog ops Q rest (a.put o.dst (.agg r.toArray)) W) : wpList Tryd.prog ops Q (o :: rest) a W :=
  wpList_load_mid hgd 40 y ho (q + 2) (i * 10) hx (f i).row _ (x.range i hi) Tryd.underlying40 rfl (by rw [x.ten i hi]; exact size40) (by rw [hr]; exact hn)
/-- What is answered lies in its two variables. -/
theorem Fr.out (x : Fr W q k h t po m c f) : (Instr.storeAt 35 (.pointer (some ⟨q + 3, 0, none⟩)) (.agg (hcells f).toArray)).run Tryd.prog W = .ok () (W.setRow (q + 3) (hcells f).toArray) := by
  simp only [Instr.storeAt, Instr.sureAddr, Sem.run_bind, Sem.run_pure, Result.andThen_ok, run_storeVar_row W (q + 3) _ _ _ _ x.oh (show (Tryd.prog.info? 35).map (·.size) = some (hcells f).toArray.size by rw [(zero_of_info zeroP4info).2]; rfl) rfl (all_oneCell_toArray (hcells_one f))]
theorem Fr.out2 (x : Fr W q k h t po m c f) : (Instr.storeAt 42 (.pointer (some ⟨q + 4, 0, none⟩)) (.agg (rcells f).toArray)).run Tryd.prog (W.setRow (q + 3) (hcells f).toArray) = .ok () ((W.setRow (q + 3) (hcells f).toArray).setRow (q + 4) (rcells f).toArray) := by
  have hg : Bl (W.setRow (q + 3) (hcells f).toArray) (q + 4) zeroR4 42 := x.or.setRow_other (by omega) _
  have hi : (Tryd.prog.info? 42).map (·.size) = some (rcells f).toArray.size := by rw [(zero_of_info zeroR4info).2, List.size_toArray, rcells_length f x.ten]
  have ho : zeroR4.toArray.size = (rcells f).toArray.size := by rw [List.size_toArray, List.size_toArray, rcells_length f x.ten]; rfl
  simp only [Instr.storeAt, Instr.sureAddr, Sem.run_bind, Sem.run_pure, Result.andThen_ok, run_storeVar_row _ (q + 4) _ _ _ _ hg hi ho (all_oneCell_toArray (rcells_one f))]
end
def start (w : World) (k h t : Int) (po : Option Addr) (m c : Nat) (f : Nat → Slot) : World :=
  ((((w.alloc (Obj.cells #[.int .i64 k, .int .i64 h, .int .i64 t, .slice po m c] 46)).alloc (Obj.cells (hcells f).toArray 35)).alloc (Obj.cells (rcells f).toArray 42)).alloc (Obj.cells zeroP4.toArray 35)).alloc (Obj.cells zeroR4.toArray 42)
theorem start_fr (w : World) (k h t : Int) (po : Option Addr) (m c : Nat) (f : Nat → Slot) (ht : ∀ j, j < 4 → (f j).row.length = 10) : Fr (start w k h t po m c f) w.heap.size k h t po m c f := by
  unfold start
  refine ⟨((((Bl.new w _ _).alloc _).alloc _).alloc _).alloc _, ?_, ?_, ?_, ?_, ht⟩
  · have := (((Bl.new (w.alloc (Obj.cells #[.int .i64 k, .int .i64 h, .int .i64 t, .slice po m c] 46)) (hcells f).toArray 35).alloc (Obj.cells (rcells f).toArray 42)).alloc (Obj.cells zeroP4.toArray 35)).alloc (Obj.cells zeroR4.toArray 42)
    rw [World.size_alloc] at this
    exact this
  · have := ((Bl.new ((w.alloc (Obj.cells #[.int .i64 k, .int .i64 h, .int .i64 t, .slice po m c] 46)).alloc (Obj.cells (hcells f).toArray 35)) (rcells f).toArray 42).alloc (Obj.cells zeroP4.toArray 35)).alloc (Obj.cells zeroR4.toArray 42)
    rw [World.size_alloc, World.size_alloc] at this
    exact this
  · have := (Bl.new (((w.alloc (Obj.cells #[.int .i64 k, .int .i64 h, .int .i64 t, .slice po m c] 46)).alloc (Obj.cells (hcells f).toArray 35)).alloc (Obj.cells (rcells f).toArray 42)) zeroP4.toArray 35).alloc (Obj.cells zeroR4.toArray 42)
    rw [World.size_alloc, World.size_alloc, World.size_alloc] at this
    exact this
  · have := Bl.new ((((w.alloc (Obj.cells #[.int .i64 k, .int .i64 h, .int .i64 t, .slice po m c] 46)).alloc (Obj.cells (hcells f).toArray 35)).alloc (Obj.cells (rcells f).toArray 42)).alloc (Obj.cells zeroP4.toArray 35)) zeroR4.toArray 42
    rw [World.size_alloc, World.size_alloc, World.size_alloc, World.size_alloc] at this
    exact this
theorem start_below (w : World) (k h t : Int) (po : Option Addr) (m c : Nat) (f : Nat → Slot) : Below w.heap.size w (start w k h t po m c f) := by
  unfold start
  exact (((((Below.refl _ _).alloc (Nat.le_refl _) _).alloc (by simp) _).alloc (by simp; omega) _).alloc (by simp; omega) _).alloc (by simp; omega) _
theorem results_cells_tmp {fn : Func} {p p2 q : Tmp} {ty ty2 : TypeId} (h : fn.results = #[.cell p ty, .cell p2 ty2, .tmp q]) (tmps : Array Value) (w : World) (g g2 : Nat) (t t2 : TypeId) (cs cs2 : Array Value) (fr fr2 : Nat × Nat) (n n2 : Nat) (e e2 : TypeId)
    (hp : tmps.getD p undef = .pointer (some ⟨g, 0, none⟩)) (hg : w.heap[g]? = some (.cells cs t fr)) (hu : Tryd.prog.underlying ty = some (.array n e)) (hi : (Tryd.prog.info? ty).map (·.size) = some cs.size)
    (hp2 : tmps.getD p2 undef = .pointer (some ⟨g2, 0, none⟩)) (hg2 : w.heap[g2]? = some (.cells cs2 t2 fr2)) (hu2 : Tryd.prog.underlying ty2 = some (.array n2 e2)) (hi2 : (Tryd.prog.info? ty2).map (·.size) = some cs2.size) :
    (results fn tmps).run Tryd.prog w = .ok (.tuple #[.agg cs, .agg cs2, tmps.getD q undef]) w := by
  have hp' : tmps[p]?.getD undef = .pointer (some ⟨g, 0, none⟩) := by simpa using hp
  have hp2' : tmps[p2]?.getD undef = .pointer (some ⟨g2, 0, none⟩) := by simpa using hp2
  simp [results, h, hp', hp2', asAddr, run_loadVar_row w g t ty cs fr _ hg hu rfl hi, run_loadVar_row w g2 t2 ty2 cs2 fr2 _ hg2 hu2 rfl hi2]
section
variable {P : Program} {ops : Array Oper} {Q : Exit → Act → World → Prop} {md : Region.Mode} {S : World → Prop}
theorem heldStore {i : Nat} {oi : Oper} {fuel : Nat} {listed : Array Bool} {a : Act} {w w' : World} (hi : ops[i]? = some oi) (hd : oi.dst = none)
    (hr : Region.ready md ops listed = [i]) (hw : Region.wanted oi (yielded ops a.tmps) = true) (hv : (execOp a.eval oi).run P w = .ok .skip w') (hS : S w')
    (h : wpAnyH P md ops Q S fuel (listed.setIfInBounds i true) a w') : wpAnyH P md ops Q S (fuel + 1) listed a w := by
  refine wpAnyH_all hr (by simp) ?_
  intro j hj
  obtain rfl : j = i := by simpa using hj
  unfold wpOp
  simp only [hi]
  rw [if_pos hw]
  refine .inl ?_
  unfold Oper.wp
  rw [hv, Oper.upon_skip]
  simp only [hd]
  exact ⟨hS, h⟩
end
end Go.Proofs.YtjdglpfjemoodaaDoor
/- A script in memory: its steps, and the bytes that they bring. -/
namespace Go.Proofs.YtjdglpfjemoodaaDoor
open Go.RowKit

structure Item where
  k : Int
  h : Int
  t : Int
  po : Option Addr
  c : Nat
  ys : List Nat
def Item.cells (q : Item) : List Value := [.int .i64 q.k, .int .i64 q.h, .int .i64 q.t, .slice q.po q.ys.length q.c]
structure Item.ok (q : Item) (w : World) : Prop where
  h : -9223372036854775808 ≤ q.h ∧ q.h ≤ 9223372036854775807
  t : -9223372036854775808 ≤ q.t ∧ q.t ≤ 9223372036854775807
  bytes : ∀ y ∈ q.ys, y < 256
  row : Row w q.po q.ys
def ORow (w : World) (so : Option Addr) (l : List Item) : Prop := l = [] ∨ ∃ b off, so = some ⟨b, off, none⟩ ∧ ∀ i q, l[i]? = some q → w.rangeAt b (off + i * 4) q.cells ∧ q.ok w
def tot (l : List Item) : Nat := (l.map (fun q => q.ys.length)).sum
theorem tot_succ (l : List Item) (k : Nat) (q : Item) (h : l[k]? = some q) : tot (l.take (k + 1)) = tot (l.take k) + q.ys.length := by
  rw [List.take_add_one, h]
  simp [tot]
theorem tot_le (l : List Item) (k : Nat) : tot (l.take k) ≤ tot l := by
  have : tot l = tot (l.take k) + tot (l.drop k) := by
    unfold tot
    rw [← List.sum_append, ← List.map_append, List.take_append_drop]
  omega
theorem range_block {w : World} {b o : Nat} {cs : List Value} (h : w.rangeAt b o cs) (hc : cs ≠ []) : b < w.heap.size := by
  obtain ⟨v, r, rfl⟩ := List.exists_cons_of_ne_nil hc
  exact World.block_lt_of_cell? w ⟨b, o + 0, none⟩ (h 0 v rfl)
theorem range_keep {w w' : World} {b o B : Nat} {cs : List Value} (h : w.rangeAt b o cs) (hb : Below B w w') (hB : b < B) : w'.rangeAt b o cs := fun j v hv => by
  rw [World.cell?_of_block (hb.block b hB)]
  exact h j v hv
theorem size46 : (Tryd.prog.info? 46).map (·.size) = some 4 := by kernel_rfl
theorem item_load (q : Item) {W : World} {b o : Nat} (h : W.rangeAt b o q.cells) : (Instr.loadAt 46 (.pointer (some ⟨b, o, none⟩))).run Tryd.prog W = .ok (.agg q.cells.toArray) W :=
  run_loadAt_mid W b o 46 q.cells _ h Tryd.underlying46 rfl size46
def four (g0 g1 g2 g3 : Nat) (i : Nat) : Nat := match i with | 0 => g0 | 1 => g1 | 2 => g2 | _ => g3
def begun (g0 g1 g2 g3 : Nat) : Nat → Slot := fun i => ⟨four g0 g1 g2 g3 i, first8, 0, 0, 0, none, []⟩
theorem begun_fits {W : World} {B g0 g1 g2 g3 : Nat} (h0 : HState W g0 first8 0 []) (h1 : HState W g1 first8 0 []) (h2 : HState W g2 first8 0 []) (h3 : HState W g3 first8 0 []) (hB : B ≤ g0) (h01 : g0 < g1) (h12 : g1 < g2) (h23 : g2 < g3) : Fits W B 64 (begun g0 g1 g2 g3) := by
  have hf : ∀ i, i < 4 → HState W (four g0 g1 g2 g3 i) first8 0 [] ∧ B ≤ four g0 g1 g2 g3 i := fun i hi => by
    rcases (show i = 0 ∨ i = 1 ∨ i = 2 ∨ i = 3 by omega) with rfl | rfl | rfl | rfl
    · exact ⟨h0, hB⟩
    · exact ⟨h1, by show B ≤ g1; omega⟩
    · exact ⟨h2, by show B ≤ g2; omega⟩
    · exact ⟨h3, by show B ≤ g3; omega⟩
  refine ⟨fun i hi => ⟨(hf i hi).1, first8_lt, fun _ => rfl, rfl, Nat.le_refl _, .inl rfl, Nat.zero_le _, Nat.zero_le _, (hf i hi).2⟩, fun i j hi hj hne => ?_, fun i j _ _ hne => absurd rfl hne⟩
  show four g0 g1 g2 g3 i ≠ four g0 g1 g2 g3 j
  rcases (show i = 0 ∨ i = 1 ∨ i = 2 ∨ i = 3 by omega) with rfl | rfl | rfl | rfl <;> rcases (show j = 0 ∨ j = 1 ∨ j = 2 ∨ j = 3 by omega) with rfl | rfl | rfl | rfl <;> simp [four] <;> omega
theorem ten_of {W : World} {B lid : Nat} {f : Nat → Slot} (h : Fits W B lid f) : ∀ j, j < 4 → (f j).row.length = 10 := fun j hj => (h.each j hj).row10
/-- Behind a step: what the law's own two variables hold is as it was; the four are f'. -/
structure Aft (W : World) (p3 p4 : Nat) (f f' : Nat → Slot) (w : World) (lid : Nat) : Prop where
  hs : Bl W p3 (hcells f) 35
  rs : Bl W p4 (rcells f) 42
  fits : Fits W w.heap.size lid f'
  below : Below w.heap.size w W
  f3 : Free f' p3
  f4 : Free f' p4
theorem free_young {W : World} {B lid p : Nat} {f : Nat → Slot} (h : Fits W B lid f) (hp : W.heap.size ≤ p) : Free f p := fun a ha => ⟨by have := (h.each a ha).st.lt; omega, fun hne b hb => by have := (h.each a ha).old hne b hb; omega⟩
theorem kept_bl {f : Nat → Slot} {w W : World} {p : Nat} {cs : List Value} {t : TypeId} (h : Kept f w W) (hf : Free f p) (x : Bl w p cs t) : Bl W p cs t := (h p x.lt (fun i hi => (hf i hi).1)).trans x
theorem aft_of {w wr Wc w2 : World} {p3 p4 lid : Nat} {f f' : Nat → Slot} (h3 : Bl wr p3 (hcells f) 35) (h4 : Bl wr p4 (rcells f) 42) (hf : Free f p3 ∧ Free f p4) (hb : Below w.heap.size w wr) (hc : Below wr.heap.size wr Wc)
    (h2 : Fits w2 w.heap.size lid f' ∧ Below w.heap.size Wc w2 ∧ Kept f Wc w2 ∧ ∀ p, p < Wc.heap.size → Free f p → Free f' p) : Aft w2 p3 p4 f f' w lid :=
  ⟨kept_bl h2.2.2.1 hf.1 (h3.keep hc), kept_bl h2.2.2.1 hf.2 (h4.keep hc), h2.1, (hb.trans (hc.mono hb.size)).trans h2.2.1, h2.2.2.2 p3 (h3.keep hc).lt hf.1, h2.2.2.2 p4 (h4.keep hc).lt hf.2⟩
theorem Aft.keep {W W' w : World} {p3 p4 lid : Nat} {f f' : Nat → Slot} (x : Aft W p3 p4 f f' w lid) (hb : Below W.heap.size W W') : Aft W' p3 p4 f f' w lid :=
  ⟨x.hs.keep hb, x.rs.keep hb, x.fits.keep hb, x.below.trans (hb.mono x.below.size), x.f3, x.f4⟩
/-- What is laid into the two variables that take the answers. -/
theorem Aft.out {W w : World} {p3 p4 p6 p7 lid : Nat} {f f' : Nat → Slot} (x : Aft W p3 p4 f f' w lid) (h6 : Bl W p6 zeroP4 35) (h7 : Bl W p7 zeroR4 42) (f6 : Free f' p6) (f7 : Free f' p7) (n67 : p6 ≠ p7) (n63 : p6 ≠ p3) (n64 : p6 ≠ p4) (n73 : p7 ≠ p3) (n74 : p7 ≠ p4) (y6 : w.heap.size ≤ p6) (y7 : w.heap.size ≤ p7) :
    (Instr.storeAt 35 (.pointer (some ⟨p6, 0, none⟩)) (.agg (hcells f').toArray)).run Tryd.prog W = .ok () (W.setRow p6 (hcells f').toArray) ∧
    (Instr.storeAt 42 (.pointer (some ⟨p7, 0, none⟩)) (.agg (rcells f').toArray)).run Tryd.prog (W.setRow p6 (hcells f').toArray) = .ok () ((W.setRow p6 (hcells f').toArray).setRow p7 (rcells f').toArray) ∧
    Aft (W.setRow p6 (hcells f').toArray) p3 p4 f f' w lid ∧ Aft ((W.setRow p6 (hcells f').toArray).setRow p7 (rcells f').toArray) p3 p4 f f' w lid ∧
    Bl ((W.setRow p6 (hcells f').toArray).setRow p7 (rcells f').toArray) p6 (hcells f') 35 ∧ Bl ((W.setRow p6 (hcells f').toArray).setRow p7 (rcells f').toArray) p7 (rcells f') 42 := by
  have ht := ten_of x.fits
  have hi : (Tryd.prog.info? 35).map (·.size) = some (hcells f').toArray.size := by rw [(zero_of_info zeroP4info).2]; rfl
  have hi2 : (Tryd.prog.info? 42).map (·.size) = some (rcells f').toArray.size := by rw [(zero_of_info zeroR4info).2, List.size_toArray, rcells_length f' ht]
  have ho2 : zeroR4.toArray.size = (rcells f').toArray.size := by rw [List.size_toArray, List.size_toArray, rcells_length f' ht]; rfl
  have h7' : Bl (W.setRow p6 (hcells f').toArray) p7 zeroR4 42 := h7.setRow_other (fun e => n67 e.symm) _
  have a1 : Aft (W.setRow p6 (hcells f').toArray) p3 p4 f f' w lid := ⟨x.hs.setRow_other (fun e => n63 e.symm) _, x.rs.setRow_other (fun e => n64 e.symm) _, x.fits.but (But.setRow _ _ _) (fun a ha => (f6 a ha).1) (fun a ha => (f6 a ha).2), below_setRow x.below y6 _, x.f3, x.f4⟩
  have a2 : Aft ((W.setRow p6 (hcells f').toArray).setRow p7 (rcells f').toArray) p3 p4 f f' w lid := ⟨a1.hs.setRow_other (fun e => n73 e.symm) _, a1.rs.setRow_other (fun e => n74 e.symm) _, a1.fits.but (But.setRow _ _ _) (fun a ha => (f7 a ha).1) (fun a ha => (f7 a ha).2), below_setRow a1.below y7 _, x.f3, x.f4⟩
  refine ⟨?_, ?_, a1, a2, (h6.setRow _).setRow_other n67 _, h7'.setRow _⟩
  · simp only [Instr.storeAt, Instr.sureAddr, Sem.run_bind, Sem.run_pure, Result.andThen_ok, run_storeVar_row W p6 _ _ _ _ h6 hi rfl (all_oneCell_toArray (hcells_one f'))]
  · simp only [Instr.storeAt, Instr.sureAddr, Sem.run_bind, Sem.run_pure, Result.andThen_ok, run_storeVar_row _ p7 _ _ _ _ h7' hi2 ho2 (all_oneCell_toArray (rcells_one f'))]
/-- The law's own two variables take what is answered. -/
theorem take_back {W w : World} {p3 p4 lid : Nat} {f f' : Nat → Slot} (x : Aft W p3 p4 f f' w lid) (n34 : p3 ≠ p4) (y3 : w.heap.size ≤ p3) (y4 : w.heap.size ≤ p4) (ht0 : ∀ j, j < 4 → (f j).row.length = 10) :
    (Instr.storeAt 35 (.pointer (some ⟨p3, 0, none⟩)) (.agg (hcells f').toArray)).run Tryd.prog W = .ok () (W.setRow p3 (hcells f').toArray) ∧
    (Instr.storeAt 42 (.pointer (some ⟨p4, 0, none⟩)) (.agg (rcells f').toArray)).run Tryd.prog (W.setRow p3 (hcells f').toArray) = .ok () ((W.setRow p3 (hcells f').toArray).setRow p4 (rcells f').toArray) ∧
    Aft ((W.setRow p3 (hcells f').toArray).setRow p4 (rcells f').toArray) p3 p4 f' f' w lid := by
  have ht := ten_of x.fits
  have hi : (Tryd.prog.info? 35).map (·.size) = some (hcells f').toArray.size := by rw [(zero_of_info zeroP4info).2]; rfl
  have hi2 : (Tryd.prog.info? 42).map (·.size) = some (rcells f').toArray.size := by rw [(zero_of_info zeroR4info).2, List.size_toArray, rcells_length f' ht]
  have ho2 : (rcells f).toArray.size = (rcells f').toArray.size := by rw [List.size_toArray, List.size_toArray, rcells_length f' ht, rcells_length f ht0]
  have h4' : Bl (W.setRow p3 (hcells f').toArray) p4 (rcells f) 42 := x.rs.setRow_other (fun e => n34 e.symm) _
  have a1 : Fits (W.setRow p3 (hcells f').toArray) w.heap.size lid f' := x.fits.but (But.setRow _ _ _) (fun a ha => (x.f3 a ha).1) (fun a ha => (x.f3 a ha).2)
  refine ⟨?_, ?_, (x.hs.setRow _).setRow_other n34 _, h4'.setRow _, a1.but (But.setRow _ _ _) (fun a ha => (x.f4 a ha).1) (fun a ha => (x.f4 a ha).2), below_setRow (below_setRow x.below y3 _) y4 _, x.f3, x.f4⟩
  · simp only [Instr.storeAt, Instr.sureAddr, Sem.run_bind, Sem.run_pure, Result.andThen_ok, run_storeVar_row W p3 _ _ _ _ x.hs hi rfl (all_oneCell_toArray (hcells_one f'))]
  · simp only [Instr.storeAt, Instr.sureAddr, Sem.run_bind, Sem.run_pure, Result.andThen_ok, run_storeVar_row _ p4 _ _ _ _ h4' hi2 ho2 (all_oneCell_toArray (rcells_one f'))]
theorem hall_at {W : World} {p : Nat} {f : Nat → Slot} (x : Bl W p (hcells f) 35) : (Instr.loadAt 35 (.pointer (some ⟨p, 0, none⟩))).run Tryd.prog W = .ok (.agg (hcells f).toArray) W := by
  simp only [Instr.loadAt, Instr.sureAddr, Sem.run_bind, Sem.run_pure, Result.andThen_ok, run_loadVar_row W p _ _ _ _ _ x Tryd.underlying35 rfl (by rw [(zero_of_info zeroP4info).2]; rfl)]
theorem rall_at {W : World} {p : Nat} {f : Nat → Slot} (x : Bl W p (rcells f) 42) (ht : ∀ j, j < 4 → (f j).row.length = 10) : (Instr.loadAt 42 (.pointer (some ⟨p, 0, none⟩))).run Tryd.prog W = .ok (.agg (rcells f).toArray) W := by
  simp only [Instr.loadAt, Instr.sureAddr, Sem.run_bind, Sem.run_pure, Result.andThen_ok, run_loadVar_row W p _ _ _ _ _ x Tryd.underlying42 rfl (by rw [(zero_of_info zeroR4info).2]; simp [rcells_length f ht])]
theorem hcell_at {W : World} {p : Nat} {f : Nat → Slot} (x : Bl W p (hcells f) 35) (i : Nat) (hi : i < 4) : W.cell? ⟨p, i, none⟩ = some (.pointer (some ⟨(f i).g, 0, none⟩)) := by rw [x.cell, hcells_get f i hi]; rfl
theorem rload_at {W : World} {p : Nat} {f : Nat → Slot} (x : Bl W p (rcells f) 42) (ht : ∀ j, j < 4 → (f j).row.length = 10) (i : Nat) (hi : i < 4) : (Instr.loadAt 40 (.pointer (some ⟨p, i * 10, none⟩))).run Tryd.prog W = .ok (.agg (f i).row.toArray) W := by
  have h := x
  rw [rcells_at f i hi] at h
  have hr := h.range
  rw [preR_length f i hi ht] at hr
  exact run_loadAt_mid W p (i * 10) 40 (f i).row _ hr Tryd.underlying40 rfl (by rw [size40, ht i hi])
/-- What is loaded while a step is played. -/
def Ess (b o p3 p4 : Nat) (q : Item) (f : Nat → Slot) (W : World) : Prop := W.rangeAt b o q.cells ∧ Bl W p3 (hcells f) 35 ∧ Bl W p4 (rcells f) 42
theorem Ess.keep {b o p3 p4 : Nat} {q : Item} {f : Nat → Slot} {W W' : World} (h : Ess b o p3 p4 q f W) (hb : Below W.heap.size W W') : Ess b o p3 p4 q f W' := ⟨range_keep h.1 hb (range_block h.1 (by simp [Item.cells])), h.2.1.keep hb, h.2.2.keep hb⟩
theorem Aft.ess {W w : World} {b o p3 p4 lid : Nat} {q : Item} {f f' : Nat → Slot} (x : Aft W p3 p4 f f' w lid) (h : w.rangeAt b o q.cells) : Ess b o p3 p4 q f W := ⟨range_keep h x.below (range_block h (by simp [Item.cells])), x.hs, x.rs⟩
section
variable {P : Program} {ops : Array Oper} {Q : Exit → Act → World → Prop}
theorem wpOp_call {R : Act → World → Prop} {i : Nat} {oi : Oper} {a : Act} {w : World} (d : Nat) (f : FuncId) (args : Array Value) (hi : ops[i]? = some oi) (hd : oi.dst = some d) (hw : Region.wanted oi (yielded ops a.tmps) = true)
    (hv : (execOp a.eval oi).run P w = .ok (.enter f args) w) (h : Calls P f args w fun e w' => ∃ v, e = .returned v ∧ R (a.put (some d) v) w') : wpOp P ops Q i R a w := by
  unfold wpOp
  simp only [hi]
  rw [if_pos hw]
  refine .inl ?_
  unfold Oper.wp
  rw [hv, Oper.upon_enter]
  refine h.mono ?_
  rintro e w' ⟨v, rfl, h⟩
  simp only [hd]
  exact h
theorem wpOp_one {R : Act → World → Prop} {i : Nat} {oi : Oper} {a : Act} {w w' : World} (d : Nat) (v : Value) (hi : ops[i]? = some oi) (hd : oi.dst = some d) (hw : Region.wanted oi (yielded ops a.tmps) = true)
    (hv : (execOp a.eval oi).run P w = .ok (.value v) w') (h : R (a.put (some d) v) w') : wpOp P ops Q i R a w := by
  unfold wpOp
  simp only [hi]
  rw [if_pos hw]
  refine .inl ?_
  unfold Oper.wp
  rw [hv, Oper.upon_value]
  simp only [hd]
  exact h
end
end Go.Proofs.YtjdglpfjemoodaaDoor
/- What a reading of arguments gives of a script: its steps in memory, the bytes that they bring within the bulk that is read. -/
namespace Go.Proofs.YtjdglpfjemoodaaDoor
open Go.ChangeShapes Go.WideShapes Go.ChangeAt Go.RowKit

theorem bulkAll_append {H : Type} (l r : List (DataW H)) : Rows.uptoBulkAll (l ++ r) = Rows.uptoBulkAll l + Rows.uptoBulkAll r := by
  induction l with
  | nil => simp [Rows.uptoBulkAll]
  | cons x l ih => simp only [List.cons_append, Rows.uptoBulkAll, ih]; omega
theorem bulk_tot {H : Type} (f : Nat → Item) (g : Nat → DataW H) (len : Nat) (h : ∀ r, r < len → (f r).ys.length + 1 ≤ Rows.uptoBulk (g r)) : tot ((List.range len).map f) + len ≤ Rows.uptoBulkAll ((List.range len).map g) := by
  induction len with
  | zero => simp [tot, Rows.uptoBulkAll]
  | succ k ih =>
    rw [List.range_succ, List.map_append, List.map_append, bulkAll_append]
    have h1 := ih (fun r hr => h r (by omega))
    have h2 := h k (by omega)
    have h3 : tot ((List.range k).map f ++ [k].map f) = tot ((List.range k).map f) + (f k).ys.length := by simp [tot]
    rw [h3]
    simp only [List.map_cons, List.map_nil, Rows.uptoBulkAll]
    omega
theorem cells46 : Tryd.prog.cellsOf 46 = 4 := by kernel_rfl
theorem four_of {α : Type} {l : List α} (h : l.length = 4) : ∃ a b c d, l = [a, b, c, d] := by
  match l, h with
  | [a, b, c, d], _ => exact ⟨a, b, c, d, rfl⟩
theorem open_step {H : Type} {enc : TypeId × Value → H} {W : World} {n : Nat} {cs : List Value} {x : DataW H × List MemPlace} (hl : cs.length = 4)
    (h : DataW.trod enc Tryd.prog W 0 (fun _ => true) true n 46 cs = some x) : ∃ q : Item, cs = q.cells ∧ q.ok W ∧ q.ys.length + 1 ≤ Rows.uptoBulk x.1 := by
  obtain ⟨ys, k, _, hx, _, hlen, hfs⟩ := DataW.trod_struct Tryd.underlying46 h
  obtain ⟨v0, v1, v2, v3, rfl⟩ := four_of hl
  obtain ⟨y0, y1, y2, y3, rfl⟩ := four_of (l := ys) (by rw [hlen]; rfl)
  have c3 : Tryd.prog.cellsOf 3 = 1 := by kernel_rfl
  have c26 : Tryd.prog.cellsOf 26 = 1 := by kernel_rfl
  have g0 := hfs 0 _ rfl
  have g1 := hfs 1 _ rfl
  have g2 := hfs 2 _ rfl
  have g3 := hfs 3 _ rfl
  simp [c3, c26] at g0 g1 g2 g3
  obtain ⟨z0, e0, x0, _⟩ := DataW.trod_int Tryd.underlying3 g0
  obtain ⟨z1, e1, x1, w1⟩ := DataW.trod_int Tryd.underlying3 g1
  obtain ⟨z2, e2, x2, w2⟩ := DataW.trod_int Tryd.underlying3 g2
  obtain ⟨ao, xs, cap, rfl, _, hr, hb, hbulk, _⟩ := field_bytes g3
  simp only [List.cons.injEq, and_true] at e0 e1 e2
  subst e0
  subst e1
  subst e2
  refine ⟨⟨z0, z1, z2, ao, cap, xs⟩, rfl, ⟨bounds_i64 w1, bounds_i64 w2, hb, hr⟩, ?_⟩
  rw [hx]
  simp only [List.map_cons, List.map_nil, Rows.uptoBulk, Rows.uptoBulkAll]
  omega
theorem open_ops {H : Type} {enc : TypeId × Value → H} {W : World} {base : Nat} {v : Value} {d : DataW H} {p : List MemPlace} (hval : Value.okWide Tryd.prog W .any base 32 v)
    (h : DataW.Trod enc Tryd.prog W 0 (fun _ => true) true 32 v d p) :
    ∃ so l pc, v = .slice so l.length pc ∧ ORow W so l ∧ (∀ x ∈ p, x.block < W.heap.size) ∧ tot l + l.length ≤ Rows.uptoBulk d := by
  obtain ⟨a0, len0, cap0, rfl⟩ := okWide_slice Tryd.underlying32 hval
  obtain ⟨fuel, hf⟩ := h
  have lt0 : ∀ x ∈ p, x.block < W.heap.size := DataW.trod_lt fuel _ _ _ hf
  rcases Deep.open_slice Tryd.underlying32 hf with ⟨hcs, hx⟩ | ⟨a, len, cap, m, n, D, Pl, hcs, _, hl, hm, hmm, hx, hc⟩
  · simp [Value.cells] at hcs
    obtain ⟨rfl, rfl, rfl⟩ := hcs
    simp only [Prod.mk.injEq] at hx
    obtain ⟨rfl, _⟩ := hx
    exact ⟨none, [], 0, rfl, .inl rfl, lt0, by simp [tot]⟩
  · simp [Value.cells] at hcs
    obtain ⟨rfl, rfl, rfl⟩ := hcs
    simp only [Prod.mk.injEq] at hx
    obtain ⟨rfl, _⟩ := hx
    have hlm : len0 ≤ m := by rw [hmm]; split <;> omega
    have each : ∀ i, i < len0 → ∃ q : Item, (∀ j, j < 4 → W.cell? (a.add (i * 4 + j)) = q.cells[j]?) ∧ q.ok W ∧ q.ys.length + 1 ≤ Rows.uptoBulk (D i) := fun i hi => by
      obtain ⟨cs', h1, h2⟩ := hc i (by omega)
      rw [cells46] at h1
      obtain ⟨_, hlen, hcell⟩ := World.cells?_some h1
      obtain ⟨q, rfl, hok, hbk⟩ := open_step hlen h2
      refine ⟨q, fun j hj => ?_, hok, hbk⟩
      rw [← Deep.add_add]
      exact hcell j hj
    have hinh : Inhabited Item := ⟨⟨0, 0, 0, none, 0, []⟩⟩
    obtain ⟨f, hfi⟩ := Deep.choose_lt each
    refine ⟨some a, (List.range len0).map f, cap0, by simp, ?_, lt0, ?_⟩
    · by_cases h0 : len0 = 0
      · exact .inl (by rw [h0]; rfl)
      · have h00 := (hfi 0 (by omega)).1 0 (by omega)
        obtain ⟨b, off, q⟩ := a
        have hq : q = none := by
          have : W.cell? ((⟨b, off, q⟩ : Addr).add 0) = some _ := h00.trans (by rfl)
          simpa [Addr.add] using World.cell?_spot this
        subst hq
        refine .inr ⟨b, off, rfl, fun i q hiq => ?_⟩
        rw [List.getElem?_map] at hiq
        obtain ⟨i', hi', rfl⟩ := Option.map_eq_some_iff.1 hiq
        obtain ⟨hil, e⟩ := List.getElem?_eq_some_iff.1 hi'
        rw [List.length_range] at hil
        rw [List.getElem_range] at e
        subst e
        refine ⟨fun j v hv => ?_, (hfi i hil).2.1⟩
        have hj : j < 4 := (List.getElem?_eq_some_iff.1 hv).1
        have := (hfi i hil).1 j hj
        rw [Go.WideShapes.add_plain] at this
        rw [Nat.add_assoc, this]
        exact hv
    · have := bulk_tot (H := H) f D len0 (fun r hr => (hfi r hr).2.2)
      simp only [Rows.uptoBulk, List.length_map, List.length_range]
      omega
end Go.Proofs.YtjdglpfjemoodaaDoor
