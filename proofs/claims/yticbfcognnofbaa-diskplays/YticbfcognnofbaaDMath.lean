/- The disk of the document as plain data: names, files, the directory, its changes, the calls. -/
import Derived.Maps.OwnSet
import Derived.Sort.KeysCollected
namespace Go.Proofs.Yticbfcognnofbaa

abbrev Nm : Type := List UInt8
/-- A file: its bytes, how many of them are synced. -/
structure Fl where
  bys : List Nat
  syn : Nat
/-- A change of the directory. -/
structure Ch where
  fr : Nm
  tn : Nm
  fl : Nat
abbrev Dir : Type := List (Nm × Nat)

def dins (x : Nm × Nat) : Dir → Dir
  | [] => [x]
  | y :: r => if bytesBefore x.1 y.1 then x :: y :: r else y :: dins x r
def ddel (nm : Nm) (d : Dir) : Dir := d.filter fun p => !(p.1 == nm)
def dput (nm : Nm) (i : Nat) (d : Dir) : Dir := dins (nm, i) (ddel nm d)
def dget (nm : Nm) (d : Dir) : Option Nat := (d.find? fun p => p.1 == nm).map (·.2)
/-- A directory behind a change. -/
def chd (c : Ch) (d : Dir) : Dir :=
  let d1 := ddel c.fr d
  if c.tn = [] then d1 else dput c.tn c.fl d1

def Rising (d : Dir) : Prop := d.Pairwise fun p q => bytesBefore p.1 q.1 = true

theorem dins_mem (x : Nm × Nat) : ∀ (d : Dir) (p : Nm × Nat), p ∈ dins x d ↔ p = x ∨ p ∈ d
  | [], p => by simp [dins]
  | y :: r, p => by
    unfold dins
    split
    · simp
    · simp [dins_mem x r p]
      constructor
      · rintro (h | h | h)
        · exact .inr (.inl h)
        · exact .inl h
        · exact .inr (.inr h)
      · rintro (h | h | h)
        · exact .inr (.inl h)
        · exact .inl h
        · exact .inr (.inr h)
theorem dins_length (x : Nm × Nat) : ∀ d : Dir, (dins x d).length = d.length + 1
  | [] => rfl
  | y :: r => by
    unfold dins
    split
    · rfl
    · simp [dins_length x r]
theorem ddel_mem (nm : Nm) (d : Dir) (p : Nm × Nat) : p ∈ ddel nm d ↔ p ∈ d ∧ p.1 ≠ nm := by simp [ddel]
theorem dput_mem (nm : Nm) (i : Nat) (d : Dir) (p : Nm × Nat) : p ∈ dput nm i d ↔ p = (nm, i) ∨ (p ∈ d ∧ p.1 ≠ nm) := by rw [dput, dins_mem, ddel_mem]
theorem rising_del {nm : Nm} {d : Dir} (h : Rising d) : Rising (ddel nm d) := List.Pairwise.filter _ h
theorem rising_ins {x : Nm × Nat} : ∀ {d : Dir}, Rising d → (∀ p ∈ d, p.1 ≠ x.1) → Rising (dins x d)
  | [], _, _ => by simp [dins, Rising]
  | y :: r, h, hn => by
    unfold Rising at h
    rw [List.pairwise_cons] at h
    unfold dins
    by_cases hb : bytesBefore x.1 y.1 = true
    · rw [if_pos hb]
      refine List.pairwise_cons.2 ⟨fun q hq => ?_, List.pairwise_cons.2 h⟩
      rcases List.mem_cons.1 hq with rfl | hq
      · exact hb
      · exact WideShapes.bytes_trans _ _ _ hb (h.1 q hq)
    · rw [if_neg hb]
      refine List.pairwise_cons.2 ⟨fun q hq => ?_, rising_ins h.2 (fun p hp => hn p (by simp [hp]))⟩
      rcases (dins_mem x r q).1 hq with rfl | hq
      · rcases WideAt.bytes_total y.1 q.1 (hn y (by simp)) with h1 | h1
        · exact h1
        · exact absurd h1 hb
      · exact h.1 q hq
theorem rising_put {nm : Nm} {i : Nat} {d : Dir} (h : Rising d) : Rising (dput nm i d) := rising_ins (rising_del h) (fun p hp => ((ddel_mem nm d p).1 hp).2)
theorem rising_chd {c : Ch} {d : Dir} (h : Rising d) : Rising (chd c d) := by
  unfold chd
  simp only
  split
  · exact rising_del h
  · exact rising_put (rising_del h)
theorem Rising.inj {d : Dir} (h : Rising d) {p q : Nm × Nat} (hp : p ∈ d) (hq : q ∈ d) (e : p.1 = q.1) : p = q := by
  induction d with
  | nil => cases hp
  | cons x r ih =>
    unfold Rising at h
    rw [List.pairwise_cons] at h
    rcases List.mem_cons.1 hp with hp1 | hp1 <;> rcases List.mem_cons.1 hq with hq1 | hq1
    · rw [hp1, hq1]
    · have := h.1 q hq1; rw [← hp1, e, WideAt.bytes_irrefl] at this; cases this
    · have := h.1 p hp1; rw [← hq1, e, WideAt.bytes_irrefl] at this; cases this
    · exact ih h.2 hp1 hq1
theorem dget_some {nm : Nm} {d : Dir} {i : Nat} (h : dget nm d = some i) : (nm, i) ∈ d := by
  unfold dget at h
  rw [Option.map_eq_some_iff] at h
  obtain ⟨p, hp, rfl⟩ := h
  have h1 := List.mem_of_find?_eq_some hp
  have h2 := List.find?_some hp
  have h3 : p.1 = nm := by simpa using h2
  rw [← h3]
  exact h1
theorem dget_none {nm : Nm} {d : Dir} (h : dget nm d = none) : ∀ p ∈ d, p.1 ≠ nm := by
  unfold dget at h
  rw [Option.map_eq_none_iff, List.find?_eq_none] at h
  intro p hp e
  exact h p hp (by simp [e])
theorem dget_of {nm : Nm} {d : Dir} {i : Nat} (hr : Rising d) (h : (nm, i) ∈ d) : dget nm d = some i := by
  cases hg : dget nm d with
  | none => exact absurd rfl (dget_none hg _ h)
  | some j =>
    have := hr.inj (dget_some hg) h rfl
    rw [Prod.mk.injEq] at this
    rw [this.2]
theorem ddel_none {nm : Nm} {d : Dir} (h : dget nm d = none) : ddel nm d = d := by
  unfold ddel
  rw [List.filter_eq_self]
  intro p hp
  have := dget_none h p hp
  simp [this]
theorem ddel_length_le (nm : Nm) (d : Dir) : (ddel nm d).length ≤ d.length := List.length_filter_le _ _
theorem ddel_length_lt {nm : Nm} {d : Dir} {i : Nat} (h : dget nm d = some i) : (ddel nm d).length < d.length := by
  refine Nat.lt_of_le_of_ne (ddel_length_le _ _) (fun e => ?_)
  have := List.length_filter_eq_length_iff.1 e _ (dget_some h)
  simp at this
theorem ddel_nil {d : Dir} (h : ∀ p ∈ d, p.1 ≠ []) : ddel [] d = d := by
  unfold ddel
  rw [List.filter_eq_self]
  intro p hp
  simp [h p hp]

/-- The datum of a map that holds a directory: names to blocks. -/
def DD (bs : List Nat) (d : Dir) : DataW Unit := .map (d.map fun p => (.string p.1, .lit (.int .i64 ((bs.getD p.2 0 : Nat) : Int))))
theorem dd_ins (bs : List Nat) (nm : Nm) (i : Nat) : ∀ d : Dir, DataW.insert (Lit.string nm, (.lit (.int .i64 ((bs.getD i 0 : Nat) : Int)) : DataW Unit)) (d.map fun p => (.string p.1, .lit (.int .i64 ((bs.getD p.2 0 : Nat) : Int)))) = (dins (nm, i) d).map fun p => (.string p.1, .lit (.int .i64 ((bs.getD p.2 0 : Nat) : Int)))
  | [] => rfl
  | y :: r => by
    by_cases h : bytesBefore nm y.1 = true
    · simp [DataW.insert, Lit.before, dins, h]
    · have := dd_ins bs nm i r
      rw [List.map_cons, show dins (nm, i) (y :: r) = y :: dins (nm, i) r from if_neg h, List.map_cons, ← this]
      exact if_neg h
theorem dd_del (bs : List Nat) (nm : Nm) (d : Dir) : (DD bs d).del (.string nm) = DD bs (ddel nm d) := by
  rw [DD, DD, DataW.del_eq, ChangeMaps.delKey, List.filter_map]
  rfl
theorem dd_put (bs : List Nat) (nm : Nm) (i b : Nat) (d : Dir) (hb : bs[i]? = some b) : (DD bs d).put (.string nm) (.lit (.int .i64 (b : Int))) = DD bs (dput nm i d) := by
  have e : bs.getD i 0 = b := by simp [List.getD, hb]
  rw [DD, DD, DataW.put_eq, ChangeMaps.putKey, List.filter_map]
  have := dd_ins bs nm i (ddel nm d)
  rw [e] at this
  unfold dput
  rw [← this]
  rfl
theorem dd_at (bs : List Nat) (nm : Nm) (d : Dir) : (DD bs d).atKey (.string nm) .nil = match dget nm d with | some i => .lit (.int .i64 ((bs.getD i 0 : Nat) : Int)) | none => .nil := by
  unfold DD DataW.atKey dget
  simp only [List.find?_map]
  have e : ((fun p : Lit × DataW Unit => p.1.sameKey (.string nm)) ∘ fun p : Nm × Nat => ((.string p.1 : Lit), (.lit (.int .i64 ((bs.getD p.2 0 : Nat) : Int)) : DataW Unit))) = fun p => p.1 == nm := by
    funext p; rfl
  rw [e]
  cases d.find? fun p => p.1 == nm <;> rfl
theorem dd_size (bs : List Nat) (d : Dir) : Maps.size (DD bs d) = d.length := by simp [DD, Maps.size]
theorem dd_keys (bs : List Nat) (d : Dir) : strKeys (DD bs d) = d.map (·.1) := by simp [DD, strKeys, strOf, Function.comp_def]
theorem dd_has (bs : List Nat) (d : Dir) (nm : Nm) : Maps.has (DD bs d) (.string nm) = d.any (fun p => p.1 == nm) := by
  unfold DD
  rw [Maps.has_eq]
  simp only [List.any_map]
  rfl
/-- More files: the same datum, where the directory names the elder ones. -/
theorem dd_more (bs : List Nat) (b : Nat) (d : Dir) (h : ∀ p ∈ d, p.2 < bs.length) : DD (bs ++ [b]) d = DD bs d := by
  unfold DD
  congr 1
  apply List.map_congr_left
  intro p hp
  simp [List.getD, List.getElem?_append_left (h p hp)]
theorem before_le : ∀ (a b : List UInt8), bytesBefore a b = true → a ≤ b
  | [], _, _ => List.nil_le _
  | _ :: _, [], h => by simp [bytesBefore] at h
  | x :: r, y :: s, h => by
    simp only [bytesBefore, Bool.or_eq_true, Bool.and_eq_true, decide_eq_true_eq, beq_iff_eq] at h
    rcases h with h | ⟨rfl, h⟩
    · exact List.cons_le_cons_iff.2 (.inl h)
    · exact List.cons_le_cons_iff.2 (.inr ⟨rfl, before_le r s h⟩)
theorem sorted_keys {d : Dir} (h : Rising d) {ss : List (List UInt8)} (hp : ss.Perm (d.map (·.1))) : ss.mergeSort (fun x y => decide (x ≤ y)) = d.map (·.1) := by
  rw [mergeSort_of_perm hp]
  apply List.mergeSort_of_pairwise
  rw [List.pairwise_map]
  exact List.Pairwise.imp (fun hb => by simpa using before_le _ _ hb) h
end Go.Proofs.Yticbfcognnofbaa
