/- Rows of numbers, places swapped: what stays, what is sorted. -/
import Derived.Maps.OwnSet
namespace Go.Proofs.Ytmngmkbiibhmkaa

def gt (ds : List Nat) (i : Nat) : Nat := ds.getD i 0
def swp (ds : List Nat) (i j : Nat) : List Nat := (ds.set i (gt ds j)).set j (gt ds i)
theorem swp_len (ds : List Nat) (i j : Nat) : (swp ds i j).length = ds.length := by simp [swp]
theorem gt_set (ds : List Nat) (i x t : Nat) (hi : i < ds.length) : gt (ds.set i x) t = if t = i then x else gt ds t := by
  unfold gt
  by_cases h : t = i
  · subst h; simp [hi]
  · simp [h, List.getElem?_set_ne (Ne.symm h), List.getD]
theorem swp_gt {ds : List Nat} {i j : Nat} (hi : i < ds.length) (hj : j < ds.length) (t : Nat) : gt (swp ds i j) t = if t = j then gt ds i else if t = i then gt ds j else gt ds t := by
  unfold swp
  rw [gt_set _ _ _ _ (by simpa using hj), gt_set _ _ _ _ hi]
theorem swp_perm {ds : List Nat} {i j : Nat} (hi : i < ds.length) (hj : j < ds.length) : (swp ds i j).Perm ds := by
  have h := (Array.swap_perm (xs := ds.toArray) (i := i) (j := j) (by simpa using hi) (by simpa using hj)).toList
  have e : (ds.toArray.swap i j (by simpa using hi) (by simpa using hj)).toList = swp ds i j := by
    simp [Array.swap, swp, gt, List.getD, hi, hj]
  rw [e] at h
  simpa using h
/-- Of the places from a to b some have changed with one another. -/
structure SegP (a b : Nat) (ds es : List Nat) : Prop where
  perm : es.Perm ds
  out : ∀ t, t < a ∨ b ≤ t → gt es t = gt ds t
theorem SegP.refl (a b : Nat) (ds : List Nat) : SegP a b ds ds := ⟨.refl _, fun _ _ => rfl⟩
theorem SegP.trans {a b : Nat} {ds es fs : List Nat} (h : SegP a b ds es) (k : SegP a b es fs) : SegP a b ds fs := ⟨k.perm.trans h.perm, fun t ht => (k.out t ht).trans (h.out t ht)⟩
theorem SegP.mono {a b c d : Nat} {ds es : List Nat} (h : SegP a b ds es) (h1 : c ≤ a) (h2 : b ≤ d) : SegP c d ds es := ⟨h.perm, fun t ht => h.out t (by omega)⟩
theorem SegP.len {a b : Nat} {ds es : List Nat} (h : SegP a b ds es) : es.length = ds.length := h.perm.length_eq
theorem SegP.nodup {a b : Nat} {ds es : List Nat} (h : SegP a b ds es) (hn : ds.Nodup) : es.Nodup := h.perm.nodup_iff.2 hn
theorem seg_swp {a b i j : Nat} {ds : List Nat} (hb : b ≤ ds.length) (h1 : a ≤ i) (h2 : i < b) (h3 : a ≤ j) (h4 : j < b) : SegP a b ds (swp ds i j) :=
  ⟨swp_perm (by omega) (by omega), fun t ht => by rw [swp_gt (by omega) (by omega), if_neg (by omega), if_neg (by omega)]⟩
theorem gt_inj {ds : List Nat} (h : ds.Nodup) {i j : Nat} (hi : i < ds.length) (hj : j < ds.length) (e : gt ds i = gt ds j) : i = j := by
  unfold gt at e
  simp only [List.getD, List.getElem?_eq_getElem hi, List.getElem?_eq_getElem hj, Option.getD_some] at e
  exact (List.getElem_inj h).1 e
theorem gt_mem {ds : List Nat} {i : Nat} (hi : i < ds.length) : gt ds i ∈ ds := by
  unfold gt
  simp only [List.getD, List.getElem?_eq_getElem hi, Option.getD_some]
  exact List.getElem_mem hi
theorem mem_gt {ds : List Nat} {x : Nat} (h : x ∈ ds) : ∃ i, i < ds.length ∧ gt ds i = x := by
  obtain ⟨i, hi, e⟩ := List.getElem_of_mem h
  exact ⟨i, hi, by unfold gt; simp [List.getD, hi, e]⟩
theorem SegP.mem {a b : Nat} {ds es : List Nat} (h : SegP a b ds es) (hn : ds.Nodup) {i : Nat} (h1 : a ≤ i) (h2 : i < b) (hb : b ≤ ds.length) : ∃ j, a ≤ j ∧ j < b ∧ gt es i = gt ds j := by
  have hl := h.len
  obtain ⟨j, hj, e⟩ := mem_gt (h.perm.mem_iff.1 (gt_mem (ds := es) (i := i) (by omega)))
  by_cases hin : a ≤ j ∧ j < b
  · exact ⟨j, hin.1, hin.2, e.symm⟩
  · have h3 := h.out j (by omega)
    rw [← h3] at e
    have := gt_inj (h.nodup hn) (by omega) (by omega) e
    omega
def Srt (a b : Nat) (ds : List Nat) : Prop := ∀ p q, a ≤ p → p < q → q < b → gt ds p ≤ gt ds q
/-- Sorted up to i, but for the place j. -/
def InsJ (a j i : Nat) (ds : List Nat) : Prop := ∀ p q, a ≤ p → p < q → q ≤ i → q ≠ j → gt ds p ≤ gt ds q
theorem insJ_start {a i : Nat} {ds : List Nat} (h : Srt a i ds) : InsJ a i i ds := fun p q h1 h2 h3 h4 => h p q h1 h2 (by omega)
theorem insJ_swap {a j i : Nat} {ds : List Nat} (h : InsJ a j i ds) (ha : a < j) (hi : j ≤ i) (hl : i < ds.length) (hlt : gt ds j < gt ds (j - 1)) : InsJ a (j - 1) i (swp ds j (j - 1)) := by
  intro p q h1 h2 h3 h4
  rw [swp_gt (by omega) (by omega), swp_gt (by omega) (by omega)]
  by_cases hq : q = j
  · subst hq
    rw [if_neg (by omega : ¬ q = q - 1), if_pos rfl]
    by_cases hp : p = q - 1
    · rw [if_pos hp]; omega
    · rw [if_neg hp, if_neg (by omega)]
      exact h p (q - 1) h1 (by omega) (by omega) (by omega)
  · rw [if_neg h4, if_neg hq]
    by_cases hp : p = j - 1
    · rw [if_pos hp]
      exact h j q (by omega) (by omega) h3 hq
    · rw [if_neg hp]
      by_cases hp2 : p = j
      · rw [if_pos hp2]
        exact h (j - 1) q (by omega) (by omega) h3 hq
      · rw [if_neg hp2]
        exact h p q h1 h2 h3 hq
theorem insJ_stop {a j i : Nat} {ds : List Nat} (h : InsJ a j i ds) (hj : j ≤ a ∨ gt ds (j - 1) ≤ gt ds j) : Srt a (i + 1) ds := by
  intro p q h1 h2 h3
  by_cases hq : q = j
  · subst hq
    rcases hj with hj | hj
    · omega
    · by_cases hp : p = q - 1
      · rw [hp]; exact hj
      · exact Nat.le_trans (h p (q - 1) h1 (by omega) (by omega) (by omega)) hj
  · exact h p q h1 h2 (by omega) hq
/-- A heap from lo on, of hi places behind f. -/
def HeapF (f lo hi : Nat) (ds : List Nat) : Prop := ∀ k c, lo ≤ k → (c = 2 * k + 1 ∨ c = 2 * k + 2) → c < hi → gt ds (f + c) ≤ gt ds (f + k)
/-- A heap but for the place r. -/
def HeapR (f lo hi r : Nat) (ds : List Nat) : Prop := (∀ k c, lo ≤ k → k ≠ r → (c = 2 * k + 1 ∨ c = 2 * k + 2) → c < hi → gt ds (f + c) ≤ gt ds (f + k)) ∧ ∀ k c, lo ≤ k → (r = 2 * k + 1 ∨ r = 2 * k + 2) → (c = 2 * r + 1 ∨ c = 2 * r + 2) → c < hi → gt ds (f + c) ≤ gt ds (f + k)
theorem heapR_start {f lo hi : Nat} {ds : List Nat} (h : HeapF f (lo + 1) hi ds) : HeapR f lo hi lo ds :=
  ⟨fun k c h1 h2 h3 h4 => h k c (by omega) h3 h4, fun k c h1 h2 => by omega⟩
theorem heapR_stop {f lo hi r : Nat} {ds : List Nat} (h : HeapR f lo hi r ds) (hs : ∀ c, (c = 2 * r + 1 ∨ c = 2 * r + 2) → c < hi → gt ds (f + c) ≤ gt ds (f + r)) : HeapF f lo hi ds := by
  intro k c h1 h2 h3
  by_cases hk : k = r
  · rw [hk] at h2 ⊢; exact hs c h2 h3
  · exact h.1 k c h1 hk h2 h3
theorem heapR_step {f lo hi r c : Nat} {ds : List Nat} (h : HeapR f lo hi r ds) (hr : lo ≤ r) (hc : c = 2 * r + 1 ∨ c = 2 * r + 2) (hch : c < hi) (hl : f + hi ≤ ds.length) (hlt : gt ds (f + r) < gt ds (f + c)) (hm : ∀ d, (d = 2 * r + 1 ∨ d = 2 * r + 2) → d < hi → gt ds (f + d) ≤ gt ds (f + c)) : HeapR f lo hi c (swp ds (f + r) (f + c)) := by
  have e : ∀ t, gt (swp ds (f + r) (f + c)) t = if t = f + c then gt ds (f + r) else if t = f + r then gt ds (f + c) else gt ds t := fun t => swp_gt (by omega) (by omega) t
  refine ⟨fun k d h1 h2 h3 h4 => ?_, fun k d h1 h2 h3 h4 => ?_⟩
  · rw [e, e]
    by_cases hk : k = r
    · subst hk
      rw [if_neg (by omega : ¬ f + k = f + c), if_pos rfl]
      by_cases hd : d = c
      · rw [if_pos (by omega)]; omega
      · rw [if_neg (by omega), if_neg (by omega)]
        exact hm d h3 h4
    · rw [if_neg (by omega : ¬ f + k = f + c), if_neg (by omega : ¬ f + k = f + r)]
      by_cases hd : d = r
      · subst hd
        rw [if_neg (by omega), if_pos rfl]
        exact h.2 k c h1 h3 hc hch
      · rw [if_neg (by omega : ¬ f + d = f + c), if_neg (by omega)]
        exact h.1 k d h1 hk h3 h4
  · have hk : k = r := by omega
    subst hk
    rw [e, e, if_neg (by omega : ¬ f + d = f + c), if_neg (by omega : ¬ f + d = f + k), if_neg (by omega : ¬ f + k = f + c), if_pos rfl]
    exact h.1 c d (by omega) (by omega) h3 h4
theorem heap_top {f hi : Nat} {ds : List Nat} (h : HeapF f 0 hi ds) : ∀ k, k < hi → gt ds (f + k) ≤ gt ds f := by
  intro k
  induction k using Nat.strongRecOn with
  | ind k ih =>
    intro hk
    by_cases h0 : k = 0
    · subst h0; exact Nat.le_refl _
    · have h1 := h ((k - 1) / 2) k (by omega) (by omega) hk
      exact Nat.le_trans h1 (ih ((k - 1) / 2) (by omega) (by omega))
end Go.Proofs.Ytmngmkbiibhmkaa
