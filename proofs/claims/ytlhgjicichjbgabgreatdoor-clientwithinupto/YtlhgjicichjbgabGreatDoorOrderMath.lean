/- Plain facts of lists of scopes that are joined again. -/
import Derived.Test.YtlhgjicichjbgabGreatDoorScopeMath
namespace Go.Proofs.YtlhgjicichjbgabGreatDoor

/-- Texts with blanks between them. -/
def joinU : List U → U
  | [] => []
  | [u] => u
  | u :: v :: l => u ++ 32 :: joinU (v :: l)
theorem joinU_snoc : ∀ (l : List U) (u : U), joinU (l ++ [u]) = if l = [] then u else joinU l ++ 32 :: u
  | [], u => rfl
  | [v], u => by simp [joinU]
  | v :: x :: l, u => by
    have := joinU_snoc (x :: l) u
    rw [if_neg (by simp)] at this ⊢
    show v ++ 32 :: joinU (x :: l ++ [u]) = (v ++ 32 :: joinU (x :: l)) ++ 32 :: u
    rw [this, List.append_assoc]
    rfl
theorem joinU_len {M : Nat} : ∀ (l : List U), (∀ u ∈ l, u.length ≤ M) → (joinU l).length ≤ l.length * (M + 1)
  | [], _ => by simp [joinU]
  | [u], h => by have := h u (by simp); simp [joinU]; omega
  | u :: v :: l, h => by
    have h1 := joinU_len (v :: l) (fun x hx => h x (List.mem_cons_of_mem _ hx))
    have h2 := h u (by simp)
    show (u ++ 32 :: joinU (v :: l)).length ≤ _
    rw [List.length_append, List.length_cons, List.length_cons (a := u), Nat.succ_mul]
    omega
theorem cutAll_part : ∀ (u : U) (r : U), (∀ c ∈ u, c ≠ 32) → cutAll (u ++ 32 :: r) = u :: cutAll r
  | [], r, _ => cutAll_blank r
  | c :: u, r, h => by
    have ih := cutAll_part u r (fun x hx => h x (List.mem_cons_of_mem _ hx))
    exact cutAll_cons (h c (List.mem_cons_self ..)) ih
theorem cutAll_one : ∀ (u : U), (∀ c ∈ u, c ≠ 32) → cutAll u = [u]
  | [], _ => rfl
  | c :: u, h => cutAll_cons (h c (List.mem_cons_self ..)) (cutAll_one u (fun x hx => h x (List.mem_cons_of_mem _ hx)))
theorem cutAll_join : ∀ (l : List U), l ≠ [] → (∀ u ∈ l, ∀ c ∈ u, c ≠ 32) → cutAll (joinU l) = l
  | [], h, _ => absurd rfl h
  | [u], _, h => cutAll_one u (h u (by simp))
  | u :: v :: l, _, h => by
    show cutAll (u ++ 32 :: joinU (v :: l)) = _
    rw [cutAll_part u _ (h u (by simp)), cutAll_join (v :: l) (by simp) (fun x hx => h x (List.mem_cons_of_mem _ hx))]
theorem cutAll_le : ∀ (t : U), ∀ u ∈ cutAll t, u.length ≤ t.length
  | [], u, hu => by simp [cutAll] at hu; simp [hu]
  | c :: t, u, hu => by
    obtain ⟨h, r, e⟩ := cutAll_ne t
    have ih := cutAll_le t
    by_cases hc : c = 32
    · subst hc
      rw [cutAll_blank] at hu
      rcases List.mem_cons.1 hu with rfl | hu
      · simp
      · have := ih u hu; simp; omega
    · rw [cutAll_cons hc e] at hu
      rcases List.mem_cons.1 hu with rfl | hu
      · have := ih h (by rw [e]; simp); simp; omega
      · have := ih u (by rw [e]; simp [hu]); simp; omega
theorem letter_ne {c : UInt8} (h : letter c = true) : c ≠ 32 := by
  rintro rfl
  exact absurd h (by decide)
theorem isSc_ne {u : U} (h : isSc u = true) : u ≠ [] ∧ ∀ c ∈ u, c ≠ 32 := by
  unfold isSc at h
  rw [Bool.and_eq_true] at h
  refine ⟨?_, fun c hc => letter_ne (List.all_eq_true.1 h.2 c hc)⟩
  rintro rfl
  simp at h
/-- What is known of scopes that were read. -/
theorem sco_ok {t : U} {l : List U} (h : scoOut t = (l, 0)) : (∀ u ∈ l, isSc u = true ∧ u.length ≤ 256) ∧ Rising l ∧ l.length ≤ 32 := by
  unfold scoOut at h
  split at h
  · cases h
  · rename_i hlen
    split at h
    · cases h; exact ⟨by simp, List.Pairwise.nil, by simp⟩
    · split at h
      · rename_i hall
        split at h
        · cases h
        · rename_i h32
          cases h
          refine ⟨fun u hu => ?_, insAll_rising _ _ List.Pairwise.nil, by omega⟩
          have hm := (insAll_mem _ _ _).1 hu
          rcases hm with hm | hm
          · cases hm
          · have := cutAll_le t u hm
            exact ⟨List.all_eq_true.1 hall u hm, by omega⟩
      · cases h
theorem sco_none {t : U} {l : List U} {e : Nat} (h : scoOut t = (l, e)) (he : e ≠ 0) : l = [] := by
  unfold scoOut at h
  split at h
  · cases h; rfl
  · split at h
    · cases h; rfl
    · split at h
      · split at h
        · cases h; rfl
        · cases h; exact absurd rfl he
      · cases h; rfl
/-- The scopes turned round, and one of them once more: they are read as they were. -/
theorem sco_back {l : List U} {x : U} (hx : x ∈ l) (hs : ∀ u ∈ l, isSc u = true) (hr : Rising l) (h32 : l.length ≤ 32) (hj : (joinU (l.reverse ++ [x])).length ≤ 256) : scoOut (joinU (l.reverse ++ [x])) = (l, 0) := by
  have hb : ∀ u ∈ l.reverse ++ [x], isSc u = true := by
    intro u hu
    rcases List.mem_append.1 hu with hu | hu
    · exact hs u (List.mem_reverse.1 hu)
    · simp at hu; subst hu; exact hs u hx
  have hcut : cutAll (joinU (l.reverse ++ [x])) = l.reverse ++ [x] := cutAll_join _ (by simp) (fun u hu => (isSc_ne (hb u hu)).2)
  have hne : joinU (l.reverse ++ [x]) ≠ [] := by
    intro e
    rw [e] at hcut
    have h1 : [] ∈ l.reverse ++ [x] := by rw [← hcut]; simp [cutAll]
    exact (isSc_ne (hb _ h1)).1 rfl
  have hi : insAll [] (l.reverse ++ [x]) = l := by
    refine rising_eq (insAll_rising _ _ List.Pairwise.nil) hr fun y => ?_
    rw [insAll_mem]
    simp only [List.not_mem_nil, false_or, List.mem_append, List.mem_reverse, List.mem_singleton]
    constructor
    · rintro (h | rfl)
      · exact h
      · exact hx
    · exact .inl
  unfold scoOut
  rw [if_neg (by omega), if_neg hne, hcut, if_pos (List.all_eq_true.2 hb), hi, if_neg (by omega)]
theorem sco_long {t : U} (h : 256 < t.length) : scoOut t = ([], 1) := by unfold scoOut; rw [if_pos h]
theorem rising_get {l : List U} (h : Rising l) {k : Nat} {u v : U} (hu : l[k]? = some u) (hv : l[k + 1]? = some v) : u < v := by
  obtain ⟨h1, e1⟩ := List.getElem?_eq_some_iff.1 hu
  obtain ⟨h2, e2⟩ := List.getElem?_eq_some_iff.1 hv
  have := List.pairwise_iff_getElem.1 h k (k + 1) h1 h2 (by omega)
  rw [e1, e2] at this
  exact this
end Go.Proofs.YtlhgjicichjbgabGreatDoor
