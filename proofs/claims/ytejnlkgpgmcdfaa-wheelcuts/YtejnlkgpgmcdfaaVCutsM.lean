/- How the time is cut has no part: what is due by a, then by b, is what is due by b. -/
import Derived.Test.YtejnlkgpgmcdfaaVSpreadL
namespace Go.Proofs.Ytejnlkgpgmcdfaa

theorem adv_rest {a b : Nat} (h : a ≤ b) (L : List Tm) : advL b (advL a L) = advL b L := by
  unfold advL
  rw [List.filter_filter]
  apply List.filter_congr
  intro p _
  by_cases h1 : b < p.2
  · simp [h1]; omega
  · simp [h1]
theorem filter_part {α : Type} (p : α → Bool) : ∀ l : List α, l.Perm (l.filter p ++ l.filter fun x => !p x)
  | [] => .refl _
  | x :: l => by
    by_cases h : p x = true
    · simp only [List.filter_cons, h, if_true, Bool.not_true, Bool.false_eq_true, if_false, List.cons_append]
      exact (filter_part p l).cons x
    · have h' : p x = false := by simpa using h
      simp only [List.filter_cons, h', if_false, Bool.not_false, if_true, Bool.false_eq_true]
      exact ((filter_part p l).cons x).trans List.perm_middle.symm
theorem adv_due {a b : Nat} (h : a ≤ b) (L : List Tm) : (advD b L).mergeSort leT = (advD a L).mergeSort leT ++ (advD b (advL a L)).mergeSort leT := by
  have e1 : (advD b L).filter (fun p => decide (p.2 ≤ a)) = advD a L := by
    unfold advD
    rw [List.filter_filter]
    apply List.filter_congr
    intro p _
    by_cases h1 : p.2 ≤ a
    · simp [h1]; omega
    · simp [h1]
  have e2 : (advD b L).filter (fun p => !decide (p.2 ≤ a)) = advD b (advL a L) := by
    unfold advD advL
    rw [List.filter_filter, List.filter_filter]
    apply List.filter_congr
    intro p _
    by_cases h1 : p.2 ≤ a
    · have h2 : ¬ a < p.2 := by omega
      simp [h1, h2]
    · have h2 : a < p.2 := by omega
      simp [h1, h2]
  have hp := filter_part (fun p : Tm => decide (p.2 ≤ a)) (advD b L)
  rw [e1, e2] at hp
  refine List.Perm.eq_of_pairwise (le := fun x y => leT x y = true) (fun x y _ _ h1 h2 => leT_eq h1 h2) (List.pairwise_mergeSort leT_trans leT_total _) ?_ (((List.mergeSort_perm _ leT).trans hp).trans ((List.mergeSort_perm _ leT).append (List.mergeSort_perm _ leT)).symm)
  refine List.pairwise_append.2 ⟨List.pairwise_mergeSort leT_trans leT_total _, List.pairwise_mergeSort leT_trans leT_total _, fun x hx y hy => ?_⟩
  have h1 : x.2 ≤ a := by
    have := (List.mergeSort_perm _ leT).mem_iff.1 hx
    simpa [advD] using (List.mem_filter.1 this).2
  have h2 : a < y.2 := by
    have := (List.mergeSort_perm _ leT).mem_iff.1 hy
    have := (List.mem_filter.1 (List.mem_filter.1 this).1).2
    simpa [advL] using this
  unfold leT
  have h3 : x.2 < y.2 := by omega
  simp [h3]
end Go.Proofs.Ytejnlkgpgmcdfaa
