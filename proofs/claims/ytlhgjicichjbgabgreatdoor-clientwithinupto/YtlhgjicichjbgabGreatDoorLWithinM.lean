/- Scopes laid end to end are read as themselves. -/
import Derived.Test.YtlhgjicichjbgabGreatDoorOrderMath
import Derived.Test.YtlhgjicichjbgabGreatDoorLScope
namespace Go.Proofs.YtlhgjicichjbgabGreatDoor
open Go.RowKit

theorem joinS_eq : ∀ l : List U, joinS l = joinU l
  | [] => rfl
  | [u] => by simp [joinS, Lib.join_one, joinU]
  | u :: v :: r => by
    have ih := joinS_eq (v :: r)
    unfold joinS at ih ⊢
    rw [Lib.join_cons] at ih ⊢
    rw [joinU, ← ih]
    simp [Lib.joinTail]
theorem sum_sub (f : U → Nat) : ∀ (l m : List U), l.Nodup → (∀ u ∈ l, u ∈ m) → (l.map f).sum ≤ (m.map f).sum
  | [], m, _, _ => by simp
  | u :: r, m, hn, hs => by
    have hu := hs u (by simp)
    have hp := List.perm_cons_erase hu
    have h1 := (hp.map f).sum_nat
    rw [h1]
    simp only [List.map_cons, List.sum_cons]
    have hn2 := List.nodup_cons.1 hn
    have ih := sum_sub f r (m.erase u) hn2.2 (fun v hv => (List.mem_erase_of_ne (by rintro rfl; exact hn2.1 hv)).2 (hs v (by simp [hv])))
    omega
theorem cutAll_sum : ∀ t : U, ((cutAll t).map fun u => u.length + 1).sum = t.length + 1
  | [] => rfl
  | c :: t => by
    have ih := cutAll_sum t
    obtain ⟨a, r, e⟩ := cutAll_ne t
    by_cases hc : c = 32
    · rw [cutAll, if_pos hc]; simp only [List.map_cons, List.sum_cons, ih]; simp; omega
    · rw [cutAll_cons hc e]; rw [e] at ih; simp only [List.map_cons, List.sum_cons, List.length_cons] at ih ⊢; omega
theorem joinU_sum : ∀ l : List U, l ≠ [] → (joinU l).length + 1 = (l.map fun u => u.length + 1).sum
  | [], h => absurd rfl h
  | [u], _ => by simp [joinU]
  | u :: v :: r, _ => by
    have ih := joinU_sum (v :: r) (by simp)
    rw [joinU]
    simp only [List.map_cons, List.sum_cons, List.length_append, List.length_cons] at ih ⊢; omega
theorem rising_nodup {l : List U} (h : Rising l) : l.Nodup := by
  unfold Rising at h
  exact h.imp (fun {a b} hab e => by subst e; exact u_irrefl _ hab)
theorem sco_join {t : U} {l : List U} (h : scoOut t = (l, 0)) : scoOut (joinS l) = (l, 0) := by
  rw [joinS_eq]
  by_cases h0 : l = []
  · subst h0; rfl
  · obtain ⟨hs, hr, h32⟩ := sco_ok h
    have hc := cutAll_join l h0 (fun u hu => (isSc_ne (hs u hu).1).2)
    have hlen : (joinU l).length ≤ 256 := by
      have hmem : t.length ≤ 256 ∧ ∀ u ∈ l, u ∈ cutAll t := by
        unfold scoOut at h
        split at h
        · simp at h
        · rename_i h1
          split at h
          · simp at h; exact absurd h h0
          · split at h
            · split at h
              · simp at h
              · simp only [Prod.mk.injEq, and_true] at h
                subst h
                exact ⟨by omega, fun u hu => by have := (insAll_mem _ _ _).1 hu; simpa using this⟩
            · simp at h
      have h1 := sum_sub (fun u => u.length + 1) l (cutAll t) (rising_nodup hr) hmem.2
      rw [cutAll_sum, ← joinU_sum l h0] at h1
      omega
    have hne : joinU l ≠ [] := by
      intro e
      rw [e] at hc
      have hl : l = [[]] := by rw [← hc]; rfl
      have := (isSc_ne (hs [] (by rw [hl]; simp)).1).1
      exact this rfl
    have hins : insAll [] l = l := rising_eq (insAll_rising l [] (by simp [Rising])) hr (fun x => by rw [insAll_mem]; simp)
    unfold scoOut
    rw [if_neg (by omega), if_neg hne, hc, if_pos (List.all_eq_true.2 fun u hu => (hs u hu).1), hins, if_neg (by omega)]
theorem within_self (l : List U) : withinB l l = true := by unfold withinB; rw [decide_eq_true_eq]; exact fun u h => h
end Go.Proofs.YtlhgjicichjbgabGreatDoor
