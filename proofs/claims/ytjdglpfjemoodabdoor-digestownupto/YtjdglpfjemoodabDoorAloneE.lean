/- The contract of the laws' alone at a literal of eight rows, each made behind the other. -/
import Derived.Test.YtjdglpfjemoodabDoorAloneL
namespace Go.Proofs.YtjdglpfjemoodabDoor
open Go.RowKit

/-- Eight slices, each of a stretch of blocks of its own. -/
theorem eight_apart (vs : List Value) (lo hi : Nat → Nat) (hv : ∀ i v, vs[i]? = some v → ∀ g, v.ownBlock = some g → lo i ≤ g ∧ g < hi i) (hlen : vs.length = 8)
    (h : ∀ i j, i < j → j < 8 → hi i ≤ lo j ∨ hi j ≤ lo i) : ∀ (i j : Nat) (vi vj : Value), i < j → vs[i]? = some vi → vs[j]? = some vj → ∀ g, vi.ownBlock = some g → vj.ownBlock ≠ some g := by
  intro i j vi vj hij hi' hj' g hg e
  have h1 := hv i vi hi' g hg
  have h2 := hv j vj hj' g e
  have hj8 : j < 8 := by
    rcases Nat.lt_or_ge j 8 with h | h
    · exact h
    · rw [List.getElem?_eq_none (by omega)] at hj'; cases hj'
  have := h i j hij hj8
  omega
theorem Own.blocks {w : World} {B : Nat} {v : Value} {xs : List Nat} (h : Own w B v xs) : ∀ g, v.ownBlock = some g → B ≤ g ∧ g < w.heap.size := fun g hg => World.ownsRow.lt h g hg
set_option maxHeartbeats 2000000 in
theorem eight_sizes (m0 m1 m2 m3 m4 m5 m6 m7 m8 : Nat) (h1 : m1 ≤ m2) (h2 : m2 ≤ m3) (h3 : m3 ≤ m4) (h4 : m4 ≤ m5) (h5 : m5 ≤ m6) (h6 : m6 ≤ m7) :
    ∀ i j, i < j → j < 8 → (fun i => match i with | 0 => m6 | 1 => m1 | 2 => m7 | 3 => m2 | 4 => m3 | 5 => m8 | 6 => m4 | _ => m5) i ≤ (fun i => match i with | 0 => m5 | 1 => m0 | 2 => m6 | 3 => m1 | 4 => m2 | 5 => m7 | 6 => m3 | _ => m4) j ∨ (fun i => match i with | 0 => m6 | 1 => m1 | 2 => m7 | 3 => m2 | 4 => m3 | 5 => m8 | 6 => m4 | _ => m5) j ≤ (fun i => match i with | 0 => m5 | 1 => m0 | 2 => m6 | 3 => m1 | 4 => m2 | 5 => m7 | 6 => m3 | _ => m4) i := by
  intro i j hij hj
  have hi : i < 8 := by omega
  rcases (show j = 0 ∨ j = 1 ∨ j = 2 ∨ j = 3 ∨ j = 4 ∨ j = 5 ∨ j = 6 ∨ j = 7 by omega) with rfl | rfl | rfl | rfl | rfl | rfl | rfl | rfl
  all_goals
    rcases (show i = 0 ∨ i = 1 ∨ i = 2 ∨ i = 3 ∨ i = 4 ∨ i = 5 ∨ i = 6 ∨ i = 7 by omega) with rfl | rfl | rfl | rfl | rfl | rfl | rfl | rfl
    all_goals (first | (exfalso; omega) | (simp <;> omega))
set_option maxHeartbeats 1000000 in
theorem alone_eight (W : World) (m0 m1 m2 m3 m4 m5 m6 m7 m8 : Nat) (p va q vb vd r vf vg : Value) (h0 : m0 ≤ m1) (h1 : m1 ≤ m2) (h2 : m2 ≤ m3) (h3 : m3 ≤ m4) (h4 : m4 ≤ m5) (h5 : m5 ≤ m6) (h6 : m6 ≤ m7) (h7 : m7 ≤ m8) (h8 : m8 ≤ W.heap.size)
    (hp : ∃ xs, Own W m5 p xs ∧ xs.length + 64 ≤ 140737488355328) (bp : ∀ g, p.ownBlock = some g → g < m6) (hva : ∃ xs, Own W m0 va xs ∧ xs.length + 64 ≤ 140737488355328) (bva : ∀ g, va.ownBlock = some g → g < m1) (hq : ∃ xs, Own W m6 q xs ∧ xs.length + 64 ≤ 140737488355328) (bq : ∀ g, q.ownBlock = some g → g < m7) (hvb : ∃ xs, Own W m1 vb xs ∧ xs.length + 64 ≤ 140737488355328) (bvb : ∀ g, vb.ownBlock = some g → g < m2) (hvd : ∃ xs, Own W m2 vd xs ∧ xs.length + 64 ≤ 140737488355328) (bvd : ∀ g, vd.ownBlock = some g → g < m3) (hr : ∃ xs, Own W m7 r xs ∧ xs.length + 64 ≤ 140737488355328) (br : ∀ g, r.ownBlock = some g → g < m8) (hvf : ∃ xs, Own W m3 vf xs ∧ xs.length + 64 ≤ 140737488355328) (bvf : ∀ g, vf.ownBlock = some g → g < m4) (hvg : ∃ xs, Own W m4 vg xs ∧ xs.length + 64 ≤ 140737488355328) (bvg : ∀ g, vg.ownBlock = some g → g < m5) :
    Calls Tryd.prog 22 #[.slice (some ⟨W.heap.size, 0, none⟩) 8 8] (W.alloc (.cells #[p, va, q, vb, vd, r, vf, vg] 22)) fun e w' => e = .returned (.bool true) ∧ Below m0 W w' := by
  refine (alone_list m0 8 8 (some ⟨W.heap.size, 0, none⟩) [p, va, q, vb, vd, r, vf, vg] _ rfl (by decide) (by simp; omega) ?_ ?_ ?_).mono ?_
  · exact World.ownsRow_lit (base := m0) (e := 22) (size := 1) W #[p, va, q, vb, vd, r, vf, vg] 8 (by omega) (by decide) rfl
  · intro i v hv
    have hi : i < 8 := by
      rcases Nat.lt_or_ge i 8 with h | h
      · exact h
      · rw [List.getElem?_eq_none (by simpa using h)] at hv; cases hv
    rcases (show i = 0 ∨ i = 1 ∨ i = 2 ∨ i = 3 ∨ i = 4 ∨ i = 5 ∨ i = 6 ∨ i = 7 by omega) with rfl | rfl | rfl | rfl | rfl | rfl | rfl | rfl
    · simp at hv; subst hv; obtain ⟨xs, h1, h2⟩ := hp; exact ⟨xs, (h1.lower (by omega)).alloc _, h2⟩
    · simp at hv; subst hv; obtain ⟨xs, h1, h2⟩ := hva; exact ⟨xs, (h1.lower (by omega)).alloc _, h2⟩
    · simp at hv; subst hv; obtain ⟨xs, h1, h2⟩ := hq; exact ⟨xs, (h1.lower (by omega)).alloc _, h2⟩
    · simp at hv; subst hv; obtain ⟨xs, h1, h2⟩ := hvb; exact ⟨xs, (h1.lower (by omega)).alloc _, h2⟩
    · simp at hv; subst hv; obtain ⟨xs, h1, h2⟩ := hvd; exact ⟨xs, (h1.lower (by omega)).alloc _, h2⟩
    · simp at hv; subst hv; obtain ⟨xs, h1, h2⟩ := hr; exact ⟨xs, (h1.lower (by omega)).alloc _, h2⟩
    · simp at hv; subst hv; obtain ⟨xs, h1, h2⟩ := hvf; exact ⟨xs, (h1.lower (by omega)).alloc _, h2⟩
    · simp at hv; subst hv; obtain ⟨xs, h1, h2⟩ := hvg; exact ⟨xs, (h1.lower (by omega)).alloc _, h2⟩
  · refine eight_apart _ (fun i => match i with | 0 => m5 | 1 => m0 | 2 => m6 | 3 => m1 | 4 => m2 | 5 => m7 | 6 => m3 | _ => m4) (fun i => match i with | 0 => m6 | 1 => m1 | 2 => m7 | 3 => m2 | 4 => m3 | 5 => m8 | 6 => m4 | _ => m5) ?_ rfl (eight_sizes m0 m1 m2 m3 m4 m5 m6 m7 m8 h1 h2 h3 h4 h5 h6)
    intro i v hv g hg
    have hi : i < 8 := by
      rcases Nat.lt_or_ge i 8 with h | h
      · exact h
      · rw [List.getElem?_eq_none (by simpa using h)] at hv; cases hv
    rcases (show i = 0 ∨ i = 1 ∨ i = 2 ∨ i = 3 ∨ i = 4 ∨ i = 5 ∨ i = 6 ∨ i = 7 by omega) with rfl | rfl | rfl | rfl | rfl | rfl | rfl | rfl
    · simp at hv; subst hv; obtain ⟨xs, h1, _⟩ := hp; exact ⟨(h1.blocks g hg).1, bp g hg⟩
    · simp at hv; subst hv; obtain ⟨xs, h1, _⟩ := hva; exact ⟨(h1.blocks g hg).1, bva g hg⟩
    · simp at hv; subst hv; obtain ⟨xs, h1, _⟩ := hq; exact ⟨(h1.blocks g hg).1, bq g hg⟩
    · simp at hv; subst hv; obtain ⟨xs, h1, _⟩ := hvb; exact ⟨(h1.blocks g hg).1, bvb g hg⟩
    · simp at hv; subst hv; obtain ⟨xs, h1, _⟩ := hvd; exact ⟨(h1.blocks g hg).1, bvd g hg⟩
    · simp at hv; subst hv; obtain ⟨xs, h1, _⟩ := hr; exact ⟨(h1.blocks g hg).1, br g hg⟩
    · simp at hv; subst hv; obtain ⟨xs, h1, _⟩ := hvf; exact ⟨(h1.blocks g hg).1, bvf g hg⟩
    · simp at hv; subst hv; obtain ⟨xs, h1, _⟩ := hvg; exact ⟨(h1.blocks g hg).1, bvg g hg⟩
  · rintro e w' ⟨rfl, h⟩
    exact ⟨rfl, ((Below.refl m0 W).alloc (by omega) _).trans h.out.1⟩
end Go.Proofs.YtjdglpfjemoodabDoor
