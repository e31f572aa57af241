/- The contracts of the document's Letter and put: for every byte; for every text and every list. -/
import Derived.Test.YtlhgjicichjbgaaGreatDoorScopeFn
import Derived.Test.YtlhgjicichjbgaaGreatDoorStrRow
namespace Go.Proofs.YtlhgjicichjbgaaGreatDoor
open Go.RowKit

set_option maxHeartbeats 400000 in
set_option maxRecDepth 100000 in
theorem refLetter_any (c : Nat) (w : World) (hc : c < 256) : Calls Tryz.prog 67 #[.int .u8 (c : Int)] w fun e w' => e = .returned (.bool (okB lets c)) ∧ w' = w := by
  rcases (show (0 ≤ c ∧ c ≤ 32) ∨ (c = 33) ∨ (c = 34) ∨ (35 ≤ c ∧ c ≤ 91) ∨ (c = 92) ∨ (93 ≤ c ∧ c ≤ 126) ∨ (127 ≤ c ∧ c ≤ 255) by omega) with h | h | h | h | h | h | h
  · have e : okB lets c = false := by simp [okB, lets, seen]; omega
    rw [e]
    obtain ⟨a1, a2⟩ := h
    go_enter Tryz.func67, Tryz.ntmps67
    go_wp2
    go_ret
    exact ⟨by first | rfl | (simp; omega), rfl⟩
  · subst h
    go_enter Tryz.func67, Tryz.ntmps67
    go_wp2
    go_ret
    exact ⟨rfl, rfl⟩
  · subst h
    go_enter Tryz.func67, Tryz.ntmps67
    go_wp2
    go_ret
    exact ⟨rfl, rfl⟩
  · have e : okB lets c = true := by simp [okB, lets, seen]; omega
    rw [e]
    obtain ⟨a1, a2⟩ := h
    go_enter Tryz.func67, Tryz.ntmps67
    go_wp2
    go_ret
    exact ⟨by first | rfl | (simp; omega), rfl⟩
  · subst h
    go_enter Tryz.func67, Tryz.ntmps67
    go_wp2
    go_ret
    exact ⟨rfl, rfl⟩
  · have e : okB lets c = true := by simp [okB, lets, seen]; omega
    rw [e]
    obtain ⟨a1, a2⟩ := h
    go_enter Tryz.func67, Tryz.ntmps67
    go_wp2
    go_ret
    exact ⟨by first | rfl | (simp; omega), rfl⟩
  · have e : okB lets c = false := by simp [okB, lets, seen]; omega
    rw [e]
    obtain ⟨a1, a2⟩ := h
    go_enter Tryz.func67, Tryz.ntmps67
    go_wp2
    go_ret
    exact ⟨by first | rfl | (simp; omega), rfl⟩
theorem less_eq (x y : List UInt8) : Op.bytesLess x y = decide (x < y) := by
  induction x generalizing y with
  | nil => cases y <;> simp [Op.bytesLess]
  | cons a x ih =>
    cases y with
    | nil => simp [Op.bytesLess]
    | cons b y =>
      rw [Op.bytesLess, ih]
      simp only [List.cons_lt_cons_iff]
      by_cases h1 : a < b <;> by_cases h2 : a = b <;> by_cases h3 : x < y <;> simp [h1, h2, h3]
/-- The list, the text laid ahead of the first that is greater among the first k. -/
def laid (l : List U) (s : U) (k : Nat) : List U := if (l.take k).any (fun x => decide (s < x)) = true then (l.take k).takeWhile (fun x => !decide (s < x)) ++ s :: (l.take k).dropWhile (fun x => !decide (s < x)) else l.take k
def laidAt (l : List U) (s : U) (k : Nat) : Bool := (l.take k).any (fun x => decide (s < x))
theorem take_snoc {l : List U} {k : Nat} {u : U} (h : l[k]? = some u) : l.take (k + 1) = l.take k ++ [u] := by rw [List.take_add_one, h]; rfl
theorem laidAt_snoc {l : List U} {s u : U} {k : Nat} (h : l[k]? = some u) : laidAt l s (k + 1) = (laidAt l s k || decide (s < u)) := by
  unfold laidAt; rw [take_snoc h, List.any_append]; simp
theorem tw_all {p : U → Bool} {l : List U} (h : ∀ x ∈ l, p x = true) : l.takeWhile p = l ∧ l.dropWhile p = [] := by
  induction l with
  | nil => exact ⟨rfl, rfl⟩
  | cons x l ih =>
    have := ih (fun y hy => h y (by simp [hy]))
    have hx := h x (by simp)
    exact ⟨by rw [List.takeWhile_cons, if_pos hx, this.1], by rw [List.dropWhile_cons, if_pos hx, this.2]⟩
theorem tw_append {p : U → Bool} {l : List U} (m : List U) (h : ∃ x ∈ l, p x = false) : (l ++ m).takeWhile p = l.takeWhile p ∧ (l ++ m).dropWhile p = l.dropWhile p ++ m := by
  induction l with
  | nil => obtain ⟨x, hx, _⟩ := h; simp at hx
  | cons x l ih =>
    by_cases hx : p x = true
    · have h2 : ∃ y ∈ l, p y = false := by
        obtain ⟨y, hy, hp⟩ := h
        rcases List.mem_cons.1 hy with rfl | hy
        · rw [hx] at hp; cases hp
        · exact ⟨y, hy, hp⟩
      have := ih h2
      rw [List.cons_append, List.takeWhile_cons, List.takeWhile_cons, List.dropWhile_cons, List.dropWhile_cons, if_pos hx, if_pos hx, if_pos hx, if_pos hx, this.1, this.2]
      exact ⟨rfl, rfl⟩
    · have hx' : p x = false := by simpa using hx
      simp [hx']
theorem laid_after {l : List U} {s u : U} {k : Nat} (h : l[k]? = some u) (hl : laidAt l s k = true) : laid l s (k + 1) = laid l s k ++ [u] := by
  have h1 : laidAt l s (k + 1) = true := by rw [laidAt_snoc h, hl]; rfl
  unfold laidAt at hl h1
  have hex : ∃ x ∈ l.take k, (!decide (s < x)) = false := by
    rw [List.any_eq_true] at hl
    obtain ⟨x, hx, hp⟩ := hl
    exact ⟨x, hx, by rw [hp]; rfl⟩
  unfold laid
  rw [if_pos hl, if_pos h1, take_snoc h, (tw_append [u] hex).1, (tw_append [u] hex).2]
  simp
theorem laid_now {l : List U} {s u : U} {k : Nat} (h : l[k]? = some u) (hl : laidAt l s k = false) (hu : s < u) : laid l s (k + 1) = laid l s k ++ [s] ++ [u] := by
  have h1 : laidAt l s (k + 1) = true := by rw [laidAt_snoc h, hl]; simp [hu]
  unfold laidAt at hl h1
  have hall : ∀ x ∈ l.take k, (!decide (s < x)) = true := by
    intro x hx
    rw [List.any_eq_false] at hl
    have := hl x hx
    simp at this
    simpa using this
  unfold laid
  rw [if_pos h1, if_neg (by rw [hl]; simp), take_snoc h]
  have e1 : (l.take k ++ [u]).takeWhile (fun x => !decide (s < x)) = l.take k := by
    rw [List.takeWhile_append_of_pos hall]; simp [hu]
  have e2 : (l.take k ++ [u]).dropWhile (fun x => !decide (s < x)) = [u] := by
    rw [List.dropWhile_append_of_pos hall]; simp [hu]
  rw [e1, e2]
  simp
theorem laid_not {l : List U} {s u : U} {k : Nat} (h : l[k]? = some u) (hl : laidAt l s k = false) (hu : ¬ s < u) : laid l s (k + 1) = laid l s k ++ [u] ∧ laidAt l s (k + 1) = false := by
  have h1 : laidAt l s (k + 1) = false := by rw [laidAt_snoc h, hl]; simp [hu]
  refine ⟨?_, h1⟩
  unfold laidAt at hl h1
  unfold laid
  rw [if_neg (by rw [h1]; simp), if_neg (by rw [hl]; simp), take_snoc h]
theorem laid_end {l : List U} {s : U} (hs : s ∉ l) : ins l s = if laidAt l s l.length = true then laid l s l.length else laid l s l.length ++ [s] := by
  unfold ins laid laidAt
  rw [if_neg hs, List.take_length]
  by_cases h : l.any (fun x => decide (s < x)) = true
  · rw [if_pos h, if_pos h]
  · rw [if_neg h, if_neg h]
    have h' : l.any (fun x => decide (s < x)) = false := by simpa using h
    have hall : ∀ x ∈ l, (!decide (s < x)) = true := by
      intro x hx
      rw [List.any_eq_false] at h'
      have := h' x hx
      simp at this
      simpa using this
    rw [(tw_all hall).1, (tw_all hall).2]
theorem laid_len (l : List U) (s : U) (k : Nat) : (laid l s k).length ≤ k + 1 := by
  unfold laid
  split
  · have := List.takeWhile_append_dropWhile (p := fun x => !decide (s < x)) (l := l.take k)
    have h2 := congrArg List.length this
    rw [List.length_append, List.length_take] at h2
    rw [List.length_append, List.length_cons]
    omega
  · rw [List.length_take]; omega
end Go.Proofs.YtlhgjicichjbgaaGreatDoor
