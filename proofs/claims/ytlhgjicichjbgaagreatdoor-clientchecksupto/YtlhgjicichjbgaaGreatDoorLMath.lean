/- What a line says, as the program reads it. -/
import Derived.Test.YtlhgjicichjbgaaGreatDoorGRead
import Derived.Test.YtlhgjicichjbgaaGreatDoorLCheckB
import Derived.Test.YtlhgjicichjbgaaGreatDoorOneFn
import Derived.Test.YtlhgjicichjbgaaGreatDoorParseM
import Derived.Test.YtlhgjicichjbgaaGreatDoorPrtMath
namespace Go.Proofs.YtlhgjicichjbgaaGreatDoor
open Go.RowKit

theorem cutAll_small : ∀ (t u : U), u ∈ cutAll t → u.length ≤ t.length
  | [], u, h => by simp [cutAll] at h; simp [h]
  | c :: t, u, h => by
    obtain ⟨a, r, e⟩ := cutAll_ne t
    have ih := cutAll_small t
    by_cases hc : c = 32
    · rw [cutAll, if_pos hc] at h
      rcases List.mem_cons.1 h with rfl | h
      · simp
      · have := ih u h; simp; omega
    · rw [cutAll_cons hc e] at h
      rcases List.mem_cons.1 h with rfl | h
      · have := ih a (by rw [e]; simp); simp; omega
      · have := ih u (by rw [e]; simp [h]); simp; omega
/-- Few scopes, and short ones. -/
def ScSmall (l : List U) : Prop := l.length ≤ 32 ∧ ∀ u ∈ l, u.length ≤ 256
theorem scSmall_nil : ScSmall [] := ⟨by simp, by simp⟩
theorem scSmall_out (t : U) : ScSmall (scoOut t).1 := by
  refine ⟨scoOut_len t, ?_⟩
  unfold scoOut
  split
  · simp
  · split
    · simp
    · split
      · split
        · simp
        · intro u hu
          have := (insAll_mem _ _ _).1 hu
          simp at this
          have := cutAll_small _ _ this
          omega
      · simp
theorem lens_small : ∀ (l : List U), (∀ u ∈ l, u.length ≤ 256) → Lib.lens l ≤ 256 * l.length
  | [], _ => by simp [Lib.lens]
  | u :: r, h => by
    have h1 := h u (by simp)
    have h2 := lens_small r (fun v hv => h v (by simp [hv]))
    simp only [Lib.lens, List.length_cons] at h2 ⊢
    simp at h2 ⊢
    omega
theorem join_small {l : List U} (h : ScSmall l) : (joinS l).length ≤ 140737488355328 := by
  unfold joinS
  cases l with
  | nil => simp [Lib.join_nil]
  | cons u r =>
    rw [Lib.join_length]
    have h1 := lens_small _ h.2
    have h2 := h.1
    simp only [List.length_cons, List.length_nil] at h1 h2 ⊢
    omega

def isName (nm : ByteArray) : Bool := decide (nm = sId ∨ nm = sSecret ∨ nm = sGrants ∨ nm = sPing ∨ nm = sUrl ∨ nm = sScope)
def fieldR (nm : ByteArray) (c : Cl) (v : ByteArray) : Option Cl :=
  if nm = sId then some { c with id := v } else if nm = sSecret then some { c with secret := v }
  else if nm = sGrants then (grantsR v.data.toList c.grants.toNat).map (withG c)
  else if nm = sPing then (if v = sYes then some { c with ping := true } else none)
  else if nm = sUrl then some { c with url := v }
  else if nm = sScope then (if (scoOut v.data.toList).2 = 0 then some (withS c (scoOut v.data.toList).1) else none) else none
def lnStep (l : List Two) (c : Cl) (q : Two) : Option Cl :=
  if isName (bstr q.1) = true then (if 1 < (ones q.1 l).2 then none else if (ones q.1 l).1 = [] then some c else fieldR (bstr q.1) c (bstr (ones q.1 l).1)) else none
def lnFold (l r : List Two) : Option Cl := r.foldl (fun a q => a.bind fun c => lnStep l c q) (some zeroCl)
theorem lnFold_snoc (l r : List Two) (q : Two) : lnFold l (r ++ [q]) = (lnFold l r).bind fun c => lnStep l c q := by simp [lnFold]
theorem lnFold_bad {l r : List Two} {j : Nat} (h : lnFold l (r.take j) = none) : lnFold l r = none := by
  have hn : ∀ r : List Two, r.foldl (fun a q => a.bind fun c => lnStep l c q) none = none := by
    intro r; induction r with
    | nil => rfl
    | cons u r ih => simpa using ih
  unfold lnFold at *
  rw [← List.take_append_drop j r, List.foldl_append, h]
  exact hn _
def lineR (xs : List Nat) : Option Cl := if (parOut xs).2.1 = 0 then (lnFold (parOut xs).1 (parOut xs).1).bind fun c => if checkB c = true then some c else none else none
theorem parOut_small2 (xs : List Nat) : ∀ q ∈ (parOut xs).1, q.1.length + q.2.length ≤ 16384 := by
  unfold parOut
  split
  · simp
  · cases h : parse xs 0 [] with
    | ok l => exact parse_small _ _ _ _ _ (Nat.le_refl _) (by omega) (by simp) h
    | error e => obtain ⟨a, b⟩ := e; simp [outOf]
theorem ones_from (name : List Nat) (l : List Two) : (ones name l).1 = [] ∨ ∃ q ∈ l, (ones name l).1 = q.2 := by
  have : ∀ (l r : List Two) (a : List Nat × Nat), (a.1 = [] ∨ ∃ q ∈ r, a.1 = q.2) → ((l.foldl (oneStep name) a).1 = [] ∨ ∃ q ∈ r ++ l, (l.foldl (oneStep name) a).1 = q.2) := by
    intro l
    induction l with
    | nil => intro r a h; simpa using h
    | cons q l ih =>
      intro r a h
      have := ih (r ++ [q]) (oneStep name a q) (by
        unfold oneStep
        split
        · exact .inr ⟨q, by simp, rfl⟩
        · rcases h with h | ⟨p, hp, h⟩
          · exact .inl h
          · exact .inr ⟨p, by simp [hp], h⟩)
      simpa using this
  simpa [ones] using this l [] ([], 0) (.inl rfl)
end Go.Proofs.YtlhgjicichjbgaaGreatDoor
