/- What digest.FromBase64 does, as plain mathematics: the digits' values, the bits under way. -/
import Derived.Test.YtghmabohodnbpaaGreatDoorShaMath
namespace Go.Proofs.YtghmabohodnbpaaGreatDoor

def val64 (c : Nat) : Option Nat :=
  if 65 ≤ c ∧ c ≤ 90 then some (c - 65) else if 97 ≤ c ∧ c ≤ 122 then some (c - 71) else if 48 ≤ c ∧ c ≤ 57 then some (c + 4) else if c = 45 then some 62 else if c = 95 then some 63 else none
theorem val64_lt {c n : Nat} (h : val64 c = some n) : n < 64 := by
  unfold val64 at h
  split at h
  · simp at h; omega
  · split at h
    · simp at h; omega
    · split at h
      · simp at h; omega
      · split at h
        · simp at h; omega
        · split at h
          · simp at h; omega
          · simp at h
/-- The bits under way (a word), how many of them count, the bytes so far. -/
structure B64 where
  bits : Nat
  count : Nat
  out : List Nat
def b64step (s : B64) (n : Nat) : B64 :=
  let b := o32 (s.bits * 64 % 4294967296) n
  if 2 ≤ s.count then ⟨b, s.count - 2, s.out ++ [b / 2 ^ (s.count - 2) % 256]⟩ else ⟨b, s.count + 6, s.out⟩
/-- The values of digits; none where one is no digit. -/
def vals (l : List Nat) : List Nat := l.filterMap val64
def b64run (l : List Nat) : B64 := (vals l).foldl b64step ⟨0, 0, []⟩
theorem b64run_snoc {l : List Nat} {c n : Nat} (h : val64 c = some n) : b64run (l ++ [c]) = b64step (b64run l) n := by
  unfold b64run vals
  rw [List.filterMap_append, List.foldl_append]
  simp [h]
theorem b64run_count (l : List Nat) : (b64run l).count < 8 := by
  unfold b64run
  have : ∀ (v : List Nat) (s : B64), s.count < 8 → (v.foldl b64step s).count < 8 := by
    intro v
    induction v with
    | nil => intro s h; exact h
    | cons n v ih =>
      intro s h
      refine ih _ ?_
      unfold b64step
      split
      · show s.count - 2 < 8; omega
      · show s.count + 6 < 8; omega
  exact this _ _ (by decide)
theorem b64run_bits (l : List Nat) : (b64run l).bits < 4294967296 := by
  unfold b64run
  have : ∀ (v : List Nat) (s : B64), s.bits < 4294967296 → (v.foldl b64step s).bits < 4294967296 := by
    intro v
    induction v with
    | nil => intro s h; exact h
    | cons n v ih =>
      intro s h
      refine ih _ ?_
      unfold b64step
      split <;> exact o32_lt _ _
  exact this _ _ (by decide)
theorem b64run_out_le (l : List Nat) : (b64run l).out.length ≤ l.length := by
  unfold b64run
  have : ∀ (v : List Nat) (s : B64), (v.foldl b64step s).out.length ≤ s.out.length + v.length := by
    intro v
    induction v with
    | nil => intro s; simp
    | cons n v ih =>
      intro s
      refine Nat.le_trans (ih _) ?_
      unfold b64step
      split <;> simp <;> omega
  have h := this (vals l) ⟨0, 0, []⟩
  have hv : (vals l).length ≤ l.length := List.length_filterMap_le _ _
  simp at h
  omega
theorem b64run_lt (l : List Nat) : ∀ x ∈ (b64run l).out, x < 256 := by
  unfold b64run
  have : ∀ (v : List Nat) (s : B64), (∀ x ∈ s.out, x < 256) → ∀ x ∈ (v.foldl b64step s).out, x < 256 := by
    intro v
    induction v with
    | nil => intro s h; exact h
    | cons n v ih =>
      intro s h
      refine ih _ ?_
      unfold b64step
      split
      · intro x hx
        rcases List.mem_append.1 hx with hx | hx
        · exact h x hx
        · rw [List.mem_singleton.1 hx]; exact Nat.mod_lt _ (by decide)
      · exact h
  exact this _ _ (by simp)
/-- The place of the first that is no digit. -/
def badAt (l : List Nat) : Option Nat := l.findIdx? fun c => (val64 c).isNone
/-- The answer: the bytes, the error's number, the place. -/
def fb64 (l : List Nat) : List Nat × Nat × Nat :=
  if 65536 < l.length then ([], 1, 0) else
  match badAt l with
  | some i => ([], 20, i)
  | none => if l.length % 4 = 1 then ([], 3, l.length) else if an32 (b64run l).bits (2 ^ (b64run l).count - 1) ≠ 0 then ([], 21, l.length - 1) else ((b64run l).out, 0, 0)
theorem fb64_foo : fb64 [90, 109, 57, 118] = ([102, 111, 111], 0, 0) := by decide
end Go.Proofs.YtghmabohodnbpaaGreatDoor
