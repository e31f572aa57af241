/- The common base64 with its signs at the end, there and back; what a header says that was made of a name and a secret. -/
import Derived.Test.YtghmabohodnbpaaGreatDoorLBasicP
namespace Go.Proofs.YtghmabohodnbpaaGreatDoor

def letsC : List Nat := [65, 66, 67, 68, 69, 70, 71, 72, 73, 74, 75, 76, 77, 78, 79, 80, 81, 82, 83, 84, 85, 86, 87, 88, 89, 90, 97, 98, 99, 100, 101, 102, 103, 104, 105, 106, 107, 108, 109, 110, 111, 112, 113, 114, 115, 116, 117, 118, 119, 120, 121, 122, 48, 49, 50, 51, 52, 53, 54, 55, 56, 57, 43, 47]
def ltC (n : Nat) : Nat := letsC.getD n 0
theorem six_ltC : ∀ n : Fin 64, six (ltC n.val) = some n.val := by decide +kernel
theorem ltC_ne : ∀ n : Fin 64, ltC n.val ≠ 61 ∧ ltC n.val < 256 ∧ ltC n.val ≠ 32 := by decide +kernel
/-- The law's base64. -/
def bcOf : List Nat → List Nat
  | x :: y :: z :: r => ltC (x / 4) :: ltC (x % 4 * 16 + y / 16) :: ltC (y % 16 * 4 + z / 64) :: ltC (z % 64) :: bcOf r
  | [x, y] => [ltC (x / 4), ltC (x % 4 * 16 + y / 16), ltC (y % 16 * 4), 61]
  | [x] => [ltC (x / 4), ltC (x % 4 * 16), 61, 61]
  | [] => []
theorem bcOf_split : ∀ p : List Nat, ∃ k, k ≤ 2 ∧ bcOf p = (g64 p).map ltC ++ List.replicate k 61 ∧ (bcOf p).length % 4 = 0 ∧ (bcOf p).length ≤ 2 * p.length + 4
  | x :: y :: z :: r => by
    obtain ⟨k, h1, h2, h3, h4⟩ := bcOf_split r
    refine ⟨k, h1, ?_, ?_, ?_⟩
    · simp only [bcOf, g64, List.map_cons, List.cons_append, h2]
    · simp only [bcOf, List.length_cons]; omega
    · simp only [bcOf, List.length_cons]; omega
  | [x, y] => ⟨1, by omega, rfl, by simp [bcOf], by simp [bcOf]⟩
  | [x] => ⟨2, by omega, rfl, by simp [bcOf], by simp [bcOf]⟩
  | [] => ⟨0, by omega, rfl, by simp [bcOf], by simp [bcOf]⟩
theorem trim1_last (l : List Nat) : trim1 (l ++ [61]) = l := by
  unfold trim1
  rw [if_pos (by simp), List.dropLast_concat]
theorem trim1_none {l : List Nat} (h : ∀ x ∈ l, x ≠ 61) : trim1 l = l := by
  unfold trim1
  rw [if_neg]
  intro he
  exact h 61 (List.mem_of_getLast? he) rfl
theorem bare_app {l : List Nat} (h : ∀ x ∈ l, x ≠ 61) {k : Nat} (hk : k ≤ 2) : bare (l ++ List.replicate k 61) = l := by
  unfold bare
  rcases (show k = 0 ∨ k = 1 ∨ k = 2 by omega) with rfl | rfl | rfl
  · rw [List.replicate_zero, List.append_nil, trim1_none h, trim1_none h]
  · rw [show List.replicate 1 61 = [61] from rfl, trim1_last, trim1_none h]
  · rw [show List.replicate 2 61 = [61] ++ [61] from rfl, ← List.append_assoc, trim1_last, trim1_last]
theorem dec_bc {p : List Nat} (hp : ∀ x ∈ p, x < 256) : decT (bcOf p) = some p := by
  obtain ⟨k, h1, h2, h3, -⟩ := bcOf_split p
  have hg := g64_lt p hp
  obtain ⟨d1, d2, d3⟩ := d64_g64 p hp
  have hne : ∀ x ∈ (g64 p).map ltC, x ≠ 61 := by
    intro x hx
    obtain ⟨n, hn, rfl⟩ := List.mem_map.1 hx
    exact (ltC_ne ⟨n, hg n hn⟩).1
  have hb : bare (bcOf p) = (g64 p).map ltC := by rw [h2]; exact bare_app hne h1
  have hf : ((g64 p).map ltC).filterMap six = g64 p := by
    rw [List.filterMap_map]
    have : ∀ l : List Nat, (∀ n ∈ l, n < 64) → l.filterMap (six ∘ ltC) = l := by
      intro l hl
      induction l with
      | nil => rfl
      | cons n r ih =>
        rw [List.filterMap_cons]
        have := six_ltC ⟨n, hl n (by simp)⟩
        simp only [Function.comp_def]
        rw [this]
        simp only [Function.comp_def] at ih
        rw [ih (fun x hx => hl x (by simp [hx]))]
    exact this _ hg
  unfold decT
  rw [if_neg (by omega), hb, if_pos, hf, if_pos, d1]
  · exact ⟨d2, by rw [List.length_map]; exact d3⟩
  · rw [List.all_eq_true]
    intro x hx
    obtain ⟨n, hn, rfl⟩ := List.mem_map.1 hx
    rw [six_ltC ⟨n, hg n hn⟩]
    rfl
/-- A name and a secret, escaped, with a colon between. -/
theorem name_made {a b : List Nat} (ha : ∀ x ∈ a, x < 256) (hb : ∀ x ∈ b, x < 256) : nameT (esc a ++ 58 :: esc b) = some (a, b) := by
  have hn : ∀ x ∈ esc a, x ≠ 58 := by
    intro x hx e
    subst e
    obtain ⟨c, hc, hxc⟩ := List.mem_flatMap.1 (show 58 ∈ a.flatMap esc1 from hx)
    have : ∀ c : Fin 256, 58 ∉ esc1 c.val := by decide +kernel
    exact this ⟨c, ha c hc⟩ hxc
  have hu : upTo 58 (esc a ++ 58 :: esc b) = esc a := upTo_split (esc b) hn
  unfold nameT
  rw [hu]
  have hd : (esc a ++ 58 :: esc b).drop ((esc a).length + 1) = esc b := by
    rw [show esc a ++ 58 :: esc b = (esc a ++ [58]) ++ esc b by simp, List.drop_left' (by simp)]
  rw [hd, un_esc_all ha, un_esc_all hb]
  dsimp only
  rw [if_pos (by simp)]
theorem bc_first : ∀ (p : List Nat) (_ : ∀ x ∈ p, x < 256), (bcOf p).dropWhile (· == 32) = bcOf p
  | x :: y :: z :: r, h => by
    have hx := h x (by simp)
    have := (ltC_ne ⟨x / 4, by omega⟩).2.2
    simp only [bcOf]
    rw [List.dropWhile_cons_of_neg (by simpa using this)]
  | [x, y], h => by
    have hx := h x (by simp)
    have := (ltC_ne ⟨x / 4, by omega⟩).2.2
    simp only [bcOf]
    rw [List.dropWhile_cons_of_neg (by simpa using this)]
  | [x], h => by
    have hx := h x (by simp)
    have := (ltC_ne ⟨x / 4, by omega⟩).2.2
    simp only [bcOf]
    rw [List.dropWhile_cons_of_neg (by simpa using this)]
  | [], _ => rfl
/-- A header that was made of a name and a secret says them. -/
theorem bas_made {a b : List Nat} (ha : ∀ x ∈ a, x < 256) (hb : ∀ x ∈ b, x < 256) (sch : List Nat) (hs : sch = [66, 97, 115, 105, 99] ∨ sch = [98, 97, 115, 105, 99]) (blanks : List Nat) (hk : blanks = [32] ∨ blanks = [32, 32])
    (hl : (sch ++ blanks ++ bcOf (esc a ++ 58 :: esc b)).length ≤ 1024) : basT (sch ++ blanks ++ bcOf (esc a ++ 58 :: esc b)) = some (a, b) := by
  have hp : ∀ x ∈ esc a ++ 58 :: esc b, x < 256 := by
    intro x hx
    rcases List.mem_append.1 hx with hx | hx
    · exact esc_lt ha x hx
    · rcases List.mem_cons.1 hx with rfl | hx
      · decide
      · exact esc_lt hb x hx
  generalize hq : esc a ++ 58 :: esc b = q at *
  have hd := dec_bc hp
  have hf := bc_first q hp
  have hn : nameT q = some (a, b) := by rw [← hq]; exact name_made ha hb
  generalize bcOf q = z at *
  unfold basT
  rw [if_neg (by omega)]
  have hu : upTo 32 (sch ++ blanks ++ z) = sch := by
    have : ∃ r, sch ++ blanks ++ z = sch ++ 32 :: r := by
      rcases hk with rfl | rfl
      · exact ⟨z, by simp⟩
      · exact ⟨32 :: z, by simp⟩
    obtain ⟨r, hr⟩ := this
    rw [hr]
    refine upTo_split r ?_
    rcases hs with rfl | rfl <;> decide
  have hl5 : sch.length = 5 := by rcases hs with rfl | rfl <;> rfl
  have hsc : isSch sch = true := by rcases hs with rfl | rfl <;> decide
  rw [hu, hsc, hl5]
  have hdr : ((sch ++ blanks ++ z).drop (5 + 1)).dropWhile (· == 32) = z := by
    rcases hk with rfl | rfl
    · rw [List.drop_left' (by rw [List.length_append, hl5]; rfl)]; exact hf
    · rw [show sch ++ [32, 32] ++ z = (sch ++ [32]) ++ (32 :: z) by simp, List.drop_left' (by rw [List.length_append, hl5]; rfl), List.dropWhile_cons_of_pos (by rfl)]; exact hf
  rw [hdr, hd, if_pos (by rw [decide_eq_true (by rcases hk with rfl | rfl <;> (simp [hl5]; try omega))]; rfl)]
  exact hn
end Go.Proofs.YtghmabohodnbpaaGreatDoor
