/- Plain mathematics of the reference's Load: numbers byte by byte, the register word by word. -/
import Derived.Test.YtjdglpfjemoodaaDoorPieceMath
import Derived.Test.YtjdglpfjemoodaaDoorMath
namespace Go.Proofs.YtjdglpfjemoodaaDoor

def beN (l : List Nat) : Nat := l.foldl (fun a x => a * 256 + x) 0
theorem beN_snoc (l : List Nat) (x : Nat) : beN (l ++ [x]) = beN l * 256 + x := by simp [beN]
theorem beN_lt {l : List Nat} (h : ∀ x ∈ l, x < 256) : beN l < 256 ^ l.length := by
  have : ∀ (l : List Nat) (a m : Nat), (∀ x ∈ l, x < 256) → a < 256 ^ m → l.foldl (fun a x => a * 256 + x) a < 256 ^ (m + l.length) := by
    intro l
    induction l with
    | nil => intro a m _ ha; simpa using ha
    | cons x r ih =>
      intro a m hx ha
      have h1 := hx x (by simp)
      have := ih (a * 256 + x) (m + 1) (fun y hy => hx y (by simp [hy])) (by rw [Nat.pow_succ]; omega)
      rw [List.foldl_cons, List.length_cons, show m + (r.length + 1) = m + 1 + r.length by omega]
      exact this
  have h2 := this l 0 0 h (by decide)
  rw [Nat.zero_add] at h2
  exact h2
theorem num8_beN {l : List Nat} (h : l.length = 8) : num8 l = beN l := by
  obtain ⟨a, b, c, d, e, f, g, k, rfl⟩ := list_of8 h
  simp [num8, word4, be4, beN]
  omega
theorem word4_beN {l : List Nat} (h : 4 ≤ l.length) : word4 l = beN (l.take 4) := by
  match l, h with
  | a :: b :: c :: d :: r, _ => simp [word4, be4, beN]
/-- The register behind k bytes. -/
def regP (xs : List Nat) (k : Nat) : List Nat := (List.range 8).map fun i => beN (((xs.take k).drop (4 * i)).take 4)
theorem regP_length (xs : List Nat) (k : Nat) : (regP xs k).length = 8 := by simp [regP]
theorem regP_zero (xs : List Nat) : regP xs 0 = List.replicate 8 0 := by simp [regP, beN]; decide
theorem regP_all (xs : List Nat) (h : 32 ≤ xs.length) : regP xs 32 = regOf xs := by
  unfold regP regOf
  apply List.map_congr_left
  intro i hi
  have hi8 := List.mem_range.1 hi
  rw [word4_beN (by rw [List.length_drop]; omega)]
  congr 1
  rw [List.drop_take, List.take_take, show min 4 (32 - 4 * i) = 4 by omega]
theorem regP_get (xs : List Nat) (k i : Nat) (hi : i < 8) : (regP xs k).getD i 0 = beN (((xs.take k).drop (4 * i)).take 4) := by simp [regP, List.getD, hi]
theorem regP_succ (xs : List Nat) (k : Nat) (hl : k < xs.length) : regP xs (k + 1) = (regP xs k).set (k / 4) ((regP xs k).getD (k / 4) 0 * 256 + xs.getD k 0) := by
  apply List.ext_getElem?
  intro i
  by_cases h8 : i < 8
  · rw [List.getElem?_set]
    have hg : ∀ m, (regP xs m)[i]? = some (beN (((xs.take m).drop (4 * i)).take 4)) := fun m => by simp [regP, h8]
    rw [hg (k + 1)]
    by_cases he : k / 4 = i
    · rw [if_pos he, if_pos (by rw [regP_length]; omega), he, regP_get xs k i h8, ← beN_snoc]
      congr 2
      rw [List.take_succ_eq_append_getElem hl, List.drop_append_of_le_length (by rw [List.length_take]; omega), List.take_of_length_le (l := List.drop (4 * i) (List.take k xs) ++ [xs[k]]) (by rw [List.length_append, List.length_drop, List.length_take]; simp; omega), List.take_of_length_le (l := List.drop (4 * i) (List.take k xs)) (by rw [List.length_drop, List.length_take]; omega)]
      simp [List.getD, hl]
    · rw [if_neg he, hg k]
      congr 2
      rw [List.drop_take, List.drop_take, List.take_take, List.take_take]
      by_cases hlt : i < k / 4
      · rw [show min 4 (k + 1 - 4 * i) = min 4 (k - 4 * i) by omega]
      · rw [show min 4 (k + 1 - 4 * i) = 0 by omega, show min 4 (k - 4 * i) = 0 by omega]
  · rw [List.getElem?_eq_none (by rw [regP_length]; omega), List.getElem?_eq_none (by rw [List.length_set, regP_length]; omega)]
theorem regP_lt {xs : List Nat} (h : ∀ x ∈ xs, x < 256) (k i : Nat) (hi : i < 8) : (regP xs k).getD i 0 < 4294967296 := by
  rw [regP_get xs k i hi]
  have h1 := beN_lt (l := ((xs.take k).drop (4 * i)).take 4) (fun x hx => h x (List.mem_of_mem_take (List.mem_of_mem_drop (List.mem_of_mem_take hx))))
  have h2 : (((xs.take k).drop (4 * i)).take 4).length ≤ 4 := List.length_take_le _ _
  exact Nat.lt_of_lt_of_le h1 (Nat.pow_le_pow_right (n := 256) (by decide) h2)
theorem regP_small {xs : List Nat} (h : ∀ x ∈ xs, x < 256) (k : Nat) (hk : k < 32) (hl : k < xs.length) : (regP xs k).getD (k / 4) 0 < 16777216 := by
  rw [regP_get xs k (k / 4) (by omega)]
  have h1 := beN_lt (l := ((xs.take k).drop (4 * (k / 4))).take 4) (fun x hx => h x (List.mem_of_mem_take (List.mem_of_mem_drop (List.mem_of_mem_take hx))))
  have h2 : (((xs.take k).drop (4 * (k / 4))).take 4).length ≤ 3 := by rw [List.length_take, List.length_drop, List.length_take]; omega
  exact Nat.lt_of_lt_of_le h1 (Nat.pow_le_pow_right (n := 256) (by decide) h2)
end Go.Proofs.YtjdglpfjemoodaaDoor
/- What a copy by append([]byte{}, x...) is: a row of the call's own; nothing old turned. -/
namespace Go.Proofs.YtjdglpfjemoodaaDoor
open Go.RowKit

theorem copied {w w1 : World} {o : Obj} {v : Value} {xs : List Nat} {n m c : Nat} (hown : Own w1 w.heap.size v ([] ++ xs)) (hgr : (w.alloc o).grownBy w1 (Value.slice (some ⟨w.heap.size, 0, none⟩) m c).ownBlock) (hn : n = xs.length) :
    ∃ ao c, v = .slice ao n c ∧ n ≤ c ∧ Row w1 ao xs ∧ Below w.heap.size w w1 := by
  obtain ⟨ao, c', hv, hle, hr⟩ := hown.read
  rw [List.nil_append] at hv hle hr
  refine ⟨ao, c', by rw [hn]; exact hv, by omega, hr, ((Below.refl _ _).alloc (Nat.le_refl _) _).grown hgr (by simp) (fun k hk => by simp [Value.ownBlock] at hk; omega)⟩
end Go.Proofs.YtjdglpfjemoodaaDoor
