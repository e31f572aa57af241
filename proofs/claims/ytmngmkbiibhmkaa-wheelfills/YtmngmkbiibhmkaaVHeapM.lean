/- Popping a heap: what is sorted behind it. Rows turned round. -/
import Derived.Test.YtmngmkbiibhmkaaVSegM
namespace Go.Proofs.Ytmngmkbiibhmkaa
/-- From the place a + k on, nothing that lies before is greater. -/
def Tail (a k b : Nat) (ds : List Nat) : Prop := ∀ p q, a ≤ p → p < q → a + k ≤ q → q < b → gt ds p ≤ gt ds q
theorem heap_pop {a i b : Nat} {ds : List Nat} (h : HeapF a 0 (i + 1) ds) (ht : Tail a (i + 1) b ds) (hi : a + i < b) (hl : b ≤ ds.length) : HeapF a 1 i (swp ds a (a + i)) ∧ Tail a i b (swp ds a (a + i)) := by
  have e : ∀ t, gt (swp ds a (a + i)) t = if t = a + i then gt ds a else if t = a then gt ds (a + i) else gt ds t := fun t => swp_gt (by omega) (by omega) t
  refine ⟨fun k c h1 h2 h3 => ?_, fun p q h1 h2 h3 h4 => ?_⟩
  · rw [e, e, if_neg (by omega), if_neg (by omega), if_neg (by omega), if_neg (by omega)]
    exact h k c (by omega) h2 (by omega)
  · rw [e, e]
    by_cases hq : q = a + i
    · rw [if_pos hq, if_neg (by omega : ¬ p = a + i)]
      by_cases hp : p = a
      · rw [if_pos hp]; exact heap_top h i (by omega)
      · rw [if_neg hp, show p = a + (p - a) by omega]; exact heap_top h (p - a) (by omega)
    · rw [if_neg hq, if_neg (by omega : ¬ q = a)]
      by_cases hp : p = a + i
      · rw [if_pos hp]; exact ht a q (by omega) (by omega) (by omega) h4
      · rw [if_neg hp]
        by_cases hp2 : p = a
        · rw [if_pos hp2]; exact ht (a + i) q (by omega) (by omega) (by omega) h4
        · rw [if_neg hp2]; exact ht p q h1 h2 (by omega) h4
theorem Tail.seg {a i b : Nat} {ds es : List Nat} (h : Tail a i b ds) (k : SegP a (a + i) ds es) (hn : ds.Nodup) (_hb : a + i ≤ b) (hl : b ≤ ds.length) : Tail a i b es := by
  intro p q h1 h2 h3 h4
  rw [k.out q (by omega)]
  by_cases hp : p < a + i
  · obtain ⟨j, hj1, hj2, e⟩ := k.mem hn h1 hp (by omega)
    rw [e]
    exact h j q hj1 (by omega) h3 h4
  · rw [k.out p (by omega)]
    exact h p q h1 h2 h3 h4
theorem heapF_none {f lo hi : Nat} (ds : List Nat) (h : hi ≤ 2 * lo + 1) : HeapF f lo hi ds := fun k c h1 h2 h3 => by omega
end Go.Proofs.Ytmngmkbiibhmkaa
