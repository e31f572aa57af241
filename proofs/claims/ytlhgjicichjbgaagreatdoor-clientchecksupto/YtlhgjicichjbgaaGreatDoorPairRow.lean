/- Lists of pairs in memory: two cells a pair. -/
import Derived.Test.YtlhgjicichjbgaaGreatDoorBodyMath
import Derived.Test.YtlhgjicichjbgaaGreatDoorRowsS
namespace Go.Proofs.YtlhgjicichjbgaaGreatDoor
open Go.RowKit

def flat2 (l : List Two) : List Value := l.flatMap fun q => [.string (bstr q.1), .string (bstr q.2)]
theorem flat2_len (l : List Two) : (flat2 l).length = 2 * l.length := by
  induction l with
  | nil => rfl
  | cons q l ih => simp only [flat2, List.flatMap_cons, List.length_append, List.length_cons, List.length_nil] at ih ⊢; omega
theorem flat2_snoc (l : List Two) (q : Two) : flat2 (l ++ [q]) = flat2 l ++ [.string (bstr q.1), .string (bstr q.2)] := by simp [flat2]
theorem flat2_get : ∀ (l : List Two) (i : Nat) (q : Two), l[i]? = some q → (flat2 l)[2 * i]? = some (.string (bstr q.1)) ∧ (flat2 l)[2 * i + 1]? = some (.string (bstr q.2))
  | [], i, q, h => by simp at h
  | p :: l, 0, q, h => by
    simp only [List.getElem?_cons_zero, Option.some.injEq] at h
    subst h
    exact ⟨rfl, rfl⟩
  | p :: l, i + 1, q, h => by
    simp only [List.getElem?_cons_succ] at h
    have := flat2_get l i q h
    simpa [flat2, Nat.mul_succ] using this
theorem flat2_one (l : List Two) : ∀ u ∈ flat2 l, u.oneCell' = true := by
  intro u hu
  obtain ⟨q, _, hu⟩ := List.mem_flatMap.1 hu
  simp only [List.mem_cons, List.not_mem_nil, or_false] at hu
  rcases hu with rfl | rfl <;> rfl

/-- A row of pairs in memory: none, or cells from an address on. -/
def PRow (w : World) (ao : Option Addr) (l : List Two) : Prop :=
  l = [] ∨ ∃ b off, ao = some ⟨b, off, none⟩ ∧ ∀ i q, l[i]? = some q → w.cell? ⟨b, off + 2 * i, none⟩ = some (.string (bstr q.1)) ∧ w.cell? ⟨b, off + 2 * i + 1, none⟩ = some (.string (bstr q.2))
theorem PRow.keep {w w' : World} {ao : Option Addr} {l : List Two} (h : PRow w ao l) (hb : Below w.heap.size w w') : PRow w' ao l := by
  rcases h with h | ⟨b, off, rfl, hc⟩
  · exact .inl h
  · refine .inr ⟨b, off, rfl, fun i q hi => ?_⟩
    obtain ⟨h1, h2⟩ := hc i q hi
    exact ⟨cell_kept h1 hb, cell_kept h2 hb⟩
theorem PRow.form {w : World} {ao : Option Addr} {l : List Two} (h : PRow w ao l) (hne : 0 < l.length) : ∃ b off, ao = some ⟨b, off, none⟩ := by
  rcases h with rfl | ⟨b, off, rfl, _⟩
  · simp at hne
  · exact ⟨b, off, rfl⟩
theorem PRow.cell {w : World} {b off : Nat} {l : List Two} (h : PRow w (some ⟨b, off, none⟩) l) {i : Nat} {q : Two} (hi : l[i]? = some q) : w.cell? ⟨b, off + 2 * i, none⟩ = some (.string (bstr q.1)) ∧ w.cell? ⟨b, off + 2 * i + 1, none⟩ = some (.string (bstr q.2)) := by
  rcases h with rfl | ⟨b', off', h, hc⟩
  · simp at hi
  · cases h; exact hc i q hi

theorem infoPair : (Tryz.prog.info? 63).map (fun i => (i.zero, i.size, i.bytes)) = some (some (.agg #[.string { data := #[] }, .string { data := #[] }]), 2, 32) := by kernel_rfl
/-- A slice of pairs that is the call's own. -/
def POwn (t : TypeId) (w : World) (B : Nat) (v : Value) (l : List Two) : Prop := w.ownsRow B t 2 v l.length (flat2 l)
theorem pown_nil (t : TypeId) (w : World) (B : Nat) : POwn t w B (.slice none 0 0) [] := World.ownsRow_nil _ _ _ _
theorem POwn.keep {t : TypeId} {w w' : World} {B : Nat} {v : Value} {l : List Two} (h : POwn t w B v l) (hb : Below w.heap.size w w') : POwn t w' B v l := by
  refine ⟨h.1, ?_⟩
  rcases h.2 with h2 | ⟨g, cap, cur, e, hg, hh, r⟩
  · exact .inl h2
  · exact .inr ⟨g, cap, cur, e, hg, (hb.block g (Array.getElem?_eq_some_iff.1 hh).1).trans hh, r⟩
theorem POwn.lower {t : TypeId} {w : World} {B B' : Nat} {v : Value} {l : List Two} (h : POwn t w B v l) (hB : B' ≤ B) : POwn t w B' v l := by
  refine ⟨h.1, ?_⟩
  rcases h.2 with h2 | ⟨g, cap, cur, e, hg, r⟩
  · exact .inl h2
  · exact .inr ⟨g, cap, cur, e, Nat.le_trans hB hg, r⟩
theorem POwn.shape {t : TypeId} {w : World} {B : Nat} {v : Value} {l : List Two} (h : POwn t w B v l) : ∃ ao cap, v = .slice ao l.length cap ∧ l.length ≤ cap ∧ PRow w ao l ∧ (∀ a, ao = some a → B ≤ a.block) := by
  rcases h.2 with ⟨rfl, hn⟩ | ⟨g, cap, cur, rfl, hb, hg, hle, _, _, ht⟩
  · exact ⟨none, 0, by rw [hn], by omega, .inl (List.length_eq_zero_iff.1 hn), fun a ha => by cases ha⟩
  · refine ⟨_, cap, rfl, hle, .inr ⟨g, 0, rfl, fun i q hi => ?_⟩, fun a ha => by cases ha; exact hb⟩
    obtain ⟨h1, h2⟩ := flat2_get l i q hi
    have c1 := World.ownsRow.cells h (g := g) rfl (2 * i) _ h1
    have c2 := World.ownsRow.cells h (g := g) rfl (2 * i + 1) _ h2
    rw [add_none] at c1 c2
    exact ⟨c1, c2⟩
theorem POwn.ge {t : TypeId} {w : World} {B : Nat} {v : Value} {l : List Two} (h : POwn t w B v l) : ∀ k, v.ownBlock = some k → B ≤ k := fun k hk => (World.ownsRow.lt h k hk).1
def outOf : Tried (List Two) → List Two × Nat × Nat
  | .ok l => (l, 0, 0)
  | .error (e, p) => ([], e, p)
def parOut (xs : List Nat) : List Two × Nat × Nat := if 16384 < xs.length then ([], 1, 0) else outOf (parse xs 0 [])
theorem bstr_empty {a : List Nat} (h : a.length ≠ 0) : ((bstr a).toList == ([] : List UInt8)) = false := by
  cases a with
  | nil => simp at h
  | cons x a => simp [bstr]
theorem parse_err : ∀ (n : Nat) (l : List Nat) (i : Nat) (acc : List Two) (e p : Nat), l.length ≤ n → parse l i acc = .error (e, p) → e ≠ 0 ∧ e ≤ 32 ∧ 0 < l.length ∧ p < i + l.length
  | n, l, i, acc, e, p, hn, h => by
    by_cases h0 : l.length = 0
    · rw [List.length_eq_zero_iff] at h0; subst h0; rw [parse_nil] at h; cases h
    · obtain ⟨n, rfl⟩ : ∃ m, n = m + 1 := ⟨n - 1, by omega⟩
      have hle := upTo_le 38 l
      by_cases h1 : (upTo 38 l).length = 0
      · rw [parse_empty i acc (by omega) h1] at h
        have := parse_err n _ _ _ _ _ (by rw [List.length_drop]; omega) h
        rw [List.length_drop] at this
        omega
      · by_cases h2 : acc.length = 64
        · rw [parse_many i acc h1 h2] at h; cases h; omega
        · cases h3 : pairAt (upTo 38 l) i with
          | error e' =>
            obtain ⟨e1, p1⟩ := e'
            rw [parse_bad i acc h1 h2 h3] at h
            cases h
            unfold pairAt at h3
            have hle2 := upTo_le 61 (upTo 38 l)
            cases hu : un (upTo 61 (upTo 38 l)) i with
            | error e2 =>
              rw [hu] at h3
              cases h3
              have := un_err _ _ _ _ _ (Nat.le_refl _) hu
              omega
            | ok nn =>
              rw [hu] at h3
              simp only at h3
              cases hv : un ((upTo 38 l).drop ((upTo 61 (upTo 38 l)).length + 1)) (i + (upTo 61 (upTo 38 l)).length + 1) with
              | error e2 =>
                rw [hv] at h3
                cases h3
                have := un_err _ _ _ _ _ (Nat.le_refl _) hv
                rw [List.length_drop] at this
                omega
              | ok v => rw [hv] at h3; cases h3
          | ok q =>
            rw [parse_good i acc h1 h2 h3] at h
            have := parse_err n _ _ _ _ _ (by rw [List.length_drop]; omega) h
            rw [List.length_drop] at this
            omega
end Go.Proofs.YtlhgjicichjbgaaGreatDoor
