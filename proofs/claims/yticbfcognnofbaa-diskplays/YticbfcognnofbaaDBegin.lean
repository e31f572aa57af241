/- New on plain data. -/
import Derived.Test.YticbfcognnofbaaDMach
namespace Go.Proofs.Yticbfcognnofbaa

abbrev Fi : Type := Nm × List Nat
/-- The directory behind the first files. -/
def dirAt (fs : List Fi) : Nat → Dir
  | 0 => []
  | k + 1 => dput (fs.getD k ([], [])).1 k (dirAt fs k)
def faultOf (d : Dir) (nm : Nm) (n : Nat) : Nat := if isNm nm = false then 50 else if (dget nm d).isSome then 34 else if 4194304 < n then 1 else 0
def faultAt (fs : List Fi) (k : Nat) : Nat := faultOf (dirAt fs k) (fs.getD k ([], [])).1 (fs.getD k ([], [])).2.length
def firstFault (fs : List Fi) : Option Nat := (List.range fs.length).findSome? fun k => if faultAt fs k = 0 then none else some (faultAt fs k)
def total (fs : List Fi) : Nat := (fs.map fun f => f.2.length).sum
def born (fs : List Fi) (room : Nat) : DS := { room := room, files := fs.map fun f => ⟨f.2, f.2.length⟩, dir := dirAt fs fs.length, safe := dirAt fs fs.length, chg := [], ops := 0, armed := 0, dead := false }
def newErr (fs : List Fi) (room : Int) : Nat := if room < 0 then 2 else if 64 < fs.length then 32 else match firstFault fs with
  | some e => e
  | none => if room < (total fs : Int) then 5 else 0
theorem first_some {fs : List Fi} {k : Nat} (hk : k < fs.length) (h : ∀ j, j < k → faultAt fs j = 0) (he : faultAt fs k ≠ 0) : firstFault fs = some (faultAt fs k) := by
  have e : List.range fs.length = List.range k ++ k :: (List.range (fs.length - k - 1)).map (fun j => k + 1 + j) := by
    apply List.ext_getElem?
    intro i
    rw [List.getElem?_append]
    by_cases h1 : i < k
    · rw [if_pos (by simpa using h1)]
      simp [h1, show i < fs.length by omega]
    · rw [if_neg (by simpa using h1)]
      simp only [List.length_range]
      by_cases h2 : i = k
      · subst h2; simp [hk]
      · obtain ⟨m, hm⟩ : ∃ m, i - k = m + 1 := ⟨i - k - 1, by omega⟩
        rw [hm, List.getElem?_cons_succ]
        by_cases h3 : i < fs.length
        · simp [h3, show m < fs.length - k - 1 by omega]; omega
        · simp [h3, show ¬ m < fs.length - k - 1 by omega]
  unfold firstFault
  rw [e, List.findSome?_append]
  have h0 : (List.range k).findSome? (fun k => if faultAt fs k = 0 then none else some (faultAt fs k)) = none := by
    rw [List.findSome?_eq_none_iff]
    intro j hj
    rw [if_pos (h j (List.mem_range.1 hj))]
  rw [h0, List.findSome?_cons, if_neg he]
  rfl
theorem first_none {fs : List Fi} (h : ∀ j, j < fs.length → faultAt fs j = 0) : firstFault fs = none := by
  unfold firstFault
  rw [List.findSome?_eq_none_iff]
  intro j hj
  rw [if_pos (h j (List.mem_range.1 hj))]
theorem fault_zero {d : Dir} {nm : Nm} {n : Nat} (h : faultOf d nm n = 0) : isNm nm = true ∧ dget nm d = none ∧ n ≤ 4194304 := by
  unfold faultOf at h
  by_cases h1 : isNm nm = false
  · rw [if_pos h1] at h; cases h
  · rw [if_neg h1] at h
    by_cases h2 : (dget nm d).isSome = true
    · rw [if_pos h2] at h; cases h
    · rw [if_neg h2] at h
      by_cases h3 : 4194304 < n
      · rw [if_pos h3] at h; cases h
      · exact ⟨by simpa using h1, by simpa using h2, by omega⟩
theorem dirAt_ok {fs : List Fi} : ∀ k, k ≤ fs.length → k ≤ 64 → (∀ j, j < k → faultAt fs j = 0) → Dok k (dirAt fs k) ∧ (dirAt fs k).length = k ∧ ∀ gs : List Fl, (∀ i, i < k → flAt gs i = ⟨(fs.getD i ([], [])).2, (fs.getD i ([], [])).2.length⟩) → sizes gs (dirAt fs k) = ((fs.take k).map fun f => f.2.length).sum
  | 0, _, _, _ => ⟨⟨List.Pairwise.nil, Nat.zero_le _, fun p (hp : p ∈ []) => (List.not_mem_nil hp).elim, fun p (hp : p ∈ []) => (List.not_mem_nil hp).elim, fun p (hp : p ∈ []) => (List.not_mem_nil hp).elim⟩, rfl, fun gs _ => rfl⟩
  | k + 1, hk, h64, h => by
    obtain ⟨hD, hl, hs⟩ := dirAt_ok (fs := fs) k (by omega) (by omega) (fun j hj => h j (by omega))
    obtain ⟨h1, h2, h3⟩ := fault_zero (h k (by omega))
    have hdel : ddel (fs.getD k ([], [])).1 (dirAt fs k) = dirAt fs k := ddel_none h2
    refine ⟨dok_put (dok_more hD (by omega)) h1 (by omega) (by rw [hdel, hl]; omega) (fun p hp _ => by have := hD.num p hp; omega), ?_, fun gs hgs => ?_⟩
    · show (dput _ _ _).length = k + 1
      rw [dput, dins_length, hdel, hl]
    · show sizes gs (dput _ _ _) = _
      rw [dput, sizes_ins, hdel, hs gs (fun i hi => hgs i (by omega))]
      have e : fs[k]? = some (fs.getD k ([], [])) := by
        rw [List.getD_eq_getElem?_getD, List.getElem?_eq_getElem (by omega)]; rfl
      rw [List.take_add_one, e]
      simp only [Option.toList_some, List.map_append, List.map_cons, List.map_nil, List.sum_append, List.sum_cons, List.sum_nil]
      rw [hgs k (by omega)]
      simp only
      omega
theorem born_at {fs : List Fi} {i : Nat} (hi : i < fs.length) : flAt (fs.map fun f => (⟨f.2, f.2.length⟩ : Fl)) i = ⟨(fs.getD i ([], [])).2, (fs.getD i ([], [])).2.length⟩ := by
  unfold flAt
  simp [List.getD_eq_getElem?_getD, List.getElem?_map, List.getElem?_eq_getElem hi]
theorem born_sizes {fs : List Fi} (h64 : fs.length ≤ 64) (h : ∀ j, j < fs.length → faultAt fs j = 0) : sizes (fs.map fun f => (⟨f.2, f.2.length⟩ : Fl)) (dirAt fs fs.length) = total fs := by
  have := (dirAt_ok fs.length (Nat.le_refl _) h64 h).2.2 (fs.map fun f => ⟨f.2, f.2.length⟩) (fun i hi => born_at hi)
  rw [this, List.take_length]
  rfl
theorem ok_born {fs : List Fi} {room : Nat} (h64 : fs.length ≤ 64) (h : ∀ j, j < fs.length → faultAt fs j = 0) (hr : total fs ≤ room) (hm : room ≤ 9223372036854775807) (hlt : ∀ f ∈ fs, ∀ x ∈ f.2, x < 256) : Ok (born fs room) := by
  obtain ⟨hD, hl, _⟩ := dirAt_ok fs.length (Nat.le_refl _) h64 h
  refine ⟨fun k => ?_, rfl, Nat.zero_le _, Nat.zero_le _, fun f hf => ?_, ?_, fun c (hc : c ∈ []) => (List.not_mem_nil hc).elim, ?_, hm, Nat.zero_le _⟩
  · show Dok (fs.map _).length (chds (dirAt fs fs.length) (([] : List Ch).take k))
    rw [List.take_nil, List.length_map]
    exact hD
  · have hf' : f ∈ fs.map fun f => (⟨f.2, f.2.length⟩ : Fl) := hf
    obtain ⟨x, hx, rfl⟩ := List.mem_map.1 hf'
    obtain ⟨j, hj, rfl⟩ := List.getElem_of_mem hx
    have hz := (fault_zero (h j hj)).2.2
    rw [List.getD_eq_getElem?_getD, List.getElem?_eq_getElem hj] at hz
    exact ⟨hz, Nat.le_refl _, hlt _ hx⟩
  · show (fs.map _).length ≤ 64 + 0
    rw [List.length_map]; omega
  · show sizes (fs.map _) (dirAt fs fs.length) ≤ room
    rw [born_sizes h64 h]; exact hr
theorem new_zero {fs : List Fi} {room : Int} (h : newErr fs room = 0) : 0 ≤ room ∧ fs.length ≤ 64 ∧ (∀ j, j < fs.length → faultAt fs j = 0) ∧ (total fs : Int) ≤ room := by
  unfold newErr at h
  by_cases h1 : room < 0
  · rw [if_pos h1] at h; cases h
  · rw [if_neg h1] at h
    by_cases h2 : 64 < fs.length
    · rw [if_pos h2] at h; cases h
    · rw [if_neg h2] at h
      cases hf : firstFault fs with
      | some e =>
        rw [hf] at h
        simp only at h
        unfold firstFault at hf
        obtain ⟨j, _, hj⟩ := List.exists_of_findSome?_eq_some hf
        by_cases h3 : faultAt fs j = 0
        · rw [if_pos h3] at hj; cases hj
        · rw [if_neg h3] at hj; injection hj with hj; omega
      | none =>
        rw [hf] at h
        simp only at h
        by_cases h3 : room < (total fs : Int)
        · rw [if_pos h3] at h; cases h
        · refine ⟨by omega, by omega, fun j hj => ?_, by omega⟩
          unfold firstFault at hf
          rw [List.findSome?_eq_none_iff] at hf
          have := hf j (List.mem_range.2 hj)
          by_cases h4 : faultAt fs j = 0
          · exact h4
          · rw [if_neg h4] at this; cases this
end Go.Proofs.Yticbfcognnofbaa
