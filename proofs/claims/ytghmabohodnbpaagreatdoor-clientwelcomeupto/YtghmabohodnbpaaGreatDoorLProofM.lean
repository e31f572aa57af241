/- Who gets in, and by what: the mathematics of ClientProof. -/
import Derived.Test.YtghmabohodnbpaaGreatDoorLAuthO
namespace Go.Proofs.YtghmabohodnbpaaGreatDoor
open Go.RowKit

theorem find_id {L : List Cl} {nm : ByteArray} {q : Cl} (h : findR L nm = some q) : q.id = nm ∧ findR L q.id = some q := by
  have hid : q.id = nm := by
    unfold findR at h
    cases hp : posOf L nm with
    | none => rw [hp] at h; cases h
    | some i =>
      rw [hp] at h
      unfold posOf at hp
      rw [List.findIdx?_eq_some_iff_getElem] at hp
      obtain ⟨hi, hq, _⟩ := hp
      have h2 : L[i]? = some q := h
      rw [List.getElem?_eq_getElem hi] at h2
      injection h2 with h2
      rw [h2] at hq
      exact of_decide_eq_true hq
  exact ⟨hid, by rw [hid]; exact h⟩
theorem authF_cases (h : Int) (s : ByteArray) (F : Option Cl) : (∃ q, F = some q ∧ holdsB h s q.secret = true ∧ authF h s F = ⟨some q, h, 0⟩) ∨ (∃ e, e ≠ 0 ∧ authF h s F = ⟨none, 0, e⟩) := by
  cases F with
  | none => exact .inr ⟨111, by decide, rfl⟩
  | some q =>
    by_cases hb : holdsB h s q.secret = true
    · exact .inl ⟨q, rfl, hb, if_pos hb⟩
    · exact .inr ⟨112, by decide, if_neg hb⟩
theorem authR_cases (L : List Cl) (t : Clm) : (∃ q, findR L t.nm = some q ∧ holdsB t.how t.sec q.secret = true ∧ t.er = 0 ∧ authR L t = ⟨some q, t.how, 0⟩) ∨ (∃ e, e ≠ 0 ∧ authR L t = ⟨none, 0, e⟩) := by
  unfold authR
  by_cases he : t.er ≠ 0
  · rw [if_pos he]; exact .inr ⟨t.er, he, rfl⟩
  · rw [if_neg he]
    rcases authF_cases t.how t.sec (findR L t.nm) with ⟨q, h1, h2, h3⟩ | h
    · exact .inl ⟨q, h1, h2, Classical.not_not.1 he, h3⟩
    · exact .inr h
/-- What an answered client means. -/
theorem proof_facts (L : List Cl) (x : ByteArray) (l : List Two) (X Y : List Nat) (i j : Nat) (h1 : ones nId l = (X, i)) (h2 : ones nSec l = (Y, j)) :
    (∃ e, e ≠ 0 ∧ authR L (claimT x l) = ⟨none, 0, e⟩) ∨
    (∃ q, ¬ 1 < i ∧ ¬ 1 < j ∧ findR L q.id = some q ∧
      ((authR L (claimT x l) = ⟨some q, 0, 0⟩ ∧ q.secret.size = 0 ∧ Y = [] ∧ bstr X = q.id ∧ x.size = 0) ∨
       (authR L (claimT x l) = ⟨some q, 2, 0⟩ ∧ q.secret.size ≠ 0 ∧ Y ≠ [] ∧ bstr Y = q.secret ∧ bstr X = q.id ∧ x.size = 0) ∨
       (authR L (claimT x l) = ⟨some q, 1, 0⟩ ∧ q.secret.size ≠ 0 ∧ (∃ a s, basT (sbytes x) = some (a, s) ∧ bstr a = q.id ∧ bstr s = q.secret) ∧ Y = [] ∧ (X = [] ∨ bstr X = q.id)))) := by
  obtain ⟨d1, d2, d3, d4⟩ := auth_doc L x l X Y i j h1 h2
  by_cases hij : 1 < i ∨ 1 < j
  · exact .inl ⟨34, by decide, d1 hij⟩
  have g1 : ¬ 1 < i := fun h => hij (.inl h)
  have g2 : ¬ 1 < j := fun h => hij (.inr h)
  have hbz : ∀ z : List Nat, (bstr z).size = 0 ↔ z = [] := fun z => by rw [bstr_size]; exact List.length_eq_zero_iff
  by_cases hx : x.size = 0
  · by_cases hX : X = []
    · exact .inl ⟨7, by decide, d3 g1 g2 hx hX⟩
    · have e := d4 g1 g2 hx hX
      cases hF : findR L (bstr X) with
      | none => rw [hF] at e; exact .inl ⟨111, by decide, e⟩
      | some q =>
        rw [hF, auth_form] at e
        obtain ⟨f1, f2⟩ := find_id hF
        by_cases hs : q.secret = bstr Y
        · rw [if_pos hs] at e
          by_cases hz : q.secret.size = 0
          · rw [if_pos hz] at e
            exact .inr ⟨q, g1, g2, f2, .inl ⟨e, hz, (hbz Y).1 (by rw [← hs]; exact hz), f1.symm, hx⟩⟩
          · rw [if_neg hz] at e
            exact .inr ⟨q, g1, g2, f2, .inr (.inl ⟨e, hz, fun h => hz (by rw [hs]; exact (hbz Y).2 h), hs.symm, f1.symm, hx⟩)⟩
        · rw [if_neg hs] at e
          exact .inl ⟨112, by decide, e⟩
  · have e := d2 g1 g2 hx
    unfold byH at e
    cases hB : basT (sbytes x) with
    | none => rw [hB] at e; exact .inl ⟨113, by decide, e⟩
    | some ab =>
      obtain ⟨a, s⟩ := ab
      rw [hB] at e
      dsimp only at e
      by_cases hY : (!Y.isEmpty) = true
      · rw [if_pos hY] at e; exact .inl ⟨34, by decide, e⟩
      · rw [if_neg hY] at e
        have hY2 : Y = [] := by cases Y with | nil => rfl | cons => exact absurd rfl hY
        by_cases hc : (!X.isEmpty) = true ∧ bstr X ≠ bstr a
        · rw [if_pos hc] at e; exact .inl ⟨112, by decide, e⟩
        · rw [if_neg hc] at e
          rcases authF_cases 1 (bstr s) (findR L (bstr a)) with ⟨q, k1, k2, k3⟩ | ⟨e2, k1, k2⟩
          · obtain ⟨f1, f2⟩ := find_id k1
            rw [k3] at e
            unfold holdsB at k2
            rw [if_pos (.inl rfl), Bool.and_eq_true, decide_eq_true_eq, decide_eq_true_eq] at k2
            refine .inr ⟨q, g1, g2, f2, .inr (.inr ⟨e, by omega, ⟨a, s, rfl, f1.symm, k2.2⟩, hY2, ?_⟩)⟩
            by_cases hX : X = []
            · exact .inl hX
            · right
              rw [f1]
              apply Classical.byContradiction
              intro hne
              exact hc ⟨by cases X with | nil => exact absurd rfl hX | cons => rfl, hne⟩
          · rw [k2] at e; exact .inl ⟨e2, k1, e⟩
end Go.Proofs.YtghmabohodnbpaaGreatDoor
