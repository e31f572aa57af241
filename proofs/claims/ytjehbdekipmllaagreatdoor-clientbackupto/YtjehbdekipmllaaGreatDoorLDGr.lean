/- The document's grants of a text: every text; it says what the program's reading says. -/
import Derived.Test.YtjehbdekipmllaaGreatDoorLRCheckB
import Derived.Test.YtjehbdekipmllaaGreatDoorLRead
namespace Go.Proofs.YtjehbdekipmllaaGreatDoor
open Go.RowKit

def smStep (u : U) (k : Nat) : Option Nat := if u = uDevice then some (k + 1) else if u = uCiba then some (k + 2) else none
def smFold (l : List U) (k : Nat) : Option Nat := l.foldl (fun a u => a.bind (smStep u)) (some k)
theorem smFold_snoc (l : List U) (u : U) (k : Nat) : smFold (l ++ [u]) k = (smFold l k).bind (smStep u) := by simp [smFold]
theorem smFold_bad {l : List U} {k j : Nat} (h : smFold (l.take j) k = none) : smFold l k = none := by
  have hn : ∀ r : List U, r.foldl (fun a u => a.bind (smStep u)) none = none := by
    intro r; induction r with
    | nil => rfl
    | cons u r ih => simpa using ih
  unfold smFold at *
  rw [← List.take_append_drop j l, List.foldl_append, h]
  exact hn _
theorem sm_le : ∀ (l : List U) (k j : Nat), smFold l k = some j → j ≤ k + 2 * l.length
  | [], k, j, h => by
    have : k = j := Option.some.inj h
    simp; omega
  | u :: r, k, j, h => by
    have hn : ∀ r : List U, r.foldl (fun a u => a.bind (smStep u)) none = none := by
      intro r; induction r with
      | nil => rfl
      | cons u r ih => simpa using ih
    unfold smFold at h
    rw [List.foldl_cons] at h
    cases hs : smStep u k with
    | none =>
      rw [show (some k).bind (smStep u) = smStep u k from rfl, hs, hn] at h
      cases h
    | some k2 =>
      rw [show (some k).bind (smStep u) = smStep u k from rfl, hs] at h
      have ih := sm_le r k2 j h
      have : k2 ≤ k + 2 := by
        unfold smStep at hs
        split at hs
        · cases hs; omega
        · split at hs
          · cases hs; omega
          · cases hs
      simp; omega
theorem bad_none : ∀ (l : List U) (k : Nat), (∃ u ∈ l, u ≠ uDevice ∧ u ≠ uCiba) → smFold l k = none ∧ grFold l k = none
  | [], _, ⟨u, hu, _⟩ => by cases hu
  | a :: r, k, ⟨u, hu, h1, h2⟩ => by
    have n1 : ∀ r : List U, r.foldl (fun a u => a.bind (smStep u)) none = none := by
      intro r; induction r with
      | nil => rfl
      | cons u r ih => simpa using ih
    have n2 : ∀ r : List U, r.foldl (fun a u => a.bind (grStep u)) none = none := by
      intro r; induction r with
      | nil => rfl
      | cons u r ih => simpa using ih
    by_cases ha : a ≠ uDevice ∧ a ≠ uCiba
    · refine ⟨?_, ?_⟩
      · show r.foldl _ (smStep a k) = none
        rw [show smStep a k = none by unfold smStep; rw [if_neg ha.1, if_neg ha.2]]
        exact n1 r
      · show r.foldl _ (grStep a k) = none
        rw [show grStep a k = none by unfold grStep; rw [if_neg ha.1, if_neg ha.2]]
        exact n2 r
    · have hr : u ∈ r := by
        rcases List.mem_cons.1 hu with e | e
        · exact absurd ⟨by rw [← e]; exact h1, by rw [← e]; exact h2⟩ ha
        · exact e
      refine ⟨?_, ?_⟩
      · show r.foldl _ (smStep a k) = none
        cases hs : smStep a k with
        | none => exact n1 r
        | some k2 => exact (bad_none r k2 ⟨u, hr, h1, h2⟩).1
      · show r.foldl _ (grStep a k) = none
        cases hs : grStep a k with
        | none => exact n2 r
        | some k2 => exact (bad_none r k2 ⟨u, hr, h1, h2⟩).2
theorem lt_dc : ¬ uDevice < uCiba := by decide
theorem lt_irr (u : U) : ¬ u < u := by simp
/-- Of a rising list the sum of the words' numbers is what they are laid together. -/
theorem sm_gr {l : List U} (h : Rising l) : smFold l 0 = grFold l 0 := by
  by_cases hb : ∃ u ∈ l, u ≠ uDevice ∧ u ≠ uCiba
  · rw [(bad_none l 0 hb).1, (bad_none l 0 hb).2]
  · have hall : ∀ u ∈ l, u = uDevice ∨ u = uCiba := fun u hu => by
      by_cases h1 : u = uDevice
      · exact .inl h1
      · by_cases h2 : u = uCiba
        · exact .inr h2
        · exact absurd ⟨u, hu, h1, h2⟩ hb
    match l, h, hall with
    | [], _, _ => rfl
    | [a], _, hall =>
      rcases hall a (by simp) with rfl | rfl <;> rfl
    | [a, b], h, hall =>
      have hab : a < b := (List.pairwise_cons.1 h).1 b (by simp)
      rcases hall a (by simp) with rfl | rfl <;> rcases hall b (by simp) with rfl | rfl
      · exact absurd hab (lt_irr _)
      · exact absurd hab lt_dc
      · rfl
      · exact absurd hab (lt_irr _)
    | a :: b :: c :: r, h, hall =>
      exfalso
      obtain ⟨h1, h2⟩ := List.pairwise_cons.1 h
      obtain ⟨h3, -⟩ := List.pairwise_cons.1 h2
      have hab : a < b := h1 b (by simp)
      have hac : a < c := h1 c (by simp)
      have hbc : b < c := h3 c (by simp)
      rcases hall a (by simp) with rfl | rfl <;> rcases hall b (by simp) with rfl | rfl <;> rcases hall c (by simp) with rfl | rfl
      · exact lt_irr _ hab
      · exact lt_irr _ hab
      · exact lt_dc hab
      · exact lt_dc hab
      · exact lt_irr _ hbc
      · exact lt_dc hbc
      · exact lt_irr _ hab
      · exact lt_irr _ hab
theorem scoOut_rising (t : U) : Rising (scoOut t).1 := by
  unfold scoOut
  split
  · exact List.Pairwise.nil
  · split
    · exact List.Pairwise.nil
    · split
      · split
        · exact List.Pairwise.nil
        · exact insAll_rising _ _ List.Pairwise.nil
      · exact List.Pairwise.nil
/-- What the document's grants says. -/
def grD (v : U) : Nat := if (scoOut v).2 = 0 then (smFold (scoOut v).1 0).getD 0 else 0
theorem grD_eq (v : U) : grD v = (grantsR v 0).getD 0 := by
  unfold grD grantsR
  rw [sm_gr (scoOut_rising v)]
  by_cases h : (scoOut v).2 = 0
  · rw [if_pos h]
    cases grFold (scoOut v).1 0 with
    | none => rfl
    | some j => simp only [if_pos h]
  · rw [if_neg h]
    cases grFold (scoOut v).1 0 with
    | none => rfl
    | some j => simp only [if_neg h]; rfl
set_option linter.unusedSimpArgs false in
set_option maxHeartbeats 1000000 in
set_option maxRecDepth 100000 in
theorem rgrants_any (s : ByteArray) (w : World) (hs : s.size ≤ 9223372036854775807) :
    Calls Tryz.prog 54 #[.string s] w fun e w' => e = .returned (.int .i64 ((grD s.data.toList : Nat) : Int)) ∧ Below w.heap.size w w' := by
  obtain ⟨l, er, hO⟩ : ∃ l er, scoOut s.data.toList = (l, er) := ⟨_, _, rfl⟩
  obtain ⟨n, hn⟩ : ∃ n, n = l.length := ⟨_, rfl⟩
  have hn32 : n ≤ 32 := by have h32 : (scoOut s.data.toList).1.length ≤ 32 := scoOut_len _; rw [hO] at h32; rw [hn]; exact h32
  have HN : Hid (n = l.length) := hn
  have HSC := rscopes_c s l er n w hO hn hs
  obtain ⟨G, HG⟩ : ∃ G, Hid (G = grD s.data.toList) := ⟨_, hide rfl⟩
  have HGE : Hid (G = if er = 0 then (smFold l 0).getD 0 else 0) := by show _ = _; rw [HG.out]; unfold grD; rw [hO]
  rw [← HG.out]
  clear hO hn HG hs
  go_enter Tryz.func54, Tryz.ntmps54
  go_wp2_with (first | (go_at_call 55; refine HSC.mono ?_))
  rintro e w1 ⟨fo, fc, rfl, hh⟩
  have HB := hide hh.out.2
  have HR := hide hh.out.1.row
  clear hh HSC
  by_cases he : er = 0
  rotate_left
  · have hei : ((er : Int) != 0) = true := by simp; omega
    have HZ : Hid (G = 0) := by show _ = _; rw [HGE.out, if_neg he]
    go_wp2
    go_ret
    exact ⟨by rw [HZ.out]; rfl, HB.out⟩
  subst he
  have HGS : Hid (G = (smFold l 0).getD 0) := HGE
  clear HGE
  go_wp2
  go_loopw [5, 6] (fun a i wr => ∃ (k j : Nat), k ≤ n ∧ i = .int .i64 (k : Int) ∧ a = .int .i64 (j : Int) ∧ j ≤ 2 * k ∧ Hid (smFold (l.take k) 0 = some j) ∧ ∃ q, wr = w1.drewN q) (fun _ i _ => n - (intOf i).toNat)
  case atStart => exact ⟨0, 0, Nat.zero_le _, rfl, rfl, by omega, rfl, 0, rfl⟩
  case round =>
    obtain ⟨k, j, hk, rfl, rfl, hj, HF, q, rfl⟩ := hrel
    by_cases hlt : k < n
    · obtain ⟨b1, o1, rfl⟩ := HR.out.form (by rw [← HN.out]; omega)
      obtain ⟨u, hu⟩ : ∃ u, l[k]? = some u := ⟨_, List.getElem?_eq_getElem (by rw [← HN.out]; exact hlt)⟩
      obtain ⟨ub, HUB⟩ : ∃ ub : ByteArray, Hid (ub = ⟨u.toArray⟩) := ⟨_, hide rfl⟩
      have c0 : w1.cell? ⟨b1, o1 + k, none⟩ = some (.string ub) := by rw [HUB.out]; exact HR.out.cell hu
      have hkn : (k : Int) < (n : Int) := by omega
      have HST : Hid (smFold (l.take (k + 1)) 0 = smStep u j) := by show _ = _; rw [take_u hu, smFold_snoc, HF.out]; rfl
      have qd : (ub.toList == [100, 101, 118, 105, 99, 101]) = decide (u = uDevice) := by rw [HUB.out]; exact u_eq u _
      have qc : (ub.toList == [99, 105, 98, 97]) = decide (u = uCiba) := by rw [HUB.out]; exact u_eq u _
      clear hu
      by_cases h1 : u = uDevice
      · rw [decide_eq_true h1] at qd
        have HS2 : Hid (smFold (l.take (k + 1)) 0 = some (j + 1)) := by show _ = _; rw [HST.out]; unfold smStep; rw [if_pos h1]
        clear qc h1 HST
        go_wp2
        go_roundw
        case rel => exact ⟨k + 1, j + 1, by omega, by go_num, by go_num, by omega, HS2, q, rfl⟩
        case measure => simp [intOf]; omega
      · rw [decide_eq_false h1] at qd
        by_cases h2 : u = uCiba
        · rw [decide_eq_true h2] at qc
          have HS2 : Hid (smFold (l.take (k + 1)) 0 = some (j + 2)) := by show _ = _; rw [HST.out]; unfold smStep; rw [if_neg h1, if_pos h2]
          clear h1 h2 HST
          go_wp2
          go_roundw
          case rel => exact ⟨k + 1, j + 2, by omega, by go_num, by go_num, by omega, HS2, q, rfl⟩
          case measure => simp [intOf]; omega
        · rw [decide_eq_false h2] at qc
          have HZ : Hid (G = 0) := by
            show _ = _
            have hb : smFold (l.take (k + 1)) 0 = none := by rw [HST.out]; unfold smStep; rw [if_neg h1, if_neg h2]
            rw [HGS.out, smFold_bad hb]; rfl
          clear h1 h2 HST
          go_wp2
          go_ret
          exact ⟨by rw [HZ.out]; rfl, below_drewN HB.out _⟩
    · have hkn : ¬ (k : Int) < (n : Int) := by omega
      have HZ : Hid (G = j) := by
        show _ = _
        have := HF.out
        rw [List.take_of_length_le (by rw [← HN.out]; omega)] at this
        rw [HGS.out, this]; rfl
      go_wp2
      go_ret
      exact ⟨by rw [HZ.out]; rfl, below_drewN HB.out _⟩
end Go.Proofs.YtjehbdekipmllaaGreatDoor
