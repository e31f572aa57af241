/- The document's limit, a list of windows none of which is taken out, beside the limit: the mathematics. -/
import Derived.Test.YtbhlciaigadlkaaQWaitM
namespace Go.Proofs.Ytbhlciaigadlkaa

def alive (win t : Nat) (p : Nm × (Nat × Nat)) : Bool := decide (0 < p.2.2) && opens win t p
structure RI (S : LS) (L : Tab) : Prop where
  perm : (L.filter (alive S.win S.clock)).Perm S.tab
  each : ∀ p ∈ L, p.2.1 ≤ S.clock ∧ p.2.2 ≤ S.tries
theorem alive_later {win t u : Nat} (h : t ≤ u) (L : Tab) : L.filter (alive win u) = (L.filter (alive win t)).filter (opens win u) := by
  rw [List.filter_filter]
  apply List.filter_congr
  intro p _
  unfold alive
  cases ho : opens win u p with
  | false => simp
  | true => rw [opens_mono h p ho]; simp
theorem RI.at {S : LS} {L : Tab} (h : RI S L) {t : Nat} (ht : S.clock ≤ t) : (L.filter (alive S.win t)).Perm (S.tab.filter (opens S.win t)) := by
  rw [alive_later ht]
  exact h.perm.filter _
theorem ri_goTo {S : LS} (hS : Ok S) {L : Tab} (h : RI S L) (now : Nat) : RI (S.goTo now) L := by
  by_cases hn : now ≤ S.clock
  · rw [show S.goTo now = S from if_pos hn]; exact h
  · rw [goTo_tab hS (by omega)]
    exact ⟨h.at (show S.clock ≤ now by omega), fun p hp => ⟨by have := (h.each p hp).1; show p.2.1 ≤ now; omega, (h.each p hp).2⟩⟩
/-- The place of a subject's open window. -/
def idx (win t : Nat) (nm : Nm) (L : Tab) : Option Nat := L.findIdx? fun p => p.1 == nm && alive win t p
theorem idx_some {S : LS} (hS : Ok S) {L : Tab} (h : RI S L) {nm : Nm} {t i : Nat} (ht : S.clock ≤ t) (hi : idx S.win t nm L = some i) : ∃ v, L[i]? = some (nm, v) ∧ tget nm S.tab = some v ∧ 0 < v.2 ∧ t - v.1 < S.win := by
  unfold idx at hi
  rw [List.findIdx?_eq_some_iff_getElem] at hi
  obtain ⟨hlt, hp, _⟩ := hi
  simp only [Bool.and_eq_true, beq_iff_eq] at hp
  obtain ⟨e, ha⟩ := hp
  have hm : L[i] ∈ L.filter (alive S.win t) := List.mem_filter.2 ⟨List.getElem_mem hlt, ha⟩
  have h2 := List.mem_filter.1 ((h.at ht).mem_iff.1 hm)
  have e2 : L[i] = (nm, L[i].2) := by rw [← e]
  refine ⟨L[i].2, by rw [List.getElem?_eq_getElem hlt, ← e2], tget_of hS.rising (by rw [← e2]; exact h2.1), ?_, ?_⟩
  · unfold alive at ha
    rw [Bool.and_eq_true] at ha
    exact of_decide_eq_true ha.1
  · exact of_decide_eq_true h2.2
theorem idx_none {S : LS} {L : Tab} (h : RI S L) {nm : Nm} {t : Nat} (ht : S.clock ≤ t) (hi : idx S.win t nm L = none) : ∀ v, tget nm S.tab = some v → ¬ t - v.1 < S.win := by
  intro v hg ho
  unfold idx at hi
  rw [List.findIdx?_eq_none_iff] at hi
  have h1 : (nm, v) ∈ S.tab.filter (opens S.win t) := List.mem_filter.2 ⟨tget_some hg, decide_eq_true ho⟩
  have h2 := List.mem_filter.1 ((h.at ht).mem_iff.2 h1)
  have := hi _ h2.1
  rw [h2.2] at this
  simp at this
theorem ri_open {S : LS} {L : Tab} (h : RI S L) {t : Nat} (ht : S.clock ≤ t) : (L.filter (alive S.win t)).length = S.openAt t := (h.at ht).length_eq
/-- The error that Try would have. -/
theorem why_idx {S : LS} (hS : Ok S) {L : Tab} (h : RI S L) {nm : Nm} (hl : nm.length ≤ 256) {t : Nat} (ht : S.clock ≤ t) :
    S.left nm t = match idx S.win t nm L with
      | some i => if ((L[i]?.getD ([], (0, 0))).2.2 : Nat) = S.tries then (0, 80) else (S.tries - (L[i]?.getD ([], (0, 0))).2.2, 0)
      | none => if S.subs ≤ (L.filter (alive S.win t)).length then (0, 5) else (S.tries, 0) := by
  unfold LS.left LS.leftN
  rw [if_neg (by omega)]
  cases hi : idx S.win t nm L with
  | some i =>
    obtain ⟨v, h1, h2, _, h4⟩ := idx_some hS h ht hi
    simp only [h1, h2, Option.getD_some]
    rw [if_pos h4]
  | none =>
    have hn := idx_none h ht hi
    rw [ri_open h ht]
    cases hg : tget nm S.tab with
    | none => rfl
    | some v =>
      simp only
      rw [if_neg (hn v hg)]
theorem idx_lt {win t : Nat} {nm : Nm} {L : Tab} {i : Nat} (hi : idx win t nm L = some i) : i < L.length := by
  unfold idx at hi
  rw [List.findIdx?_eq_some_iff_getElem] at hi
  exact hi.1
theorem tins_perm (x : Nm × (Nat × Nat)) : ∀ d : Tab, (tins x d).Perm (x :: d)
  | [] => List.Perm.refl _
  | y :: r => by
    unfold tins
    split
    · exact List.Perm.refl _
    · exact (List.Perm.cons y (tins_perm x r)).trans (List.Perm.swap x y r)
theorem split_at {L : Tab} {i : Nat} {x : Nm × (Nat × Nat)} (hx : L[i]? = some x) (y : Nm × (Nat × Nat)) : L = L.take i ++ x :: L.drop (i + 1) ∧ L.set i y = L.take i ++ y :: L.drop (i + 1) := by
  obtain ⟨hi, rfl⟩ := List.getElem?_eq_some_iff.1 hx
  refine ⟨?_, List.set_eq_take_append_cons_drop.trans (if_pos hi)⟩
  rw [List.getElem_cons_drop, List.take_append_drop]
/-- One window of the list is turned. -/
theorem set_perm {S : LS} (hS : Ok S) {L : Tab} (h : RI S L) {nm : Nm} {i : Nat} {v u : Nat × Nat} (hx : L[i]? = some (nm, v)) (ha : alive S.win S.clock (nm, v) = true) :
    ((L.set i (nm, u)).filter (alive S.win S.clock)).Perm (if alive S.win S.clock (nm, u) then tset nm u S.tab else tdel nm S.tab) := by
  obtain ⟨e1, e2⟩ := split_at hx (nm, u)
  have hp := h.perm
  rw [e1, List.filter_append, List.filter_cons_of_pos ha] at hp
  rw [e2, List.filter_append]
  have e3 : ((nm, u) :: L.drop (i + 1)).filter (alive S.win S.clock) = (if alive S.win S.clock (nm, u) then [(nm, u)] else []) ++ (L.drop (i + 1)).filter (alive S.win S.clock) := by
    rw [List.filter_cons]
    split <;> rfl
  rw [e3]
  generalize (L.take i).filter (alive S.win S.clock) = A at *
  generalize (L.drop (i + 1)).filter (alive S.win S.clock) = B at *
  have hp2 : S.tab.Perm ((nm, v) :: (A ++ B)) := hp.symm.trans List.perm_middle
  have hnd : (((nm, v) :: (A ++ B)).map (·.1)).Nodup := (hp2.map (·.1)).nodup_iff.1 hS.rising.nodup
  rw [List.map_cons, List.nodup_cons] at hnd
  have hne : ∀ p ∈ A ++ B, p.1 ≠ nm := fun p hp e => hnd.1 (by rw [← e]; exact List.mem_map.2 ⟨p, hp, rfl⟩)
  split
  · have h1 : tset nm u ((nm, v) :: (A ++ B)) = (nm, u) :: (A ++ B) := by
      unfold tset
      rw [List.map_cons, if_pos rfl]
      congr 1
      conv => rhs; rw [← List.map_id (A ++ B)]
      apply List.map_congr_left
      intro p hp
      rw [if_neg (hne p hp)]; rfl
    have h2 : (tset nm u S.tab).Perm (tset nm u ((nm, v) :: (A ++ B))) := hp2.map _
    rw [h1] at h2
    refine List.Perm.trans ?_ h2.symm
    exact List.perm_middle
  · have h1 : tdel nm ((nm, v) :: (A ++ B)) = A ++ B := by
      unfold tdel
      rw [List.filter_cons_of_neg (by simp), List.filter_eq_self]
      intro p hp
      have := hne p hp
      simp [this]
    have h2 : (tdel nm S.tab).Perm (tdel nm ((nm, v) :: (A ++ B))) := hp2.filter _
    rw [h1] at h2
    exact h2.symm
theorem set_mem {L : Tab} {i : Nat} {x p : Nm × (Nat × Nat)} (h : p ∈ L.set i x) : p ∈ L ∨ p = x := List.mem_or_eq_of_mem_set h
/-- An attempt, in the window that is there. -/
theorem ri_old {S : LS} (hS : Ok S) {L : Tab} (h : RI S L) {nm : Nm} {i : Nat} {v : Nat × Nat} (hx : L[i]? = some (nm, v)) (hg : tget nm S.tab = some v) (hlt : v.2 < S.tries) : RI (S.attempt nm) (L.set i (nm, (v.1, v.2 + 1))) := by
  have hv := hS.each _ (tget_some hg)
  simp only at hv
  have ha : alive S.win S.clock (nm, v) = true := by
    unfold alive opens
    simp only [Bool.and_eq_true, decide_eq_true_eq]
    exact ⟨by omega, hv.2.1⟩
  have ha2 : alive S.win S.clock (nm, (v.1, v.2 + 1)) = true := by
    unfold alive opens
    simp only [Bool.and_eq_true, decide_eq_true_eq]
    exact ⟨by omega, hv.2.1⟩
  have hp := set_perm hS h (u := (v.1, v.2 + 1)) hx ha
  rw [if_pos ha2] at hp
  have e : S.attempt nm = { S with tab := tset nm (v.1, v.2 + 1) S.tab } := by unfold LS.attempt; rw [hg]
  rw [e]
  refine ⟨hp, fun p hp => ?_⟩
  rcases set_mem hp with hp | rfl
  · exact h.each p hp
  · exact ⟨hv.1, hlt⟩
/-- An attempt that opens a window. -/
theorem ri_new {S : LS} (hS : Ok S) {L : Tab} (h : RI S L) {nm : Nm} (hg : tget nm S.tab = none) : RI (S.attempt nm) (L ++ [(nm, (S.clock, 1))]) := by
  have hw := hS.win1
  have ha2 : alive S.win S.clock (nm, (S.clock, 1)) = true := by
    unfold alive opens
    simp only [Bool.and_eq_true, decide_eq_true_eq]
    exact ⟨by omega, by omega⟩
  have e : S.attempt nm = { S with tab := tins (nm, (S.clock, 1)) S.tab } := by unfold LS.attempt; rw [hg]
  rw [e]
  refine ⟨?_, fun p hp => ?_⟩
  · show ((L ++ [(nm, (S.clock, 1))]).filter (alive S.win S.clock)).Perm (tins (nm, (S.clock, 1)) S.tab)
    rw [List.filter_append, List.filter_cons_of_pos ha2, List.filter_nil]
    exact (List.perm_append_singleton _ _).trans ((List.Perm.cons _ h.perm).trans (tins_perm _ _).symm)
  · rcases List.mem_append.1 hp with hp | hp
    · exact h.each p hp
    · rw [List.mem_singleton.1 hp]; exact ⟨Nat.le_refl _, hS.tries1⟩
def LS.forgive (S : LS) (nm : Nm) : LS := { S with tab := tdel nm S.tab }
def LS.clear (S : LS) : LS := { S with clock := 0, tab := [] }
theorem Ok.forgive {S : LS} (h : Ok S) (nm : Nm) : Ok (S.forgive nm) := ⟨h.tries1, h.tries2, h.win1, h.win2, h.subs1, h.subs2, h.clock, rising_del h.rising, Nat.le_trans (tdel_length_le _ _) h.len, fun p hp => h.each p ((tdel_mem _ _ _).1 hp).1⟩
theorem Ok.clear {S : LS} (h : Ok S) : Ok S.clear := ⟨h.tries1, h.tries2, h.win1, h.win2, h.subs1, h.subs2, (by show 0 < _; omega), List.Pairwise.nil, Nat.zero_le _, fun p hp => by cases hp⟩
theorem ri_clear (S : LS) : RI S.clear [] := ⟨List.Perm.refl _, fun p hp => by cases hp⟩
theorem ri_forgive {S : LS} (hS : Ok S) {L : Tab} (h : RI S L) {nm : Nm} {i : Nat} {v : Nat × Nat} (hx : L[i]? = some (nm, v)) (hg : tget nm S.tab = some v) : RI (S.forgive nm) (L.set i (nm, (v.1, 0))) := by
  have hv := hS.each _ (tget_some hg)
  simp only at hv
  have ha : alive S.win S.clock (nm, v) = true := by
    unfold alive opens
    simp only [Bool.and_eq_true, decide_eq_true_eq]
    exact ⟨by omega, hv.2.1⟩
  have hp := set_perm hS h (u := (v.1, 0)) hx ha
  rw [if_neg (by unfold alive; simp)] at hp
  refine ⟨hp, fun p hp => ?_⟩
  rcases set_mem hp with hp | rfl
  · exact h.each p hp
  · exact ⟨hv.1, Nat.zero_le _⟩
theorem ri_forgive_none {S : LS} {L : Tab} (h : RI S L) {nm : Nm} (hg : tget nm S.tab = none) : RI (S.forgive nm) L := by
  unfold LS.forgive
  rw [tdel_none hg]
  exact h
/-- The least of the windows' rests. -/
def IsLeast (win t : Nat) (M : Tab) (m : Nat) : Prop := (∀ p ∈ M, m ≤ restN win p.2.1 t) ∧ ∃ p ∈ M, m = restN win p.2.1 t
theorem least_first {S : LS} {M : Tab} {t m : Nat} (hp : M.Perm S.tab) (h : IsLeast S.win t M m) : m = S.first t := by
  obtain ⟨h1, p, hp1, h2⟩ := h
  have a1 : S.first t ≤ m := by rw [h2]; exact first_le S.win t S.tab S.win p (hp.mem_iff.1 hp1)
  have a2 : m ≤ S.first t := by
    rcases first_at S.win t S.tab S.win with e | ⟨q, hq, e⟩
    · have : S.first t = S.win := e
      have h3 : restN S.win p.2.1 t ≤ S.win := by unfold restN; omega
      omega
    · have : S.first t = restN S.win q.2.1 t := e
      rw [this]
      exact h1 q (hp.mem_iff.2 hq)
  omega
theorem full_perm {S : LS} (hS : Ok S) {L : Tab} (h : RI S L) {t : Nat} (ht : S.clock ≤ t) (hf : S.subs ≤ (L.filter (alive S.win t)).length) : (L.filter (alive S.win t)).Perm S.tab := by
  have h1 := h.at ht
  have h2 : S.tab.filter (opens S.win t) = S.tab := by
    rw [List.filter_eq_self]
    refine List.length_filter_eq_length_iff.1 (Nat.le_antisymm (List.length_filter_le _ _) ?_)
    rw [← h1.length_eq]
    exact Nat.le_trans hS.len hf
  rw [h2] at h1
  exact h1
/-- Wait, by the list. -/
theorem wait_idx {S : LS} (hS : Ok S) {L : Tab} (h : RI S L) {nm : Nm} {now m : Nat} (hm : (L.filter (alive S.win (max now S.clock))).length ≠ 0 → IsLeast S.win (max now S.clock) (L.filter (alive S.win (max now S.clock))) m) :
    S.wait nm now = if (S.left nm (max now S.clock)).2 = 80 then S.win - (max now S.clock - (L[(idx S.win (max now S.clock) nm L).getD 0]?.getD ([], (0, 0))).2.1) else if (S.left nm (max now S.clock)).2 = 5 then m else 0 := by
  have ht : S.clock ≤ max now S.clock := by omega
  unfold LS.wait
  generalize max now S.clock = t at *
  by_cases h80 : (S.left nm t).2 = 80
  · rw [if_pos h80, if_pos h80]
    have hl : nm.length ≤ 256 := by
      refine Nat.le_of_not_lt fun hlt => ?_
      unfold LS.left at h80
      rw [if_pos hlt] at h80
      cases h80
    have hw := why_idx hS h hl ht
    cases hi : idx S.win t nm L with
    | none =>
      rw [hw, hi] at h80
      simp only at h80
      split at h80 <;> cases h80
    | some i =>
      obtain ⟨v, h1, h2, _, h4⟩ := idx_some hS h ht hi
      simp only [h1, h2, Option.getD_some]
      unfold restN
      omega
  · rw [if_neg h80, if_neg h80]
    by_cases h5 : (S.left nm t).2 = 5
    · rw [if_pos h5, if_pos h5]
      have hl : nm.length ≤ 256 := by
        refine Nat.le_of_not_lt fun hlt => ?_
        unfold LS.left at h5
        rw [if_pos hlt] at h5
        cases h5
      have hw := why_idx hS h hl ht
      cases hi : idx S.win t nm L with
      | some i =>
        rw [hw, hi] at h5
        simp only at h5
        split at h5 <;> cases h5
      | none =>
        rw [hw, hi] at h5
        simp only at h5
        split at h5
        · rename_i hf
          have hs := hS.subs1
          exact (least_first (full_perm hS h ht hf) (hm (by omega))).symm
        · cases h5
    · rw [if_neg h5, if_neg h5]
end Go.Proofs.Ytbhlciaigadlkaa
