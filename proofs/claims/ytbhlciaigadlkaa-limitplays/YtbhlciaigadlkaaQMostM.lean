/- LimitMost, the mathematics: what the law counts is what the limit counts. -/
import Derived.Test.YtbhlciaigadlkaaQMath
namespace Go.Proofs.Ytbhlciaigadlkaa

theorem tget_filter {f : Nm × (Nat × Nat) → Bool} {d : Tab} (hr : Rising d) (nm : Nm) : tget nm (d.filter f) = match tget nm d with
    | some v => if f (nm, v) then some v else none
    | none => none := by
  cases hg : tget nm d with
  | none => exact tget_none_of fun p hp => tget_none hg p (List.mem_filter.1 hp).1
  | some v =>
    have hm := tget_some hg
    simp only
    split
    · rename_i hf
      exact tget_of (rising_filter hr) (List.mem_filter.2 ⟨hm, hf⟩)
    · rename_i hf
      refine tget_none_of fun p hp e => ?_
      have h1 := List.mem_filter.1 hp
      have := hr.inj h1.1 hm e
      rw [this] at h1
      exact hf h1.2
theorem tget_tset {nm : Nm} {v : Nat × Nat} {d : Tab} (hr : Rising d) {u : Nat × Nat} (hg : tget nm d = some u) : tget nm (tset nm v d) = some v := by
  refine tget_of (rising_set hr) ?_
  unfold tset
  exact List.mem_map.2 ⟨(nm, u), tget_some hg, by simp⟩
theorem tget_tset_ne {nm nm' : Nm} {v : Nat × Nat} {d : Tab} (hr : Rising d) (hne : nm' ≠ nm) : tget nm' (tset nm v d) = tget nm' d := by
  cases hg : tget nm' d with
  | none =>
    refine tget_none_of fun p hp e => ?_
    rcases tset_mem hp with ⟨rfl, _⟩ | ⟨hp, _⟩
    · exact hne e.symm
    · exact tget_none hg p hp e
  | some u =>
    refine tget_of (rising_set hr) ?_
    unfold tset
    exact List.mem_map.2 ⟨(nm', u), tget_some hg, by simp [hne]⟩
theorem tget_tins {nm : Nm} {v : Nat × Nat} {d : Tab} (hr : Rising d) (hg : tget nm d = none) : tget nm (tins (nm, v) d) = some v := tget_of (rising_ins hr (tget_none hg)) ((tins_mem _ _ _).2 (.inl rfl))
theorem tget_tins_ne {nm nm' : Nm} {v : Nat × Nat} {d : Tab} (hr : Rising d) (hg : tget nm d = none) (hne : nm' ≠ nm) : tget nm' (tins (nm, v) d) = tget nm' d := by
  cases hg' : tget nm' d with
  | none =>
    refine tget_none_of fun p hp e => ?_
    rcases (tins_mem _ _ p).1 hp with rfl | hp
    · exact hne e.symm
    · exact tget_none hg' p hp e
  | some u => exact tget_of (rising_ins hr (tget_none hg)) ((tins_mem _ _ _).2 (.inr (tget_some hg')))
theorem goTo_get {S : LS} (h : Ok S) (nm : Nm) (now : Nat) : tget nm (S.goTo now).tab = match tget nm S.tab with
    | some v => if max S.clock now - v.1 < S.win then some v else none
    | none => none := by
  unfold LS.goTo
  split
  · rename_i hc
    cases hg : tget nm S.tab with
    | none => rfl
    | some v =>
      have := (h.each _ (tget_some hg)).2.1
      simp only at this ⊢
      rw [if_pos (by rw [show max S.clock now = S.clock by omega]; exact this)]
  · rename_i hc
    show tget nm (S.tab.filter (opens S.win now)) = _
    rw [tget_filter h.rising, show max S.clock now = now by omega]
    cases tget nm S.tab with
    | none => rfl
    | some v => simp [opens]
/-- Another's attempt leaves a subject's window. -/
theorem attempt_get_ne {S : LS} (h : Ok S) {nm nm' : Nm} (hne : nm' ≠ nm) : tget nm' (S.attempt nm).tab = tget nm' S.tab := by
  unfold LS.attempt
  cases hg : tget nm S.tab with
  | none => exact tget_tins_ne h.rising hg hne
  | some v => exact tget_tset_ne h.rising hne
theorem attempt_get {S : LS} (h : Ok S) (nm : Nm) : tget nm (S.attempt nm).tab = some (match tget nm S.tab with
    | some v => (v.1, v.2 + 1)
    | none => (S.clock, 1)) := by
  unfold LS.attempt
  cases hg : tget nm S.tab with
  | none => exact tget_tins h.rising hg
  | some v => exact tget_tset h.rising hg
theorem attempt_clock (S : LS) (nm : Nm) : (S.attempt nm).clock = S.clock := by unfold LS.attempt; cases tget nm S.tab <;> rfl
theorem attempt_win (S : LS) (nm : Nm) : (S.attempt nm).win = S.win := by unfold LS.attempt; cases tget nm S.tab <;> rfl
theorem attempt_tries (S : LS) (nm : Nm) : (S.attempt nm).tries = S.tries := by unfold LS.attempt; cases tget nm S.tab <;> rfl
theorem attempt_subs (S : LS) (nm : Nm) : (S.attempt nm).subs = S.subs := by unfold LS.attempt; cases tget nm S.tab <;> rfl
theorem try_tries (S : LS) (nm : Nm) (now : Nat) : (S.try nm now).1.tries = S.tries := by
  unfold LS.try
  split
  · rfl
  · split
    · rw [attempt_tries, goTo_tries]
    · exact goTo_tries _ _
theorem try_win (S : LS) (nm : Nm) (now : Nat) : (S.try nm now).1.win = S.win := by
  unfold LS.try
  split
  · rfl
  · split
    · rw [attempt_win, goTo_win]
    · exact goTo_win _ _
theorem try_subs (S : LS) (nm : Nm) (now : Nat) : (S.try nm now).1.subs = S.subs := by
  unfold LS.try
  split
  · rfl
  · split
    · rw [attempt_subs, goTo_subs]
    · exact goTo_subs _ _
/-- The law's clock. -/
def clockN (C : Nat) (nm : Nm) (now : Nat) : Nat := if nm.length ≤ 256 ∧ C < now then now else C
theorem try_clock (S : LS) (nm : Nm) (now : Nat) : (S.try nm now).1.clock = clockN S.clock nm now := by
  unfold LS.try clockN
  by_cases hl : 256 < nm.length
  · rw [if_pos hl, if_neg (by omega)]
  · rw [if_neg hl]
    have e := goTo_clock S now
    split
    · rw [attempt_clock, e]; split <;> omega
    · rw [e]; split <;> omega
/-- What the law has counted of a subject. -/
structure MI (S : LS) (nm : Nm) (B K : Nat) : Prop where
  bc : B ≤ S.clock
  kt : K ≤ S.tries
  some : ∀ v, tget nm S.tab = some v → B = v.1 ∧ K = v.2
  none : tget nm S.tab = none → K = 0 ∨ S.win ≤ S.clock - B
theorem mi_start (t wn sb : Nat) (nm : Nm) : MI ⟨t, wn, sb, 0, []⟩ nm 0 0 := ⟨Nat.le_refl _, Nat.zero_le _, fun v h => (by cases h), fun _ => .inl rfl⟩
theorem mi_goTo {S : LS} (h : Ok S) {nm : Nm} {B K : Nat} (hm : MI S nm B K) (now : Nat) : MI (S.goTo now) nm B K := by
  have e := goTo_get h nm now
  have hc := goTo_clock S now
  have hbc := hm.bc
  refine ⟨by omega, by rw [goTo_tries]; exact hm.kt, fun v hv => ?_, fun hn => ?_⟩
  · rw [e] at hv
    cases hg : tget nm S.tab with
    | none => rw [hg] at hv; cases hv
    | some u =>
      rw [hg] at hv
      simp only at hv
      split at hv
      · cases hv; exact hm.some _ hg
      · cases hv
  · rw [e] at hn
    rw [goTo_win, hc]
    cases hg : tget nm S.tab with
    | none =>
      rcases hm.none hg with h1 | h1
      · exact .inl h1
      · exact .inr (by omega)
    | some u =>
      rw [hg] at hn
      simp only at hn
      split at hn
      · cases hn
      · rename_i ho
        have := (hm.some _ hg).1
        exact .inr (by omega)
theorem mi_other {S : LS} (h : Ok S) {nm nm' : Nm} {B K : Nat} (hm : MI S nm B K) (hne : nm ≠ nm') : MI (S.attempt nm') nm B K := by
  have e := attempt_get_ne h hne
  exact ⟨by rw [attempt_clock]; exact hm.bc, by rw [attempt_tries]; exact hm.kt, fun v hv => hm.some v (by rw [← e]; exact hv), fun hn => by rw [attempt_win, attempt_clock]; exact hm.none (by rw [← e]; exact hn)⟩
/-- Where the law goes on to the next call at once. -/
theorem mi_pass {S : LS} (h : Ok S) {nm nm' : Nm} {B K now : Nat} (hn : now < 18446744073709551616) (hm : MI S nm B K) (hp : nm' ≠ nm ∨ (S.try nm' now).2.2 = 5 ∨ (S.try nm' now).2.2 = 1) : MI (S.try nm' now).1 nm B K := by
  revert hp
  unfold LS.try
  split
  · exact fun _ => hm
  · split
    · rintro (h1 | h1 | h1)
      · exact mi_other (h.goTo hn) (mi_goTo h hm now) (Ne.symm h1)
      · cases h1
      · cases h1
    · exact fun _ => mi_goTo h hm now
/-- The law's count where a window is over. -/
def cntN (S : LS) (B K : Nat) : Nat := if 0 < K ∧ S.win ≤ S.clock - B then 0 else K
theorem mi_count {S : LS} (h : Ok S) {nm : Nm} {B K now : Nat} (hn : now < 18446744073709551616) (hm : MI S nm B K) (h5 : (S.try nm now).2.2 ≠ 5) (h1 : (S.try nm now).2.2 ≠ 1) :
    ((S.try nm now).2.2 = 80 ∧ cntN (S.try nm now).1 B K = S.tries ∧ MI (S.try nm now).1 nm B (cntN (S.try nm now).1 B K)) ∨
    ((S.try nm now).2.2 = 0 ∧ cntN (S.try nm now).1 B K + 1 ≤ S.tries ∧ (S.try nm now).2.1 = S.tries - (cntN (S.try nm now).1 B K + 1) ∧ MI (S.try nm now).1 nm (if cntN (S.try nm now).1 B K = 0 then (S.try nm now).1.clock else B) (cntN (S.try nm now).1 B K + 1)) := by
  have hcl := try_clock S nm now
  revert h5 h1 hcl
  unfold LS.try
  split
  · intro _ h1; exact absurd rfl h1
  · rename_i hl
    have hm1 := mi_goTo h hm now
    have ho1 := h.goTo hn
    have ht1 := goTo_tries S now
    rw [← ht1]
    generalize S.goTo now = S1 at *
    have hk := hm1.kt
    have hcn : (∃ v, tget nm S1.tab = some v ∧ cntN S1 B K = v.2 ∧ K = v.2 ∧ B = v.1 ∧ 1 ≤ v.2 ∧ v.2 ≤ S1.tries ∧ S1.clock - v.1 < S1.win) ∨ (tget nm S1.tab = none ∧ cntN S1 B K = 0) := by
      cases hg : tget nm S1.tab with
      | some v =>
        have h1 := hm1.some v hg
        have h2 := ho1.each _ (tget_some hg)
        simp only at h2
        exact .inl ⟨v, rfl, by unfold cntN; rw [if_neg (by omega)]; exact h1.2, h1.2, h1.1, h2.2.2.1, h2.2.2.2.1, h2.2.1⟩
      | none =>
        refine .inr ⟨rfl, ?_⟩
        unfold cntN
        rcases hm1.none hg with h1 | h1
        · rw [h1]; simp
        · split <;> omega
    have hlf : (S1.left nm S1.clock).2 = 80 ∨ (S1.left nm S1.clock).2 = 0 ∨ (S1.left nm S1.clock).2 = 5 := by
      unfold LS.left
      rw [if_neg hl]
      have hN : ∀ t, (S1.leftN t).2 = 0 ∨ (S1.leftN t).2 = 5 := by
        intro t
        unfold LS.leftN
        split
        · exact .inr rfl
        · exact .inl rfl
      cases tget nm S1.tab with
      | none => exact .inr (hN _)
      | some v =>
        simp only
        split
        · split
          · exact .inl rfl
          · exact .inr (.inl rfl)
        · exact .inr (hN _)
    split
    · rename_i h0
      intro _ _ _
      refine .inr ⟨rfl, ?_⟩
      show cntN (S1.attempt nm) B K + 1 ≤ S1.tries ∧ (S1.left nm S1.clock).1 - 1 = S1.tries - (cntN (S1.attempt nm) B K + 1) ∧ MI (S1.attempt nm) nm (if cntN (S1.attempt nm) B K = 0 then (S1.attempt nm).clock else B) (cntN (S1.attempt nm) B K + 1)
      have hcc : cntN (S1.attempt nm) B K = cntN S1 B K := by unfold cntN; rw [attempt_win, attempt_clock]
      rw [hcc]
      have hag := attempt_get ho1 nm
      have htr := ho1.tries1
      rcases hcn with ⟨v, hg, e1, e2, e3, h4, h5, h6⟩ | ⟨hg, e1⟩
      · have hl1 : S1.left nm S1.clock = (S1.tries - v.2, 0) ∧ v.2 ≠ S1.tries := by
          unfold LS.left at h0 ⊢
          rw [if_neg hl, hg] at h0 ⊢
          simp only at h0 ⊢
          rw [if_pos h6] at h0 ⊢
          split at h0
          · cases h0
          · rename_i hne
            rw [if_neg hne]
            exact ⟨rfl, hne⟩
        rw [hl1.1, e1, if_neg (by omega)]
        have hne := hl1.2
        refine ⟨by omega, by show S1.tries - v.2 - 1 = _; omega, ⟨by rw [attempt_clock]; exact hm1.bc, by rw [attempt_tries]; omega, fun u hu => ?_, fun hn => ?_⟩⟩
        · rw [hag, hg] at hu
          cases hu
          exact ⟨e3, rfl⟩
        · rw [hag] at hn; cases hn
      · have hl1 : S1.left nm S1.clock = (S1.tries, 0) := by
          unfold LS.left LS.leftN at h0 ⊢
          rw [if_neg hl, hg] at h0 ⊢
          simp only at h0 ⊢
          split at h0
          · cases h0
          · rename_i hne
            rw [if_neg hne]
        rw [hl1, e1, if_pos rfl]
        refine ⟨by omega, rfl, ⟨Nat.le_refl _, by rw [attempt_tries]; omega, fun u hu => ?_, fun hn => ?_⟩⟩
        · rw [hag, hg] at hu
          cases hu
          exact ⟨attempt_clock _ _, rfl⟩
        · rw [hag] at hn; cases hn
    · rename_i h0
      intro h5 _ _
      rcases hlf with hlf | hlf | hlf
      · refine .inl ⟨hlf, ?_⟩
        show cntN S1 B K = S1.tries ∧ MI S1 nm B (cntN S1 B K)
        rcases hcn with ⟨v, hg, e1, e2, e3, h4, h5, h6⟩ | ⟨hg, e1⟩
        · have : v.2 = S1.tries := by
            unfold LS.left at hlf
            rw [if_neg hl, hg] at hlf
            simp only at hlf
            rw [if_pos h6] at hlf
            split at hlf
            · assumption
            · cases hlf
          rw [e1]
          refine ⟨this, ?_⟩
          rw [← e2]; exact hm1
        · exfalso
          unfold LS.left LS.leftN at hlf
          rw [if_neg hl, hg] at hlf
          simp only at hlf
          split at hlf <;> cases hlf
      · exact absurd hlf h0
      · exact absurd hlf h5
end Go.Proofs.Ytbhlciaigadlkaa
