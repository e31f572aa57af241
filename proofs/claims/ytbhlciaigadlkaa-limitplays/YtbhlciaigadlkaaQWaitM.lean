/- LimitWaits, the mathematics: when a subject is let again. -/
import Derived.Test.YtbhlciaigadlkaaQMostM
namespace Go.Proofs.Ytbhlciaigadlkaa

theorem opens_mono {win t u : Nat} (h : t ≤ u) (p : Nm × (Nat × Nat)) (ho : opens win u p = true) : opens win t p = true := by
  unfold opens at *
  have := of_decide_eq_true ho
  exact decide_eq_true (by omega)
theorem filter_twice {win t u : Nat} (h : t ≤ u) (d : Tab) : (d.filter (opens win t)).filter (opens win u) = d.filter (opens win u) := by
  rw [List.filter_filter]
  apply List.filter_congr
  intro p _
  cases ho : opens win u p with
  | false => simp
  | true => rw [opens_mono h p ho]; rfl
theorem goTo_tab {S : LS} (h : Ok S) {t : Nat} (ht : S.clock ≤ t) : S.goTo t = { S with clock := t, tab := S.tab.filter (opens S.win t) } := by
  unfold LS.goTo
  split
  · have e : t = S.clock := by omega
    subst e
    rw [filter_all h]
  · rfl
/-- What is told ahead is what will be. -/
theorem left_goTo {S : LS} (h : Ok S) (nm : Nm) {t : Nat} (ht : S.clock ≤ t) : (S.goTo t).left nm t = S.left nm t := by
  rw [goTo_tab h ht]
  unfold LS.left LS.leftN LS.openAt
  simp only
  rw [filter_twice (Nat.le_refl _), tget_filter h.rising]
  split
  · rfl
  · cases hg : tget nm S.tab with
    | none => rfl
    | some v =>
      simp only
      by_cases ho : t - v.1 < S.win
      · rw [if_pos (show opens S.win t (nm, v) = true from decide_eq_true ho)]
      · rw [if_neg (show ¬ opens S.win t (nm, v) = true from fun e => ho (of_decide_eq_true e)), if_neg ho]
theorem first_le (win t : Nat) : ∀ (d : Tab) (m : Nat), ∀ p ∈ d, d.foldr (fun p m => min m (restN win p.2.1 t)) m ≤ restN win p.2.1 t
  | [], _, p, hp => by cases hp
  | y :: r, m, p, hp => by
    rw [List.foldr_cons]
    rcases List.mem_cons.1 hp with rfl | hp
    · exact Nat.min_le_right _ _
    · exact Nat.le_trans (Nat.min_le_left _ _) (first_le win t r m p hp)
theorem first_at (win t : Nat) : ∀ (d : Tab) (m : Nat), d.foldr (fun p m => min m (restN win p.2.1 t)) m = m ∨ ∃ p ∈ d, d.foldr (fun p m => min m (restN win p.2.1 t)) m = restN win p.2.1 t
  | [], _ => .inl rfl
  | y :: r, m => by
    rw [List.foldr_cons]
    rcases first_at win t r m with h | ⟨p, hp, h⟩
    · rw [h]
      rcases Nat.le_total m (restN win y.2.1 t) with h1 | h1
      · exact .inl (Nat.min_eq_left h1)
      · exact .inr ⟨y, by simp, Nat.min_eq_right h1⟩
    · rw [h]
      rcases Nat.le_total (restN win p.2.1 t) (restN win y.2.1 t) with h1 | h1
      · exact .inr ⟨p, by simp [hp], Nat.min_eq_left h1⟩
      · exact .inr ⟨y, by simp, Nat.min_eq_right h1⟩
/-- The three answers at the clock. -/
theorem left_cases {S : LS} (h : Ok S) {nm : Nm} (hl : nm.length ≤ 256) :
    (∃ k, S.left nm S.clock = (k + 1, 0)) ∨ (S.left nm S.clock = (0, 80) ∧ ∃ v, tget nm S.tab = some v ∧ v.2 = S.tries) ∨ (S.left nm S.clock = (0, 5) ∧ tget nm S.tab = none ∧ S.tab.length = S.subs) := by
  have hlen := h.len
  have ht := h.tries1
  unfold LS.left LS.leftN
  rw [if_neg (by omega), openAt_clock h]
  cases hg : tget nm S.tab with
  | none =>
    simp only
    by_cases hf : S.subs ≤ S.tab.length
    · rw [if_pos hf]
      exact .inr (.inr ⟨rfl, by first | rfl | trivial, by omega⟩)
    · rw [if_neg hf]
      exact .inl ⟨S.tries - 1, by rw [Nat.sub_add_cancel ht]⟩
  | some v =>
    have hv := h.each _ (tget_some hg)
    simp only at hv ⊢
    rw [if_pos hv.2.1]
    by_cases he : v.2 = S.tries
    · rw [if_pos he]
      exact .inr (.inl ⟨rfl, v, rfl, he⟩)
    · rw [if_neg he]
      exact .inl ⟨S.tries - v.2 - 1, by rw [Nat.sub_add_cancel (by omega)]⟩
theorem wait_ok {S : LS} {nm : Nm} {k : Nat} (h : S.left nm S.clock = (k, 0)) : S.wait nm S.clock = 0 := by
  unfold LS.wait
  rw [Nat.max_self, h]
  rfl
/-- What is so of a subject that is refused. -/
structure Refused (S : LS) (nm : Nm) (d : Nat) : Prop where
  pos : 1 ≤ d
  still : ∀ t, S.clock ≤ t → t < S.clock + d → (S.left nm t).2 = 80 ∨ (S.left nm t).2 = 5
  then_ : S.left nm (S.clock + d) = (S.tries, 0)
theorem filter_lt {d : Tab} {f : Nm × (Nat × Nat) → Bool} {p : Nm × (Nat × Nat)} (hp : p ∈ d) (hf : f p = false) : (d.filter f).length < d.length := by
  refine Nat.lt_of_le_of_ne (List.length_filter_le _ _) fun e => ?_
  have := List.length_filter_eq_length_iff.1 e _ hp
  rw [hf] at this
  cases this
theorem refused {S : LS} (h : Ok S) {nm : Nm} (hl : nm.length ≤ 256) (h0 : (S.left nm S.clock).2 ≠ 0) : Refused S nm (S.wait nm S.clock) := by
  have hlen := h.len
  rcases left_cases h hl with ⟨k, hk⟩ | ⟨h80, v, hg, hv⟩ | ⟨h5, hg, hf⟩
  · rw [hk] at h0; exact absurd rfl h0
  · have hw : S.wait nm S.clock = S.win - (S.clock - v.1) := by
      unfold LS.wait restN
      rw [Nat.max_self, h80, if_pos rfl, hg]
      show S.win - min S.win (S.clock - v.1) = _
      have := (h.each _ (tget_some hg)).2.1
      simp only at this
      omega
    have he := h.each _ (tget_some hg)
    simp only at he
    rw [hw]
    refine ⟨by omega, fun t h1 h2 => .inl ?_, ?_⟩
    · unfold LS.left
      rw [if_neg (by omega), hg]
      simp only
      rw [if_pos (by omega), if_pos hv]
    · unfold LS.left LS.leftN LS.openAt
      rw [if_neg (by omega), hg]
      simp only
      rw [if_neg (by omega), if_neg]
      have := filter_lt (f := opens S.win (S.clock + (S.win - (S.clock - v.1)))) (tget_some hg) (decide_eq_false (by show ¬ _ - v.1 < _; omega))
      omega
  · have hw : S.wait nm S.clock = S.first S.clock := by
      unfold LS.wait
      rw [Nat.max_self, h5]
      rfl
    have hs1 := h.subs1
    have hw1 := h.win1
    rw [hw]
    have hmin : ∃ p ∈ S.tab, S.first S.clock = S.win - (S.clock - p.2.1) := by
      rcases first_at S.win S.clock S.tab S.win with h1 | ⟨p, hp, h1⟩
      · obtain ⟨p, hp⟩ : ∃ p, p ∈ S.tab := List.exists_mem_of_length_pos (by omega)
        have h2 := first_le S.win S.clock S.tab S.win p hp
        rw [h1] at h2
        refine ⟨p, hp, ?_⟩
        show S.tab.foldr _ _ = _
        rw [h1]
        unfold restN at h2
        have := (h.each p hp).2.1
        omega
      · refine ⟨p, hp, ?_⟩
        show S.tab.foldr _ _ = _
        rw [h1]
        unfold restN
        have := (h.each p hp).2.1
        omega
    obtain ⟨p, hp, he⟩ := hmin
    have hpe := h.each p hp
    refine ⟨by omega, fun t h1 h2 => .inr ?_, ?_⟩
    · have hall : S.tab.filter (opens S.win t) = S.tab := by
        rw [List.filter_eq_self]
        intro q hq
        have h3 := first_le S.win S.clock S.tab S.win q hq
        have h4 : S.first S.clock ≤ restN S.win q.2.1 S.clock := h3
        unfold restN at h4
        have := h.each q hq
        exact decide_eq_true (by omega)
      unfold LS.left LS.leftN LS.openAt
      rw [if_neg (by omega), hg, hall]
      simp only
      rw [if_pos (by omega)]
    · unfold LS.left LS.leftN LS.openAt
      rw [if_neg (by omega), hg]
      simp only
      rw [if_neg]
      have := filter_lt (f := opens S.win (S.clock + S.first S.clock)) hp (decide_eq_false (by omega))
      omega
/-- A Try that is refused, and one that counts, by what is left at the time. -/
theorem try_refused {S : LS} (h : Ok S) {nm : Nm} (hl : nm.length ≤ 256) {t : Nat} (ht : S.clock ≤ t) (h0 : (S.left nm t).2 ≠ 0) : S.try nm t = (S.goTo t, (0, (S.left nm t).2)) := by
  have hc : (S.goTo t).clock = t := by rw [goTo_clock]; omega
  unfold LS.try
  rw [if_neg (by omega), hc, left_goTo h nm ht, if_neg h0]
theorem try_counts {S : LS} (h : Ok S) {nm : Nm} (hl : nm.length ≤ 256) {t : Nat} (ht : S.clock ≤ t) {k : Nat} (h0 : S.left nm t = (k + 1, 0)) : S.try nm t = ((S.goTo t).attempt nm, (k, 0)) := by
  have hc : (S.goTo t).clock = t := by rw [goTo_clock]; omega
  unfold LS.try
  rw [if_neg (by omega), hc, left_goTo h nm ht, h0]
  rfl
/-- One attempt fewer. -/
theorem attempt_left {S : LS} (h : Ok S) {nm : Nm} (hl : nm.length ≤ 256) {k : Nat} (h0 : S.left nm S.clock = (k + 1, 0)) : (S.attempt nm).left nm S.clock = if k = 0 then (0, 80) else (k, 0) := by
  have hg := attempt_get h nm
  have hw := h.win1
  obtain ⟨u, hgu, htr⟩ : ∃ u, tget nm (S.attempt nm).tab = some u ∧ u.2 + k = S.tries ∧ S.clock - u.1 < S.win := by
    unfold LS.left LS.leftN at h0
    rw [if_neg (by omega)] at h0
    rw [hg]
    cases hgg : tget nm S.tab with
    | none =>
      rw [hgg] at h0
      simp only at h0
      split at h0
      · cases h0
      · rw [Prod.mk.injEq] at h0; exact ⟨(S.clock, 1), rfl, by show 1 + k = _; omega, by show S.clock - S.clock < _; omega⟩
    | some v =>
      have hv := h.each _ (tget_some hgg)
      rw [hgg] at h0
      simp only at h0 hv
      rw [if_pos hv.2.1] at h0
      split at h0
      · cases h0
      · rw [Prod.mk.injEq] at h0; exact ⟨(v.1, v.2 + 1), rfl, by show v.2 + 1 + k = _; omega, hv.2.1⟩
  unfold LS.left
  rw [if_neg (by omega), hgu, attempt_win, attempt_tries]
  simp only
  rw [if_pos htr.2]
  by_cases hk : k = 0
  · rw [if_pos hk, if_pos (by omega)]
  · rw [if_neg hk, if_neg (by omega), show S.tries - u.2 = k by omega]
/-- Behind i of them at one time. -/
structure LI (S : LS) (nm : Nm) (D L i : Nat) : Prop where
  ok : Ok S
  clock : S.clock ≤ D
  left : S.left nm D = if i < L then (L - i, 0) else (0, 80)
theorem li_next {S : LS} {nm : Nm} {D L i : Nat} (hl : nm.length ≤ 256) (hD : D < 18446744073709551616) (h : LI S nm D L i) (hi : i < L) : S.try nm D = ((S.goTo D).attempt nm, (L - 1 - i, 0)) ∧ LI ((S.goTo D).attempt nm) nm D L (i + 1) := by
  have hc : (S.goTo D).clock = D := by rw [goTo_clock]; have := h.clock; omega
  have h1 : S.left nm D = ((L - 1 - i) + 1, 0) := by rw [h.left, if_pos hi, show L - i = (L - 1 - i) + 1 by omega]
  have h2 : (S.goTo D).left nm (S.goTo D).clock = ((L - 1 - i) + 1, 0) := by rw [hc, left_goTo h.ok nm h.clock, h1]
  have o1 := h.ok.goTo hD
  refine ⟨try_counts h.ok hl h.clock h1, o1.attempt (by rw [h2]), by rw [attempt_clock, hc]; exact Nat.le_refl _, ?_⟩
  have h3 := attempt_left o1 hl h2
  rw [hc] at h3
  rw [h3]
  by_cases hk : L - 1 - i = 0
  · rw [if_pos hk, if_neg (by omega)]
  · rw [if_neg hk, if_pos (by omega), show L - 1 - i = L - (i + 1) by omega]
theorem li_end {S : LS} {nm : Nm} {D L i : Nat} (hl : nm.length ≤ 256) (h : LI S nm D L i) (hi : L ≤ i) : (S.try nm D).2.2 = 80 := by
  have h1 : S.left nm D = (0, 80) := by rw [h.left, if_neg (by omega)]
  rw [try_refused h.ok hl h.clock (by rw [h1]; decide)]
  show (S.left nm D).2 = 80
  rw [h1]
theorem li_start {S : LS} {nm : Nm} {D k : Nat} (h : Ok S) (hc : S.clock ≤ D) (hk : S.left nm D = (k + 1, 0)) : LI S nm D (S.left nm D).1 0 := by
  refine ⟨h, hc, ?_⟩
  rw [hk]
  rfl
/-- Behind the wait, whether it was tried a second earlier or not. -/
theorem waited {S : LS} (h : Ok S) {nm : Nm} {d : Nat} (hr : Refused S nm d) {t : Nat} (ht : S.clock ≤ t) (hd : t < S.clock + d) (hb : t < 18446744073709551616) : Ok (S.goTo t) ∧ (S.goTo t).clock ≤ S.clock + d ∧ (S.goTo t).left nm (S.clock + d) = (S.tries, 0) := by
  have hc : (S.goTo t).clock = t := by rw [goTo_clock]; omega
  have o1 := h.goTo hb
  refine ⟨o1, by omega, ?_⟩
  rw [← left_goTo o1 nm (by omega), ← hr.then_, ← left_goTo h nm (t := S.clock + d) (by omega)]
  congr 1
  have e1 := goTo_tab h ht
  have e2 := goTo_tab o1 (t := S.clock + d) (by omega)
  have e3 := goTo_tab h (t := S.clock + d) (by omega)
  rw [e2, e3, e1]
  simp only
  rw [filter_twice (by omega)]
end Go.Proofs.Ytbhlciaigadlkaa
