/- Two limits side by side. -/
import Derived.Test.YtbhlciaigadlkaaQMost
namespace Go.Proofs.Ytbhlciaigadlkaa
open Go.RowKit Go.Maps Go.Shelf

/-- Two limits made since w0, none of their blocks in G, none in common. -/
structure Two (G : List Nat) (w0 w : World) (lp kp : Nat) (S T : LS) : Prop where
  rep : ∃ Y Z, Rep w lp S Y ∧ Rep w kp T Z ∧ (∀ b ∈ Y.blocks lp S.tab, w0.heap.size ≤ b ∧ b ∉ G ∧ b ∉ Z.blocks kp T.tab) ∧ (∀ b ∈ Z.blocks kp T.tab, w0.heap.size ≤ b ∧ b ∉ G)
  bel : Below w0.heap.size w0 w
  lt : ∀ b ∈ G, b < w.heap.size
theorem Two.swap {G : List Nat} {w0 w : World} {lp kp : Nat} {S T : LS} (h : Two G w0 w lp kp S T) : Two G w0 w kp lp T S := by
  obtain ⟨Y, Z, h1, h2, h3, h4⟩ := h.rep
  exact ⟨⟨Z, Y, h2, h1, fun b hb => ⟨(h4 b hb).1, (h4 b hb).2, fun e => (h3 b e).2.2 hb⟩, fun b hb => ⟨(h3 b hb).1, (h3 b hb).2.1⟩⟩, h.bel, h.lt⟩
theorem Two.one {G : List Nat} {w0 w : World} {lp kp : Nat} {S T : LS} (h : Two G w0 w lp kp S T) : Mine G w0 w lp S := by
  obtain ⟨Y, Z, h1, h2, h3, h4⟩ := h.rep
  exact ⟨⟨Y, h1, fun b hb => ⟨(h3 b hb).1, (h3 b hb).2.1⟩⟩, h.bel, h.lt⟩
theorem two_made {G : List Nat} {w0 w w2 : World} {lp kp : Nat} {S T : LS} (h : Mine G w0 w lp S) (k : Mine [] w w2 kp T) : Two G w0 w2 lp kp S T := by
  obtain ⟨Y, h1, h2⟩ := h.rep
  obtain ⟨Z, k1, k2⟩ := k.rep
  refine ⟨⟨Y, Z, h1.below k.bel, k1, fun b hb => ⟨(h2 b hb).1, (h2 b hb).2, fun e => ?_⟩, fun b hb => ⟨Nat.le_trans h.bel.size (k2 b hb).1, fun e => ?_⟩⟩, h.bel.trans (k.bel.mono h.bel.size), fun b hb => Nat.lt_of_lt_of_le (h.lt b hb) k.bel.size⟩
  · have := h1.lt b hb
    have := (k2 b e).1
    omega
  · have := h.lt b e
    have := (k2 b hb).1
    omega
theorem Two.step {G : List Nat} {w0 w w' : World} {lp kp : Nat} {S S' T : LS} {Y Y' Z : Lay} (h : Two G w0 w lp kp S T) (h2 : Rep w kp T Z) (h3 : ∀ b ∈ Y.blocks lp S.tab, w0.heap.size ≤ b ∧ b ∉ G ∧ b ∉ Z.blocks kp T.tab) (h4 : ∀ b ∈ Z.blocks kp T.tab, w0.heap.size ≤ b ∧ b ∉ G) (h' : Rep w' lp S' Y') (ha : Aft lp S S' Y Y' w w') : Two G w0 w' lp kp S' T ∧ Held G w w' := by
  refine ⟨⟨⟨Y', Z, h', h2.apart ha.fr (fun b hb e => (h3 b e).2.2 hb), fun b hb => ?_, h4⟩, h.bel.trans (ha.fr.below _ h.bel.size fun x hx => (h3 x hx).1), fun b hg => Nat.lt_of_lt_of_le (h.lt b hg) ha.fr.size⟩, fun b hg => ha.fr.block b (h.lt b hg) fun e => (h3 b e).2.1 hg⟩
  rcases ha.new b hb with h1 | h1
  · exact h3 b h1
  · refine ⟨Nat.le_trans h.bel.size h1, fun e => ?_, fun e => ?_⟩
    · have := h.lt b e; omega
    · have := h2.lt b e; omega
theorem Two.below {G : List Nat} {w0 w w' : World} {lp kp : Nat} {S T : LS} (h : Two G w0 w lp kp S T) (hb : Below w.heap.size w w') : Two G w0 w' lp kp S T ∧ Held G w w' := by
  obtain ⟨Y, Z, h1, h2, h3, h4⟩ := h.rep
  exact h.step h2 h3 h4 (h1.below hb) (Aft.of hb)
theorem Two.more {G : List Nat} {w0 w : World} {lp kp : Nat} {S T : LS} (h : Two G w0 w lp kp S T) (o : Obj) {N : Nat} (hN : N = w.heap.size) : Two (N :: G) w0 (w.alloc o) lp kp S T := by
  obtain ⟨Y, Z, h1, h2, h3, h4⟩ := h.rep
  have hb := below_new w o
  refine ⟨⟨Y, Z, h1.below hb, h2.below hb, fun b hm => ⟨(h3 b hm).1, fun e => ?_, (h3 b hm).2.2⟩, fun b hm => ⟨(h4 b hm).1, fun e => ?_⟩⟩, h.bel.trans (hb.mono h.bel.size), fun b hg => ?_⟩
  · rcases List.mem_cons.1 e with e | e
    · have := h1.lt b hm; omega
    · exact (h3 b hm).2.1 e
  · rcases List.mem_cons.1 e with e | e
    · have := h2.lt b hm; omega
    · exact (h4 b hm).2 e
  · rcases List.mem_cons.1 hg with e | e
    · rw [e, hN]; simp
    · have := h.lt b e
      have := hb.size
      omega
theorem Two.less {G G' : List Nat} {w0 w : World} {lp kp : Nat} {S T : LS} (h : Two G w0 w lp kp S T) (hs : ∀ b ∈ G', b ∈ G) : Two G' w0 w lp kp S T := by
  obtain ⟨Y, Z, h1, h2, h3, h4⟩ := h.rep
  exact ⟨⟨Y, Z, h1, h2, fun b hm => ⟨(h3 b hm).1, fun e => (h3 b hm).2.1 (hs b e), (h3 b hm).2.2⟩, fun b hm => ⟨(h4 b hm).1, fun e => (h4 b hm).2 (hs b e)⟩⟩, h.bel, fun b hb => h.lt b (hs b hb)⟩
theorem Two.oks {G : List Nat} {w0 w : World} {lp kp : Nat} {S T : LS} (h : Two G w0 w lp kp S T) : Ok S ∧ Ok T := ⟨h.one.ok, h.swap.one.ok⟩
theorem try_t {G : List Nat} {w0 w : World} {lp kp : Nat} {S T : LS} (h : Two G w0 w lp kp S T) (nm : Nm) (now : Nat) (hn : now < 18446744073709551616) :
    Calls Try.prog 14 #[pf lp, .string (str nm), .int .u64 (now : Int)] w fun e w' => e = .returned (two (S.try nm now).2) ∧ Two G w0 w' lp kp (S.try nm now).1 T ∧ Held G w w' := by
  obtain ⟨Y, Z, h1, h2, h3, h4⟩ := h.rep
  refine (try_any lp now nm S Y w h1 hn).mono ?_
  rintro e w' ⟨rfl, Y', k1, k2⟩
  exact ⟨rfl, h.step h2 h3 h4 k1 k2⟩
theorem sweep_t {G : List Nat} {w0 w : World} {lp kp : Nat} {S T : LS} (h : Two G w0 w lp kp S T) (now : Nat) (hn : now < 18446744073709551616) :
    Calls Try.prog 17 #[pf lp, .int .u64 (now : Int)] w fun e w' => e = .returned (.int .i64 ((S.goTo now).tab.length : Int)) ∧ Two G w0 w' lp kp (S.goTo now) T ∧ Held G w w' := by
  obtain ⟨Y, Z, h1, h2, h3, h4⟩ := h.rep
  refine (sweep_any lp now S Y w h1 hn).mono ?_
  rintro e w' ⟨rfl, k1, k2⟩
  exact ⟨rfl, h.step h2 h3 h4 k1 k2⟩

/-- A limit, and one that knows one subject alone, answer that subject alike. -/
structure AI (S T : LS) (nm : Nm) (i : Nat) : Prop where
  clock : S.clock = T.clock
  tries : S.tries = T.tries
  win : S.win = T.win
  subs1 : S.subs = 4096
  subs2 : T.subs = 4096
  get : tget nm S.tab = tget nm T.tab
  only : ∀ p ∈ T.tab, p.1 = nm
  len : S.tab.length ≤ i
theorem left_room {S : LS} (h : Ok S) (hr : S.tab.length < S.subs) (nm : Nm) : S.left nm S.clock = if 256 < nm.length then (0, 1) else match tget nm S.tab with
    | some v => if v.2 = S.tries then (0, 80) else (S.tries - v.2, 0)
    | none => (S.tries, 0) := by
  unfold LS.left LS.leftN
  rw [openAt_clock h]
  split
  · rfl
  · cases hg : tget nm S.tab with
    | none => simp only; rw [if_neg (by omega)]
    | some v =>
      have := (h.each _ (tget_some hg)).2.1
      simp only at this ⊢
      rw [if_pos this]
theorem only_len {T : LS} (h : Ok T) {nm : Nm} (ho : ∀ p ∈ T.tab, p.1 = nm) : T.tab.length ≤ 1 := by
  match ht : T.tab, h.rising with
  | [], _ => simp
  | [_], _ => simp
  | p :: q :: r, hr =>
    exfalso
    have h1 := (List.pairwise_cons.1 hr).1 q (by simp)
    rw [ho p (by rw [ht]; simp), ho q (by rw [ht]; simp), WideAt.bytes_irrefl] at h1
    cases h1
theorem ai_goTo {S T : LS} (hS : Ok S) (hT : Ok T) {nm : Nm} {i : Nat} (h : AI S T nm i) (now : Nat) : AI (S.goTo now) (T.goTo now) nm i := by
  refine ⟨by rw [goTo_clock, goTo_clock, h.clock], by rw [goTo_tries, goTo_tries, h.tries], by rw [goTo_win, goTo_win, h.win], by rw [goTo_subs, h.subs1], by rw [goTo_subs, h.subs2], by rw [goTo_get hS, goTo_get hT, h.get, h.clock, h.win], fun p hp => ?_, ?_⟩
  · unfold LS.goTo at hp
    split at hp
    · exact h.only p hp
    · exact h.only p (List.mem_filter.1 hp).1
  · unfold LS.goTo
    split
    · exact h.len
    · exact Nat.le_trans (List.length_filter_le _ _) h.len
theorem attempt_len (S : LS) (nm : Nm) : (S.attempt nm).tab.length ≤ S.tab.length + 1 := by
  unfold LS.attempt
  cases tget nm S.tab with
  | none => simp only; rw [tins_length]; exact Nat.le_refl _
  | some v => simp only; rw [tset_length]; exact Nat.le_succ _
theorem try_len (S : LS) (nm : Nm) (now : Nat) : (S.try nm now).1.tab.length ≤ (S.goTo now).tab.length + 1 ∨ (S.try nm now).1 = S := by
  unfold LS.try
  split
  · exact .inr rfl
  · split
    · exact .inl (attempt_len _ _)
    · exact .inl (Nat.le_succ _)
theorem ai_mono {S T : LS} {nm : Nm} {i j : Nat} (h : AI S T nm i) (hij : i ≤ j) : AI S T nm j := ⟨h.clock, h.tries, h.win, h.subs1, h.subs2, h.get, h.only, Nat.le_trans h.len hij⟩
/-- The subject itself tries. -/
theorem ai_same {S T : LS} (hS : Ok S) (hT : Ok T) {nm : Nm} {i : Nat} (h : AI S T nm i) (hi : i < 4096) {now : Nat} (hn : now < 18446744073709551616) : (S.try nm now).2 = (T.try nm now).2 ∧ AI (S.try nm now).1 (T.try nm now).1 nm (i + 1) := by
  have h1 := ai_goTo hS hT h now
  have o1 := hS.goTo hn
  have o2 := hT.goTo hn
  unfold LS.try
  by_cases hl : 256 < nm.length
  · rw [if_pos hl, if_pos hl]
    exact ⟨rfl, ai_mono h (Nat.le_succ _)⟩
  · rw [if_neg hl, if_neg hl]
    generalize S.goTo now = S1 at *
    generalize T.goTo now = T1 at *
    have e : S1.left nm S1.clock = T1.left nm T1.clock := by
      rw [left_room o1 (by rw [h1.subs1]; have := h1.len; omega), left_room o2 (by rw [h1.subs2]; have := only_len o2 h1.only; omega), h1.get, h1.tries]
    rw [e]
    split
    · rename_i h0
      refine ⟨rfl, by rw [attempt_clock, attempt_clock, h1.clock], by rw [attempt_tries, attempt_tries, h1.tries], by rw [attempt_win, attempt_win, h1.win], by rw [attempt_subs, h1.subs1], by rw [attempt_subs, h1.subs2], by rw [attempt_get o1, attempt_get o2, h1.get, h1.clock], fun p hp => ?_, Nat.le_trans (attempt_len _ _) (Nat.succ_le_succ h1.len)⟩
      unfold LS.attempt at hp
      cases hg : tget nm T1.tab with
      | none =>
        rw [hg] at hp
        rcases (tins_mem _ _ p).1 hp with rfl | hp
        · rfl
        · exact h1.only p hp
      | some v =>
        rw [hg] at hp
        rcases tset_mem hp with ⟨rfl, _⟩ | ⟨hp, _⟩
        · rfl
        · exact h1.only p hp
    · exact ⟨rfl, ai_mono h1 (Nat.le_succ _)⟩
/-- Another tries. -/
theorem ai_other {S T : LS} (hS : Ok S) (hT : Ok T) {nm nm' : Nm} {i : Nat} (h : AI S T nm i) {now : Nat} (hn : now < 18446744073709551616) (hne : nm' ≠ nm) : AI (S.try nm' now).1 (if nm'.length ≤ 256 then T.goTo now else T) nm (i + 1) := by
  have h1 := ai_goTo hS hT h now
  have o1 := hS.goTo hn
  unfold LS.try
  by_cases hl : 256 < nm'.length
  · rw [if_pos hl, if_neg (by omega)]
    exact ai_mono h (Nat.le_succ _)
  · rw [if_neg hl, if_pos (show nm'.length ≤ 256 by omega)]
    generalize S.goTo now = S1 at *
    generalize T.goTo now = T1 at *
    split
    · exact ⟨by rw [attempt_clock, h1.clock], by rw [attempt_tries, h1.tries], by rw [attempt_win, h1.win], by rw [attempt_subs, h1.subs1], h1.subs2, by rw [attempt_get_ne o1 (Ne.symm hne), h1.get], h1.only, Nat.le_trans (attempt_len _ _) (Nat.succ_le_succ h1.len)⟩
    · exact ai_mono h1 (Nat.le_succ _)
theorem ai_start (t wn : Nat) (nm : Nm) : AI (fresh t wn 4096) (fresh t wn 4096) nm 0 := ⟨rfl, rfl, rfl, rfl, rfl, rfl, fun p hp => (by cases hp), Nat.le_refl _⟩
end Go.Proofs.Ytbhlciaigadlkaa
