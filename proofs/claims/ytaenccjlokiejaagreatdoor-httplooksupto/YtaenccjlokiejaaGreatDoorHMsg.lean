/- Messages: what goes on behind one is not read; what is printed reads back. -/
import Derived.Test.YtaenccjlokiejaaGreatDoorHStat
import Derived.Test.YtaenccjlokiejaaGreatDoorHRest
namespace Go.Proofs.YtaenccjlokiejaaGreatDoor
open Go.RowKit

theorem tw_ext (p : UInt8 → Bool) (x : U) : ∀ l : U, (l.takeWhile p).length < l.length → (l ++ x).takeWhile p = l.takeWhile p
  | [], h => by simp at h
  | a :: l, h => by
    rw [List.cons_append, List.takeWhile_cons, List.takeWhile_cons]
    rw [List.takeWhile_cons] at h
    by_cases hp : p a = true
    · rw [if_pos hp] at h ⊢
      rw [if_pos hp, tw_ext p x l (by simpa using h)]
    · rw [if_neg hp, if_neg hp]
theorem pre_ext {a l : U} (x : U) (h : a.isPrefixOf l = true) : a.isPrefixOf (l ++ x) = true := by
  obtain ⟨r, rfl⟩ := List.isPrefixOf_iff_prefix.1 h
  exact List.isPrefixOf_iff_prefix.2 ⟨r ++ x, by simp⟩
theorem drop_ext {l : U} {k : Nat} (x : U) (h : k ≤ l.length) : (l ++ x).drop k = l.drop k ++ x := by
  rw [List.drop_append_of_le_length h]
theorem word_ext {l : U} {p : UInt8 → Bool} (x : U) (h : (wordR l p).2 = true) : wordR (l ++ x) p = wordR l p := by
  have hf := word_fact l p h
  unfold wordR at h hf ⊢
  simp only at h hf ⊢
  rw [tw_ext p x l (by omega), drop_ext x (by omega), pre_ext x h, h]
theorem cutR_ext {l a r : U} (x : U) (h : cutR l = some (a, r)) : cutR (l ++ x) = some (a, r ++ x) := by
  revert a r
  induction l with
  | nil => intro a r h; cases h
  | cons c l ih =>
    intro a r h
    cases l with
    | nil => cases h
    | cons b l =>
      simp only [List.cons_append, cutR] at h ih ⊢
      by_cases hc : c = 13 ∧ b = 10
      · rw [if_pos hc] at h ⊢
        injection h with h
        injection h with e1 e2
        subst e1; subst e2; rfl
      · rw [if_neg hc] at h ⊢
        cases hq : cutR (b :: l) with
        | none => rw [hq] at h; cases h
        | some y =>
          obtain ⟨a2, r2⟩ := y
          rw [hq] at h
          injection h with h
          injection h with e1 e2
          subst e1; subst e2
          rw [ih hq]; rfl
theorem headR_ext : ∀ (n m : Nat) (l x : U) (k : Nat) (h h' : Hd) (b : U) (j : Nat), n ≤ m → headR n l k h = .ok (h', b, j) → headR m (l ++ x) k h = .ok (h', b ++ x, j)
  | 0, _, l, x, k, h, h', b, j, _, e => by cases e
  | n + 1, 0, l, x, k, h, h', b, j, hn, e => by omega
  | n + 1, m + 1, l, x, k, h, h', b, j, hn, e => by
    unfold headR at e ⊢
    cases hc : cutR l with
    | none => rw [hc] at e; cases e
    | some y =>
      obtain ⟨a, r⟩ := y
      rw [hc] at e
      rw [cutR_ext x hc]
      simp only at e ⊢
      by_cases ha : a = []
      · rw [if_pos ha] at e ⊢
        injection e with e
        injection e with e1 e2
        injection e2 with e2 e3
        subst e1; subst e2; subst e3; rfl
      · rw [if_neg ha] at e ⊢
        cases hr : addR h a with
        | error z => rw [hr] at e; cases e
        | ok h2 => rw [hr] at e; exact headR_ext n m r x _ h2 h' b j (by omega) e
theorem rest_ext {raw x : U} {k : Nat} {y : List Fl × U} (hk : k ≤ raw.length) (hx : x ≠ []) (h : restR raw k = .ok y) : ∃ e, restR (raw ++ x) k = .error e := by
  unfold restR at h ⊢
  rw [drop_ext x hk]
  cases hh : headR ((raw.drop k).length + 1) (raw.drop k) k ⟨[], none⟩ with
  | error e => rw [hh] at h; cases h
  | ok z =>
    obtain ⟨h', b, j⟩ := z
    rw [hh] at h
    simp only at h
    rw [headR_ext _ ((raw.drop k ++ x).length + 1) _ x _ _ _ _ _ (by simp) hh]
    simp only
    by_cases hb : b.length = h'.len.getD 0
    · have : ¬ (b ++ x).length = h'.len.getD 0 := by
        rw [List.length_append]
        have : x.length ≠ 0 := fun e => hx (List.length_eq_zero_iff.1 e)
        omega
      rw [if_neg this]
      exact ⟨_, rfl⟩
    · rw [if_neg hb] at h; cases h
theorem reqLine_ext {raw m t : U} {k : Nat} (x : U) (h : reqLineR raw = .ok (m, t, k)) : reqLineR (raw ++ x) = .ok (m, t, k) := by
  unfold reqLineR at h ⊢
  by_cases h1 : (wordR raw capB).2 = true ∧ methodB (wordR raw capB).1 = true
  · rw [if_pos h1] at h
    rw [word_ext x h1.1, if_pos h1]
    have hf := word_fact raw capB h1.1
    generalize (wordR raw capB).1 = m1 at *
    rw [drop_ext x hf]
    by_cases h2 : (wordR (raw.drop (m1.length + 1)) visB).2 = true ∧ targetB (wordR (raw.drop (m1.length + 1)) visB).1 = true
    · rw [if_pos h2] at h
      rw [word_ext x h2.1, if_pos h2]
      have hf2 := word_fact _ visB h2.1
      rw [List.length_drop] at hf2
      generalize (wordR (raw.drop (m1.length + 1)) visB).1 = t1 at *
      rw [drop_ext x (by omega)]
      by_cases h3 : verL.isPrefixOf (raw.drop (m1.length + 1 + (t1.length + 1))) = true
      · rw [if_pos h3] at h
        rw [if_pos (pre_ext x h3)]
        exact h
      · rw [if_neg h3] at h; cases h
    · rw [if_neg h2] at h; cases h
  · rw [if_neg h1] at h; cases h
theorem reqLine_okk {raw m t : U} {k : Nat} (h : reqLineR raw = .ok (m, t, k)) : k ≤ raw.length := by
  unfold reqLineR at h
  split at h
  · split at h
    · split at h
      · rename_i h1 h2 h3
        have hp := prefix_lenH h3
        rw [List.length_drop] at hp
        have h10 : verL.length = 10 := rfl
        injection h with h
        injection h with e1 e2
        injection e2 with e2 e3
        subst e3
        omega
      · cases h
    · cases h
  · cases h
theorem statLine_okk {raw : U} {n k : Nat} (h : statLineR raw = .ok (n, k)) : k ≤ raw.length := by
  unfold statLineR at h
  split at h
  · split at h
    · rename_i h1 h2
      have hp := prefix_lenH h2.2.2.2
      rw [List.length_drop] at hp
      injection h with h
      injection h with e1 e2
      subst e2
      simp only [List.length_append, List.length_cons, List.length_nil] at hp ⊢
      omega
    · cases h
  · cases h
theorem parseReq_ext {raw x : U} {q : Rq} (hx : x ≠ []) (h : parseReqR raw = .ok q) : ∃ e, parseReqR (raw ++ x) = .error e := by
  unfold parseReqR at h ⊢
  by_cases h0 : 32768 < (raw ++ x).length
  · rw [if_pos h0]; exact ⟨_, rfl⟩
  · rw [if_neg h0]
    rw [if_neg (by rw [List.length_append] at h0; omega)] at h
    cases hl : reqLineR raw with
    | error e => rw [hl] at h; cases h
    | ok y =>
      obtain ⟨m, t, k⟩ := y
      rw [hl] at h
      rw [reqLine_ext x hl]
      simp only at h ⊢
      cases hr : restR raw k with
      | error e => rw [hr] at h; cases h
      | ok z =>
        obtain ⟨e, he⟩ := rest_ext (x := x) (reqLine_okk hl) hx hr
        rw [he]
        exact ⟨_, rfl⟩
theorem statLine_ext {raw : U} {n k : Nat} (x : U) (h : statLineR raw = .ok (n, k)) : statLineR (raw ++ x) = .ok (n, k) := by
  unfold statLineR at h ⊢
  by_cases h0 : ver9.isPrefixOf raw = true
  · rw [if_pos h0] at h
    rw [if_pos (pre_ext x h0)]
    split at h
    · rename_i h1
      have hp := prefix_lenH h1.2.2.2
      rw [List.length_drop] at hp
      simp only [List.length_append, List.length_cons, List.length_nil] at hp
      have h9 : 9 ≤ raw.length := prefix_lenH h0
      have e1 : ((raw ++ x).drop 9).take 3 = (raw.drop 9).take 3 := by
        rw [drop_ext x h9, List.take_append_of_le_length (by rw [List.length_drop]; omega)]
      have e2 : (raw ++ x).drop 12 = raw.drop 12 ++ x := drop_ext x (by omega)
      rw [e1, e2, if_pos ⟨h1.1, h1.2.1, h1.2.2.1, pre_ext x h1.2.2.2⟩]
      exact h
    · cases h
  · rw [if_neg h0] at h; cases h
theorem parseResp_ext {raw x : U} {q : Rs} (hx : x ≠ []) (h : parseRespR raw = .ok q) : ∃ e, parseRespR (raw ++ x) = .error e := by
  unfold parseRespR at h ⊢
  by_cases h0 : 32768 < (raw ++ x).length
  · rw [if_pos h0]; exact ⟨_, rfl⟩
  · rw [if_neg h0]
    rw [if_neg (by rw [List.length_append] at h0; omega)] at h
    cases hl : statLineR raw with
    | error e => rw [hl] at h; cases h
    | ok y =>
      obtain ⟨n, k⟩ := y
      rw [hl] at h
      rw [statLine_ext x hl]
      simp only at h ⊢
      cases hr : restR raw k with
      | error e => rw [hr] at h; cases h
      | ok z =>
        obtain ⟨e, he⟩ := rest_ext (x := x) (statLine_okk hl) hx hr
        rw [he]
        exact ⟨_, rfl⟩
/-- A beginning of what is read is not read. -/
theorem parseReq_begin {s : U} {q : Rq} {k : Nat} (h : parseReqR s = .ok q) (hk : k < s.length) : ∃ e, parseReqR (s.take k) = .error e := by
  cases hp : parseReqR (s.take k) with
  | error e => exact ⟨e, rfl⟩
  | ok y =>
    have hx : s.drop k ≠ [] := fun e => by have := List.drop_eq_nil_iff.1 e; omega
    obtain ⟨e, he⟩ := parseReq_ext hx hp
    rw [List.take_append_drop, h] at he
    cases he
theorem parseResp_begin {s : U} {q : Rs} {k : Nat} (h : parseRespR s = .ok q) (hk : k < s.length) : ∃ e, parseRespR (s.take k) = .error e := by
  cases hp : parseRespR (s.take k) with
  | error e => exact ⟨e, rfl⟩
  | ok y =>
    have hx : s.drop k ≠ [] := fun e => by have := List.drop_eq_nil_iff.1 e; omega
    obtain ⟨e, he⟩ := parseResp_ext hx hp
    rw [List.take_append_drop, h] at he
    cases he
end Go.Proofs.YtaenccjlokiejaaGreatDoor
