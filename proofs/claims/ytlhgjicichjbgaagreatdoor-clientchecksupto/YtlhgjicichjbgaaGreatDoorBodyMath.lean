/- Plain facts of bodies: pieces and pairs, read and printed, over lists of bytes as numbers. -/
import Derived.Test.YtlhgjicichjbgaaGreatDoorEscMath
namespace Go.Proofs.YtlhgjicichjbgaaGreatDoor

abbrev Two := List Nat × List Nat
/-- What stands ahead of the first c, and what stands behind it. -/
def upTo (c : Nat) (l : List Nat) : List Nat := l.takeWhile (fun x => x != c)
theorem upTo_le (c : Nat) (l : List Nat) : (upTo c l).length ≤ l.length := by
  induction l with
  | nil => simp [upTo]
  | cons x l ih => unfold upTo at ih ⊢; rw [List.takeWhile_cons]; split <;> simp <;> omega
theorem upTo_nil (c : Nat) : upTo c [] = [] := rfl
theorem upTo_hit (c : Nat) (l : List Nat) : upTo c (c :: l) = [] := by simp [upTo]
theorem upTo_miss {c x : Nat} (l : List Nat) (h : x ≠ c) : upTo c (x :: l) = x :: upTo c l := by simp [upTo, h]
theorem upTo_none {c : Nat} {l : List Nat} (h : ∀ x ∈ l, x ≠ c) : upTo c l = l := by
  induction l with
  | nil => rfl
  | cons x l ih => rw [upTo_miss _ (h x (by simp)), ih (fun y hy => h y (by simp [hy]))]
theorem upTo_split {c : Nat} {a : List Nat} (b : List Nat) (h : ∀ x ∈ a, x ≠ c) : upTo c (a ++ c :: b) = a := by
  induction a with
  | nil => exact upTo_hit c b
  | cons x l ih => rw [List.cons_append, upTo_miss _ (h x (by simp)), ih (fun y hy => h y (by simp [hy]))]
theorem upTo_ne {c : Nat} {l : List Nat} : ∀ x ∈ upTo c l, x ≠ c := by
  induction l with
  | nil => simp [upTo]
  | cons y l ih =>
    by_cases h : y = c
    · subst h; rw [upTo_hit]; simp
    · rw [upTo_miss _ h]
      intro x hx
      rcases List.mem_cons.1 hx with rfl | hx
      · exact h
      · exact ih x hx
theorem upTo_take (c : Nat) (l : List Nat) : upTo c l = l.take (upTo c l).length := by
  induction l with
  | nil => rfl
  | cons x l ih =>
    by_cases h : x = c
    · subst h; rw [upTo_hit]; rfl
    · rw [upTo_miss _ h, List.length_cons, List.take_succ_cons, ← ih]
theorem upTo_end {c : Nat} {l : List Nat} (h : (upTo c l).length < l.length) : l.getD (upTo c l).length 0 = c := by
  induction l with
  | nil => simp at h
  | cons x l ih =>
    by_cases hx : x = c
    · subst hx; rw [upTo_hit]; rfl
    · rw [upTo_miss _ hx, List.length_cons] at h ⊢
      have := ih (by simpa using h)
      simpa using this
/-- The one who looks byte by byte finds the same place. -/
theorem upTo_len {c k : Nat} {l : List Nat} (hk : k ≤ l.length) (h : ∀ j, j < k → l.getD j 0 ≠ c) (he : k = l.length ∨ l.getD k 0 = c) : (upTo c l).length = k := by
  induction l generalizing k with
  | nil => simp at hk; subst hk; rfl
  | cons x l ih =>
    cases k with
    | zero =>
      rcases he with he | he
      · simp at he
      · have : x = c := by simpa using he
        subst this; rw [upTo_hit]; rfl
    | succ k =>
      have h0 : x ≠ c := by have := h 0 (by omega); simpa using this
      rw [upTo_miss _ h0, List.length_cons]
      congr 1
      refine ih (by simpa using hk) (fun j hj => ?_) ?_
      · have := h (j + 1) (by omega); simpa using this
      · rcases he with he | he
        · exact .inl (by simpa using he)
        · exact .inr (by simpa using he)

/-- What is wrong, and where. -/
theorem un_err : ∀ (n : Nat) (l : List Nat) (i e p : Nat), l.length ≤ n → un l i = .error (e, p) → (e = 30 ∨ e = 31) ∧ i ≤ p ∧ p < i + l.length
  | _, [], i, e, p, _, h => by rw [un_nil] at h; cases h
  | 0, c :: r, i, e, p, h, _ => by simp at h
  | n + 1, c :: r, i, e, p, h, ht => by
    have hr : r.length ≤ n := by simpa using h
    have key : ∀ (x : Nat) (q : List Nat) (j : Nat), q.length ≤ n → i ≤ j → j + q.length ≤ i + (c :: r).length → put1 x (un q j) = .error (e, p) → (e = 30 ∨ e = 31) ∧ i ≤ p ∧ p < i + (c :: r).length := by
      intro x q j hq hj hj2 he
      cases hu : un q j with
      | ok l => rw [hu] at he; cases he
      | error e' =>
        rw [hu] at he
        cases he
        have := un_err n q j e p hq hu
        omega
    have hc : (c :: r).length = r.length + 1 := rfl
    by_cases h1 : c < 33 ∨ 126 < c
    · rw [un_bad _ _ h1] at ht; cases ht; omega
    · by_cases h2 : c = 43
      · subst h2; rw [un_plus] at ht; exact key _ _ _ hr (by omega) (by omega) ht
      · by_cases h3 : c = 37
        · subst h3
          match r, hr with
          | [], _ => rw [un_hex_short _ (by simp)] at ht; cases ht; simp
          | [a], _ => rw [un_hex_short _ (by simp)] at ht; cases ht; simp
          | a :: b :: r', hr =>
            cases ha : hx a with
            | none => rw [un_hex_bad _ _ (.inl ha)] at ht; cases ht; simp
            | some x =>
              cases hb : hx b with
              | none => rw [un_hex_bad _ _ (.inr hb)] at ht; cases ht; simp
              | some y =>
                rw [un_hex _ _ ha hb] at ht
                exact key _ _ _ (by simp at hr; omega) (by omega) (by simp; omega) ht
        · rw [un_other _ _ h1 h2 h3] at ht; exact key _ _ _ hr (by omega) (by omega) ht

def pairAt (p : List Nat) (i : Nat) : Tried Two :=
  match un (upTo 61 p) i with
  | .error e => .error e
  | .ok n => match un (p.drop ((upTo 61 p).length + 1)) (i + (upTo 61 p).length + 1) with
    | .error e => .error e
    | .ok v => .ok (n, v)
theorem pairAt_shift (p : List Nat) (i : Nat) : pairAt p i = shiftP i (pairAt p 0) := by
  unfold pairAt
  rw [un_at _ i, un_at _ (i + _ + 1), un_at _ (0 + _ + 1)]
  cases un (upTo 61 p) 0 with
  | error e => rfl
  | ok n =>
    simp only [shiftP]
    cases un (p.drop ((upTo 61 p).length + 1)) 0 with
    | error e => obtain ⟨a, b⟩ := e; simp only [Except.error.injEq, Prod.mk.injEq, true_and]; omega
    | ok v => rfl
theorem pairAt_any {p : List Nat} {i : Nat} {q : Two} (h : pairAt p i = .ok q) (j : Nat) : pairAt p j = .ok q := by
  rw [pairAt_shift] at h ⊢
  cases hp : pairAt p 0 with
  | error e => rw [hp] at h; cases h
  | ok v => rw [hp] at h; exact h
def bytes2 (q : Two) : Prop := (∀ x ∈ q.1, x < 256) ∧ ∀ x ∈ q.2, x < 256
theorem pairAt_lt {p : List Nat} {i : Nat} {q : Two} (h : pairAt p i = .ok q) : bytes2 q ∧ q.1.length + q.2.length ≤ p.length := by
  unfold pairAt at h
  cases h1 : un (upTo 61 p) i with
  | error e => rw [h1] at h; cases h
  | ok n =>
    rw [h1] at h
    simp only at h
    cases h2 : un (p.drop ((upTo 61 p).length + 1)) (i + (upTo 61 p).length + 1) with
    | error e => rw [h2] at h; cases h
    | ok v =>
      rw [h2] at h
      cases h
      have a := un_lt _ _ _ _ (Nat.le_refl _) h1
      have b := un_lt _ _ _ _ (Nat.le_refl _) h2
      have := upTo_le 61 p
      refine ⟨⟨a.1, b.1⟩, ?_⟩
      have h3 := b.2
      rw [List.length_drop] at h3
      have h4 := a.2
      show n.length + v.length ≤ p.length
      omega

/-- The pairs from a place on, behind those that were read already. -/
def pars : Nat → List Nat → Nat → List Two → Tried (List Two)
  | 0, _, _, acc => .ok acc
  | f + 1, l, i, acc =>
    if l.length = 0 then .ok acc
    else if (upTo 38 l).length = 0 then pars f (l.drop 1) (i + 1) acc
    else if acc.length = 64 then .error (32, i)
    else match pairAt (upTo 38 l) i with
      | .error e => .error e
      | .ok q => pars f (l.drop ((upTo 38 l).length + 1)) (i + (upTo 38 l).length + 1) (acc ++ [q])
def parse (l : List Nat) (i : Nat) (acc : List Two) : Tried (List Two) := pars (l.length + 1) l i acc
theorem pars_fuel : ∀ (f g : Nat) (l : List Nat) (i : Nat) (acc : List Two), l.length < f → l.length < g → pars f l i acc = pars g l i acc
  | 0, _, _, _, _, h, _ => by omega
  | _ + 1, 0, _, _, _, _, h => by omega
  | f + 1, g + 1, l, i, acc, hf, hg => by
    unfold pars
    by_cases h0 : l.length = 0
    · rw [if_pos h0, if_pos h0]
    · rw [if_neg h0, if_neg h0]
      rw [pars_fuel f g (l.drop 1) (i + 1) acc (by rw [List.length_drop]; omega) (by rw [List.length_drop]; omega)]
      have e : ∀ q, pars f (l.drop ((upTo 38 l).length + 1)) (i + (upTo 38 l).length + 1) (acc ++ [q]) = pars g (l.drop ((upTo 38 l).length + 1)) (i + (upTo 38 l).length + 1) (acc ++ [q]) := fun q =>
        pars_fuel f g _ _ _ (by rw [List.length_drop]; omega) (by rw [List.length_drop]; omega)
      simp only [e]
theorem parse_nil (i : Nat) (acc : List Two) : parse [] i acc = .ok acc := by simp [parse, pars]
theorem parse_empty {l : List Nat} (i : Nat) (acc : List Two) (h0 : 0 < l.length) (h : (upTo 38 l).length = 0) : parse l i acc = parse (l.drop 1) (i + 1) acc := by
  unfold parse
  rw [pars, if_neg (by omega), if_pos h]
  exact pars_fuel _ _ _ _ _ (by rw [List.length_drop]; omega) (by omega)
theorem parse_many {l : List Nat} (i : Nat) (acc : List Two) (h : (upTo 38 l).length ≠ 0) (ha : acc.length = 64) : parse l i acc = .error (32, i) := by
  have := upTo_le 38 l
  unfold parse
  rw [pars, if_neg (by omega), if_neg h, if_pos ha]
theorem parse_bad {l : List Nat} (i : Nat) (acc : List Two) {e : Nat × Nat} (h : (upTo 38 l).length ≠ 0) (ha : acc.length ≠ 64) (hp : pairAt (upTo 38 l) i = .error e) : parse l i acc = .error e := by
  have := upTo_le 38 l
  unfold parse
  rw [pars, if_neg (by omega), if_neg h, if_neg ha, hp]
theorem parse_good {l : List Nat} (i : Nat) (acc : List Two) {q : Two} (h : (upTo 38 l).length ≠ 0) (ha : acc.length ≠ 64) (hp : pairAt (upTo 38 l) i = .ok q) :
    parse l i acc = parse (l.drop ((upTo 38 l).length + 1)) (i + (upTo 38 l).length + 1) (acc ++ [q]) := by
  have := upTo_le 38 l
  unfold parse
  rw [pars, if_neg (by omega), if_neg h, if_neg ha, hp]
  exact pars_fuel _ _ _ _ _ (by rw [List.length_drop]; omega) (by omega)

/-- What is read: pairs of bytes, no more than there may be, no longer than the text. -/
theorem parse_lt : ∀ (n : Nat) (l : List Nat) (i : Nat) (acc r : List Two), l.length ≤ n → acc.length ≤ 64 → (∀ q ∈ acc, bytes2 q) → parse l i acc = .ok r → r.length ≤ 64 ∧ ∀ q ∈ r, bytes2 q
  | n, l, i, acc, r, hn, ha, hb, h => by
    by_cases h0 : l.length = 0
    · rw [List.length_eq_zero_iff] at h0; subst h0; rw [parse_nil] at h; cases h; exact ⟨ha, hb⟩
    · obtain ⟨n, rfl⟩ : ∃ m, n = m + 1 := ⟨n - 1, by omega⟩
      by_cases h1 : (upTo 38 l).length = 0
      · rw [parse_empty i acc (by omega) h1] at h
        exact parse_lt n _ _ _ _ (by rw [List.length_drop]; omega) ha hb h
      · by_cases h2 : acc.length = 64
        · rw [parse_many i acc h1 h2] at h; cases h
        · cases h3 : pairAt (upTo 38 l) i with
          | error e => rw [parse_bad i acc h1 h2 h3] at h; cases h
          | ok q =>
            rw [parse_good i acc h1 h2 h3] at h
            refine parse_lt n _ _ _ _ (by rw [List.length_drop]; omega) (by simp; omega) ?_ h
            intro x hx
            rcases List.mem_append.1 hx with hx | hx
            · exact hb x hx
            · simp at hx; subst hx; exact (pairAt_lt h3).1

theorem upTo_append_hit {c : Nat} {a : List Nat} (b : List Nat) (h : (upTo c a).length < a.length) : upTo c (a ++ b) = upTo c a := by
  induction a with
  | nil => simp at h
  | cons x a ih =>
    by_cases hx : x = c
    · subst hx; rw [List.cons_append, upTo_hit, upTo_hit]
    · rw [upTo_miss _ hx, List.length_cons, List.length_cons] at h
      rw [List.cons_append, upTo_miss _ hx, upTo_miss _ hx, ih (by omega)]
theorem upTo_whole {c : Nat} {a : List Nat} (h : (upTo c a).length = a.length) : upTo c a = a := by
  rw [upTo_take, h, List.take_length]
/-- Two bodies with an ampersand between: the one, and then the other. -/
theorem parse_join : ∀ (n : Nat) (a b : List Nat) (i : Nat) (acc : List Two), a.length ≤ n → parse (a ++ 38 :: b) i acc = match parse a i acc with
    | .error e => .error e
    | .ok r => parse b (i + a.length + 1) r
  | n, a, b, i, acc, hn => by
    by_cases h0 : a.length = 0
    · rw [List.length_eq_zero_iff] at h0; subst h0
      rw [parse_nil, List.nil_append, parse_empty i acc (by simp) (by rw [upTo_hit]; rfl)]
      rfl
    · obtain ⟨n, rfl⟩ : ∃ m, n = m + 1 := ⟨n - 1, by omega⟩
      have hle := upTo_le 38 a
      by_cases hw : (upTo 38 a).length = a.length
      · have e1 : upTo 38 a = a := upTo_whole hw
        have e2 : upTo 38 (a ++ 38 :: b) = a := upTo_split b (by rw [← e1]; exact upTo_ne)
        have d1 : (a ++ 38 :: b).drop (a.length + 1) = b := by rw [List.drop_append]; simp
        by_cases h2 : acc.length = 64
        · rw [parse_many i acc (by rw [e2]; omega) h2, parse_many i acc (by rw [e1]; omega) h2]
        · cases h3 : pairAt a i with
          | error e => rw [parse_bad i acc (by rw [e2]; omega) h2 (by rw [e2]; exact h3), parse_bad i acc (by rw [e1]; omega) h2 (by rw [e1]; exact h3)]
          | ok q =>
            rw [parse_good i acc (by rw [e2]; omega) h2 (by rw [e2]; exact h3), parse_good i acc (by rw [e1]; omega) h2 (by rw [e1]; exact h3), e2, e1, d1]
            rw [List.drop_eq_nil_of_le (show a.length ≤ a.length + 1 by omega), parse_nil]
      · have e2 : upTo 38 (a ++ 38 :: b) = upTo 38 a := upTo_append_hit _ (by omega)
        have dd : ∀ k, k ≤ a.length → (a ++ 38 :: b).drop k = a.drop k ++ 38 :: b := fun k hk => by rw [List.drop_append_of_le_length hk]
        by_cases h1 : (upTo 38 a).length = 0
        · rw [parse_empty i acc (by simp; omega) (by rw [e2]; exact h1), parse_empty i acc (by omega) h1, dd 1 (by omega), parse_join n (a.drop 1) b (i + 1) acc (by rw [List.length_drop]; omega), List.length_drop]
          rw [show i + 1 + (a.length - 1) + 1 = i + a.length + 1 by omega]
        · by_cases h2 : acc.length = 64
          · rw [parse_many i acc (by rw [e2]; exact h1) h2, parse_many i acc h1 h2]
          · cases h3 : pairAt (upTo 38 a) i with
            | error e => rw [parse_bad i acc (by rw [e2]; exact h1) h2 (by rw [e2]; exact h3), parse_bad i acc h1 h2 h3]
            | ok q =>
              rw [parse_good i acc (by rw [e2]; exact h1) h2 (by rw [e2]; exact h3), parse_good i acc h1 h2 h3, e2, dd _ (by omega), parse_join n _ b _ _ (by rw [List.length_drop]; omega), List.length_drop]
              rw [show i + (upTo 38 a).length + 1 + (a.length - ((upTo 38 a).length + 1)) + 1 = i + a.length + 1 by omega]
/-- What was read is read behind others too, from whatever place, as far as there is room. -/
theorem parse_behind : ∀ (n : Nat) (l : List Nat) (i : Nat) (acc r : List Two), l.length ≤ n → parse l i acc = .ok r → ∃ m, r = acc ++ m ∧ ∀ (j : Nat) (bcc : List Two), bcc.length ≤ 64 →
    (bcc.length + m.length ≤ 64 → parse l j bcc = .ok (bcc ++ m)) ∧ (64 < bcc.length + m.length → ∃ p, parse l j bcc = .error (32, p))
  | n, l, i, acc, r, hn, h => by
    by_cases h0 : l.length = 0
    · rw [List.length_eq_zero_iff] at h0; subst h0; rw [parse_nil] at h; cases h
      exact ⟨[], by simp, fun j bcc hb => ⟨fun _ => by rw [parse_nil, List.append_nil], fun h => by simp at h; omega⟩⟩
    · obtain ⟨n, rfl⟩ : ∃ m, n = m + 1 := ⟨n - 1, by omega⟩
      by_cases h1 : (upTo 38 l).length = 0
      · rw [parse_empty i acc (by omega) h1] at h
        obtain ⟨m, hm, hk⟩ := parse_behind n _ _ _ _ (by rw [List.length_drop]; omega) h
        refine ⟨m, hm, fun j bcc hb => ?_⟩
        rw [parse_empty j bcc (by omega) h1]
        exact hk _ _ hb
      · by_cases h2 : acc.length = 64
        · rw [parse_many i acc h1 h2] at h; cases h
        · cases h3 : pairAt (upTo 38 l) i with
          | error e => rw [parse_bad i acc h1 h2 h3] at h; cases h
          | ok q =>
            rw [parse_good i acc h1 h2 h3] at h
            obtain ⟨m, hm, hk⟩ := parse_behind n _ _ _ _ (by rw [List.length_drop]; omega) h
            refine ⟨q :: m, by rw [hm, List.append_assoc]; rfl, fun j bcc hb => ?_⟩
            by_cases hb2 : bcc.length = 64
            · exact ⟨fun hx => by simp at hx; omega, fun _ => ⟨j, parse_many j bcc h1 hb2⟩⟩
            · rw [parse_good j bcc h1 hb2 (pairAt_any h3 j)]
              have := hk (j + (upTo 38 l).length + 1) (bcc ++ [q]) (by simp; omega)
              refine ⟨fun hx => ?_, fun hx => this.2 (by simp at hx ⊢; omega)⟩
              rw [this.1 (by simp at hx ⊢; omega), List.append_assoc]; rfl

/-- A pair as it is printed; and all pairs. -/
def seg (q : Two) : List Nat := esc q.1 ++ 61 :: esc q.2
def prt : List Two → List Nat
  | [] => []
  | [q] => seg q
  | q :: r :: l => seg q ++ 38 :: prt (r :: l)
theorem prt_snoc : ∀ (l : List Two) (q : Two), prt (l ++ [q]) = if l = [] then seg q else prt l ++ 38 :: seg q
  | [], q => rfl
  | [p], q => by simp [prt]
  | p :: r :: l, q => by
    have := prt_snoc (r :: l) q
    rw [if_neg (by simp)] at this ⊢
    show seg p ++ 38 :: prt (r :: l ++ [q]) = (seg p ++ 38 :: prt (r :: l)) ++ 38 :: seg q
    rw [this, List.append_assoc]
    rfl
theorem seg_ne {q : Two} (h : bytes2 q) : ∀ x ∈ seg q, x ≠ 38 := by
  intro x hx
  rcases List.mem_append.1 hx with hx | hx
  · exact (esc_byte h.1 x hx).2.2.1
  · rcases List.mem_cons.1 hx with rfl | hx
    · omega
    · exact (esc_byte h.2 x hx).2.2.1
theorem seg_lt {q : Two} (h : bytes2 q) : ∀ x ∈ seg q, x < 256 := by
  intro x hx
  rcases List.mem_append.1 hx with hx | hx
  · exact esc_lt h.1 x hx
  · rcases List.mem_cons.1 hx with rfl | hx
    · omega
    · exact esc_lt h.2 x hx
theorem prt_lt : ∀ (l : List Two), (∀ q ∈ l, bytes2 q) → ∀ x ∈ prt l, x < 256
  | [], _ => by simp [prt]
  | [q], h => seg_lt (h q (by simp))
  | q :: r :: l, h => by
    intro x hx
    rcases List.mem_append.1 hx with hx | hx
    · exact seg_lt (h q (by simp)) x hx
    · rcases List.mem_cons.1 hx with rfl | hx
      · omega
      · exact prt_lt (r :: l) (fun y hy => h y (by simp at hy ⊢; exact .inr hy)) x hx
theorem pairAt_seg {q : Two} (h : bytes2 q) (i : Nat) : pairAt (seg q) i = .ok q := by
  have e : upTo 61 (seg q) = esc q.1 := upTo_split _ (fun x hx => (esc_byte h.1 x hx).2.2.2)
  have d : (seg q).drop ((esc q.1).length + 1) = esc q.2 := by unfold seg; rw [List.drop_append]; simp
  unfold pairAt
  rw [e, un_esc_all h.1]
  simp only
  rw [d, un_esc_all h.2]
theorem parse_seg {q : Two} (h : bytes2 q) (i : Nat) (acc : List Two) (ha : acc.length ≠ 64) : parse (seg q) i acc = .ok (acc ++ [q]) := by
  have e : upTo 38 (seg q) = seg q := upTo_none (seg_ne h)
  have hl : (seg q).length ≠ 0 := by simp [seg]
  rw [parse_good i acc (by rw [e]; exact hl) ha (by rw [e]; exact pairAt_seg h i), e, List.drop_eq_nil_of_le (by omega), parse_nil]
theorem parse_prt : ∀ (l : List Two) (i : Nat) (acc : List Two), (∀ q ∈ l, bytes2 q) → acc.length ≤ 64 → (acc.length + l.length ≤ 64 → parse (prt l) i acc = .ok (acc ++ l)) ∧ (64 < acc.length + l.length → ∃ p, parse (prt l) i acc = .error (32, p))
  | [], i, acc, _, ha => ⟨fun _ => by rw [prt, parse_nil, List.append_nil], fun h => by simp at h; omega⟩
  | [q], i, acc, h, ha => by
    by_cases h2 : acc.length = 64
    · refine ⟨fun hx => by simp at hx; omega, fun _ => ⟨i, ?_⟩⟩
      have e : upTo 38 (seg q) = seg q := upTo_none (seg_ne (h q (by simp)))
      exact parse_many i acc (by rw [prt, e]; simp [seg]) h2
    · exact ⟨fun _ => parse_seg (h q (by simp)) i acc h2, fun hx => by simp at hx; omega⟩
  | q :: r :: l, i, acc, h, ha => by
    have hq := h q (by simp)
    show (_ → parse (seg q ++ 38 :: prt (r :: l)) i acc = _) ∧ (_ → ∃ p, parse (seg q ++ 38 :: prt (r :: l)) i acc = _)
    rw [parse_join _ _ _ _ _ (Nat.le_refl _)]
    by_cases h2 : acc.length = 64
    · refine ⟨fun hx => by simp at hx; omega, fun _ => ⟨i, ?_⟩⟩
      have e : upTo 38 (seg q) = seg q := upTo_none (seg_ne hq)
      rw [parse_many i acc (by rw [e]; simp [seg]) h2]
    · rw [parse_seg hq i acc h2]
      have := parse_prt (r :: l) (i + (seg q).length + 1) (acc ++ [q]) (fun y hy => h y (by simp at hy ⊢; exact .inr hy)) (by simp; omega)
      refine ⟨fun hx => ?_, fun hx => this.2 (by simp at hx ⊢; omega)⟩
      show parse (prt (r :: l)) _ _ = _
      rw [this.1 (by simp at hx ⊢; omega), List.append_assoc]; rfl
end Go.Proofs.YtlhgjicichjbgaaGreatDoor
