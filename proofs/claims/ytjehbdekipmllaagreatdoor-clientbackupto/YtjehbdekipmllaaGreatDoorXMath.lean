/- Plain facts of the layer's texts: escapes there and back, over lists of bytes as numbers. Plain facts of bodies: pieces and pairs, read and printed, over lists of bytes as numbers. How long a printed list is, and how long what is read is. Plain facts of lists of scopes: texts as lists of bytes; cut at blanks, put in order, each once. -/
import Derived.Lib.SlicesCompact
import Derived.Lib.SplitLaws
import Derived.Lib.IndexBytes
namespace Go.Proofs.YtjehbdekipmllaaGreatDoor

def plainB (c : Nat) : Bool := (65 ≤ c && c ≤ 90) || (97 ≤ c && c ≤ 122) || (48 ≤ c && c ≤ 57) || c == 45 || c == 46 || c == 95 || c == 42
def hexU (n : Nat) : Nat := if n < 10 then 48 + n else 55 + n
def esc1 (c : Nat) : List Nat := if plainB c = true then [c] else if c = 32 then [43] else [37, hexU (c / 16), hexU (c % 16)]
def esc (l : List Nat) : List Nat := l.flatMap esc1
def hx (c : Nat) : Option Nat := if 48 ≤ c ∧ c ≤ 57 then some (c - 48) else if 97 ≤ c ∧ c ≤ 102 then some (c - 87) else if 65 ≤ c ∧ c ≤ 70 then some (c - 55) else none
theorem hexU_lt {n : Nat} (h : n < 16) : hexU n < 256 := by unfold hexU; split <;> omega
theorem esc_snoc (xs : List Nat) (x : Nat) : esc (xs ++ [x]) = esc xs ++ esc1 x := by simp [esc]
theorem esc_append (xs ys : List Nat) : esc (xs ++ ys) = esc xs ++ esc ys := by simp [esc]
theorem esc_cons (x : Nat) (xs : List Nat) : esc (x :: xs) = esc1 x ++ esc xs := by simp [esc]
theorem esc1_len (c : Nat) : 1 ≤ (esc1 c).length ∧ (esc1 c).length ≤ 3 := by unfold esc1; split; · simp
                                                                             · split <;> simp
theorem esc_len (l : List Nat) : l.length ≤ (esc l).length ∧ (esc l).length ≤ 3 * l.length := by
  induction l with
  | nil => simp [esc]
  | cons x r ih => have := esc1_len x; rw [esc_cons, List.length_append, List.length_cons]; omega
/-- What an escape's bytes are: none is a blank, an ampersand, an equality sign. -/
def escByte (y : Nat) : Prop := 33 ≤ y ∧ y ≤ 126 ∧ y ≠ 38 ∧ y ≠ 61
theorem plainB_cases {c : Nat} (h : plainB c = true) : (65 ≤ c ∧ c ≤ 90) ∨ (97 ≤ c ∧ c ≤ 122) ∨ (48 ≤ c ∧ c ≤ 57) ∨ c = 45 ∨ c = 46 ∨ c = 95 ∨ c = 42 := by
  simp [plainB] at h
  omega
theorem plainB_not {c : Nat} (h : plainB c = false) : ¬ (65 ≤ c ∧ c ≤ 90) ∧ ¬ (97 ≤ c ∧ c ≤ 122) ∧ ¬ (48 ≤ c ∧ c ≤ 57) ∧ c ≠ 45 ∧ c ≠ 46 ∧ c ≠ 95 ∧ c ≠ 42 := by
  simp [plainB] at h
  omega
theorem hexU_byte {n : Nat} (h : n < 16) : escByte (hexU n) := by unfold hexU escByte; split <;> omega
theorem esc1_byte {c : Nat} (h : c < 256) : ∀ y ∈ esc1 c, escByte y := by
  intro y hy
  unfold esc1 at hy
  split at hy
  · rename_i hp
    simp at hy
    subst hy
    have := plainB_cases hp
    unfold escByte
    omega
  · split at hy
    · simp at hy
      subst hy
      unfold escByte; omega
    · simp only [List.mem_cons, List.not_mem_nil, or_false] at hy
      rcases hy with rfl | rfl | rfl
      · unfold escByte; omega
      · exact hexU_byte (by omega)
      · exact hexU_byte (by omega)
theorem esc_byte {l : List Nat} (h : ∀ x ∈ l, x < 256) : ∀ y ∈ esc l, escByte y := by
  intro y hy
  obtain ⟨x, hx, hy⟩ := List.mem_flatMap.1 hy
  exact esc1_byte (h x hx) y hy
theorem esc_lt {l : List Nat} (h : ∀ x ∈ l, x < 256) : ∀ y ∈ esc l, y < 256 := fun y hy => by have := esc_byte h y hy; unfold escByte at this; omega
theorem hx_hexU {n : Nat} (h : n < 16) : hx (hexU n) = some n := by
  unfold hexU hx
  by_cases h1 : n < 10
  · rw [if_pos h1, if_pos (by omega)]; congr 1; omega
  · rw [if_neg h1, if_neg (by omega), if_neg (by omega), if_pos (by omega)]; congr 1; omega
theorem hx_lt {c n : Nat} (h : hx c = some n) : n < 16 := by
  unfold hx at h
  split at h
  · cases h; omega
  · split at h
    · cases h; omega
    · split at h
      · cases h; omega
      · cases h

abbrev Tried (α : Type) := Except (Nat × Nat) α
def put1 (x : Nat) : Tried (List Nat) → Tried (List Nat)
  | .ok l => .ok (x :: l)
  | .error e => .error e
def putL (xs : List Nat) : Tried (List Nat) → Tried (List Nat)
  | .ok l => .ok (xs ++ l)
  | .error e => .error e
theorem putL_nil (t : Tried (List Nat)) : putL [] t = t := by cases t <;> rfl
theorem putL_put1 (xs : List Nat) (x : Nat) (t : Tried (List Nat)) : putL xs (put1 x t) = putL (xs ++ [x]) t := by cases t <;> simp [putL, put1]
theorem putL_putL (xs ys : List Nat) (t : Tried (List Nat)) : putL xs (putL ys t) = putL (xs ++ ys) t := by cases t <;> simp [putL]
theorem put1_eq (x : Nat) (t : Tried (List Nat)) : put1 x t = putL [x] t := by cases t <;> rfl

/-- The way back, from a place on: the text, or the error and its place. -/
def un : List Nat → Nat → Tried (List Nat)
  | [], _ => .ok []
  | c :: r, i =>
    if c < 33 ∨ 126 < c then .error (31, i)
    else if c = 43 then put1 32 (un r (i + 1))
    else if c = 37 then
      match r with
      | a :: b :: r' => match hx a, hx b with
        | some x, some y => put1 (16 * x + y) (un r' (i + 3))
        | _, _ => .error (30, i)
      | _ => .error (30, i)
    else put1 c (un r (i + 1))
theorem un_nil (i : Nat) : un [] i = .ok [] := by rw [un]
theorem un_bad {c : Nat} (r : List Nat) (i : Nat) (h : c < 33 ∨ 126 < c) : un (c :: r) i = .error (31, i) := by rw [un.eq_def]; simp only [if_pos h]
theorem un_plus (r : List Nat) (i : Nat) : un (43 :: r) i = put1 32 (un r (i + 1)) := by rw [un.eq_def]; simp
theorem un_hex {a b x y : Nat} (r : List Nat) (i : Nat) (ha : hx a = some x) (hb : hx b = some y) : un (37 :: a :: b :: r) i = put1 (16 * x + y) (un r (i + 3)) := by
  rw [un, if_neg (by omega), if_neg (by omega), if_pos rfl]; simp only [ha, hb]
theorem un_hex_bad {a b : Nat} (r : List Nat) (i : Nat) (h : hx a = none ∨ hx b = none) : un (37 :: a :: b :: r) i = .error (30, i) := by
  rw [un, if_neg (by omega), if_neg (by omega), if_pos rfl]
  cases ha : hx a with
  | none => rfl
  | some x => rcases h with h | h
              · rw [ha] at h; cases h
              · rw [h]
theorem un_hex_short {r : List Nat} (i : Nat) (h : r.length < 2) : un (37 :: r) i = .error (30, i) := by
  rw [un.eq_def]
  match r, h with
  | [], _ => simp
  | [a], _ => simp
theorem un_other {c : Nat} (r : List Nat) (i : Nat) (h : ¬ (c < 33 ∨ 126 < c)) (h1 : c ≠ 43) (h2 : c ≠ 37) : un (c :: r) i = put1 c (un r (i + 1)) := by rw [un.eq_def]; simp only [if_neg h, if_neg h1, if_neg h2]

/-- An error's place moves with the text's. -/
def shiftP (k : Nat) {α : Type} : Tried α → Tried α
  | .ok l => .ok l
  | .error (e, p) => .error (e, k + p)
theorem shift_put1 (k x : Nat) (t : Tried (List Nat)) : shiftP k (put1 x t) = put1 x (shiftP k t) := by cases t <;> rfl
theorem un_shift (k : Nat) : ∀ (n : Nat) (l : List Nat) (i : Nat), l.length ≤ n → un l (k + i) = shiftP k (un l i)
  | _, [], i, _ => by rw [un_nil, un_nil]; rfl
  | 0, c :: r, i, h => by simp at h
  | n + 1, c :: r, i, h => by
    have hr : r.length ≤ n := by simpa using h
    by_cases h1 : c < 33 ∨ 126 < c
    · rw [un_bad _ _ h1, un_bad _ _ h1]; rfl
    · by_cases h2 : c = 43
      · subst h2; rw [un_plus, un_plus, shift_put1, Nat.add_assoc, un_shift k n r (i + 1) hr]
      · by_cases h3 : c = 37
        · subst h3
          match r, hr with
          | [], _ => rw [un_hex_short _ (by simp), un_hex_short _ (by simp)]; rfl
          | [a], _ => rw [un_hex_short _ (by simp), un_hex_short _ (by simp)]; rfl
          | a :: b :: r', hr =>
            cases ha : hx a with
            | none => rw [un_hex_bad _ _ (.inl ha), un_hex_bad _ _ (.inl ha)]; rfl
            | some x =>
              cases hb : hx b with
              | none => rw [un_hex_bad _ _ (.inr hb), un_hex_bad _ _ (.inr hb)]; rfl
              | some y =>
                rw [un_hex _ _ ha hb, un_hex _ _ ha hb, shift_put1, Nat.add_assoc, un_shift k n r' (i + 3) (by simp at hr; omega)]
        · rw [un_other _ _ h1 h2 h3, un_other _ _ h1 h2 h3, shift_put1, Nat.add_assoc, un_shift k n r (i + 1) hr]
theorem un_at (l : List Nat) (i : Nat) : un l i = shiftP i (un l 0) := un_shift i l.length l 0 (Nat.le_refl _)

theorem un_esc1 {c : Nat} (hc : c < 256) (r : List Nat) (i : Nat) : un (esc1 c ++ r) i = put1 c (un r (i + (esc1 c).length)) := by
  unfold esc1
  by_cases hp : plainB c = true
  · rw [if_pos hp]
    have := plainB_cases hp
    exact un_other r i (by omega) (by omega) (by omega)
  · rw [if_neg hp]
    by_cases h2 : c = 32
    · rw [if_pos h2, h2]; exact un_plus r i
    · rw [if_neg h2]
      have := un_hex r i (hx_hexU (show c / 16 < 16 by omega)) (hx_hexU (show c % 16 < 16 by omega))
      rw [show 16 * (c / 16) + c % 16 = c by omega] at this
      exact this
theorem un_esc {l : List Nat} (h : ∀ x ∈ l, x < 256) (r : List Nat) (i : Nat) : un (esc l ++ r) i = putL l (un r (i + (esc l).length)) := by
  induction l generalizing i with
  | nil => simp [esc, putL_nil]
  | cons x l ih =>
    rw [esc_cons, List.append_assoc, un_esc1 (h x (by simp)), ih (fun y hy => h y (by simp [hy])), put1_eq, putL_putL, List.length_append, Nat.add_assoc]
    rfl
theorem un_esc_all {l : List Nat} (h : ∀ x ∈ l, x < 256) (i : Nat) : un (esc l) i = .ok l := by
  have := un_esc h [] i
  rw [List.append_nil, un_nil] at this
  rw [this]; simp [putL]
/-- What is read is bytes. -/
theorem un_lt : ∀ (n : Nat) (l : List Nat) (i : Nat) (t : List Nat), l.length ≤ n → un l i = .ok t → (∀ x ∈ t, x < 256) ∧ t.length ≤ l.length
  | _, [], i, t, _, h => by rw [un_nil] at h; cases h; simp
  | 0, c :: r, i, t, h, _ => by simp at h
  | n + 1, c :: r, i, t, h, ht => by
    have hr : r.length ≤ n := by simpa using h
    have key : ∀ (x : Nat) (q : List Nat) (j : Nat), q.length ≤ n → q.length ≤ r.length → x < 256 → put1 x (un q j) = .ok t → (∀ x ∈ t, x < 256) ∧ t.length ≤ (c :: r).length := by
      intro x q j hq hq2 hx he
      cases hu : un q j with
      | error e => rw [hu] at he; cases he
      | ok l =>
        rw [hu] at he
        cases he
        obtain ⟨a, b⟩ := un_lt n q j l hq hu
        refine ⟨fun y hy => ?_, by simp; omega⟩
        rcases List.mem_cons.1 hy with rfl | hy
        · exact hx
        · exact a y hy
    by_cases h1 : c < 33 ∨ 126 < c
    · rw [un_bad _ _ h1] at ht; cases ht
    · by_cases h2 : c = 43
      · subst h2; rw [un_plus] at ht; exact key _ _ _ hr (Nat.le_refl _) (by omega) ht
      · by_cases h3 : c = 37
        · subst h3
          match r, hr with
          | [], _ => rw [un_hex_short _ (by simp)] at ht; cases ht
          | [a], _ => rw [un_hex_short _ (by simp)] at ht; cases ht
          | a :: b :: r', hr =>
            cases ha : hx a with
            | none => rw [un_hex_bad _ _ (.inl ha)] at ht; cases ht
            | some x =>
              cases hb : hx b with
              | none => rw [un_hex_bad _ _ (.inr hb)] at ht; cases ht
              | some y =>
                rw [un_hex _ _ ha hb] at ht
                have := hx_lt ha
                have := hx_lt hb
                exact key _ _ _ (by simp at hr; omega) (by simp; omega) (by omega) ht
        · rw [un_other _ _ h1 h2 h3] at ht; exact key _ _ _ hr (Nat.le_refl _) (by omega) ht
end Go.Proofs.YtjehbdekipmllaaGreatDoor
namespace Go.Proofs.YtjehbdekipmllaaGreatDoor

abbrev Two := List Nat × List Nat
/-- What stands ahead of the first c, and what stands behind it. -/
def upTo (c : Nat) (l : List Nat) : List Nat := l.takeWhile (fun x => x != c)
theorem upTo_le (c : Nat) (l : List Nat) : (upTo c l).length ≤ l.length := by
  induction l with
  | nil => simp [upTo]
  | cons x l ih => unfold upTo at ih ⊢; rw [List.takeWhile_cons]; split <;> simp <;> omega
theorem upTo_nil (c : Nat) : upTo c [] = [] := rfl
theorem upTo_hit (c : Nat) (l : List Nat) : upTo c (c :: l) = [] := by simp [upTo]
theorem upTo_miss {c x : Nat} (l : List Nat) (h : x ≠ c) : upTo c (x :: l) = x :: upTo c l := by simp [upTo, h]
theorem upTo_none {c : Nat} {l : List Nat} (h : ∀ x ∈ l, x ≠ c) : upTo c l = l := by
  induction l with
  | nil => rfl
  | cons x l ih => rw [upTo_miss _ (h x (by simp)), ih (fun y hy => h y (by simp [hy]))]
theorem upTo_split {c : Nat} {a : List Nat} (b : List Nat) (h : ∀ x ∈ a, x ≠ c) : upTo c (a ++ c :: b) = a := by
  induction a with
  | nil => exact upTo_hit c b
  | cons x l ih => rw [List.cons_append, upTo_miss _ (h x (by simp)), ih (fun y hy => h y (by simp [hy]))]
theorem upTo_ne {c : Nat} {l : List Nat} : ∀ x ∈ upTo c l, x ≠ c := by
  induction l with
  | nil => simp [upTo]
  | cons y l ih =>
    by_cases h : y = c
    · subst h; rw [upTo_hit]; simp
    · rw [upTo_miss _ h]
      intro x hx
      rcases List.mem_cons.1 hx with rfl | hx
      · exact h
      · exact ih x hx
theorem upTo_take (c : Nat) (l : List Nat) : upTo c l = l.take (upTo c l).length := by
  induction l with
  | nil => rfl
  | cons x l ih =>
    by_cases h : x = c
    · subst h; rw [upTo_hit]; rfl
    · rw [upTo_miss _ h, List.length_cons, List.take_succ_cons, ← ih]
theorem upTo_end {c : Nat} {l : List Nat} (h : (upTo c l).length < l.length) : l.getD (upTo c l).length 0 = c := by
  induction l with
  | nil => simp at h
  | cons x l ih =>
    by_cases hx : x = c
    · subst hx; rw [upTo_hit]; rfl
    · rw [upTo_miss _ hx, List.length_cons] at h ⊢
      have := ih (by simpa using h)
      simpa using this
/-- The one who looks byte by byte finds the same place. -/
theorem upTo_len {c k : Nat} {l : List Nat} (hk : k ≤ l.length) (h : ∀ j, j < k → l.getD j 0 ≠ c) (he : k = l.length ∨ l.getD k 0 = c) : (upTo c l).length = k := by
  induction l generalizing k with
  | nil => simp at hk; subst hk; rfl
  | cons x l ih =>
    cases k with
    | zero =>
      rcases he with he | he
      · simp at he
      · have : x = c := by simpa using he
        subst this; rw [upTo_hit]; rfl
    | succ k =>
      have h0 : x ≠ c := by have := h 0 (by omega); simpa using this
      rw [upTo_miss _ h0, List.length_cons]
      congr 1
      refine ih (by simpa using hk) (fun j hj => ?_) ?_
      · have := h (j + 1) (by omega); simpa using this
      · rcases he with he | he
        · exact .inl (by simpa using he)
        · exact .inr (by simpa using he)

/-- What is wrong, and where. -/
theorem un_err : ∀ (n : Nat) (l : List Nat) (i e p : Nat), l.length ≤ n → un l i = .error (e, p) → (e = 30 ∨ e = 31) ∧ i ≤ p ∧ p < i + l.length
  | _, [], i, e, p, _, h => by rw [un_nil] at h; cases h
  | 0, c :: r, i, e, p, h, _ => by simp at h
  | n + 1, c :: r, i, e, p, h, ht => by
    have hr : r.length ≤ n := by simpa using h
    have key : ∀ (x : Nat) (q : List Nat) (j : Nat), q.length ≤ n → i ≤ j → j + q.length ≤ i + (c :: r).length → put1 x (un q j) = .error (e, p) → (e = 30 ∨ e = 31) ∧ i ≤ p ∧ p < i + (c :: r).length := by
      intro x q j hq hj hj2 he
      cases hu : un q j with
      | ok l => rw [hu] at he; cases he
      | error e' =>
        rw [hu] at he
        cases he
        have := un_err n q j e p hq hu
        omega
    have hc : (c :: r).length = r.length + 1 := rfl
    by_cases h1 : c < 33 ∨ 126 < c
    · rw [un_bad _ _ h1] at ht; cases ht; omega
    · by_cases h2 : c = 43
      · subst h2; rw [un_plus] at ht; exact key _ _ _ hr (by omega) (by omega) ht
      · by_cases h3 : c = 37
        · subst h3
          match r, hr with
          | [], _ => rw [un_hex_short _ (by simp)] at ht; cases ht; simp
          | [a], _ => rw [un_hex_short _ (by simp)] at ht; cases ht; simp
          | a :: b :: r', hr =>
            cases ha : hx a with
            | none => rw [un_hex_bad _ _ (.inl ha)] at ht; cases ht; simp
            | some x =>
              cases hb : hx b with
              | none => rw [un_hex_bad _ _ (.inr hb)] at ht; cases ht; simp
              | some y =>
                rw [un_hex _ _ ha hb] at ht
                exact key _ _ _ (by simp at hr; omega) (by omega) (by simp; omega) ht
        · rw [un_other _ _ h1 h2 h3] at ht; exact key _ _ _ hr (by omega) (by omega) ht

def pairAt (p : List Nat) (i : Nat) : Tried Two :=
  match un (upTo 61 p) i with
  | .error e => .error e
  | .ok n => match un (p.drop ((upTo 61 p).length + 1)) (i + (upTo 61 p).length + 1) with
    | .error e => .error e
    | .ok v => .ok (n, v)
theorem pairAt_shift (p : List Nat) (i : Nat) : pairAt p i = shiftP i (pairAt p 0) := by
  unfold pairAt
  rw [un_at _ i, un_at _ (i + _ + 1), un_at _ (0 + _ + 1)]
  cases un (upTo 61 p) 0 with
  | error e => rfl
  | ok n =>
    simp only [shiftP]
    cases un (p.drop ((upTo 61 p).length + 1)) 0 with
    | error e => obtain ⟨a, b⟩ := e; simp only [Except.error.injEq, Prod.mk.injEq, true_and]; omega
    | ok v => rfl
theorem pairAt_any {p : List Nat} {i : Nat} {q : Two} (h : pairAt p i = .ok q) (j : Nat) : pairAt p j = .ok q := by
  rw [pairAt_shift] at h ⊢
  cases hp : pairAt p 0 with
  | error e => rw [hp] at h; cases h
  | ok v => rw [hp] at h; exact h
def bytes2 (q : Two) : Prop := (∀ x ∈ q.1, x < 256) ∧ ∀ x ∈ q.2, x < 256
theorem pairAt_lt {p : List Nat} {i : Nat} {q : Two} (h : pairAt p i = .ok q) : bytes2 q ∧ q.1.length + q.2.length ≤ p.length := by
  unfold pairAt at h
  cases h1 : un (upTo 61 p) i with
  | error e => rw [h1] at h; cases h
  | ok n =>
    rw [h1] at h
    simp only at h
    cases h2 : un (p.drop ((upTo 61 p).length + 1)) (i + (upTo 61 p).length + 1) with
    | error e => rw [h2] at h; cases h
    | ok v =>
      rw [h2] at h
      cases h
      have a := un_lt _ _ _ _ (Nat.le_refl _) h1
      have b := un_lt _ _ _ _ (Nat.le_refl _) h2
      have := upTo_le 61 p
      refine ⟨⟨a.1, b.1⟩, ?_⟩
      have h3 := b.2
      rw [List.length_drop] at h3
      have h4 := a.2
      show n.length + v.length ≤ p.length
      omega

/-- The pairs from a place on, behind those that were read already. -/
def pars : Nat → List Nat → Nat → List Two → Tried (List Two)
  | 0, _, _, acc => .ok acc
  | f + 1, l, i, acc =>
    if l.length = 0 then .ok acc
    else if (upTo 38 l).length = 0 then pars f (l.drop 1) (i + 1) acc
    else if acc.length = 64 then .error (32, i)
    else match pairAt (upTo 38 l) i with
      | .error e => .error e
      | .ok q => pars f (l.drop ((upTo 38 l).length + 1)) (i + (upTo 38 l).length + 1) (acc ++ [q])
def parse (l : List Nat) (i : Nat) (acc : List Two) : Tried (List Two) := pars (l.length + 1) l i acc
theorem pars_fuel : ∀ (f g : Nat) (l : List Nat) (i : Nat) (acc : List Two), l.length < f → l.length < g → pars f l i acc = pars g l i acc
  | 0, _, _, _, _, h, _ => by omega
  | _ + 1, 0, _, _, _, _, h => by omega
  | f + 1, g + 1, l, i, acc, hf, hg => by
    unfold pars
    by_cases h0 : l.length = 0
    · rw [if_pos h0, if_pos h0]
    · rw [if_neg h0, if_neg h0]
      rw [pars_fuel f g (l.drop 1) (i + 1) acc (by rw [List.length_drop]; omega) (by rw [List.length_drop]; omega)]
      have e : ∀ q, pars f (l.drop ((upTo 38 l).length + 1)) (i + (upTo 38 l).length + 1) (acc ++ [q]) = pars g (l.drop ((upTo 38 l).length + 1)) (i + (upTo 38 l).length + 1) (acc ++ [q]) := fun q =>
        pars_fuel f g _ _ _ (by rw [List.length_drop]; omega) (by rw [List.length_drop]; omega)
      simp only [e]
theorem parse_nil (i : Nat) (acc : List Two) : parse [] i acc = .ok acc := by simp [parse, pars]
theorem parse_empty {l : List Nat} (i : Nat) (acc : List Two) (h0 : 0 < l.length) (h : (upTo 38 l).length = 0) : parse l i acc = parse (l.drop 1) (i + 1) acc := by
  unfold parse
  rw [pars, if_neg (by omega), if_pos h]
  exact pars_fuel _ _ _ _ _ (by rw [List.length_drop]; omega) (by omega)
theorem parse_many {l : List Nat} (i : Nat) (acc : List Two) (h : (upTo 38 l).length ≠ 0) (ha : acc.length = 64) : parse l i acc = .error (32, i) := by
  have := upTo_le 38 l
  unfold parse
  rw [pars, if_neg (by omega), if_neg h, if_pos ha]
theorem parse_bad {l : List Nat} (i : Nat) (acc : List Two) {e : Nat × Nat} (h : (upTo 38 l).length ≠ 0) (ha : acc.length ≠ 64) (hp : pairAt (upTo 38 l) i = .error e) : parse l i acc = .error e := by
  have := upTo_le 38 l
  unfold parse
  rw [pars, if_neg (by omega), if_neg h, if_neg ha, hp]
theorem parse_good {l : List Nat} (i : Nat) (acc : List Two) {q : Two} (h : (upTo 38 l).length ≠ 0) (ha : acc.length ≠ 64) (hp : pairAt (upTo 38 l) i = .ok q) :
    parse l i acc = parse (l.drop ((upTo 38 l).length + 1)) (i + (upTo 38 l).length + 1) (acc ++ [q]) := by
  have := upTo_le 38 l
  unfold parse
  rw [pars, if_neg (by omega), if_neg h, if_neg ha, hp]
  exact pars_fuel _ _ _ _ _ (by rw [List.length_drop]; omega) (by omega)

/-- What is read: pairs of bytes, no more than there may be, no longer than the text. -/
theorem parse_lt : ∀ (n : Nat) (l : List Nat) (i : Nat) (acc r : List Two), l.length ≤ n → acc.length ≤ 64 → (∀ q ∈ acc, bytes2 q) → parse l i acc = .ok r → r.length ≤ 64 ∧ ∀ q ∈ r, bytes2 q
  | n, l, i, acc, r, hn, ha, hb, h => by
    by_cases h0 : l.length = 0
    · rw [List.length_eq_zero_iff] at h0; subst h0; rw [parse_nil] at h; cases h; exact ⟨ha, hb⟩
    · obtain ⟨n, rfl⟩ : ∃ m, n = m + 1 := ⟨n - 1, by omega⟩
      by_cases h1 : (upTo 38 l).length = 0
      · rw [parse_empty i acc (by omega) h1] at h
        exact parse_lt n _ _ _ _ (by rw [List.length_drop]; omega) ha hb h
      · by_cases h2 : acc.length = 64
        · rw [parse_many i acc h1 h2] at h; cases h
        · cases h3 : pairAt (upTo 38 l) i with
          | error e => rw [parse_bad i acc h1 h2 h3] at h; cases h
          | ok q =>
            rw [parse_good i acc h1 h2 h3] at h
            refine parse_lt n _ _ _ _ (by rw [List.length_drop]; omega) (by simp; omega) ?_ h
            intro x hx
            rcases List.mem_append.1 hx with hx | hx
            · exact hb x hx
            · simp at hx; subst hx; exact (pairAt_lt h3).1

theorem upTo_append_hit {c : Nat} {a : List Nat} (b : List Nat) (h : (upTo c a).length < a.length) : upTo c (a ++ b) = upTo c a := by
  induction a with
  | nil => simp at h
  | cons x a ih =>
    by_cases hx : x = c
    · subst hx; rw [List.cons_append, upTo_hit, upTo_hit]
    · rw [upTo_miss _ hx, List.length_cons, List.length_cons] at h
      rw [List.cons_append, upTo_miss _ hx, upTo_miss _ hx, ih (by omega)]
theorem upTo_whole {c : Nat} {a : List Nat} (h : (upTo c a).length = a.length) : upTo c a = a := by
  rw [upTo_take, h, List.take_length]
/-- Two bodies with an ampersand between: the one, and then the other. -/
theorem parse_join : ∀ (n : Nat) (a b : List Nat) (i : Nat) (acc : List Two), a.length ≤ n → parse (a ++ 38 :: b) i acc = match parse a i acc with
    | .error e => .error e
    | .ok r => parse b (i + a.length + 1) r
  | n, a, b, i, acc, hn => by
    by_cases h0 : a.length = 0
    · rw [List.length_eq_zero_iff] at h0; subst h0
      rw [parse_nil, List.nil_append, parse_empty i acc (by simp) (by rw [upTo_hit]; rfl)]
      rfl
    · obtain ⟨n, rfl⟩ : ∃ m, n = m + 1 := ⟨n - 1, by omega⟩
      have hle := upTo_le 38 a
      by_cases hw : (upTo 38 a).length = a.length
      · have e1 : upTo 38 a = a := upTo_whole hw
        have e2 : upTo 38 (a ++ 38 :: b) = a := upTo_split b (by rw [← e1]; exact upTo_ne)
        have d1 : (a ++ 38 :: b).drop (a.length + 1) = b := by rw [List.drop_append]; simp
        by_cases h2 : acc.length = 64
        · rw [parse_many i acc (by rw [e2]; omega) h2, parse_many i acc (by rw [e1]; omega) h2]
        · cases h3 : pairAt a i with
          | error e => rw [parse_bad i acc (by rw [e2]; omega) h2 (by rw [e2]; exact h3), parse_bad i acc (by rw [e1]; omega) h2 (by rw [e1]; exact h3)]
          | ok q =>
            rw [parse_good i acc (by rw [e2]; omega) h2 (by rw [e2]; exact h3), parse_good i acc (by rw [e1]; omega) h2 (by rw [e1]; exact h3), e2, e1, d1]
            rw [List.drop_eq_nil_of_le (show a.length ≤ a.length + 1 by omega), parse_nil]
      · have e2 : upTo 38 (a ++ 38 :: b) = upTo 38 a := upTo_append_hit _ (by omega)
        have dd : ∀ k, k ≤ a.length → (a ++ 38 :: b).drop k = a.drop k ++ 38 :: b := fun k hk => by rw [List.drop_append_of_le_length hk]
        by_cases h1 : (upTo 38 a).length = 0
        · rw [parse_empty i acc (by simp; omega) (by rw [e2]; exact h1), parse_empty i acc (by omega) h1, dd 1 (by omega), parse_join n (a.drop 1) b (i + 1) acc (by rw [List.length_drop]; omega), List.length_drop]
          rw [show i + 1 + (a.length - 1) + 1 = i + a.length + 1 by omega]
        · by_cases h2 : acc.length = 64
          · rw [parse_many i acc (by rw [e2]; exact h1) h2, parse_many i acc h1 h2]
          · cases h3 : pairAt (upTo 38 a) i with
            | error e => rw [parse_bad i acc (by rw [e2]; exact h1) h2 (by rw [e2]; exact h3), parse_bad i acc h1 h2 h3]
            | ok q =>
              rw [parse_good i acc (by rw [e2]; exact h1) h2 (by rw [e2]; exact h3), parse_good i acc h1 h2 h3, e2, dd _ (by omega), parse_join n _ b _ _ (by rw [List.length_drop]; omega), List.length_drop]
              rw [show i + (upTo 38 a).length + 1 + (a.length - ((upTo 38 a).length + 1)) + 1 = i + a.length + 1 by omega]
/-- What was read is read behind others too, from whatever place, as far as there is room. -/
theorem parse_behind : ∀ (n : Nat) (l : List Nat) (i : Nat) (acc r : List Two), l.length ≤ n → parse l i acc = .ok r → ∃ m, r = acc ++ m ∧ ∀ (j : Nat) (bcc : List Two), bcc.length ≤ 64 →
    (bcc.length + m.length ≤ 64 → parse l j bcc = .ok (bcc ++ m)) ∧ (64 < bcc.length + m.length → ∃ p, parse l j bcc = .error (32, p))
  | n, l, i, acc, r, hn, h => by
    by_cases h0 : l.length = 0
    · rw [List.length_eq_zero_iff] at h0; subst h0; rw [parse_nil] at h; cases h
      exact ⟨[], by simp, fun j bcc hb => ⟨fun _ => by rw [parse_nil, List.append_nil], fun h => by simp at h; omega⟩⟩
    · obtain ⟨n, rfl⟩ : ∃ m, n = m + 1 := ⟨n - 1, by omega⟩
      by_cases h1 : (upTo 38 l).length = 0
      · rw [parse_empty i acc (by omega) h1] at h
        obtain ⟨m, hm, hk⟩ := parse_behind n _ _ _ _ (by rw [List.length_drop]; omega) h
        refine ⟨m, hm, fun j bcc hb => ?_⟩
        rw [parse_empty j bcc (by omega) h1]
        exact hk _ _ hb
      · by_cases h2 : acc.length = 64
        · rw [parse_many i acc h1 h2] at h; cases h
        · cases h3 : pairAt (upTo 38 l) i with
          | error e => rw [parse_bad i acc h1 h2 h3] at h; cases h
          | ok q =>
            rw [parse_good i acc h1 h2 h3] at h
            obtain ⟨m, hm, hk⟩ := parse_behind n _ _ _ _ (by rw [List.length_drop]; omega) h
            refine ⟨q :: m, by rw [hm, List.append_assoc]; rfl, fun j bcc hb => ?_⟩
            by_cases hb2 : bcc.length = 64
            · exact ⟨fun hx => by simp at hx; omega, fun _ => ⟨j, parse_many j bcc h1 hb2⟩⟩
            · rw [parse_good j bcc h1 hb2 (pairAt_any h3 j)]
              have := hk (j + (upTo 38 l).length + 1) (bcc ++ [q]) (by simp; omega)
              refine ⟨fun hx => ?_, fun hx => this.2 (by simp at hx ⊢; omega)⟩
              rw [this.1 (by simp at hx ⊢; omega), List.append_assoc]; rfl

/-- A pair as it is printed; and all pairs. -/
def seg (q : Two) : List Nat := esc q.1 ++ 61 :: esc q.2
def prt : List Two → List Nat
  | [] => []
  | [q] => seg q
  | q :: r :: l => seg q ++ 38 :: prt (r :: l)
theorem prt_snoc : ∀ (l : List Two) (q : Two), prt (l ++ [q]) = if l = [] then seg q else prt l ++ 38 :: seg q
  | [], q => rfl
  | [p], q => by simp [prt]
  | p :: r :: l, q => by
    have := prt_snoc (r :: l) q
    rw [if_neg (by simp)] at this ⊢
    show seg p ++ 38 :: prt (r :: l ++ [q]) = (seg p ++ 38 :: prt (r :: l)) ++ 38 :: seg q
    rw [this, List.append_assoc]
    rfl
theorem seg_ne {q : Two} (h : bytes2 q) : ∀ x ∈ seg q, x ≠ 38 := by
  intro x hx
  rcases List.mem_append.1 hx with hx | hx
  · exact (esc_byte h.1 x hx).2.2.1
  · rcases List.mem_cons.1 hx with rfl | hx
    · omega
    · exact (esc_byte h.2 x hx).2.2.1
theorem seg_lt {q : Two} (h : bytes2 q) : ∀ x ∈ seg q, x < 256 := by
  intro x hx
  rcases List.mem_append.1 hx with hx | hx
  · exact esc_lt h.1 x hx
  · rcases List.mem_cons.1 hx with rfl | hx
    · omega
    · exact esc_lt h.2 x hx
theorem prt_lt : ∀ (l : List Two), (∀ q ∈ l, bytes2 q) → ∀ x ∈ prt l, x < 256
  | [], _ => by simp [prt]
  | [q], h => seg_lt (h q (by simp))
  | q :: r :: l, h => by
    intro x hx
    rcases List.mem_append.1 hx with hx | hx
    · exact seg_lt (h q (by simp)) x hx
    · rcases List.mem_cons.1 hx with rfl | hx
      · omega
      · exact prt_lt (r :: l) (fun y hy => h y (by simp at hy ⊢; exact .inr hy)) x hx
theorem pairAt_seg {q : Two} (h : bytes2 q) (i : Nat) : pairAt (seg q) i = .ok q := by
  have e : upTo 61 (seg q) = esc q.1 := upTo_split _ (fun x hx => (esc_byte h.1 x hx).2.2.2)
  have d : (seg q).drop ((esc q.1).length + 1) = esc q.2 := by unfold seg; rw [List.drop_append]; simp
  unfold pairAt
  rw [e, un_esc_all h.1]
  simp only
  rw [d, un_esc_all h.2]
theorem parse_seg {q : Two} (h : bytes2 q) (i : Nat) (acc : List Two) (ha : acc.length ≠ 64) : parse (seg q) i acc = .ok (acc ++ [q]) := by
  have e : upTo 38 (seg q) = seg q := upTo_none (seg_ne h)
  have hl : (seg q).length ≠ 0 := by simp [seg]
  rw [parse_good i acc (by rw [e]; exact hl) ha (by rw [e]; exact pairAt_seg h i), e, List.drop_eq_nil_of_le (by omega), parse_nil]
theorem parse_prt : ∀ (l : List Two) (i : Nat) (acc : List Two), (∀ q ∈ l, bytes2 q) → acc.length ≤ 64 → (acc.length + l.length ≤ 64 → parse (prt l) i acc = .ok (acc ++ l)) ∧ (64 < acc.length + l.length → ∃ p, parse (prt l) i acc = .error (32, p))
  | [], i, acc, _, ha => ⟨fun _ => by rw [prt, parse_nil, List.append_nil], fun h => by simp at h; omega⟩
  | [q], i, acc, h, ha => by
    by_cases h2 : acc.length = 64
    · refine ⟨fun hx => by simp at hx; omega, fun _ => ⟨i, ?_⟩⟩
      have e : upTo 38 (seg q) = seg q := upTo_none (seg_ne (h q (by simp)))
      exact parse_many i acc (by rw [prt, e]; simp [seg]) h2
    · exact ⟨fun _ => parse_seg (h q (by simp)) i acc h2, fun hx => by simp at hx; omega⟩
  | q :: r :: l, i, acc, h, ha => by
    have hq := h q (by simp)
    show (_ → parse (seg q ++ 38 :: prt (r :: l)) i acc = _) ∧ (_ → ∃ p, parse (seg q ++ 38 :: prt (r :: l)) i acc = _)
    rw [parse_join _ _ _ _ _ (Nat.le_refl _)]
    by_cases h2 : acc.length = 64
    · refine ⟨fun hx => by simp at hx; omega, fun _ => ⟨i, ?_⟩⟩
      have e : upTo 38 (seg q) = seg q := upTo_none (seg_ne hq)
      rw [parse_many i acc (by rw [e]; simp [seg]) h2]
    · rw [parse_seg hq i acc h2]
      have := parse_prt (r :: l) (i + (seg q).length + 1) (acc ++ [q]) (fun y hy => h y (by simp at hy ⊢; exact .inr hy)) (by simp; omega)
      refine ⟨fun hx => ?_, fun hx => this.2 (by simp at hx ⊢; omega)⟩
      show parse (prt (r :: l)) _ _ = _
      rw [this.1 (by simp at hx ⊢; omega), List.append_assoc]; rfl
end Go.Proofs.YtjehbdekipmllaaGreatDoor
namespace Go.Proofs.YtjehbdekipmllaaGreatDoor

def tot2 (l : List Two) : Nat := (l.map fun q => q.1.length + q.2.length + 3).sum
theorem tot2_mem {l : List Two} {q : Two} (h : q ∈ l) : q.1.length + q.2.length + 3 ≤ tot2 l := by
  induction l with
  | nil => simp at h
  | cons p l ih =>
    have e : tot2 (p :: l) = p.1.length + p.2.length + 3 + tot2 l := by simp [tot2]
    rw [e]
    rcases List.mem_cons.1 h with rfl | h
    · omega
    · have := ih h; omega
theorem tot2_len (l : List Two) : 3 * l.length ≤ tot2 l := by
  induction l with
  | nil => simp
  | cons p l ih =>
    have e : tot2 (p :: l) = p.1.length + p.2.length + 3 + tot2 l := by simp [tot2]
    rw [e, List.length_cons]; omega
theorem tot2_cons (q : Two) (l : List Two) : tot2 (q :: l) = q.1.length + q.2.length + 3 + tot2 l := by simp [tot2]
theorem tot2_append (l m : List Two) : tot2 (l ++ m) = tot2 l + tot2 m := by simp [tot2]
theorem tot2_take (l : List Two) (k : Nat) : tot2 (l.take k) ≤ tot2 l := by
  have := tot2_append (l.take k) (l.drop k)
  rw [List.take_append_drop] at this
  omega
theorem seg_of (q : Two) : seg q = esc q.1 ++ [61] ++ esc q.2 := by simp [seg]
theorem seg_two (q : Two) : (esc q.1).length + (esc q.2).length + 1 = (seg q).length := by simp [seg]; omega
theorem seg_len (q : Two) : (seg q).length + 1 ≤ 3 * (q.1.length + q.2.length + 3) := by
  have h1 := (esc_len q.1).2
  have h2 := (esc_len q.2).2
  simp only [seg, List.length_append, List.length_cons]
  omega
theorem prt_len : ∀ (l : List Two), (prt l).length ≤ 3 * tot2 l
  | [] => by simp [prt]
  | [q] => by
    have := seg_len q
    rw [tot2_cons]
    show (seg q).length ≤ _
    omega
  | q :: r :: l => by
    have h1 := prt_len (r :: l)
    have h2 := seg_len q
    rw [tot2_cons]
    show (seg q ++ 38 :: prt (r :: l)).length ≤ _
    rw [List.length_append, List.length_cons]
    omega
theorem tot2_small {M : Nat} : ∀ (l : List Two), (∀ q ∈ l, q.1.length + q.2.length ≤ M) → tot2 l ≤ l.length * (M + 3)
  | [], _ => by simp [tot2]
  | q :: l, h => by
    have h1 := tot2_small l (fun y hy => h y (List.mem_cons_of_mem _ hy))
    have h2 := h q (List.mem_cons_self ..)
    rw [tot2_cons, List.length_cons, Nat.succ_mul]
    omega
theorem parse_small {M : Nat} : ∀ (n : Nat) (l : List Nat) (i : Nat) (acc r : List Two), l.length ≤ n → l.length ≤ M → (∀ q ∈ acc, q.1.length + q.2.length ≤ M) → parse l i acc = .ok r → ∀ q ∈ r, q.1.length + q.2.length ≤ M
  | n, l, i, acc, r, hn, hm, hb, h => by
    by_cases h0 : l.length = 0
    · rw [List.length_eq_zero_iff] at h0; subst h0; rw [parse_nil] at h; cases h; exact hb
    · obtain ⟨n, rfl⟩ : ∃ m, n = m + 1 := ⟨n - 1, by omega⟩
      by_cases h1 : (upTo 38 l).length = 0
      · rw [parse_empty i acc (by omega) h1] at h
        exact parse_small n _ _ _ _ (by rw [List.length_drop]; omega) (by rw [List.length_drop]; omega) hb h
      · by_cases h2 : acc.length = 64
        · rw [parse_many i acc h1 h2] at h; cases h
        · cases h3 : pairAt (upTo 38 l) i with
          | error e => rw [parse_bad i acc h1 h2 h3] at h; cases h
          | ok q =>
            rw [parse_good i acc h1 h2 h3] at h
            refine parse_small n _ _ _ _ (by rw [List.length_drop]; omega) (by rw [List.length_drop]; omega) ?_ h
            intro x hx
            rcases List.mem_append.1 hx with hx | hx
            · exact hb x hx
            · simp at hx; subst hx
              have := (pairAt_lt h3).2
              have := upTo_le 38 l
              omega
end Go.Proofs.YtjehbdekipmllaaGreatDoor
namespace Go.Proofs.YtjehbdekipmllaaGreatDoor

abbrev U := List UInt8
/-- A text cut at its blanks. -/
def cutAll : U → List U
  | [] => [[]]
  | c :: l => if c = 32 then [] :: cutAll l else match cutAll l with
    | [] => [[c]]
    | h :: t => (c :: h) :: t
theorem cutAll_ne : ∀ l : U, ∃ h t, cutAll l = h :: t
  | [] => ⟨[], [], rfl⟩
  | c :: l => by
    obtain ⟨h, t, e⟩ := cutAll_ne l
    by_cases hc : c = 32
    · exact ⟨[], cutAll l, by rw [cutAll, if_pos hc]⟩
    · exact ⟨c :: h, t, by rw [cutAll, if_neg hc, e]⟩
theorem cutAll_blank (l : U) : cutAll (32 :: l) = [] :: cutAll l := by rw [cutAll, if_pos rfl]
theorem cutAll_cons {c : UInt8} {l h : U} {t : List U} (hc : c ≠ 32) (e : cutAll l = h :: t) : cutAll (c :: l) = (c :: h) :: t := by rw [cutAll, if_neg hc, e]

theorem splitK_cons {c : UInt8} {l : U} (hc : c ≠ 32) : ∀ k, Lib.splitK [32] 0 k (c :: l) = match Lib.splitK [32] 0 k l with
    | [] => [[c]]
    | h :: t => (c :: h) :: t
  | 0 => rfl
  | k + 1 => by
    have hb : (c == 32) = false := by simpa using hc
    have e1 : Lib.index (c :: l) [32] = if Lib.index l [32] == -1 then -1 else Lib.index l [32] + 1 := by
      rw [Lib.index_one, Lib.index_one, Lib.indexByte, hb]; rfl
    unfold Lib.splitK
    rw [e1]
    have hge := Lib.index_ge l [32]
    by_cases h : Lib.index l [32] = -1
    · rw [h]; rfl
    · have hb2 : (Lib.index l [32] == -1) = false := by simpa using h
      have hb3 : (Lib.index l [32] + 1 == -1) = false := by simp; omega
      rw [hb2]
      simp only [Bool.false_eq_true, if_false]
      rw [hb3]
      simp only [Bool.false_eq_true, if_false]
      obtain ⟨i, hi⟩ : ∃ i : Nat, Lib.index l [32] = i := ⟨(Lib.index l [32]).toNat, by omega⟩
      rw [hi, show ((i : Int) + 1).toNat = i + 1 by omega, show ((i : Int)).toNat = i by omega]
      simp only [Nat.add_zero, List.take_succ_cons, List.length_cons, List.length_nil]
      rw [show i + 1 + (0 + 1) = (i + (0 + 1)) + 1 by omega, List.drop_succ_cons]
theorem splitK_cut : ∀ l : U, Lib.splitK [32] 0 (l.count 32) l = cutAll l
  | [] => rfl
  | c :: l => by
    by_cases hc : c = 32
    · subst hc
      rw [List.count_cons_self, cutAll_blank, ← splitK_cut l]
      have e1 : Lib.index (32 :: l) [32] = 0 := by rw [Lib.index_one, Lib.indexByte]; rfl
      rw [Lib.splitK, e1]
      rfl
    · rw [List.count_cons_of_ne hc, splitK_cons hc, splitK_cut l]
      obtain ⟨h, t, e⟩ := cutAll_ne l
      rw [cutAll_cons hc e, e]

/-- A byte of a scope; a scope. -/
def letter (c : UInt8) : Bool := c.toNat == 33 || (decide (35 ≤ c.toNat) && decide (c.toNat ≤ 91)) || (decide (93 ≤ c.toNat) && decide (c.toNat ≤ 126))
def isSc (u : U) : Bool := !u.isEmpty && u.all letter
/-- A text into a list, ahead of the first that is greater, if it isn't there. -/
def ins (l : List U) (s : U) : List U := if s ∈ l then l else l.takeWhile (fun x => !decide (s < x)) ++ s :: l.dropWhile (fun x => !decide (s < x))
def insAll (acc : List U) (l : List U) : List U := l.foldl ins acc
/-- The document's way through a text: byte by byte. -/
def scan : U → U → List U → Option (List U)
  | [], cur, acc => if cur = [] then none else some (ins acc cur)
  | c :: r, cur, acc => if c = 32 then (if cur = [] then none else scan r [] (ins acc cur)) else if letter c = true then scan r (cur ++ [c]) acc else none
theorem scan_all : ∀ (l cur h : U) (t acc : List U), cur.all letter = true → cutAll l = h :: t → scan l cur acc = if ((cur ++ h) :: t).all isSc = true then some (insAll acc ((cur ++ h) :: t)) else none
  | [], cur, h, t, acc, hc, e => by
    cases e
    rw [scan, List.append_nil]
    by_cases h0 : cur = []
    · subst h0; rfl
    · rw [if_neg h0, if_pos]
      · rfl
      · have : cur.isEmpty = false := by simpa using h0
        simp only [List.all_cons, List.all_nil, Bool.and_true, isSc, this, hc]; rfl
  | c :: l, cur, h, t, acc, hc, e => by
    obtain ⟨h', t', e'⟩ := cutAll_ne l
    rw [scan]
    by_cases h32 : c = 32
    · subst h32
      rw [cutAll_blank, e'] at e
      cases e
      rw [if_pos rfl, List.append_nil]
      by_cases h0 : cur = []
      · subst h0; rfl
      · rw [if_neg h0, scan_all l [] h' t' (ins acc cur) rfl e', List.nil_append]
        have h1 : isSc cur = true := by
          have : cur.isEmpty = false := by simpa using h0
          simp only [isSc, this, hc]; rfl
        rw [List.all_cons (a := cur), h1, Bool.true_and]
        rfl
    · rw [if_neg h32]
      rw [cutAll_cons h32 e'] at e
      cases e
      by_cases hl : letter c = true
      · rw [if_pos hl, scan_all l (cur ++ [c]) h' t acc (by rw [List.all_append, hc]; simp [hl]) e', List.append_assoc]
        rfl
      · rw [if_neg hl, if_neg]
        intro hall
        rw [List.all_cons, Bool.and_eq_true] at hall
        have := hall.1
        simp only [isSc, Bool.and_eq_true, List.all_append, List.all_cons] at this
        exact hl this.2.2.1

/-- What is asked of a text: the scopes, or the error's number. -/
def scoOut (t : U) : List U × Nat := if 256 < t.length then ([], 1) else if t = [] then ([], 0) else if (cutAll t).all isSc = true then (if 32 < (insAll [] (cutAll t)).length then ([], 32) else (insAll [] (cutAll t), 0)) else ([], 33)

/-- Strictly rising. -/
def Rising (l : List U) : Prop := l.Pairwise (fun a b => a < b)
theorem ins_mem (l : List U) (s x : U) : x ∈ ins l s ↔ x ∈ l ∨ x = s := by
  unfold ins
  split
  · constructor
    · exact .inl
    · rintro (h | rfl)
      · exact h
      · assumption
  · have := List.takeWhile_append_dropWhile (p := fun x => !decide (s < x)) (l := l)
    conv => rhs; rw [← this]
    simp only [List.mem_append, List.mem_cons]
    constructor
    · rintro (h | h | h)
      · exact .inl (.inl h)
      · exact .inr h
      · exact .inl (.inr h)
    · rintro ((h | h) | h)
      · exact .inl h
      · exact .inr (.inr h)
      · exact .inr (.inl h)
theorem u_trans {a b c : U} (h1 : a < b) (h2 : b < c) : a < c := List.lt_trans h1 h2
theorem u_irrefl (a : U) : ¬ a < a := List.lt_irrefl a
theorem u_total {a b : U} (h : ¬ a < b) (hne : a ≠ b) : b < a := by
  by_cases h2 : b < a
  · exact h2
  · exact absurd (List.le_antisymm (show a ≤ b from h2) (show b ≤ a from h)) hne
theorem ins_rising {l : List U} {s : U} (h : Rising l) : Rising (ins l s) := by
  unfold ins
  split
  · exact h
  · rename_i hs
    induction l with
    | nil => exact List.pairwise_singleton _ _
    | cons x l ih =>
      have hx := List.pairwise_cons.1 h
      have hne : s ≠ x := fun e => hs (by simp [e])
      by_cases hlt : s < x
      · have e1 : (x :: l).takeWhile (fun x => !decide (s < x)) = [] := by simp [hlt]
        have e2 : (x :: l).dropWhile (fun x => !decide (s < x)) = x :: l := by simp [hlt]
        rw [e1, e2, List.nil_append]
        refine List.pairwise_cons.2 ⟨fun y hy => ?_, h⟩
        rcases List.mem_cons.1 hy with rfl | hy
        · exact hlt
        · exact u_trans hlt (hx.1 y hy)
      · have e1 : (x :: l).takeWhile (fun x => !decide (s < x)) = x :: l.takeWhile (fun x => !decide (s < x)) := by simp [hlt]
        have e2 : (x :: l).dropWhile (fun x => !decide (s < x)) = l.dropWhile (fun x => !decide (s < x)) := by simp [hlt]
        rw [e1, e2, List.cons_append]
        have hsl : s ∉ l := fun h => hs (by simp [h])
        refine List.pairwise_cons.2 ⟨fun y hy => ?_, ih hx.2 hsl⟩
        rcases List.mem_append.1 hy with hy | hy
        · exact hx.1 y (List.IsPrefix.mem hy (List.takeWhile_prefix _))
        · rcases List.mem_cons.1 hy with rfl | hy
          · exact u_total hlt hne
          · exact hx.1 y (List.IsSuffix.mem hy (List.dropWhile_suffix _))
theorem insAll_mem : ∀ (l acc : List U) (x : U), x ∈ insAll acc l ↔ x ∈ acc ∨ x ∈ l
  | [], acc, x => by simp [insAll]
  | s :: l, acc, x => by
    show x ∈ insAll (ins acc s) l ↔ _
    rw [insAll_mem l, ins_mem, List.mem_cons, or_assoc]
theorem insAll_rising : ∀ (l acc : List U), Rising acc → Rising (insAll acc l)
  | [], _, h => h
  | s :: l, acc, h => insAll_rising l (ins acc s) (ins_rising h)
theorem rising_eq : ∀ {a b : List U}, Rising a → Rising b → (∀ x, x ∈ a ↔ x ∈ b) → a = b
  | [], [], _, _, _ => rfl
  | [], y :: b, _, _, h => by have := (h y).2 (by simp); simp at this
  | x :: a, [], _, _, h => by have := (h x).1 (by simp); simp at this
  | x :: a, y :: b, ha, hb, h => by
    have hx := List.pairwise_cons.1 ha
    have hy := List.pairwise_cons.1 hb
    have e : x = y := by
      have h1 : x ∈ y :: b := (h x).1 (by simp)
      have h2 : y ∈ x :: a := (h y).2 (by simp)
      rcases List.mem_cons.1 h1 with h1 | h1
      · exact h1
      · rcases List.mem_cons.1 h2 with h2 | h2
        · exact h2.symm
        · exact absurd (u_trans (hx.1 y h2) (hy.1 x h1)) (u_irrefl x)
    subst e
    congr 1
    refine rising_eq hx.2 hy.2 fun z => ⟨fun hz => ?_, fun hz => ?_⟩
    · have := (h z).1 (by simp [hz])
      rcases List.mem_cons.1 this with rfl | h
      · exact absurd (hx.1 z hz) (u_irrefl z)
      · exact h
    · have := (h z).2 (by simp [hz])
      rcases List.mem_cons.1 this with rfl | h
      · exact absurd (hy.1 z hz) (u_irrefl z)
      · exact h
/-- What a sorted list keeps of itself where neighbours that are alike are one. -/
theorem compact_mem : ∀ (m : Nat) (d : Array U), m ≤ d.size → ∀ x, x ∈ Lib.compactUpTo d m ↔ ∃ j, j < m ∧ d[j]! = x
  | 0, d, _, x => by simp [Lib.compactUpTo]
  | m + 1, d, hm, x => by
    rw [Lib.compactUpTo_succ, List.mem_append, compact_mem m d (by omega)]
    constructor
    · rintro (⟨j, hj, e⟩ | h)
      · exact ⟨j, by omega, e⟩
      · split at h
        · simp at h; exact ⟨m, by omega, h.symm⟩
        · simp at h
    · rintro ⟨j, hj, e⟩
      by_cases h : j < m
      · exact .inl ⟨j, h, e⟩
      · obtain rfl : j = m := by omega
        by_cases hk : Lib.keeps d j = true
        · right; rw [if_pos hk]; simp [e]
        · left
          have hk' : Lib.keeps d j = false := by simpa using hk
          have : j ≠ 0 ∧ d[j]! = d[j - 1]! := by
            simp [Lib.keeps] at hk'
            exact hk'
          exact ⟨j - 1, by omega, by rw [← this.2]; exact e⟩
theorem compact_rising {d : Array U} (hs : ∀ i j, i < j → j < d.size → d[i]! ≤ d[j]!) : ∀ m, m ≤ d.size → Rising (Lib.compactUpTo d m)
  | 0, _ => by simp [Lib.compactUpTo, Rising]
  | m + 1, hm => by
    rw [Lib.compactUpTo_succ]
    refine List.pairwise_append.2 ⟨compact_rising hs m (by omega), ?_, fun a ha b hb => ?_⟩
    · split <;> simp
    · split at hb
      · rename_i hk
        simp at hb
        subst hb
        obtain ⟨j, hj, rfl⟩ := (compact_mem m d (by omega) a).1 ha
        have h0 : m ≠ 0 := by omega
        have hne : d[m]! ≠ d[m - 1]! := by
          simp [Lib.keeps, h0] at hk
          exact hk
        have h1 : d[m - 1]! < d[m]! := by
          have h2 : ¬ d[m]! < d[m - 1]! := hs (m - 1) m (by omega) (by omega)
          exact u_total h2 hne
        by_cases hj2 : j = m - 1
        · rw [hj2]; exact h1
        · have h3 : d[j]! ≤ d[m - 1]! := hs j (m - 1) (by omega) (by omega)
          exact List.lt_of_le_of_lt h3 h1
      · simp at hb
theorem compact_sorted (l : List U) : Lib.compact (l.mergeSort fun x y => decide (x ≤ y)) = insAll [] l := by
  have htot : ∀ a b : U, (decide (a ≤ b) || decide (b ≤ a)) = true := fun a b => by
    have := List.le_total a b
    simpa using this
  have htr : ∀ a b c : U, decide (a ≤ b) = true → decide (b ≤ c) = true → decide (a ≤ c) = true := fun a b c h1 h2 => by
    simp only [decide_eq_true_eq] at h1 h2 ⊢
    exact List.le_trans h1 h2
  have hsort := List.pairwise_mergeSort htr htot l
  have hperm := List.mergeSort_perm l (fun x y : U => decide (x ≤ y))
  generalize l.mergeSort (fun x y : U => decide (x ≤ y)) = ss at hsort hperm ⊢
  refine rising_eq ?_ (insAll_rising l [] List.Pairwise.nil) fun x => ?_
  · refine compact_rising (fun i j hij hj => ?_) _ (by simp)
    have hj' : j < ss.length := by simpa using hj
    have := List.pairwise_iff_getElem.1 hsort i j (by omega) hj' hij
    rw [getElem!_pos _ i (by simp; omega), getElem!_pos _ j (by simpa using hj')]
    simpa using this
  · unfold Lib.compact
    rw [compact_mem _ _ (by simp), insAll_mem]
    constructor
    · rintro ⟨j, hj, rfl⟩
      right
      rw [getElem!_pos _ j (by simpa using hj)]
      exact hperm.mem_iff.1 (by simp)
    · rintro (h | h)
      · simp at h
      · obtain ⟨j, hj, e⟩ := List.getElem_of_mem (hperm.mem_iff.2 h)
        refine ⟨j, hj, ?_⟩
        rw [getElem!_pos _ j (by simpa using hj)]
        simpa using e
end Go.Proofs.YtjehbdekipmllaaGreatDoor
