/- Plain facts of the layer's texts: escapes there and back, over lists of bytes as numbers. -/
namespace Go.Proofs.YtlhgjicichjbgaaGreatDoor

def plainB (c : Nat) : Bool := (65 ≤ c && c ≤ 90) || (97 ≤ c && c ≤ 122) || (48 ≤ c && c ≤ 57) || c == 45 || c == 46 || c == 95 || c == 42
def hexU (n : Nat) : Nat := if n < 10 then 48 + n else 55 + n
def esc1 (c : Nat) : List Nat := if plainB c = true then [c] else if c = 32 then [43] else [37, hexU (c / 16), hexU (c % 16)]
def esc (l : List Nat) : List Nat := l.flatMap esc1
def hx (c : Nat) : Option Nat := if 48 ≤ c ∧ c ≤ 57 then some (c - 48) else if 97 ≤ c ∧ c ≤ 102 then some (c - 87) else if 65 ≤ c ∧ c ≤ 70 then some (c - 55) else none
theorem hexU_lt {n : Nat} (h : n < 16) : hexU n < 256 := by unfold hexU; split <;> omega
theorem esc_snoc (xs : List Nat) (x : Nat) : esc (xs ++ [x]) = esc xs ++ esc1 x := by simp [esc]
theorem esc_append (xs ys : List Nat) : esc (xs ++ ys) = esc xs ++ esc ys := by simp [esc]
theorem esc_cons (x : Nat) (xs : List Nat) : esc (x :: xs) = esc1 x ++ esc xs := by simp [esc]
theorem esc1_len (c : Nat) : 1 ≤ (esc1 c).length ∧ (esc1 c).length ≤ 3 := by unfold esc1; split; · simp
                                                                             · split <;> simp
theorem esc_len (l : List Nat) : l.length ≤ (esc l).length ∧ (esc l).length ≤ 3 * l.length := by
  induction l with
  | nil => simp [esc]
  | cons x r ih => have := esc1_len x; rw [esc_cons, List.length_append, List.length_cons]; omega
/-- What an escape's bytes are: none is a blank, an ampersand, an equality sign. -/
def escByte (y : Nat) : Prop := 33 ≤ y ∧ y ≤ 126 ∧ y ≠ 38 ∧ y ≠ 61
theorem plainB_cases {c : Nat} (h : plainB c = true) : (65 ≤ c ∧ c ≤ 90) ∨ (97 ≤ c ∧ c ≤ 122) ∨ (48 ≤ c ∧ c ≤ 57) ∨ c = 45 ∨ c = 46 ∨ c = 95 ∨ c = 42 := by
  simp [plainB] at h
  omega
theorem plainB_not {c : Nat} (h : plainB c = false) : ¬ (65 ≤ c ∧ c ≤ 90) ∧ ¬ (97 ≤ c ∧ c ≤ 122) ∧ ¬ (48 ≤ c ∧ c ≤ 57) ∧ c ≠ 45 ∧ c ≠ 46 ∧ c ≠ 95 ∧ c ≠ 42 := by
  simp [plainB] at h
  omega
theorem hexU_byte {n : Nat} (h : n < 16) : escByte (hexU n) := by unfold hexU escByte; split <;> omega
theorem esc1_byte {c : Nat} (h : c < 256) : ∀ y ∈ esc1 c, escByte y := by
  intro y hy
  unfold esc1 at hy
  split at hy
  · rename_i hp
    simp at hy
    subst hy
    have := plainB_cases hp
    unfold escByte
    omega
  · split at hy
    · simp at hy
      subst hy
      unfold escByte; omega
    · simp only [List.mem_cons, List.not_mem_nil, or_false] at hy
      rcases hy with rfl | rfl | rfl
      · unfold escByte; omega
      · exact hexU_byte (by omega)
      · exact hexU_byte (by omega)
theorem esc_byte {l : List Nat} (h : ∀ x ∈ l, x < 256) : ∀ y ∈ esc l, escByte y := by
  intro y hy
  obtain ⟨x, hx, hy⟩ := List.mem_flatMap.1 hy
  exact esc1_byte (h x hx) y hy
theorem esc_lt {l : List Nat} (h : ∀ x ∈ l, x < 256) : ∀ y ∈ esc l, y < 256 := fun y hy => by have := esc_byte h y hy; unfold escByte at this; omega
theorem hx_hexU {n : Nat} (h : n < 16) : hx (hexU n) = some n := by
  unfold hexU hx
  by_cases h1 : n < 10
  · rw [if_pos h1, if_pos (by omega)]; congr 1; omega
  · rw [if_neg h1, if_neg (by omega), if_neg (by omega), if_pos (by omega)]; congr 1; omega
theorem hx_lt {c n : Nat} (h : hx c = some n) : n < 16 := by
  unfold hx at h
  split at h
  · cases h; omega
  · split at h
    · cases h; omega
    · split at h
      · cases h; omega
      · cases h

abbrev Tried (α : Type) := Except (Nat × Nat) α
def put1 (x : Nat) : Tried (List Nat) → Tried (List Nat)
  | .ok l => .ok (x :: l)
  | .error e => .error e
def putL (xs : List Nat) : Tried (List Nat) → Tried (List Nat)
  | .ok l => .ok (xs ++ l)
  | .error e => .error e
theorem putL_nil (t : Tried (List Nat)) : putL [] t = t := by cases t <;> rfl
theorem putL_put1 (xs : List Nat) (x : Nat) (t : Tried (List Nat)) : putL xs (put1 x t) = putL (xs ++ [x]) t := by cases t <;> simp [putL, put1]
theorem putL_putL (xs ys : List Nat) (t : Tried (List Nat)) : putL xs (putL ys t) = putL (xs ++ ys) t := by cases t <;> simp [putL]
theorem put1_eq (x : Nat) (t : Tried (List Nat)) : put1 x t = putL [x] t := by cases t <;> rfl

/-- The way back, from a place on: the text, or the error and its place. -/
def un : List Nat → Nat → Tried (List Nat)
  | [], _ => .ok []
  | c :: r, i =>
    if c < 33 ∨ 126 < c then .error (31, i)
    else if c = 43 then put1 32 (un r (i + 1))
    else if c = 37 then
      match r with
      | a :: b :: r' => match hx a, hx b with
        | some x, some y => put1 (16 * x + y) (un r' (i + 3))
        | _, _ => .error (30, i)
      | _ => .error (30, i)
    else put1 c (un r (i + 1))
theorem un_nil (i : Nat) : un [] i = .ok [] := by rw [un]
theorem un_bad {c : Nat} (r : List Nat) (i : Nat) (h : c < 33 ∨ 126 < c) : un (c :: r) i = .error (31, i) := by rw [un.eq_def]; simp only [if_pos h]
theorem un_plus (r : List Nat) (i : Nat) : un (43 :: r) i = put1 32 (un r (i + 1)) := by rw [un.eq_def]; simp
theorem un_hex {a b x y : Nat} (r : List Nat) (i : Nat) (ha : hx a = some x) (hb : hx b = some y) : un (37 :: a :: b :: r) i = put1 (16 * x + y) (un r (i + 3)) := by
  rw [un, if_neg (by omega), if_neg (by omega), if_pos rfl]; simp only [ha, hb]
theorem un_hex_bad {a b : Nat} (r : List Nat) (i : Nat) (h : hx a = none ∨ hx b = none) : un (37 :: a :: b :: r) i = .error (30, i) := by
  rw [un, if_neg (by omega), if_neg (by omega), if_pos rfl]
  cases ha : hx a with
  | none => rfl
  | some x => rcases h with h | h
              · rw [ha] at h; cases h
              · rw [h]
theorem un_hex_short {r : List Nat} (i : Nat) (h : r.length < 2) : un (37 :: r) i = .error (30, i) := by
  rw [un.eq_def]
  match r, h with
  | [], _ => simp
  | [a], _ => simp
theorem un_other {c : Nat} (r : List Nat) (i : Nat) (h : ¬ (c < 33 ∨ 126 < c)) (h1 : c ≠ 43) (h2 : c ≠ 37) : un (c :: r) i = put1 c (un r (i + 1)) := by rw [un.eq_def]; simp only [if_neg h, if_neg h1, if_neg h2]

/-- An error's place moves with the text's. -/
def shiftP (k : Nat) {α : Type} : Tried α → Tried α
  | .ok l => .ok l
  | .error (e, p) => .error (e, k + p)
theorem shift_put1 (k x : Nat) (t : Tried (List Nat)) : shiftP k (put1 x t) = put1 x (shiftP k t) := by cases t <;> rfl
theorem un_shift (k : Nat) : ∀ (n : Nat) (l : List Nat) (i : Nat), l.length ≤ n → un l (k + i) = shiftP k (un l i)
  | _, [], i, _ => by rw [un_nil, un_nil]; rfl
  | 0, c :: r, i, h => by simp at h
  | n + 1, c :: r, i, h => by
    have hr : r.length ≤ n := by simpa using h
    by_cases h1 : c < 33 ∨ 126 < c
    · rw [un_bad _ _ h1, un_bad _ _ h1]; rfl
    · by_cases h2 : c = 43
      · subst h2; rw [un_plus, un_plus, shift_put1, Nat.add_assoc, un_shift k n r (i + 1) hr]
      · by_cases h3 : c = 37
        · subst h3
          match r, hr with
          | [], _ => rw [un_hex_short _ (by simp), un_hex_short _ (by simp)]; rfl
          | [a], _ => rw [un_hex_short _ (by simp), un_hex_short _ (by simp)]; rfl
          | a :: b :: r', hr =>
            cases ha : hx a with
            | none => rw [un_hex_bad _ _ (.inl ha), un_hex_bad _ _ (.inl ha)]; rfl
            | some x =>
              cases hb : hx b with
              | none => rw [un_hex_bad _ _ (.inr hb), un_hex_bad _ _ (.inr hb)]; rfl
              | some y =>
                rw [un_hex _ _ ha hb, un_hex _ _ ha hb, shift_put1, Nat.add_assoc, un_shift k n r' (i + 3) (by simp at hr; omega)]
        · rw [un_other _ _ h1 h2 h3, un_other _ _ h1 h2 h3, shift_put1, Nat.add_assoc, un_shift k n r (i + 1) hr]
theorem un_at (l : List Nat) (i : Nat) : un l i = shiftP i (un l 0) := un_shift i l.length l 0 (Nat.le_refl _)

theorem un_esc1 {c : Nat} (hc : c < 256) (r : List Nat) (i : Nat) : un (esc1 c ++ r) i = put1 c (un r (i + (esc1 c).length)) := by
  unfold esc1
  by_cases hp : plainB c = true
  · rw [if_pos hp]
    have := plainB_cases hp
    exact un_other r i (by omega) (by omega) (by omega)
  · rw [if_neg hp]
    by_cases h2 : c = 32
    · rw [if_pos h2, h2]; exact un_plus r i
    · rw [if_neg h2]
      have := un_hex r i (hx_hexU (show c / 16 < 16 by omega)) (hx_hexU (show c % 16 < 16 by omega))
      rw [show 16 * (c / 16) + c % 16 = c by omega] at this
      exact this
theorem un_esc {l : List Nat} (h : ∀ x ∈ l, x < 256) (r : List Nat) (i : Nat) : un (esc l ++ r) i = putL l (un r (i + (esc l).length)) := by
  induction l generalizing i with
  | nil => simp [esc, putL_nil]
  | cons x l ih =>
    rw [esc_cons, List.append_assoc, un_esc1 (h x (by simp)), ih (fun y hy => h y (by simp [hy])), put1_eq, putL_putL, List.length_append, Nat.add_assoc]
    rfl
theorem un_esc_all {l : List Nat} (h : ∀ x ∈ l, x < 256) (i : Nat) : un (esc l) i = .ok l := by
  have := un_esc h [] i
  rw [List.append_nil, un_nil] at this
  rw [this]; simp [putL]
/-- What is read is bytes. -/
theorem un_lt : ∀ (n : Nat) (l : List Nat) (i : Nat) (t : List Nat), l.length ≤ n → un l i = .ok t → (∀ x ∈ t, x < 256) ∧ t.length ≤ l.length
  | _, [], i, t, _, h => by rw [un_nil] at h; cases h; simp
  | 0, c :: r, i, t, h, _ => by simp at h
  | n + 1, c :: r, i, t, h, ht => by
    have hr : r.length ≤ n := by simpa using h
    have key : ∀ (x : Nat) (q : List Nat) (j : Nat), q.length ≤ n → q.length ≤ r.length → x < 256 → put1 x (un q j) = .ok t → (∀ x ∈ t, x < 256) ∧ t.length ≤ (c :: r).length := by
      intro x q j hq hq2 hx he
      cases hu : un q j with
      | error e => rw [hu] at he; cases he
      | ok l =>
        rw [hu] at he
        cases he
        obtain ⟨a, b⟩ := un_lt n q j l hq hu
        refine ⟨fun y hy => ?_, by simp; omega⟩
        rcases List.mem_cons.1 hy with rfl | hy
        · exact hx
        · exact a y hy
    by_cases h1 : c < 33 ∨ 126 < c
    · rw [un_bad _ _ h1] at ht; cases ht
    · by_cases h2 : c = 43
      · subst h2; rw [un_plus] at ht; exact key _ _ _ hr (Nat.le_refl _) (by omega) ht
      · by_cases h3 : c = 37
        · subst h3
          match r, hr with
          | [], _ => rw [un_hex_short _ (by simp)] at ht; cases ht
          | [a], _ => rw [un_hex_short _ (by simp)] at ht; cases ht
          | a :: b :: r', hr =>
            cases ha : hx a with
            | none => rw [un_hex_bad _ _ (.inl ha)] at ht; cases ht
            | some x =>
              cases hb : hx b with
              | none => rw [un_hex_bad _ _ (.inr hb)] at ht; cases ht
              | some y =>
                rw [un_hex _ _ ha hb] at ht
                have := hx_lt ha
                have := hx_lt hb
                exact key _ _ _ (by simp at hr; omega) (by simp; omega) (by omega) ht
        · rw [un_other _ _ h1 h2 h3] at ht; exact key _ _ _ hr (Nat.le_refl _) (by omega) ht
end Go.Proofs.YtlhgjicichjbgaaGreatDoor
