/- What a text of JSON says, by plain functions on lists of bytes: reading. Reading hangs on the bytes that are read, and on no others: what was read is read again in any text with the same bytes up to there; the bytes ahead of a fault show none. The same of characters, escapes, texts. The same of lists, objects, values; what follows for whole texts (P4.9). -/
namespace Go.Proofs.YtlebockgdonceaaGreatDoor

abbrev By := List Nat
/-- A Json: its kind, its text, its names, its items. -/
structure J where
  kind : Int
  text : By
  names : List By
  items : List J
def J.zero : J := .mk 0 [] [] []
/-- Of all Jsons and of all lists of them at once. -/
theorem J.both {M1 : J → Prop} {M2 : List J → Prop} (h1 : ∀ k t ns is, M2 is → M1 (.mk k t ns is)) (h2 : M2 []) (h3 : ∀ j js, M1 j → M2 js → M2 (j :: js)) : (∀ j, M1 j) ∧ (∀ js, M2 js) := ⟨@J.rec M1 M2 h1 h2 h3, @J.rec_1 M1 M2 h1 h2 h3⟩

/-- What was read and the place behind it, or a fault and its place. -/
abbrev Out (α : Type) := EStateM.Result Nat Nat α
def Out.map {α β : Type} (f : α → β) : Out α → Out β
  | .ok a p => .ok (f a) p
  | .error e p => .error e p

def bt (s : By) (p : Nat) : Nat := s.getD p 0
def isBlank (c : Nat) : Bool := c == 32 || c == 9 || c == 10 || c == 13
def skip (s : By) (p : Nat) : Nat := p + ((s.drop p).takeWhile isBlank).length

theorem drop_bt {s : By} {p : Nat} (h : p < s.length) : s.drop p = bt s p :: s.drop (p + 1) := by
  rw [List.drop_eq_getElem_cons h]; simp [bt, List.getD, h]
theorem skip_step {s : By} {p : Nat} (h : p < s.length) (hb : isBlank (bt s p) = true) : skip s p = skip s (p + 1) := by
  unfold skip; rw [drop_bt h, List.takeWhile_cons, if_pos hb, List.length_cons]; omega
theorem skip_stop {s : By} {p : Nat} (hb : isBlank (bt s p) = false) : skip s p = p := by
  unfold skip
  by_cases h : p < s.length
  · rw [drop_bt h, List.takeWhile_cons, hb]; simp
  · rw [List.drop_eq_nil_of_le (by omega)]; simp
theorem skip_end {s : By} {p : Nat} (h : s.length ≤ p) : skip s p = p := by
  unfold skip; rw [List.drop_eq_nil_of_le h]; simp
theorem skip_ge (s : By) (p : Nat) : p ≤ skip s p := by unfold skip; omega
theorem takeWhile_le (f : Nat → Bool) (l : By) : (l.takeWhile f).length ≤ l.length := by
  induction l with
  | nil => simp
  | cons a l ih => rw [List.takeWhile_cons]; split <;> simp <;> omega
theorem skip_le {s : By} {p : Nat} (h : p ≤ s.length) : skip s p ≤ s.length := by
  have := takeWhile_le isBlank (s.drop p)
  rw [List.length_drop] at this
  unfold skip; omega

/-- A literal's reading: the state behind a byte. States: 0 nothing, 1 a -, 2 a 0, 3 digits, 4 a point, 5 its digits, 6 an e, 7 its sign, 8 its digits. -/
def isDigit (c : Nat) : Bool := decide (48 ≤ c ∧ c ≤ 57)
def litStep (st c : Nat) : Option Nat :=
  if st = 0 ∧ c = 45 then some 1
  else if st ≤ 1 ∧ c = 48 then some 2
  else if (st ≤ 1 ∧ isDigit c = true) ∨ (st = 3 ∧ isDigit c = true) then some 3
  else if (st = 2 ∨ st = 3) ∧ c = 46 then some 4
  else if (st = 4 ∨ st = 5) ∧ isDigit c = true then some 5
  else if (st = 2 ∨ st = 3 ∨ st = 5) ∧ (c = 101 ∨ c = 69) then some 6
  else if st = 6 ∧ (c = 43 ∨ c = 45) then some 7
  else if 6 ≤ st ∧ isDigit c = true then some 8
  else none
def litDone (st : Nat) : Bool := st == 2 || st == 3 || st == 5 || st == 8
/-- How many bytes go on from a state, and the state behind them. -/
def litRun : Nat → By → Nat × Nat
  | st, [] => (0, st)
  | st, c :: l => match litStep st c with
    | none => (0, st)
    | some st' => ((litRun st' l).1 + 1, (litRun st' l).2)

/-- Of the bytes that stand at a place: a character of so many bytes, none, or the beginning of one. -/
abbrev Ch := Except Bool Nat
def lead (c : Nat) : Nat × Nat × Nat :=
  if c < 128 then (1, 128, 191)
  else if c < 194 then (0, 128, 191)
  else if c < 224 then (2, 128, 191)
  else if c = 224 then (3, 160, 191)
  else if c = 237 then (3, 128, 159)
  else if c < 240 then (3, 128, 191)
  else if c = 240 then (4, 144, 191)
  else if c < 244 then (4, 128, 191)
  else if c = 244 then (4, 128, 143)
  else (0, 128, 191)
def conts (m : Nat) : Nat → Nat → Nat → By → Ch
  | 0, _, _, _ => .ok m
  | _ + 1, _, _, [] => .error true
  | n + 1, lo, hi, x :: l => if lo ≤ x ∧ x ≤ hi then conts m n 128 191 l else .error false
def chr : By → Ch
  | [] => .error false
  | c :: l => match (lead c).1 with
    | 0 => .error false
    | n + 1 => conts (n + 1) n (lead c).2.1 (lead c).2.2 l
/-- The number of a character of n bytes. -/
def codeOf : Nat → By → Nat
  | 1, a :: _ => a
  | 2, a :: b :: _ => 64 * (a % 32) + b % 64
  | 3, a :: b :: c :: _ => 64 * (64 * (a % 16) + b % 64) + c % 64
  | 4, a :: b :: c :: d :: _ => 64 * (64 * (64 * (a % 8) + b % 64) + c % 64) + d % 64
  | _, _ => 0
def utf (c : Nat) : By :=
  if c < 128 then [c]
  else if c < 2048 then [192 + c / 64, 128 + c % 64]
  else if c < 65536 then [224 + c / 4096, 128 + c / 64 % 64, 128 + c % 64]
  else [240 + c / 262144, 128 + c / 4096 % 64, 128 + c / 64 % 64, 128 + c % 64]
/-- Are the bytes characters one behind the other? -/
def cleanN : Nat → By → Bool
  | _, [] => true
  | 0, _ :: _ => false
  | n + 1, c :: l => match chr (c :: l) with
    | .ok k => cleanN n ((c :: l).drop k)
    | _ => false
def clean (s : By) : Bool := cleanN s.length s

def hexv (c : Nat) : Option Nat :=
  if 48 ≤ c ∧ c ≤ 57 then some (c - 48)
  else if 97 ≤ c ∧ c ≤ 102 then some (c - 87)
  else if 65 ≤ c ∧ c ≤ 70 then some (c - 55)
  else none
def fourAt (s : By) : Nat → Nat → Nat → Out Nat
  | 0, p, n => .ok n p
  | k + 1, p, n => if p < s.length then
      match hexv (bt s p) with
      | some d => fourAt s k (p + 1) (16 * n + d)
      | none => .error 42 p
    else .error 3 s.length
/-- What an escape of one letter says. -/
def shortOf (c : Nat) : Option Nat :=
  if c = 34 then some 34 else if c = 92 then some 92 else if c = 47 then some 47 else if c = 98 then some 8
  else if c = 102 then some 12 else if c = 110 then some 10 else if c = 114 then some 13 else if c = 116 then some 9 else none
/-- The second half, whose \ must stand at a place; the first one's \ stands at p0. -/
def halfAt (s : By) (p0 n p : Nat) : Out Nat :=
  if p < s.length then
    if bt s p = 92 then
      if p + 1 < s.length then
        if bt s (p + 1) = 117 then
          match fourAt s 4 (p + 2) 0 with
          | .error e q => .error e q
          | .ok m q => if 56320 ≤ m ∧ m < 57344 then .ok (65536 + 1024 * (n - 55296) + (m - 56320)) q else .error 43 p0
        else .error 43 p0
      else .error 3 s.length
    else .error 43 p0
  else .error 3 s.length
def uniAt (s : By) (p : Nat) : Out Nat :=
  match fourAt s 4 (p + 2) 0 with
  | .error e q => .error e q
  | .ok n q => if n < 55296 ∨ 57344 ≤ n then .ok n q else if 56320 ≤ n then .error 43 p else halfAt s p n q
/-- The escape whose \ stands at a place: the character's number. -/
def escAt (s : By) (p : Nat) : Out Nat :=
  if p + 1 < s.length then
    match shortOf (bt s (p + 1)) with
    | some b => .ok b (p + 2)
    | none => if bt s (p + 1) = 117 then uniAt s p else .error 42 (p + 1)
  else .error 3 s.length
/-- A text from a place within it on. -/
def strAt (s : By) : Nat → Nat → By → Out By
  | 0, _, _ => .error 0 0
  | n + 1, p, acc => if p < s.length then
      if bt s p = 34 then .ok acc (p + 1)
      else if bt s p < 32 then .error 41 p
      else if bt s p = 92 then
        match escAt s p with
        | .error e q => .error e q
        | .ok r q => strAt s n q (acc ++ utf r)
      else match chr (s.drop p) with
        | .ok k => strAt s n (p + k) (acc ++ (s.drop p).take k)
        | .error false => .error 43 p
        | .error true => .error 3 s.length
    else .error 3 s.length
/-- A text whose " stands at a place. -/
def textAt (s : By) (p : Nat) : Out By := strAt s (s.length + 1) (p + 1) []
def wordAt (s : By) : Nat → By → Out Unit
  | p, [] => .ok () p
  | p, c :: w => if p < s.length then if bt s p = c then wordAt s (p + 1) w else .error 40 p else .error 3 s.length
def numAt (s : By) (p : Nat) : Out By :=
  if litDone (litRun 0 (s.drop p)).2 = true then .ok ((s.drop p).take (litRun 0 (s.drop p)).1) (p + (litRun 0 (s.drop p)).1)
  else if p + (litRun 0 (s.drop p)).1 < s.length then .error 44 (p + (litRun 0 (s.drop p)).1) else .error 3 s.length
/-- Elements with commas between, up to a closing bracket; the first one's first byte must stand at a place. -/
def seqAt {α : Type} (s : By) (close : Nat) (f : List α → Nat → Out α) : Nat → Nat → List α → Out (List α)
  | 0, _, _ => .error 0 0
  | n + 1, p, acc => match f acc p with
    | .error e q => .error e q
    | .ok a q => if skip s q < s.length then
        if bt s (skip s q) = close then .ok (acc ++ [a]) (skip s q + 1)
        else if bt s (skip s q) = 44 then seqAt s close f n (skip s (skip s q + 1)) (acc ++ [a])
        else .error 40 (skip s q)
      else .error 3 s.length
/-- What stands behind the bracket at a place. -/
def inAt {α : Type} (s : By) (close : Nat) (f : List α → Nat → Out α) (p : Nat) : Out (List α) :=
  if skip s (p + 1) < s.length ∧ bt s (skip s (p + 1)) = close then .ok [] (skip s (p + 1) + 1)
  else seqAt s close f (s.length + 1) (skip s (p + 1)) []
/-- A member's name, up to its value's first byte. -/
def nameAt (s : By) (had : List By) (p : Nat) : Out By :=
  if p < s.length then
    if bt s p = 34 then
      match textAt s p with
      | .error e q => .error e q
      | .ok nm q => if had.contains nm = true then .error 45 p
        else if skip s q < s.length then
          if bt s (skip s q) = 58 then .ok nm (skip s (skip s q + 1)) else .error 40 (skip s q)
        else .error 3 s.length
    else .error 40 p
  else .error 3 s.length
def memAt (s : By) (f : Nat → Out J) (acc : List (By × J)) (p : Nat) : Out (By × J) :=
  match nameAt s (acc.map (·.1)) p with
  | .error e q => .error e q
  | .ok nm q => (f q).map fun v => (nm, v)
/-- A value whose first byte must stand at a place; sub reads what stands one deeper. -/
def vStep (s : By) (sub : Option (Nat → Out J)) (p : Nat) : Out J :=
  if p < s.length then
    if bt s p = 110 then (wordAt s p [110, 117, 108, 108]).map fun _ => .mk 0 [] [] []
    else if bt s p = 102 then (wordAt s p [102, 97, 108, 115, 101]).map fun _ => .mk 1 [] [] []
    else if bt s p = 116 then (wordAt s p [116, 114, 117, 101]).map fun _ => .mk 2 [] [] []
    else if bt s p = 45 ∨ isDigit (bt s p) = true then (numAt s p).map fun t => .mk 3 t [] []
    else if bt s p = 34 then (textAt s p).map fun t => .mk 4 t [] []
    else if bt s p = 91 ∨ bt s p = 123 then
      match sub with
      | none => .error 46 p
      | some f => if bt s p = 91 then (inAt s 93 (fun _ => f) p).map fun l => .mk 5 [] [] l
        else (inAt s 125 (memAt s f) p).map fun l => .mk 6 [] (l.map (·.1)) (l.map (·.2))
    else .error 40 p
  else .error 3 s.length
def vAt (s : By) : Nat → Nat → Out J
  | 0 => vStep s none
  | d + 1 => vStep s (some (vAt s d))
def parse (s : By) : J × Nat × Nat :=
  if 16384 < s.length then (J.zero, 1, 0)
  else match vAt s 32 (skip s 0) with
    | .error e q => (J.zero, e, q)
    | .ok v q => if skip s q < s.length then (J.zero, 4, skip s q) else (v, 0, 0)
end Go.Proofs.YtlebockgdonceaaGreatDoor
namespace Go.Proofs.YtlebockgdonceaaGreatDoor

/-- t has the first Q bytes of s, and goes on (if it does) as s does, or with a byte 0. -/
structure Near (s t : By) (Q : Nat) : Prop where
  sl : Q ≤ s.length
  tl : Q ≤ t.length
  eq : ∀ i, i < Q → bt t i = bt s i
  next : Q < t.length → bt t Q = 0 ∨ (Q < s.length ∧ bt t Q = bt s Q)

theorem bt_take {s : By} {q i : Nat} (h : i < q) : bt (s.take q) i = bt s i := by
  unfold bt; simp [List.getD, h]
theorem near_take {s : By} {Q : Nat} (h : Q ≤ s.length) : Near s (s.take Q) Q :=
  ⟨h, by rw [List.length_take]; omega, fun i hi => bt_take hi, fun h2 => by rw [List.length_take] at h2; omega⟩
theorem near_zero (s : By) : Near s (s ++ [0]) s.length :=
  ⟨Nat.le_refl _, by simp, fun i hi => by unfold bt; simp [List.getD, List.getElem?_append_left hi], fun _ => .inl (by unfold bt; simp [List.getD])⟩
theorem Near.down {s t : By} {Q q : Nat} (h : Near s t Q) (hq : q ≤ Q) : Near s t q := by
  have h1 := h.sl
  have h2 := h.tl
  refine ⟨by omega, by omega, fun i hi => h.eq i (by omega), fun hlt => ?_⟩
  by_cases e : q = Q
  · subst e; exact h.next hlt
  · exact .inr ⟨by omega, h.eq q (by omega)⟩

theorem bt_end {s : By} {p : Nat} (h : s.length ≤ p) : bt s p = 0 := by unfold bt; simp [List.getD, List.getElem?_eq_none h]
theorem skip_spec (s : By) (p : Nat) : (∀ i, p ≤ i → i < skip s p → i < s.length ∧ isBlank (bt s i) = true) ∧ isBlank (bt s (skip s p)) = false := by
  suffices H : ∀ n p, s.length ≤ p + n → (∀ i, p ≤ i → i < skip s p → i < s.length ∧ isBlank (bt s i) = true) ∧ isBlank (bt s (skip s p)) = false from H s.length p (by omega)
  intro n
  induction n with
  | zero =>
    intro p h
    rw [skip_end (by omega), bt_end (by omega)]
    exact ⟨fun i h1 h2 => by omega, rfl⟩
  | succ n ih =>
    intro p h
    by_cases hp : p < s.length
    · cases hb : isBlank (bt s p) with
      | true =>
        rw [skip_step hp hb]
        obtain ⟨h1, h2⟩ := ih (p + 1) (by omega)
        refine ⟨fun i hi hlt => ?_, h2⟩
        by_cases e : i = p
        · subst e; exact ⟨hp, hb⟩
        · exact h1 i (by omega) hlt
      | false => rw [skip_stop hb]; exact ⟨fun i h1 h2 => by omega, hb⟩
    · rw [skip_end (by omega), bt_end (by omega)]
      exact ⟨fun i h1 h2 => by omega, rfl⟩
theorem skip_of {s : By} {p q : Nat} (hpq : p ≤ q) (h1 : ∀ i, p ≤ i → i < q → i < s.length ∧ isBlank (bt s i) = true) (h2 : isBlank (bt s q) = false) : skip s p = q := by
  suffices H : ∀ n p, q = p + n → (∀ i, p ≤ i → i < q → i < s.length ∧ isBlank (bt s i) = true) → skip s p = q from H (q - p) p (by omega) h1
  intro n
  induction n with
  | zero => intro p h _; have : q = p := by omega
            subst this; exact skip_stop h2
  | succ n ih =>
    intro p h hb
    obtain ⟨a, b⟩ := hb p (by omega) (by omega)
    rw [skip_step a b]
    exact ih (p + 1) (by omega) (fun i hi hlt => hb i (by omega) hlt)
theorem isBlank_zero : isBlank 0 = false := rfl
theorem Near.skip {s t : By} {Q p : Nat} (h : Near s t Q) (hq : skip s p ≤ Q) : Go.Proofs.YtlebockgdonceaaGreatDoor.skip t p = Go.Proofs.YtlebockgdonceaaGreatDoor.skip s p := by
  obtain ⟨h1, h2⟩ := skip_spec s p
  have hge := skip_ge s p
  have h3 := h.tl
  refine skip_of hge (fun i hi hlt => ⟨by omega, by rw [h.eq i (by omega)]; exact (h1 i hi hlt).2⟩) ?_
  by_cases e : Go.Proofs.YtlebockgdonceaaGreatDoor.skip s p < Q
  · rw [h.eq _ e]; exact h2
  · have e' : Go.Proofs.YtlebockgdonceaaGreatDoor.skip s p = Q := by omega
    rw [e'] at h2 ⊢
    by_cases hl : Q < t.length
    · rcases h.next hl with h5 | ⟨_, h5⟩
      · rw [h5]; rfl
      · rw [h5]; exact h2
    · rw [bt_end (by omega)]; rfl
theorem skip_end_take {s : By} {p q : Nat} (hp : p ≤ q) (hq : q ≤ skip s p) (hl : q ≤ s.length) : skip (s.take q) p = q := by
  obtain ⟨h1, _⟩ := skip_spec s p
  refine skip_of hp (fun i hi hlt => ⟨by rw [List.length_take]; omega, by rw [bt_take hlt]; exact (h1 i hi (by omega)).2⟩) ?_
  rw [bt_end (by rw [List.length_take]; omega)]; rfl

theorem Near.take {s t : By} {Q : Nat} (h : Near s t Q) (p k : Nat) (hk : p + k ≤ Q) : (t.drop p).take k = (s.drop p).take k := by
  have h1 := h.sl
  have h2 := h.tl
  apply List.ext_getElem?
  intro i
  rw [List.getElem?_take, List.getElem?_take]
  by_cases hi : i < k
  · rw [if_pos hi, if_pos hi, List.getElem?_drop, List.getElem?_drop]
    have := h.eq (p + i) (by omega)
    unfold bt at this
    rw [List.getElem?_eq_getElem (by omega), List.getElem?_eq_getElem (by omega)]
    simpa [List.getD, List.getElem?_eq_getElem (show p + i < s.length by omega), List.getElem?_eq_getElem (show p + i < t.length by omega)] using this
  · rw [if_neg hi, if_neg hi]

/- numbers -/
theorem litStep_zero (st : Nat) : litStep st 0 = none := by unfold litStep isDigit; simp
theorem litRun_le (l : By) : ∀ st, (litRun st l).1 ≤ l.length := by
  induction l with
  | nil => intro st; simp [litRun]
  | cons c l ih =>
    intro st
    unfold litRun
    cases litStep st c with
    | none => simp
    | some st' => have := ih st'; simp; omega
theorem litRun_stop (l : By) : ∀ st, (litRun st l).1 < l.length → litStep (litRun st l).2 (l.getD (litRun st l).1 0) = none := by
  induction l with
  | nil => intro st h; simp at h
  | cons c l ih =>
    intro st h
    unfold litRun at h ⊢
    cases e : litStep st c with
    | none => simpa [List.getD] using e
    | some st' =>
      rw [e] at h
      have := ih st' (by simpa using h)
      simpa [List.getD] using this
theorem litRun_none {st c : Nat} {l : By} (h : litStep st c = none) : litRun st (c :: l) = (0, st) := by simp [litRun, h]
theorem litRun_some {st st' c : Nat} {l : By} (h : litStep st c = some st') : litRun st (c :: l) = ((litRun st' l).1 + 1, (litRun st' l).2) := by simp [litRun, h]
theorem litRun_same (l : By) : ∀ st (l' : By), l'.take (litRun st l).1 = l.take (litRun st l).1 → ((litRun st l).1 < l'.length → litStep (litRun st l).2 (l'.getD (litRun st l).1 0) = none) → (litRun st l).1 ≤ l'.length → litRun st l' = litRun st l := by
  induction l with
  | nil =>
    intro st l' _ h2 _
    cases l' with
    | nil => rfl
    | cons c l' =>
      have := h2 (by simp [litRun])
      simp only [litRun, List.getD, List.getElem?_cons_zero, Option.getD_some] at this
      rw [litRun_none this]; rfl
  | cons c l ih =>
    intro st l' h1 h2 h3
    cases e : litStep st c with
    | none =>
      rw [litRun_none e] at h1 h2 h3 ⊢
      cases l' with
      | nil => rfl
      | cons c' l' =>
        have := h2 (by simp)
        simp only [List.getD, List.getElem?_cons_zero, Option.getD_some] at this
        rw [litRun_none this]
    | some st' =>
      rw [litRun_some e] at h1 h2 h3 ⊢
      cases l' with
      | nil => simp at h3
      | cons c' l' =>
        simp only [List.take_succ_cons, List.cons.injEq] at h1
        obtain ⟨rfl, h1⟩ := h1
        simp only [List.length_cons, Nat.add_lt_add_iff_right, List.getD, List.getElem?_cons_succ, Nat.add_le_add_iff_right] at h2 h3
        have := ih st' l' h1 (by simpa [List.getD] using h2) h3
        rw [litRun_some e, this]

theorem Near.litRun {s t : By} {Q p : Nat} (h : Near s t Q) (hq : p + (Go.Proofs.YtlebockgdonceaaGreatDoor.litRun 0 (s.drop p)).1 ≤ Q) : Go.Proofs.YtlebockgdonceaaGreatDoor.litRun 0 (t.drop p) = Go.Proofs.YtlebockgdonceaaGreatDoor.litRun 0 (s.drop p) := by
  have h1 := h.sl
  have h2 := h.tl
  refine litRun_same _ 0 _ (h.take p _ hq) (fun hlt => ?_) (by rw [List.length_drop]; omega)
  rw [List.length_drop] at hlt
  have hg : ∀ u : By, ∀ k, (u.drop p).getD k 0 = bt u (p + k) := fun u k => by unfold bt; simp [List.getD, List.getElem?_drop]
  rw [hg]
  have hst := litRun_stop (s.drop p) 0
  rw [hg, List.length_drop] at hst
  rcases Nat.lt_or_ge (p + (Go.Proofs.YtlebockgdonceaaGreatDoor.litRun 0 (s.drop p)).1) Q with e | e
  · rw [h.eq _ e]; exact hst (by omega)
  · have e' : p + (Go.Proofs.YtlebockgdonceaaGreatDoor.litRun 0 (s.drop p)).1 = Q := by omega
    rw [e'] at hst ⊢
    rcases h.next (by omega) with h5 | ⟨h6, h5⟩
    · rw [h5]; exact litStep_zero _
    · rw [h5]; exact hst (by omega)
theorem numAt_ok {s t : By} {Q p q : Nat} {a : By} (h : Near s t Q) (hq : q ≤ Q) (ho : numAt s p = .ok a q) : numAt t p = .ok a q := by
  unfold numAt at ho
  split at ho
  · rename_i hd
    injection ho with h1 h2
    have e := h.litRun (p := p) (by omega)
    unfold numAt
    rw [e, if_pos hd, ← h1, ← h2, h.take p _ (by omega)]
  · split at ho <;> cases ho
theorem numAt_bounds {s : By} {p q : Nat} {a : By} (hp : p ≤ s.length) (ho : numAt s p = .ok a q) : p ≤ q ∧ q ≤ s.length := by
  have hl := litRun_le (s.drop p) 0
  rw [List.length_drop] at hl
  unfold numAt at ho
  split at ho
  · injection ho with h1 h2; omega
  · split at ho <;> cases ho
theorem numAt_bad {s : By} {p q e : Nat} (hp : p ≤ s.length) (ho : numAt s p = .error e q) : p ≤ q ∧ q ≤ s.length ∧ (e = 3 → q = s.length) ∧ e ≠ 0 ∧ numAt (s.take q) p = .error 3 q := by
  have hl := litRun_le (s.drop p) 0
  rw [List.length_drop] at hl
  unfold numAt at ho
  split at ho
  · cases ho
  · rename_i hd
    split at ho
    · rename_i hlt
      injection ho with h1 h2
      subst h1; subst h2
      have hle : p + (litRun 0 (s.drop p)).1 ≤ s.length := by omega
      refine ⟨by omega, by omega, by omega, by omega, ?_⟩
      have e := (near_take hle).litRun (p := p) (Nat.le_refl _)
      unfold numAt
      rw [e, if_neg hd, if_neg (by rw [List.length_take]; omega), List.length_take, Nat.min_eq_left hle]
    · rename_i hlt
      injection ho with h1 h2
      subst h1; subst h2
      refine ⟨by omega, by omega, by omega, by omega, ?_⟩
      rw [List.take_of_length_le (Nat.le_refl _)]
      unfold numAt
      rw [if_neg hd, if_neg hlt]

/- words -/
theorem wordAt_ok {s t : By} {Q : Nat} (h : Near s t Q) : ∀ (w : By) (p q : Nat), wordAt s p w = .ok () q → q ≤ Q → wordAt t p w = .ok () q ∧ q = p + w.length
  | [], p, q, ho, _ => by unfold wordAt at ho ⊢; injection ho with _ h2; exact ⟨by rw [h2], by simpa using h2.symm⟩
  | c :: w, p, q, ho, hq => by
    unfold wordAt at ho
    split at ho
    · split at ho
      · rename_i hl he
        obtain ⟨h1, h2⟩ := wordAt_ok h w (p + 1) q ho hq
        have h3 := h.tl
        refine ⟨?_, by simp; omega⟩
        unfold wordAt
        rw [if_pos (by omega), if_pos (by rw [h.eq p (by omega)]; exact he)]
        exact h1
      · cases ho
    · cases ho
theorem wordAt_bounds {s : By} : ∀ (w : By) (p q : Nat), p ≤ s.length → wordAt s p w = .ok () q → q = p + w.length ∧ q ≤ s.length
  | [], p, q, hp, ho => by unfold wordAt at ho; injection ho with _ h2; subst h2; exact ⟨by simp, hp⟩
  | c :: w, p, q, hp, ho => by
    unfold wordAt at ho
    split at ho
    · split at ho
      · have := wordAt_bounds w (p + 1) q (by omega) ho
        simp; omega
      · cases ho
    · cases ho
theorem wordAt_bad {s : By} : ∀ (w : By) (p q e : Nat), p ≤ s.length → wordAt s p w = .error e q → p ≤ q ∧ q ≤ s.length ∧ (e = 3 → q = s.length) ∧ e ≠ 0 ∧ wordAt (s.take q) p w = .error 3 q
  | [], p, q, e, _, ho => by unfold wordAt at ho; cases ho
  | c :: w, p, q, e, hp, ho => by
    unfold wordAt at ho
    split at ho
    · rename_i hl
      split at ho
      · rename_i he
        obtain ⟨h1, h2, h3, h4, h5⟩ := wordAt_bad w (p + 1) q e (by omega) ho
        refine ⟨by omega, h2, h3, h4, ?_⟩
        unfold wordAt
        rw [if_pos (by rw [List.length_take]; omega), if_pos (by rw [bt_take (by omega)]; exact he)]
        exact h5
      · injection ho with h1 h2
        subst h1; subst h2
        refine ⟨Nat.le_refl _, by omega, by omega, by omega, ?_⟩
        unfold wordAt
        rw [if_neg (by rw [List.length_take]; omega), List.length_take, Nat.min_eq_left (by omega)]
    · rename_i hl
      injection ho with h1 h2
      subst h1; subst h2
      refine ⟨by omega, by omega, by omega, by omega, ?_⟩
      rw [List.take_of_length_le (Nat.le_refl _)]
      unfold wordAt
      rw [if_neg hl]

/- four digits -/
theorem fourAt_ok {s t : By} {Q : Nat} (h : Near s t Q) : ∀ (k p n m q : Nat), fourAt s k p n = .ok m q → q ≤ Q → fourAt t k p n = .ok m q ∧ q = p + k
  | 0, p, n, m, q, ho, _ => by unfold fourAt at ho ⊢; injection ho with h1 h2; exact ⟨by rw [h1, h2], by omega⟩
  | k + 1, p, n, m, q, ho, hq => by
    unfold fourAt at ho
    split at ho
    · split at ho
      · rename_i hl d hd
        obtain ⟨h1, h2⟩ := fourAt_ok h k (p + 1) _ m q ho hq
        have h3 := h.tl
        refine ⟨?_, by omega⟩
        unfold fourAt
        rw [if_pos (by omega), h.eq p (by omega), hd]
        exact h1
      · cases ho
    · cases ho
theorem fourAt_bounds {s : By} : ∀ (k p n m q : Nat), p ≤ s.length → fourAt s k p n = .ok m q → q = p + k ∧ q ≤ s.length
  | 0, p, n, m, q, hp, ho => by unfold fourAt at ho; injection ho with h1 h2; omega
  | k + 1, p, n, m, q, hp, ho => by
    unfold fourAt at ho
    split at ho
    · split at ho
      · have := fourAt_bounds k (p + 1) _ m q (by omega) ho
        omega
      · cases ho
    · cases ho
theorem fourAt_bad {s : By} : ∀ (k p n q e : Nat), p ≤ s.length → fourAt s k p n = .error e q → p ≤ q ∧ q ≤ s.length ∧ (e = 3 → q = s.length) ∧ e ≠ 0 ∧ fourAt (s.take q) k p n = .error 3 q
  | 0, p, n, q, e, _, ho => by unfold fourAt at ho; cases ho
  | k + 1, p, n, q, e, hp, ho => by
    unfold fourAt at ho
    split at ho
    · rename_i hl
      split at ho
      · rename_i d hd
        obtain ⟨h1, h2, h3, h4, h5⟩ := fourAt_bad k (p + 1) _ q e (by omega) ho
        refine ⟨by omega, h2, h3, h4, ?_⟩
        unfold fourAt
        rw [if_pos (by rw [List.length_take]; omega), bt_take (by omega), hd]
        exact h5
      · injection ho with h1 h2
        subst h1; subst h2
        refine ⟨Nat.le_refl _, by omega, by omega, by omega, ?_⟩
        unfold fourAt
        rw [if_neg (by rw [List.length_take]; omega), List.length_take, Nat.min_eq_left (by omega)]
    · rename_i hl
      injection ho with h1 h2
      subst h1; subst h2
      refine ⟨by omega, by omega, by omega, by omega, ?_⟩
      rw [List.take_of_length_le (Nat.le_refl _)]
      unfold fourAt
      rw [if_neg hl]
end Go.Proofs.YtlebockgdonceaaGreatDoor
namespace Go.Proofs.YtlebockgdonceaaGreatDoor

theorem conts_ok (m : Nat) : ∀ (n lo hi : Nat) (l : By) (k : Nat), conts m n lo hi l = .ok k → k = m ∧ n ≤ l.length ∧ ∀ r, conts m n lo hi (l.take n ++ r) = .ok m
  | 0, lo, hi, l, k, h => by unfold conts at h; injection h with h; exact ⟨h.symm, by omega, fun r => by unfold conts; rfl⟩
  | n + 1, lo, hi, [], k, h => by unfold conts at h; cases h
  | n + 1, lo, hi, x :: l, k, h => by
    unfold conts at h
    split at h
    · rename_i hx
      obtain ⟨h1, h2, h3⟩ := conts_ok m n 128 191 l k h
      refine ⟨h1, by simp; omega, fun r => ?_⟩
      rw [List.take_succ_cons, List.cons_append]
      unfold conts
      rw [if_pos hx]
      exact h3 r
    · cases h
theorem chr_ok {l : By} {k : Nat} (h : chr l = .ok k) : 1 ≤ k ∧ k ≤ 4 ∧ k ≤ l.length ∧ ∀ r, chr (l.take k ++ r) = .ok k := by
  cases l with
  | nil => cases h
  | cons c l =>
    simp only [chr] at h
    have hb : (lead c).1 ≤ 4 := by unfold lead; (repeat' split) <;> decide
    cases e : (lead c).1 with
    | zero => rw [e] at h; cases h
    | succ n =>
      rw [e] at h
      obtain ⟨rfl, h2, h3⟩ := conts_ok _ _ _ _ _ _ h
      refine ⟨by omega, by omega, by simp; omega, fun r => ?_⟩
      rw [List.take_succ_cons, List.cons_append]
      simp only [chr, e]
      exact h3 r
theorem Near.chr {s t : By} {Q p k : Nat} (h : Near s t Q) (hk : Go.Proofs.YtlebockgdonceaaGreatDoor.chr (s.drop p) = .ok k) (hq : p + k ≤ Q) : Go.Proofs.YtlebockgdonceaaGreatDoor.chr (t.drop p) = .ok k := by
  have := (chr_ok hk).2.2.2 ((t.drop p).drop k)
  rw [← h.take p k hq, List.take_append_drop] at this
  exact this

theorem halfAt_ok {s t : By} {Q p0 n p m q : Nat} (h : Near s t Q) (ho : halfAt s p0 n p = .ok m q) (hq : q ≤ Q) : halfAt t p0 n p = .ok m q ∧ q = p + 6 := by
  have h3 := h.tl
  unfold halfAt at ho
  split at ho
  · split at ho
    · split at ho
      · split at ho
        · rename_i a b c d
          cases e : fourAt s 4 (p + 2) 0 with
          | error _ _ => rw [e] at ho; cases ho
          | ok m' q' =>
            rw [e] at ho
            simp only at ho
            split at ho
            · rename_i hm
              injection ho with o1 o2
              subst o2
              obtain ⟨f1, f2⟩ := fourAt_ok h 4 (p + 2) 0 m' q' e hq
              refine ⟨?_, by omega⟩
              unfold halfAt
              rw [if_pos (by omega), h.eq p (by omega), if_pos b, if_pos (by omega), h.eq (p + 1) (by omega), if_pos d, f1]
              simp only
              rw [if_pos hm, o1]
            · cases ho
        · cases ho
      · cases ho
    · cases ho
  · cases ho
theorem halfAt_bad {s : By} {p0 n p q e : Nat} (h0 : p0 ≤ p) (hp : p ≤ s.length) (ho : halfAt s p0 n p = .error e q) : p0 ≤ q ∧ q ≤ s.length ∧ (e = 3 → q = s.length) ∧ e ≠ 0 ∧ (q = p0 ∨ (p ≤ q ∧ halfAt (s.take q) p0 n p = .error 3 q)) := by
  unfold halfAt at ho
  split at ho
  · split at ho
    · split at ho
      · split at ho
        · rename_i a b c d
          cases e' : fourAt s 4 (p + 2) 0 with
          | error e2 q2 =>
            rw [e'] at ho
            injection ho with o1 o2
            subst o1; subst o2
            obtain ⟨f1, f2, f3, f4, f5⟩ := fourAt_bad 4 (p + 2) 0 q2 e2 (by omega) e'
            refine ⟨by omega, f2, f3, f4, .inr ⟨by omega, ?_⟩⟩
            unfold halfAt
            rw [if_pos (by rw [List.length_take]; omega), bt_take (by omega), if_pos b, if_pos (by rw [List.length_take]; omega), bt_take (by omega), if_pos d, f5]
          | ok m' q' =>
            rw [e'] at ho
            simp only at ho
            split at ho
            · cases ho
            · injection ho with o1 o2
              exact ⟨by omega, by omega, by omega, by omega, .inl (by omega)⟩
        · injection ho with o1 o2
          exact ⟨by omega, by omega, by omega, by omega, .inl (by omega)⟩
      · rename_i a b c
        injection ho with o1 o2
        subst o1; subst o2
        refine ⟨by omega, by omega, by omega, by omega, .inr ⟨by omega, ?_⟩⟩
        rw [List.take_of_length_le (Nat.le_refl _)]
        unfold halfAt
        rw [if_pos a, if_pos b, if_neg c]
    · injection ho with o1 o2
      exact ⟨by omega, by omega, by omega, by omega, .inl (by omega)⟩
  · rename_i a
    injection ho with o1 o2
    subst o1; subst o2
    refine ⟨by omega, by omega, by omega, by omega, .inr ⟨by omega, ?_⟩⟩
    rw [List.take_of_length_le (Nat.le_refl _)]
    unfold halfAt
    rw [if_neg a]
theorem uniAt_ok {s t : By} {Q p m q : Nat} (h : Near s t Q) (hp : p + 2 ≤ s.length) (ho : uniAt s p = .ok m q) (hq : q ≤ Q) : uniAt t p = .ok m q ∧ p + 2 ≤ q := by
  unfold uniAt at ho
  cases e : fourAt s 4 (p + 2) 0 with
  | error _ _ => rw [e] at ho; cases ho
  | ok n q' =>
    rw [e] at ho
    simp only at ho
    have hb := fourAt_bounds 4 (p + 2) 0 n q' hp e
    split at ho
    · rename_i hn
      injection ho with o1 o2
      subst o2
      obtain ⟨f1, f2⟩ := fourAt_ok h 4 (p + 2) 0 n q' e hq
      refine ⟨?_, by omega⟩
      unfold uniAt
      rw [f1]
      simp only
      rw [if_pos hn, o1]
    · split at ho
      · cases ho
      · rename_i hn hn2
        obtain ⟨g1, g2⟩ := halfAt_ok h ho hq
        obtain ⟨f1, f2⟩ := fourAt_ok h 4 (p + 2) 0 n q' e (by omega)
        refine ⟨?_, by omega⟩
        unfold uniAt
        rw [f1]
        simp only
        rw [if_neg hn, if_neg hn2]
        exact g1
theorem uniAt_bad {s : By} {p q e : Nat} (hp : p + 2 ≤ s.length) (ho : uniAt s p = .error e q) : p ≤ q ∧ q ≤ s.length ∧ (e = 3 → q = s.length) ∧ e ≠ 0 ∧ (q = p ∨ (p + 2 ≤ q ∧ uniAt (s.take q) p = .error 3 q)) := by
  unfold uniAt at ho
  cases e' : fourAt s 4 (p + 2) 0 with
  | error e2 q2 =>
    rw [e'] at ho
    injection ho with o1 o2
    subst o1; subst o2
    obtain ⟨f1, f2, f3, f4, f5⟩ := fourAt_bad 4 (p + 2) 0 q2 e2 (by omega) e'
    refine ⟨by omega, f2, f3, f4, .inr ⟨by omega, ?_⟩⟩
    unfold uniAt
    rw [f5]
  | ok n q' =>
    rw [e'] at ho
    simp only at ho
    have hb := fourAt_bounds 4 (p + 2) 0 n q' hp e'
    split at ho
    · cases ho
    · split at ho
      · injection ho with o1 o2
        exact ⟨by omega, by omega, by omega, by omega, .inl (by omega)⟩
      · rename_i hn hn2
        obtain ⟨g1, g2, g3, g4, g5⟩ := halfAt_bad (by omega) (by omega) ho
        refine ⟨g1, g2, g3, g4, ?_⟩
        rcases g5 with g5 | ⟨g6, g5⟩
        · exact .inl g5
        · obtain ⟨f1, f2⟩ := fourAt_ok (near_take g2) 4 (p + 2) 0 n q' e' g6
          refine .inr ⟨by omega, ?_⟩
          unfold uniAt
          rw [f1]
          simp only
          rw [if_neg hn, if_neg hn2]
          exact g5
theorem escAt_ok {s t : By} {Q p m q : Nat} (h : Near s t Q) (ho : escAt s p = .ok m q) (hq : q ≤ Q) : escAt t p = .ok m q ∧ p + 2 ≤ q := by
  have h3 := h.tl
  unfold escAt at ho
  split at ho
  · rename_i hl
    split at ho
    · rename_i b hb
      injection ho with o1 o2
      subst o2
      refine ⟨?_, by omega⟩
      unfold escAt
      rw [if_pos (by omega), h.eq (p + 1) (by omega), hb]
      simp only
      rw [o1]
    · rename_i hb
      split at ho
      · rename_i hu
        obtain ⟨u1, u2⟩ := uniAt_ok h (by omega) ho hq
        refine ⟨?_, u2⟩
        unfold escAt
        rw [if_pos (by omega), h.eq (p + 1) (by omega), hb]
        simp only
        rw [if_pos hu]
        exact u1
      · cases ho
  · cases ho
theorem escAt_bounds {s : By} {p m q : Nat} (ho : escAt s p = .ok m q) : p + 2 ≤ q ∧ q ≤ s.length := by
  have hn : Near s s s.length := ⟨Nat.le_refl _, Nat.le_refl _, fun _ _ => rfl, fun h => by omega⟩
  unfold escAt at ho
  split at ho
  · rename_i hl
    split at ho
    · injection ho with o1 o2; omega
    · split at ho
      · unfold uniAt at ho
        cases e : fourAt s 4 (p + 2) 0 with
        | error _ _ => rw [e] at ho; cases ho
        | ok n q' =>
          rw [e] at ho
          simp only at ho
          have hb := fourAt_bounds 4 (p + 2) 0 n q' (by omega) e
          split at ho
          · injection ho with o1 o2; omega
          · split at ho
            · cases ho
            · unfold halfAt at ho
              split at ho
              · split at ho
                · split at ho
                  · split at ho
                    · cases e2 : fourAt s 4 (q' + 2) 0 with
                      | error _ _ => rw [e2] at ho; cases ho
                      | ok m2 q2 =>
                        rw [e2] at ho
                        simp only at ho
                        have hb2 := fourAt_bounds 4 (q' + 2) 0 m2 q2 (by omega) e2
                        split at ho
                        · injection ho with o1 o2; omega
                        · cases ho
                    · cases ho
                  · cases ho
                · cases ho
              · cases ho
      · cases ho
  · cases ho
theorem escAt_bad {s : By} {p q e : Nat} (hp : p < s.length) (ho : escAt s p = .error e q) : p ≤ q ∧ q ≤ s.length ∧ (e = 3 → q = s.length) ∧ e ≠ 0 ∧ (q = p ∨ (p + 1 ≤ q ∧ escAt (s.take q) p = .error 3 q)) := by
  unfold escAt at ho
  split at ho
  · rename_i hl
    split at ho
    · cases ho
    · rename_i hb
      split at ho
      · rename_i hu
        obtain ⟨u1, u2, u3, u4, u5⟩ := uniAt_bad (by omega) ho
        refine ⟨u1, u2, u3, u4, ?_⟩
        rcases u5 with u5 | ⟨u6, u5⟩
        · exact .inl u5
        · refine .inr ⟨by omega, ?_⟩
          unfold escAt
          rw [if_pos (by rw [List.length_take]; omega), bt_take (by omega), hb]
          simp only
          rw [if_pos hu]
          exact u5
      · injection ho with o1 o2
        subst o1; subst o2
        refine ⟨by omega, by omega, by omega, by omega, .inr ⟨by omega, ?_⟩⟩
        unfold escAt
        rw [if_neg (by rw [List.length_take]; omega), List.length_take, Nat.min_eq_left (by omega)]
  · rename_i hl
    injection ho with o1 o2
    subst o1; subst o2
    refine ⟨by omega, by omega, by omega, by omega, .inr ⟨by omega, ?_⟩⟩
    rw [List.take_of_length_le (Nat.le_refl _)]
    unfold escAt
    rw [if_neg hl]

theorem strAt_ok {s t : By} {Q : Nat} (h : Near s t Q) : ∀ (n m p : Nat) (acc a : By) (q : Nat), strAt s n p acc = .ok a q → q ≤ Q → Q < p + m → strAt t m p acc = .ok a q ∧ p < q ∧ q ≤ s.length
  | 0, m, p, acc, a, q, ho, _, _ => by unfold strAt at ho; cases ho
  | n + 1, m, p, acc, a, q, ho, hq, hm => by
    have h3 := h.tl
    have h4 := h.sl
    unfold strAt at ho
    split at ho
    · rename_i hp
      split at ho
      · rename_i hc
        injection ho with o1 o2
        subst o1; subst o2
        obtain ⟨m, rfl⟩ : ∃ k, m = k + 1 := ⟨m - 1, by omega⟩
        refine ⟨?_, by omega, by omega⟩
        unfold strAt
        rw [if_pos (by omega), h.eq p (by omega), if_pos hc]
      · rename_i hc
        split at ho
        · cases ho
        · rename_i hc2
          split at ho
          · rename_i hc3
            cases e : escAt s p with
            | error _ _ => rw [e] at ho; cases ho
            | ok r q2 =>
              rw [e] at ho
              simp only at ho
              have hb := escAt_bounds e
              obtain ⟨m, rfl⟩ : ∃ k, m = k + 1 := by
                rcases m with _ | m
                · have := strAt_ok h n (Q + 1) q2 _ a q ho hq (by omega); omega
                · exact ⟨m, rfl⟩
              obtain ⟨i1, i2, i3⟩ := strAt_ok h n m q2 _ a q ho hq (by omega)
              obtain ⟨e1, _⟩ := escAt_ok h e (by omega)
              refine ⟨?_, by omega, i3⟩
              unfold strAt
              rw [if_pos (by omega), h.eq p (by omega), if_neg hc, if_neg hc2, if_pos hc3, e1]
              exact i1
          · rename_i hc3
            cases e : chr (s.drop p) with
            | error bb => cases bb with
              | false => rw [e] at ho; cases ho
              | true => rw [e] at ho; cases ho
            | ok k =>
              rw [e] at ho
              simp only at ho
              have hk := chr_ok e
              obtain ⟨m, rfl⟩ : ∃ k, m = k + 1 := by
                rcases m with _ | m
                · have := strAt_ok h n (Q + 1) (p + k) _ a q ho hq (by omega); omega
                · exact ⟨m, rfl⟩
              obtain ⟨i1, i2, i3⟩ := strAt_ok h n m (p + k) _ a q ho hq (by omega)
              refine ⟨?_, by omega, i3⟩
              unfold strAt
              rw [if_pos (by omega), h.eq p (by omega), if_neg hc, if_neg hc2, if_neg hc3, h.chr e (by omega)]
              simp only
              rw [h.take p k (by omega)]
              exact i1
    · cases ho
theorem strAt_bad {s : By} : ∀ (n m p : Nat) (acc : By) (e q : Nat), p ≤ s.length → s.length < p + n → strAt s n p acc = .error e q → p ≤ q ∧ q ≤ s.length ∧ (e = 3 → q = s.length) ∧ e ≠ 0 ∧ (q < p + m → strAt (s.take q) m p acc = .error 3 q)
  | 0, m, p, acc, e, q, h1, h2, ho => by omega
  | n + 1, m, p, acc, e, q, h1, h2, ho => by
    have hend : ∀ m, p ≤ s.length → p < p + m → strAt (s.take p) m p acc = .error 3 p := by
      intro m hp hm
      obtain ⟨m, rfl⟩ : ∃ k, m = k + 1 := ⟨m - 1, by omega⟩
      unfold strAt
      rw [if_neg (by rw [List.length_take]; omega), List.length_take, Nat.min_eq_left hp]
    unfold strAt at ho
    split at ho
    · rename_i hp
      split at ho
      · cases ho
      · rename_i hc
        split at ho
        · injection ho with o1 o2
          subst o1; subst o2
          exact ⟨by omega, by omega, by omega, by omega, hend m h1⟩
        · rename_i hc2
          split at ho
          · rename_i hc3
            cases e' : escAt s p with
            | error e2 q2 =>
              rw [e'] at ho
              simp only at ho
              injection ho with o1 o2
              subst o1; subst o2
              obtain ⟨u1, u2, u3, u4, u5⟩ := escAt_bad hp e'
              refine ⟨u1, u2, u3, u4, fun hm => ?_⟩
              rcases u5 with u5 | ⟨u6, u5⟩
              · rw [u5] at hm ⊢; exact hend m h1 hm
              · obtain ⟨m, rfl⟩ : ∃ k, m = k + 1 := ⟨m - 1, by omega⟩
                unfold strAt
                rw [if_pos (by rw [List.length_take]; omega), bt_take (by omega), if_neg hc, if_neg hc2, if_pos hc3, u5]
            | ok r q2 =>
              rw [e'] at ho
              simp only at ho
              have hb := escAt_bounds e'
              obtain ⟨i1, i2, i3, i4, i5⟩ := strAt_bad n (m - 1) q2 _ e q hb.2 (by omega) ho
              refine ⟨by omega, i2, i3, i4, fun hm => ?_⟩
              obtain ⟨m, rfl⟩ : ∃ k, m = k + 1 := ⟨m - 1, by omega⟩
              obtain ⟨e1, _⟩ := escAt_ok (near_take i2) e' (by omega)
              unfold strAt
              rw [if_pos (by rw [List.length_take]; omega), bt_take (by omega), if_neg hc, if_neg hc2, if_pos hc3, e1]
              exact i5 (by omega)
          · rename_i hc3
            cases e' : chr (s.drop p) with
            | error bb => cases bb with
              | false =>
                rw [e'] at ho
                injection ho with o1 o2
                subst o1; subst o2
                exact ⟨by omega, by omega, by omega, by omega, hend m h1⟩
              | true =>
                rw [e'] at ho
                injection ho with o1 o2
                subst o1; subst o2
                refine ⟨by omega, by omega, by omega, by omega, fun hm => ?_⟩
                obtain ⟨m, rfl⟩ : ∃ k, m = k + 1 := ⟨m - 1, by omega⟩
                rw [List.take_of_length_le (Nat.le_refl _)]
                unfold strAt
                rw [if_pos hp, if_neg hc, if_neg hc2, if_neg hc3, e']
            | ok k =>
              rw [e'] at ho
              simp only at ho
              have hk := chr_ok e'
              rw [List.length_drop] at hk
              obtain ⟨i1, i2, i3, i4, i5⟩ := strAt_bad n (m - 1) (p + k) _ e q (by omega) (by omega) ho
              refine ⟨by omega, i2, i3, i4, fun hm => ?_⟩
              obtain ⟨m, rfl⟩ : ∃ k, m = k + 1 := ⟨m - 1, by omega⟩
              unfold strAt
              rw [if_pos (by rw [List.length_take]; omega), bt_take (by omega), if_neg hc, if_neg hc2, if_neg hc3, (near_take i2).chr e' (by omega)]
              simp only
              rw [(near_take i2).take p k (by omega)]
              exact i5 (by omega)
    · rename_i hp
      injection ho with o1 o2
      subst o1; subst o2
      refine ⟨by omega, by omega, by omega, by omega, fun hm => ?_⟩
      have e : p = s.length := by omega
      subst e
      exact hend m h1 hm
theorem textAt_ok {s t : By} {Q p q : Nat} {a : By} (h : Near s t Q) (ho : textAt s p = .ok a q) (hq : q ≤ Q) : textAt t p = .ok a q ∧ p + 1 < q ∧ q ≤ s.length := by
  have h3 := h.tl
  exact strAt_ok (h.down hq) _ _ _ _ _ _ ho (Nat.le_refl _) (by omega)
theorem textAt_bounds {s : By} {p q : Nat} {a : By} (ho : textAt s p = .ok a q) : p + 1 < q ∧ q ≤ s.length := by
  have hn : Near s s s.length := ⟨Nat.le_refl _, Nat.le_refl _, fun _ _ => rfl, fun h => by omega⟩
  have hq : q ≤ s.length := by
    rcases Nat.lt_or_ge s.length q with h | h
    · exfalso
      have H : ∀ (n p : Nat) (acc a : By) (q : Nat), strAt s n p acc = .ok a q → q ≤ s.length := by
        intro n
        induction n with
        | zero => intro p acc a q ho; unfold strAt at ho; cases ho
        | succ n ih =>
          intro p acc a q ho
          unfold strAt at ho
          split at ho
          · split at ho
            · injection ho with o1 o2; omega
            · split at ho
              · cases ho
              · split at ho
                · cases e : escAt s p with
                  | error _ _ => rw [e] at ho; cases ho
                  | ok r q2 => rw [e] at ho; exact ih _ _ _ _ ho
                · cases e : chr (s.drop p) with
                  | error bb => cases bb with
                    | false => rw [e] at ho; cases ho
                    | true => rw [e] at ho; cases ho
                  | ok k => rw [e] at ho; exact ih _ _ _ _ ho
          · cases ho
      have := H _ _ _ _ _ ho
      omega
    · exact h
  have := strAt_ok hn _ (s.length + 1) _ _ _ _ ho hq (by omega)
  omega
theorem textAt_bad {s : By} {p q e : Nat} (hp : p < s.length) (ho : textAt s p = .error e q) : p < q ∧ q ≤ s.length ∧ (e = 3 → q = s.length) ∧ e ≠ 0 ∧ textAt (s.take q) p = .error 3 q := by
  obtain ⟨h1, h2, h3, h4, h5⟩ := strAt_bad _ ((s.take q).length + 1) _ _ _ _ (by omega) (by omega) ho
  exact ⟨by omega, h2, h3, h4, h5 (by rw [List.length_take]; omega)⟩
end Go.Proofs.YtlebockgdonceaaGreatDoor
namespace Go.Proofs.YtlebockgdonceaaGreatDoor

/-- What is read by F hangs on the bytes that are read. -/
structure Local {α : Type} (F : By → List α → Nat → Out α) : Prop where
  ok : ∀ s t Q acc p a q, Near s t Q → p ≤ s.length → F s acc p = .ok a q → q ≤ Q → F t acc p = .ok a q
  bd : ∀ s acc p a q, p ≤ s.length → F s acc p = .ok a q → p < q ∧ q ≤ s.length
  ill : ∀ s acc p e q, p ≤ s.length → F s acc p = .error e q → p ≤ q ∧ q ≤ s.length ∧ (e = 3 → q = s.length) ∧ e ≠ 0 ∧ F (s.take q) acc p = .error 3 q

theorem seqAt_ok {α : Type} {F : By → List α → Nat → Out α} (hF : Local F) {s t : By} {Q c : Nat} (h : Near s t Q) :
    ∀ (n m p : Nat) (acc l : List α) (q : Nat), p ≤ s.length → seqAt s c (F s) n p acc = .ok l q → q ≤ Q → Q < p + m → seqAt t c (F t) m p acc = .ok l q ∧ p < q ∧ q ≤ s.length
  | 0, m, p, acc, l, q, _, ho, _, _ => by unfold seqAt at ho; cases ho
  | n + 1, m, p, acc, l, q, hp, ho, hq, hm => by
    have h3 := h.tl
    have h4 := h.sl
    unfold seqAt at ho
    cases e : F s acc p with
    | error _ _ => rw [e] at ho; cases ho
    | ok a q1 =>
      rw [e] at ho
      simp only at ho
      have hb := hF.bd s acc p a q1 hp e
      have hg := skip_ge s q1
      split at ho
      · rename_i hl
        split at ho
        · rename_i hc
          injection ho with o1 o2
          subst o1; subst o2
          obtain ⟨m, rfl⟩ : ∃ k, m = k + 1 := ⟨m - 1, by omega⟩
          refine ⟨?_, by omega, by omega⟩
          unfold seqAt
          rw [hF.ok s t Q acc p a q1 h hp e (by omega)]
          simp only
          rw [h.skip (by omega), if_pos (by omega), h.eq _ (by omega), if_pos hc]
        · rename_i hc
          split at ho
          · rename_i hk
            have hg2 := skip_ge s (skip s q1 + 1)
            have hle := skip_le (s := s) (p := skip s q1 + 1) (by omega)
            obtain ⟨m, rfl⟩ : ∃ k, m = k + 1 := by
              rcases m with _ | m
              · have := seqAt_ok hF h n (Q + 1) _ _ l q hle ho hq (by omega); omega
              · exact ⟨m, rfl⟩
            obtain ⟨i1, i2, i3⟩ := seqAt_ok hF h n m _ _ l q hle ho hq (by omega)
            refine ⟨?_, by omega, i3⟩
            unfold seqAt
            rw [hF.ok s t Q acc p a q1 h hp e (by omega)]
            simp only
            rw [h.skip (p := q1) (by omega), if_pos (by omega), h.eq _ (by omega), if_neg hc, if_pos hk, h.skip (by omega)]
            exact i1
          · cases ho
      · cases ho
theorem seqAt_bad {α : Type} {F : By → List α → Nat → Out α} (hF : Local F) {s : By} {c : Nat} :
    ∀ (n m p : Nat) (acc : List α) (e q : Nat), p ≤ s.length → s.length < p + n → seqAt s c (F s) n p acc = .error e q → p ≤ q ∧ q ≤ s.length ∧ (e = 3 → q = s.length) ∧ e ≠ 0 ∧ (q < p + m → seqAt (s.take q) c (F (s.take q)) m p acc = .error 3 q)
  | 0, m, p, acc, e, q, h1, h2, ho => by omega
  | n + 1, m, p, acc, e, q, h1, h2, ho => by
    unfold seqAt at ho
    cases e' : F s acc p with
    | error e2 q2 =>
      rw [e'] at ho
      injection ho with o1 o2
      subst o1; subst o2
      obtain ⟨u1, u2, u3, u4, u5⟩ := hF.ill s acc p _ _ h1 e'
      refine ⟨u1, u2, u3, u4, fun hm => ?_⟩
      obtain ⟨m, rfl⟩ : ∃ k, m = k + 1 := ⟨m - 1, by omega⟩
      unfold seqAt
      rw [u5]
    | ok a q1 =>
      rw [e'] at ho
      simp only at ho
      have hb := hF.bd s acc p a q1 h1 e'
      have hg := skip_ge s q1
      have hend : ∀ Q, q1 ≤ Q → Q ≤ skip s q1 → Q ≤ s.length → Q < p + m → seqAt (s.take Q) c (F (s.take Q)) m p acc = .error 3 Q := by
        intro Q hq hs hl hm
        obtain ⟨m, rfl⟩ : ∃ k, m = k + 1 := ⟨m - 1, by omega⟩
        unfold seqAt
        rw [hF.ok s (s.take Q) Q acc p a q1 (near_take hl) h1 e' hq]
        simp only
        rw [skip_end_take hq hs hl, if_neg (by rw [List.length_take]; omega), List.length_take, Nat.min_eq_left hl]
      split at ho
      · rename_i hl
        split at ho
        · cases ho
        · rename_i hc
          split at ho
          · rename_i hk
            have hg2 := skip_ge s (skip s q1 + 1)
            have hle := skip_le (s := s) (p := skip s q1 + 1) (by omega)
            obtain ⟨i1, i2, i3, i4, i5⟩ := seqAt_bad hF n (m - 1) _ _ e q hle (by omega) ho
            refine ⟨by omega, i2, i3, i4, fun hm => ?_⟩
            obtain ⟨m, rfl⟩ : ∃ k, m = k + 1 := ⟨m - 1, by omega⟩
            have hN := near_take i2
            unfold seqAt
            rw [hF.ok s (s.take q) q acc p a q1 hN h1 e' (by omega)]
            simp only
            rw [hN.skip (p := q1) (by omega), if_pos (by rw [List.length_take]; omega), hN.eq _ (by omega), if_neg hc, if_pos hk, hN.skip (by omega)]
            exact i5 (by omega)
          · injection ho with o1 o2
            subst o1; subst o2
            exact ⟨by omega, by omega, by omega, by omega, hend _ (by omega) (Nat.le_refl _) (by omega)⟩
      · rename_i hl
        injection ho with o1 o2
        subst o1; subst o2
        exact ⟨by omega, by omega, by omega, by omega, hend _ (by omega) (by omega) (Nat.le_refl _)⟩

theorem inAt_ok {α : Type} {F : By → List α → Nat → Out α} (hF : Local F) {s t : By} {Q c p q : Nat} {l : List α} (h : Near s t Q) (hp : p < s.length) (ho : inAt s c (F s) p = .ok l q) (hq : q ≤ Q) : inAt t c (F t) p = .ok l q ∧ p + 1 < q ∧ q ≤ s.length := by
  have h3 := h.tl
  have h4 := h.sl
  have hg := skip_ge s (p + 1)
  have hle := skip_le (s := s) (p := p + 1) (by omega)
  unfold inAt at ho
  split at ho
  · rename_i hc
    injection ho with o1 o2
    subst o1; subst o2
    refine ⟨?_, by omega, by omega⟩
    unfold inAt
    rw [h.skip (by omega), if_pos ⟨by omega, by rw [h.eq _ (by omega)]; exact hc.2⟩]
  · rename_i hc
    have hd := h.down hq
    obtain ⟨i1, i2, i3⟩ := seqAt_ok hF hd _ (t.length + 1) _ _ l q hle ho (Nat.le_refl _) (by omega)
    refine ⟨?_, by omega, i3⟩
    unfold inAt
    rw [h.skip (by omega), if_neg ?_]
    · exact i1
    · rintro ⟨c1, c2⟩
      rw [h.eq _ (by omega)] at c2
      exact hc ⟨by omega, c2⟩
theorem inAt_bad {α : Type} {F : By → List α → Nat → Out α} (hF : Local F) {s : By} {c p q e : Nat} (hp : p < s.length) (ho : inAt s c (F s) p = .error e q) : p < q ∧ q ≤ s.length ∧ (e = 3 → q = s.length) ∧ e ≠ 0 ∧ inAt (s.take q) c (F (s.take q)) p = .error 3 q := by
  have hg := skip_ge s (p + 1)
  have hle := skip_le (s := s) (p := p + 1) (by omega)
  unfold inAt at ho
  split at ho
  · cases ho
  · rename_i hc
    obtain ⟨i1, i2, i3, i4, i5⟩ := seqAt_bad hF _ ((s.take q).length + 1) _ _ e q hle (by omega) ho
    refine ⟨by omega, i2, i3, i4, ?_⟩
    have hN := near_take i2
    unfold inAt
    rw [hN.skip (by omega), if_neg ?_]
    · exact i5 (by rw [List.length_take]; omega)
    · rintro ⟨c1, c2⟩
      rw [List.length_take] at c1
      rw [hN.eq _ (by omega)] at c2
      exact hc ⟨by omega, c2⟩

theorem litStep_first {c : Nat} (h : c = 45 ∨ isDigit c = true) : ∃ st, litStep 0 c = some st := by
  unfold litStep
  by_cases h1 : c = 45
  · exact ⟨1, by rw [if_pos ⟨rfl, h1⟩]⟩
  · have hd : isDigit c = true := by rcases h with h | h; exact absurd h h1; exact h
    rw [if_neg (fun x => h1 x.2)]
    by_cases h2 : c = 48
    · exact ⟨2, by rw [if_pos ⟨by omega, h2⟩]⟩
    · exact ⟨3, by rw [if_neg (fun x => h2 x.2), if_pos (.inl ⟨by omega, hd⟩)]⟩
theorem numAt_pos {s : By} {p q : Nat} {a : By} (hl : p < s.length) (hc : bt s p = 45 ∨ isDigit (bt s p) = true) (ho : numAt s p = .ok a q) : p < q ∧ q ≤ s.length := by
  have hb := numAt_bounds (by omega) ho
  obtain ⟨st, hst⟩ := litStep_first hc
  unfold numAt at ho
  rw [drop_bt hl, litRun_some hst] at ho
  split at ho
  · injection ho with o1 o2; simp only at o2; omega
  · split at ho <;> cases ho
theorem inAt_bounds {α : Type} {F : By → List α → Nat → Out α} (hF : Local F) {s : By} {c p q : Nat} {l : List α} (hp : p < s.length) (ho : inAt s c (F s) p = .ok l q) : p + 1 < q ∧ q ≤ s.length := by
  have hn : Near s s s.length := ⟨Nat.le_refl _, Nat.le_refl _, fun _ _ => rfl, fun h => by omega⟩
  have hle := skip_le (s := s) (p := p + 1) (by omega)
  have H : ∀ (n p : Nat) (acc l : List α) (q : Nat), p ≤ s.length → seqAt s c (F s) n p acc = .ok l q → q ≤ s.length := by
    intro n
    induction n with
    | zero => intro p acc l q _ ho; unfold seqAt at ho; cases ho
    | succ n ih =>
      intro p acc l q hp ho
      unfold seqAt at ho
      cases e : F s acc p with
      | error _ _ => rw [e] at ho; cases ho
      | ok a q1 =>
        rw [e] at ho
        simp only at ho
        split at ho
        · split at ho
          · injection ho with o1 o2; omega
          · split at ho
            · exact ih _ _ _ _ (skip_le (by omega)) ho
            · cases ho
        · cases ho
  have hq : q ≤ s.length := by
    have ho' := ho
    unfold inAt at ho'
    split at ho'
    · injection ho' with o1 o2; omega
    · exact H _ _ _ _ _ hle ho'
  have := inAt_ok hF hn hp ho hq
  omega

theorem nameAt_ok {s t : By} {Q p q : Nat} {had : List By} {a : By} (h : Near s t Q) (ho : nameAt s had p = .ok a q) (hq : q ≤ Q) : nameAt t had p = .ok a q := by
  have h3 := h.tl
  unfold nameAt at ho
  split at ho
  · rename_i hp
    split at ho
    · rename_i hc
      cases e : textAt s p with
      | error _ _ => rw [e] at ho; cases ho
      | ok nm q1 =>
        rw [e] at ho
        simp only at ho
        have hb := textAt_bounds e
        have hg := skip_ge s q1
        split at ho
        · cases ho
        · rename_i hn
          split at ho
          · split at ho
            · rename_i hl hk
              injection ho with o1 o2
              subst o1; subst o2
              have hg2 := skip_ge s (skip s q1 + 1)
              unfold nameAt
              rw [if_pos (by omega), h.eq p (by omega), if_pos hc, (textAt_ok h e (by omega)).1]
              simp only
              rw [if_neg hn, h.skip (p := q1) (by omega), if_pos (by omega), h.eq _ (by omega), if_pos hk, h.skip (by omega)]
            · cases ho
          · cases ho
    · cases ho
  · cases ho
theorem nameAt_bounds {s : By} {p q : Nat} {had : List By} {a : By} (ho : nameAt s had p = .ok a q) : p < q ∧ q ≤ s.length := by
  unfold nameAt at ho
  split at ho
  · split at ho
    · cases e : textAt s p with
      | error _ _ => rw [e] at ho; cases ho
      | ok nm q1 =>
        rw [e] at ho
        simp only at ho
        have hb := textAt_bounds e
        have hg := skip_ge s q1
        split at ho
        · cases ho
        · split at ho
          · split at ho
            · injection ho with o1 o2
              have hg2 := skip_ge s (skip s q1 + 1)
              have hle := skip_le (s := s) (p := skip s q1 + 1) (by omega)
              omega
            · cases ho
          · cases ho
    · cases ho
  · cases ho
theorem nameAt_end {s : By} {had : List By} {p : Nat} (hp : p ≤ s.length) : nameAt (s.take p) had p = .error 3 p := by
  unfold nameAt
  rw [if_neg (by rw [List.length_take]; omega), List.length_take, Nat.min_eq_left hp]
theorem nameAt_bad {s : By} {p q e : Nat} {had : List By} (hp : p ≤ s.length) (ho : nameAt s had p = .error e q) : p ≤ q ∧ q ≤ s.length ∧ (e = 3 → q = s.length) ∧ e ≠ 0 ∧ nameAt (s.take q) had p = .error 3 q := by
  unfold nameAt at ho
  split at ho
  · rename_i hlt
    split at ho
    · rename_i hc
      cases e' : textAt s p with
      | error e2 q2 =>
        rw [e'] at ho
        injection ho with o1 o2
        subst o1; subst o2
        obtain ⟨u1, u2, u3, u4, u5⟩ := textAt_bad hlt e'
        refine ⟨by omega, u2, u3, u4, ?_⟩
        unfold nameAt
        rw [if_pos (by rw [List.length_take]; omega), bt_take (by omega), if_pos hc, u5]
      | ok nm q1 =>
        rw [e'] at ho
        simp only at ho
        have hb := textAt_bounds e'
        have hg := skip_ge s q1
        split at ho
        · injection ho with o1 o2
          subst o1; subst o2
          exact ⟨by omega, by omega, by omega, by omega, nameAt_end hp⟩
        · rename_i hn
          have hend : ∀ Q, q1 ≤ Q → Q ≤ skip s q1 → Q ≤ s.length → nameAt (s.take Q) had p = .error 3 Q := by
            intro Q hq hs hl
            unfold nameAt
            rw [if_pos (by rw [List.length_take]; omega), bt_take (by omega), if_pos hc, (textAt_ok (near_take hl) e' hq).1]
            simp only
            rw [if_neg hn, skip_end_take hq hs hl, if_neg (by rw [List.length_take]; omega), List.length_take, Nat.min_eq_left hl]
          split at ho
          · split at ho
            · cases ho
            · injection ho with o1 o2
              subst o1; subst o2
              exact ⟨by omega, by omega, by omega, by omega, hend _ (by omega) (Nat.le_refl _) (by omega)⟩
          · injection ho with o1 o2
            subst o1; subst o2
            exact ⟨by omega, by omega, by omega, by omega, hend _ (by omega) (by omega) (Nat.le_refl _)⟩
    · injection ho with o1 o2
      subst o1; subst o2
      exact ⟨by omega, by omega, by omega, by omega, nameAt_end hp⟩
  · rename_i hlt
    injection ho with o1 o2
    subst o1; subst o2
    have e : p = s.length := by omega
    subst e
    exact ⟨by omega, by omega, by omega, by omega, nameAt_end hp⟩

/-- A reader of values, as an element of a list. -/
theorem mem_local {V : By → Nat → Out J} (hV : Local fun s (_ : List J) p => V s p) : Local fun s acc p => memAt s (V s) acc p := by
  refine ⟨?_, ?_, ?_⟩
  · intro s t Q acc p a q h hp ho hq
    simp only [memAt] at ho ⊢
    cases e : nameAt s (acc.map (·.1)) p with
    | error _ _ => rw [e] at ho; cases ho
    | ok nm q1 =>
      rw [e] at ho
      simp only at ho
      have hb := nameAt_bounds e
      cases e2 : V s q1 with
      | error _ _ => rw [e2] at ho; cases ho
      | ok v q2 =>
        rw [e2] at ho
        injection ho with o1 o2
        subst o1; subst o2
        have hb2 := hV.bd s [] q1 v q2 hb.2 e2
        rw [nameAt_ok h e (by omega)]
        simp only
        have hv : V t q1 = .ok v q2 := hV.ok s t Q [] q1 v q2 h hb.2 e2 hq
        rw [hv]
        rfl
  · intro s acc p a q hp ho
    simp only [memAt] at ho
    cases e : nameAt s (acc.map (·.1)) p with
    | error _ _ => rw [e] at ho; cases ho
    | ok nm q1 =>
      rw [e] at ho
      simp only at ho
      have hb := nameAt_bounds e
      cases e2 : V s q1 with
      | error _ _ => rw [e2] at ho; cases ho
      | ok v q2 =>
        rw [e2] at ho
        injection ho with o1 o2
        subst o1; subst o2
        have hb2 := hV.bd s [] q1 v q2 hb.2 e2
        omega
  · intro s acc p e q hp ho
    simp only [memAt] at ho ⊢
    cases e1 : nameAt s (acc.map (·.1)) p with
    | error e2 q2 =>
      rw [e1] at ho
      injection ho with o1 o2
      subst o1; subst o2
      obtain ⟨u1, u2, u3, u4, u5⟩ := nameAt_bad hp e1
      refine ⟨u1, u2, u3, u4, ?_⟩
      rw [u5]
    | ok nm q1 =>
      rw [e1] at ho
      simp only at ho
      have hb := nameAt_bounds e1
      cases e2 : V s q1 with
      | error e3 q3 =>
        rw [e2] at ho
        injection ho with o1 o2
        subst o1; subst o2
        obtain ⟨u1, u2, u3, u4, u5⟩ := hV.ill s [] q1 _ _ hb.2 e2
        refine ⟨by omega, u2, u3, u4, ?_⟩
        rw [nameAt_ok (near_take u2) e1 u1]
        simp only
        have hv : V (s.take q3) q1 = .error 3 q3 := u5
        rw [hv]
        rfl
      | ok v q2 => rw [e2] at ho; cases ho
theorem map_ok {α β : Type} {f : α → β} {o : Out α} {b : β} {q : Nat} (h : o.map f = .ok b q) : ∃ a, o = .ok a q ∧ b = f a := by
  cases o with
  | error _ _ => cases h
  | ok a p => injection h with h1 h2; subst h2; exact ⟨a, rfl, h1.symm⟩
theorem map_bad {α β : Type} {f : α → β} {o : Out α} {e q : Nat} (h : o.map f = .error e q) : o = .error e q := by
  cases o with
  | ok _ _ => cases h
  | error e' q' => injection h with h1 h2; subst h1; subst h2; rfl
theorem vStep_end {s : By} {sub : Option (Nat → Out J)} {p : Nat} (hp : p ≤ s.length) : vStep (s.take p) sub p = .error 3 p := by
  unfold vStep
  rw [if_neg (by rw [List.length_take]; omega), List.length_take, Nat.min_eq_left hp]

theorem vStep_local {V : Option (By → Nat → Out J)} (hV : ∀ W, V = some W → Local fun s (_ : List J) p => W s p) : Local fun s (_ : List J) p => vStep s (V.map fun W => W s) p := by
  have hW : Local fun (s : By) (_ : List Unit) p => wordAt s p [110, 117, 108, 108] := ⟨fun s t Q _ p a q h hp ho hq => (wordAt_ok h _ p q ho hq).1, fun s _ p a q hp ho => by have := wordAt_bounds _ p q hp ho; simp at this; omega, fun s _ p e q hp ho => wordAt_bad _ p q e hp ho⟩
  have hW1 : Local fun (s : By) (_ : List Unit) p => wordAt s p [102, 97, 108, 115, 101] := ⟨fun s t Q _ p a q h hp ho hq => (wordAt_ok h _ p q ho hq).1, fun s _ p a q hp ho => by have := wordAt_bounds _ p q hp ho; simp at this; omega, fun s _ p e q hp ho => wordAt_bad _ p q e hp ho⟩
  have hW2 : Local fun (s : By) (_ : List Unit) p => wordAt s p [116, 114, 117, 101] := ⟨fun s t Q _ p a q h hp ho hq => (wordAt_ok h _ p q ho hq).1, fun s _ p a q hp ho => by have := wordAt_bounds _ p q hp ho; simp at this; omega, fun s _ p e q hp ho => wordAt_bad _ p q e hp ho⟩
  refine ⟨?_, ?_, ?_⟩
  · intro s t Q acc p a q h hp ho hq
    have h3 := h.tl
    simp only [vStep] at ho
    split at ho
    · rename_i hl
      have key : ∀ (pq : p < q), (p < t.length) ∧ bt t p = bt s p := fun pq => ⟨by omega, h.eq p (by omega)⟩
      split at ho
      · rename_i c1
        obtain ⟨u, hu, rfl⟩ := map_ok ho
        have hb := hW.bd s [] p u q hp hu
        obtain ⟨k1, k2⟩ := key hb.1
        have := hW.ok s t Q [] p u q h hp hu hq
        simp only [vStep]
        rw [if_pos k1, k2, if_pos c1, this]; rfl
      · rename_i c1
        split at ho
        · rename_i c2
          obtain ⟨u, hu, rfl⟩ := map_ok ho
          have hb := hW1.bd s [] p u q hp hu
          obtain ⟨k1, k2⟩ := key hb.1
          have := hW1.ok s t Q [] p u q h hp hu hq
          simp only [vStep]
          rw [if_pos k1, k2, if_neg c1, if_pos c2, this]; rfl
        · rename_i c2
          split at ho
          · rename_i c3
            obtain ⟨u, hu, rfl⟩ := map_ok ho
            have hb := hW2.bd s [] p u q hp hu
            obtain ⟨k1, k2⟩ := key hb.1
            have := hW2.ok s t Q [] p u q h hp hu hq
            simp only [vStep]
            rw [if_pos k1, k2, if_neg c1, if_neg c2, if_pos c3, this]; rfl
          · rename_i c3
            split at ho
            · rename_i c4
              obtain ⟨u, hu, rfl⟩ := map_ok ho
              have hb := numAt_pos hl c4 hu
              obtain ⟨k1, k2⟩ := key hb.1
              have := numAt_ok h hq hu
              simp only [vStep]
              rw [if_pos k1, k2, if_neg c1, if_neg c2, if_neg c3, if_pos c4, this]; rfl
            · rename_i c4
              split at ho
              · rename_i c5
                obtain ⟨u, hu, rfl⟩ := map_ok ho
                have hb := textAt_bounds hu
                obtain ⟨k1, k2⟩ := key (by omega)
                have := (textAt_ok h hu hq).1
                simp only [vStep]
                rw [if_pos k1, k2, if_neg c1, if_neg c2, if_neg c3, if_neg c4, if_pos c5, this]; rfl
              · rename_i c5
                split at ho
                · rename_i c6
                  cases V with
                  | none => cases ho
                  | some W =>
                    have hL := hV W rfl
                    simp only [Option.map_some] at ho
                    split at ho
                    · rename_i c7
                      obtain ⟨u, hu, rfl⟩ := map_ok ho
                      have hb := inAt_ok (F := fun s (_ : List J) p => W s p) hL h hl hu hq
                      obtain ⟨k1, k2⟩ := key (by omega)
                      simp only [vStep, Option.map_some]
                      rw [if_pos k1, k2, if_neg c1, if_neg c2, if_neg c3, if_neg c4, if_neg c5, if_pos c6, if_pos c7, hb.1]; rfl
                    · rename_i c7
                      obtain ⟨u, hu, rfl⟩ := map_ok ho
                      have hb := inAt_ok (F := fun s acc p => memAt s (W s) acc p) (mem_local hL) h hl hu hq
                      obtain ⟨k1, k2⟩ := key (by omega)
                      simp only [vStep, Option.map_some]
                      rw [if_pos k1, k2, if_neg c1, if_neg c2, if_neg c3, if_neg c4, if_neg c5, if_pos c6, if_neg c7, hb.1]; rfl
                · cases ho
    · cases ho
  · intro s acc p a q hp ho
    have hn : Near s s s.length := ⟨Nat.le_refl _, Nat.le_refl _, fun _ _ => rfl, fun h => by omega⟩
    simp only [vStep] at ho
    split at ho
    · rename_i hl
      split at ho
      · obtain ⟨u, hu, rfl⟩ := map_ok ho
        exact hW.bd s [] p u q hp hu
      · split at ho
        · obtain ⟨u, hu, rfl⟩ := map_ok ho
          exact hW1.bd s [] p u q hp hu
        · split at ho
          · obtain ⟨u, hu, rfl⟩ := map_ok ho
            exact hW2.bd s [] p u q hp hu
          · split at ho
            · rename_i c4
              obtain ⟨u, hu, rfl⟩ := map_ok ho
              exact numAt_pos hl c4 hu
            · split at ho
              · obtain ⟨u, hu, rfl⟩ := map_ok ho
                have := textAt_bounds hu
                omega
              · split at ho
                · cases V with
                  | none => cases ho
                  | some W =>
                    have hL := hV W rfl
                    simp only [Option.map_some] at ho
                    split at ho
                    · obtain ⟨u, hu, rfl⟩ := map_ok ho
                      have := inAt_bounds (F := fun s (_ : List J) p => W s p) hL hl hu
                      omega
                    · obtain ⟨u, hu, rfl⟩ := map_ok ho
                      have := inAt_bounds (F := fun s acc p => memAt s (W s) acc p) (mem_local hL) hl hu
                      omega
                · cases ho
    · cases ho
  · intro s acc p e q hp ho
    have hend : ∀ sub, vStep (s.take p) sub p = .error 3 p := fun sub => vStep_end hp
    simp only [vStep] at ho
    split at ho
    · rename_i hl
      have key : ∀ (pq : p < q) (hq : q ≤ s.length), (p < (s.take q).length) ∧ bt (s.take q) p = bt s p := fun pq hq => ⟨by rw [List.length_take]; omega, bt_take pq⟩
      have fin : ∀ {r : Out J}, p ≤ q → q ≤ s.length → (p < q → vStep (s.take q) (V.map fun W => W (s.take q)) p = r) → r = .error 3 q → vStep (s.take q) (V.map fun W => W (s.take q)) p = .error 3 q := by
        intro r h1 h2 h3 h4
        rcases Nat.lt_or_ge p q with h | h
        · rw [h3 h, h4]
        · have : q = p := by omega
          subst this; exact hend _
      split at ho
      · rename_i c1
        obtain ⟨u1, u2, u3, u4, u5⟩ := hW.ill s [] p e q hp (map_bad ho)
        refine ⟨u1, u2, u3, u4, fin u1 u2 (fun pq => ?_) rfl⟩
        obtain ⟨k1, k2⟩ := key pq u2
        simp only [vStep]
        rw [if_pos k1, k2, if_pos c1, u5]; rfl
      · rename_i c1
        split at ho
        · rename_i c2
          obtain ⟨u1, u2, u3, u4, u5⟩ := hW1.ill s [] p e q hp (map_bad ho)
          refine ⟨u1, u2, u3, u4, fin u1 u2 (fun pq => ?_) rfl⟩
          obtain ⟨k1, k2⟩ := key pq u2
          simp only [vStep]
          rw [if_pos k1, k2, if_neg c1, if_pos c2, u5]; rfl
        · rename_i c2
          split at ho
          · rename_i c3
            obtain ⟨u1, u2, u3, u4, u5⟩ := hW2.ill s [] p e q hp (map_bad ho)
            refine ⟨u1, u2, u3, u4, fin u1 u2 (fun pq => ?_) rfl⟩
            obtain ⟨k1, k2⟩ := key pq u2
            simp only [vStep]
            rw [if_pos k1, k2, if_neg c1, if_neg c2, if_pos c3, u5]; rfl
          · rename_i c3
            split at ho
            · rename_i c4
              obtain ⟨u1, u2, u3, u4, u5⟩ := numAt_bad hp (map_bad ho)
              refine ⟨u1, u2, u3, u4, fin u1 u2 (fun pq => ?_) rfl⟩
              obtain ⟨k1, k2⟩ := key pq u2
              simp only [vStep]
              rw [if_pos k1, k2, if_neg c1, if_neg c2, if_neg c3, if_pos c4, u5]; rfl
            · rename_i c4
              split at ho
              · rename_i c5
                obtain ⟨u1, u2, u3, u4, u5⟩ := textAt_bad hl (map_bad ho)
                refine ⟨by omega, u2, u3, u4, ?_⟩
                obtain ⟨k1, k2⟩ := key u1 u2
                simp only [vStep]
                rw [if_pos k1, k2, if_neg c1, if_neg c2, if_neg c3, if_neg c4, if_pos c5, u5]; rfl
              · rename_i c5
                split at ho
                · rename_i c6
                  cases V with
                  | none =>
                    injection ho with o1 o2
                    subst o1; subst o2
                    exact ⟨by omega, by omega, by omega, by omega, hend _⟩
                  | some W =>
                    have hL := hV W rfl
                    simp only [Option.map_some] at ho
                    split at ho
                    · rename_i c7
                      obtain ⟨u1, u2, u3, u4, u5⟩ := inAt_bad (F := fun s (_ : List J) p => W s p) hL hl (map_bad ho)
                      refine ⟨by omega, u2, u3, u4, ?_⟩
                      obtain ⟨k1, k2⟩ := key u1 u2
                      simp only [vStep, Option.map_some]
                      rw [if_pos k1, k2, if_neg c1, if_neg c2, if_neg c3, if_neg c4, if_neg c5, if_pos c6, if_pos c7, u5]; rfl
                    · rename_i c7
                      obtain ⟨u1, u2, u3, u4, u5⟩ := inAt_bad (F := fun s acc p => memAt s (W s) acc p) (mem_local hL) hl (map_bad ho)
                      refine ⟨by omega, u2, u3, u4, ?_⟩
                      obtain ⟨k1, k2⟩ := key u1 u2
                      simp only [vStep, Option.map_some]
                      rw [if_pos k1, k2, if_neg c1, if_neg c2, if_neg c3, if_neg c4, if_neg c5, if_pos c6, if_neg c7, u5]; rfl
                · injection ho with o1 o2
                  subst o1; subst o2
                  exact ⟨by omega, by omega, by omega, by omega, hend _⟩
    · rename_i hl
      injection ho with o1 o2
      subst o1; subst o2
      have e : p = s.length := by omega
      subst e
      exact ⟨by omega, by omega, by omega, by omega, hend _⟩
theorem vAt_local : ∀ d, Local fun s (_ : List J) p => vAt s d p
  | 0 => vStep_local (V := none) (fun W h => by cases h)
  | d + 1 => vStep_local (V := some fun s p => vAt s d p) (fun W h => by cases h; exact vAt_local d)

/-- The bytes ahead of a fault show none. -/
theorem parse_first {s : By} (he : (parse s).2.1 ≠ 0) : (parse s).2.2 ≤ s.length ∧ ((parse s).2.1 = 3 → (parse s).2.2 = s.length) ∧ ((parse (s.take (parse s).2.2)).2.1 = 0 ∨ ((parse (s.take (parse s).2.2)).2.1 = 3 ∧ (parse (s.take (parse s).2.2)).2.2 = (parse s).2.2)) := by
  by_cases hlen : 16384 < s.length
  · have e : parse s = (J.zero, 1, 0) := by unfold parse; rw [if_pos hlen]
    rw [e]
    refine ⟨Nat.zero_le _, fun h => (by cases h), .inr ?_⟩
    rw [List.take_zero]
    exact ⟨rfl, rfl⟩
  · have h0 := skip_le (s := s) (p := 0) (Nat.zero_le _)
    have hp : parse s = match vAt s 32 (skip s 0) with
      | .error e q => (J.zero, e, q)
      | .ok v q => if skip s q < s.length then (J.zero, 4, skip s q) else (v, 0, 0) := by unfold parse; rw [if_neg hlen] <;> rfl
    cases e : vAt s 32 (skip s 0) with
    | error e' q =>
      rw [e] at hp
      rw [hp]
      obtain ⟨u1, u2, u3, u4, u5⟩ := (vAt_local 32).ill s [] _ _ _ h0 e
      refine ⟨u2, u3, .inr ?_⟩
      have hk : skip (s.take q) 0 = skip s 0 := (near_take u2).skip u1
      have : parse (s.take q) = (J.zero, 3, q) := by
        unfold parse
        rw [if_neg (by rw [List.length_take]; omega), hk, u5]
      rw [this]
      exact ⟨rfl, rfl⟩
    | ok v q =>
      rw [e] at hp
      simp only at hp
      obtain ⟨b1, b2⟩ := (vAt_local 32).bd s [] _ v q h0 e
      have hg := skip_ge s q
      split at hp
      · rename_i hl
        rw [hp]
        refine ⟨by simp only; omega, fun h => (by cases h), .inl ?_⟩
        have hk : skip (s.take (skip s q)) 0 = skip s 0 := (near_take (by omega)).skip (by omega)
        have hv : vAt (s.take (skip s q)) 32 (skip s 0) = .ok v q := (vAt_local 32).ok s _ _ [] _ v q (near_take (Nat.le_of_lt hl)) h0 e hg
        have hsk : skip (s.take (skip s q)) q = skip s q := skip_end_take hg (Nat.le_refl _) (by omega)
        have : parse (s.take (skip s q)) = (v, 0, 0) := by
          unfold parse
          rw [if_neg (by rw [List.length_take]; omega), hk, hv]
          simp only
          rw [hsk, if_neg (by rw [List.length_take]; omega)]
        rw [this]
      · rw [hp] at he
        exact absurd rfl he
/-- A byte 0 behind a value. -/
theorem parse_zero {s : By} (he : (parse s).2.1 = 0) (hl : s.length < 16384) : (parse s).2.2 = 0 ∧ (parse (s ++ [0])).2 = (4, s.length) := by
  have h0 := skip_le (s := s) (p := 0) (Nat.zero_le _)
  have hp : parse s = match vAt s 32 (skip s 0) with
    | .error e q => (J.zero, e, q)
    | .ok v q => if skip s q < s.length then (J.zero, 4, skip s q) else (v, 0, 0) := by unfold parse; rw [if_neg (by omega)] <;> rfl
  cases e : vAt s 32 (skip s 0) with
  | error e' q =>
    rw [e] at hp
    rw [hp] at he
    obtain ⟨u1, u2, u3, u4, u5⟩ := (vAt_local 32).ill s [] _ _ _ h0 e
    exact absurd he u4
  | ok v q =>
    rw [e] at hp
    simp only at hp
    obtain ⟨b1, b2⟩ := (vAt_local 32).bd s [] _ v q h0 e
    have hg := skip_ge s q
    have hle := skip_le b2
    split at hp
    · rw [hp] at he; cases he
    · rename_i hnl
      rw [hp]
      refine ⟨rfl, ?_⟩
      have hN := near_zero s
      have hk : skip (s ++ [0]) 0 = skip s 0 := hN.skip (by omega)
      have hk2 : skip (s ++ [0]) q = skip s q := hN.skip (by omega)
      have hv : vAt (s ++ [0]) 32 (skip s 0) = .ok v q := (vAt_local 32).ok s _ _ [] _ v q hN h0 e b2
      have hsl : skip s q = s.length := by omega
      have : parse (s ++ [0]) = (J.zero, 4, s.length) := by
        unfold parse
        rw [if_neg (by simp; omega), hk, hv]
        simp only
        rw [hk2, hsl, if_pos (by simp)]
      rw [this]
end Go.Proofs.YtlebockgdonceaaGreatDoor
