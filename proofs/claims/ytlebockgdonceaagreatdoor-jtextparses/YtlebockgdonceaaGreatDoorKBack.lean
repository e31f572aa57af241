/- What is written is read back: words, numbers, texts. What is written is read back: lists, objects, values. What is written has the bytes 32 to 126 alone. -/
import Derived.Test.YtlebockgdonceaaGreatDoorKPList
import Derived.Test.YtlebockgdonceaaGreatDoorKMath
import Derived.Test.YtlebockgdonceaaGreatDoorKDec
namespace Go.Proofs.YtlebockgdonceaaGreatDoor

/-- A text stands at a place. -/
def At (s : By) (p : Nat) (t : By) : Prop := p ≤ s.length ∧ ∃ r, s.drop p = t ++ r
theorem At.left {s t u : By} {p : Nat} (h : At s p (t ++ u)) : At s p t := by
  obtain ⟨h1, r, h2⟩ := h
  exact ⟨h1, u ++ r, by rw [h2, List.append_assoc]⟩
theorem At.right {s t u : By} {p : Nat} (h : At s p (t ++ u)) : At s (p + t.length) u := by
  obtain ⟨h1, r, h2⟩ := h
  have hl := congrArg List.length h2
  rw [List.length_drop, List.length_append, List.length_append] at hl
  refine ⟨by omega, r, ?_⟩
  rw [← List.drop_drop, h2, List.append_assoc, List.drop_left]
theorem At.cons {s t : By} {p c : Nat} (h : At s p (c :: t)) : p < s.length ∧ bt s p = c ∧ At s (p + 1) t := by
  obtain ⟨h1, r, h2⟩ := h
  have hl := congrArg List.length h2
  rw [List.length_drop, List.length_append, List.length_cons] at hl
  have hp : p < s.length := by omega
  have e := drop_bt hp
  rw [h2] at e
  injection e with e1 e2
  exact ⟨hp, e1.symm, by omega, r, e2.symm⟩
theorem At.fits {s t : By} {p : Nat} (h : At s p t) : p + t.length ≤ s.length := by
  have := (At.right (t := t) (u := []) (by rw [List.append_nil]; exact h)).1
  exact this
theorem at_whole (s : By) : At s 0 s := ⟨Nat.zero_le _, [], by simp⟩
/-- What may stand behind a value. -/
def Stop (s : By) (p : Nat) : Prop := bt s p = 0 ∨ bt s p = 44 ∨ bt s p = 93 ∨ bt s p = 125
theorem Stop.blank {s : By} {p : Nat} (h : Stop s p) : isBlank (bt s p) = false := by
  rcases h with h | h | h | h <;> rw [h] <;> rfl
theorem Stop.skip {s : By} {p : Nat} (h : Stop s p) : Go.Proofs.YtlebockgdonceaaGreatDoor.skip s p = p := skip_stop h.blank
theorem lit_stop (st : Nat) : litStep st 0 = none ∧ litStep st 44 = none ∧ litStep st 93 = none ∧ litStep st 125 = none := by
  unfold litStep isDigit
  simp
theorem Stop.lit {s : By} {p : Nat} (h : Stop s p) (st : Nat) : litStep st (bt s p) = none := by
  rcases h with h | h | h | h <;> rw [h]
  · exact (lit_stop st).1
  · exact (lit_stop st).2.1
  · exact (lit_stop st).2.2.1
  · exact (lit_stop st).2.2.2

theorem wordAt_at : ∀ (w s : By) (p : Nat), At s p w → wordAt s p w = .ok () (p + w.length)
  | [], s, p, _ => rfl
  | c :: w, s, p, h => by
    obtain ⟨h1, h2, h3⟩ := h.cons
    unfold wordAt
    rw [if_pos h1, if_pos h2, wordAt_at w s (p + 1) h3, List.length_cons]
    congr 1
    omega
theorem lit_first {t : By} (h : isLit t = true) : ∃ c t', t = c :: t' ∧ (c = 45 ∨ isDigit c = true) := by
  unfold isLit at h
  rw [Bool.and_eq_true, decide_eq_true_iff] at h
  cases t with
  | nil => exact absurd h.1 (by decide)
  | cons c t' =>
    refine ⟨c, t', rfl, ?_⟩
    cases e : litStep 0 c with
    | none => rw [litRun_none e] at h; simp at h
    | some st =>
      unfold litStep at e
      by_cases h1 : c = 45
      · exact .inl h1
      · by_cases h2 : isDigit c = true
        · exact .inr h2
        · exfalso
          have h3 : c ≠ 48 := fun h => h2 (by rw [h]; rfl)
          simp [h1, h2, h3] at e
theorem numAt_at {t s : By} {p : Nat} (h : isLit t = true) (ha : At s p t) (hs : Stop s (p + t.length)) : numAt s p = .ok t (p + t.length) := by
  unfold isLit at h
  rw [Bool.and_eq_true, decide_eq_true_iff] at h
  obtain ⟨h1, h2⟩ := h
  obtain ⟨hp, r, hr⟩ := ha
  have hget : (s.drop p).getD t.length 0 = bt s (p + t.length) := by
    unfold bt
    simp [List.getD, List.getElem?_drop]
  have e : litRun 0 (s.drop p) = litRun 0 t := by
    apply litRun_same
    · rw [h2, hr, List.take_left, List.take_length]
    · intro _
      rw [h2, hget]
      exact hs.lit _
    · rw [h2, hr, List.length_append]; omega
  unfold numAt
  rw [e, if_pos h1, h2, hr, List.take_left]

theorem hx_hexv {n : Nat} (h : n < 16) : hexv (hx n) = some n := by
  have : ∀ n : Fin 16, hexv (hx n.val) = some n.val := by decide
  exact this ⟨n, h⟩
theorem fourAt_at {s : By} {p n : Nat} (hn : n < 65536) (h : At s p [hx (n / 4096 % 16), hx (n / 256 % 16), hx (n / 16 % 16), hx (n % 16)]) : fourAt s 4 p 0 = .ok n (p + 4) := by
  obtain ⟨a1, a2, h⟩ := h.cons
  obtain ⟨b1, b2, h⟩ := h.cons
  obtain ⟨c1, c2, h⟩ := h.cons
  obtain ⟨d1, d2, h⟩ := h.cons
  simp only [fourAt]
  rw [if_pos a1, a2, hx_hexv (by omega)]
  simp only
  rw [if_pos b1, b2, hx_hexv (by omega)]
  simp only
  rw [if_pos c1, c2, hx_hexv (by omega)]
  simp only
  rw [if_pos d1, d2, hx_hexv (by omega)]
  simp only
  congr 1
  omega
theorem shortOf_u : shortOf 117 = none := by decide
/-- An escape of one character is read back. -/
theorem escAt_unit {s : By} {p n : Nat} (hn : n < 65536) (hs : n < 55296 ∨ 57344 ≤ n) (h : At s p (unitOf n)) : escAt s p = .ok n (p + 6) := by
  obtain ⟨a1, a2, h⟩ := h.cons
  obtain ⟨b1, b2, h⟩ := h.cons
  unfold escAt
  rw [if_pos b1, b2, shortOf_u]
  simp only
  rw [if_pos trivial]
  unfold uniAt
  rw [fourAt_at hn h]
  simp only
  rw [if_pos hs]
theorem escAt_pair {s : By} {p c : Nat} (h1 : 65536 ≤ c) (h2 : c < 1114112) (h : At s p (unitOf (55296 + (c - 65536) / 1024) ++ unitOf (56320 + (c - 65536) % 1024))) : escAt s p = .ok c (p + 12) := by
  have hL := h.left
  have hR := h.right
  rw [show (unitOf (55296 + (c - 65536) / 1024)).length = 6 from rfl] at hR
  obtain ⟨a1, a2, hL⟩ := hL.cons
  obtain ⟨b1, b2, hL⟩ := hL.cons
  obtain ⟨c1, c2, hR⟩ := hR.cons
  obtain ⟨d1, d2, hR⟩ := hR.cons
  unfold escAt
  rw [if_pos b1, b2, shortOf_u]
  simp only
  rw [if_pos trivial]
  unfold uniAt
  rw [fourAt_at (by omega) hL]
  simp only
  rw [if_neg (by omega), if_neg (by omega)]
  unfold halfAt
  rw [show p + 2 + 4 = p + 6 from rfl, if_pos c1, if_pos c2, if_pos d1, if_pos d2, fourAt_at (by omega) hR]
  simp only
  rw [if_pos (by omega)]
  have e : 65536 + 1024 * (55296 + (c - 65536) / 1024 - 55296) + (56320 + (c - 65536) % 1024 - 56320) = c := by omega
  rw [e]
/-- Of a character's escape: at a place where a text goes on, it is read as the character. -/
theorem strAt_esc {s acc : By} {p m c : Nat} (h1 : c < 1114112) (h2 : c < 55296 ∨ 57344 ≤ c) (h : At s p (escOf c)) : strAt s (m + 1) p acc = strAt s m (p + (escOf c).length) (acc ++ utf c) ∧ 1 ≤ (escOf c).length := by
  have short : ∀ b, escOf c = [92, b] → shortOf b = some c → strAt s (m + 1) p acc = strAt s m (p + (escOf c).length) (acc ++ utf c) ∧ 1 ≤ (escOf c).length := by
    intro b hb hs
    rw [hb] at h ⊢
    obtain ⟨a1, a2, h⟩ := h.cons
    obtain ⟨b1, b2, h⟩ := h.cons
    refine ⟨?_, by simp⟩
    have he : escAt s p = .ok c (p + 2) := by unfold escAt; rw [if_pos b1, b2, hs]
    conv => lhs; unfold strAt
    rw [if_pos a1, if_neg (by omega), if_neg (by omega), if_pos a2, he]
    rfl
  have long : ∀ q, escOf c = 92 :: q → escAt s p = .ok c (p + (escOf c).length) → strAt s (m + 1) p acc = strAt s m (p + (escOf c).length) (acc ++ utf c) ∧ 1 ≤ (escOf c).length := by
    intro q hq he
    refine ⟨?_, by rw [hq]; simp⟩
    rw [hq] at h
    obtain ⟨a1, a2, _⟩ := h.cons
    conv => lhs; unfold strAt
    rw [if_pos a1, if_neg (by omega), if_neg (by omega), if_pos a2, he]
  by_cases e1 : c = 34
  · exact short 34 (by rw [e1]; rfl) (by rw [e1]; rfl)
  by_cases e2 : c = 92
  · exact short 92 (by rw [e2]; rfl) (by rw [e2]; rfl)
  by_cases e3 : c = 8
  · exact short 98 (by rw [e3]; rfl) (by rw [e3]; rfl)
  by_cases e4 : c = 12
  · exact short 102 (by rw [e4]; rfl) (by rw [e4]; rfl)
  by_cases e5 : c = 10
  · exact short 110 (by rw [e5]; rfl) (by rw [e5]; rfl)
  by_cases e6 : c = 13
  · exact short 114 (by rw [e6]; rfl) (by rw [e6]; rfl)
  by_cases e7 : c = 9
  · exact short 116 (by rw [e7]; rfl) (by rw [e7]; rfl)
  by_cases e8 : 32 ≤ c ∧ c ≤ 126
  · have he : escOf c = [c] := by unfold escOf; rw [if_neg e1, if_neg e2, if_neg e3, if_neg e4, if_neg e5, if_neg e6, if_neg e7, if_pos e8]
    rw [he] at h ⊢
    obtain ⟨hp, r, hr⟩ := h
    obtain ⟨a1, a2, _⟩ := At.cons (s := s) (p := p) (c := c) (t := []) ⟨hp, r, hr⟩
    have hc : chr (s.drop p) = .ok 1 := by
      rw [hr]
      show (match (lead c).1 with | 0 => (Except.error false : Ch) | n + 1 => conts (n + 1) n (lead c).2.1 (lead c).2.2 ([] ++ r)) = _
      rw [show lead c = (1, 128, 191) by unfold lead; rw [if_pos (by omega)]]
      rfl
    refine ⟨?_, by simp⟩
    conv => lhs; unfold strAt
    rw [if_pos a1, if_neg (by omega), if_neg (by omega), if_neg (by omega), hc]
    simp only
    rw [hr, show utf c = [c] by unfold utf; rw [if_pos (by omega)]]
    rfl
  by_cases e9 : c < 65536
  · have he : escOf c = unitOf c := by unfold escOf; rw [if_neg e1, if_neg e2, if_neg e3, if_neg e4, if_neg e5, if_neg e6, if_neg e7, if_neg e8, if_pos e9]
    refine long _ (by rw [he]; rfl) ?_
    rw [he] at h ⊢
    exact escAt_unit e9 h2 h
  · have he : escOf c = unitOf (55296 + (c - 65536) / 1024) ++ unitOf (56320 + (c - 65536) % 1024) := by unfold escOf; rw [if_neg e1, if_neg e2, if_neg e3, if_neg e4, if_neg e5, if_neg e6, if_neg e7, if_neg e8, if_neg e9]
    refine long _ (by rw [he]; rfl) ?_
    rw [he] at h ⊢
    exact escAt_pair (by omega) h1 h
theorem putAt_ok {xs t ys : By} (h : putAt xs t = .ok ys) : ys = xs ++ t ∧ ys.length ≤ 16384 := by
  unfold putAt at h
  split at h
  · injection h with h
    subst h
    exact ⟨rfl, by rw [List.length_append]; assumption⟩
  · cases h
theorem then_split {r : Pr} {f : By → Pr} {ys : By} (h : r.then f = .ok ys) : ∃ zs, r = .ok zs ∧ f zs = .ok ys := by
  cases r with
  | ok zs => exact ⟨zs, rfl, h⟩
  | error e => cases h
theorem escAll_back : ∀ (n : Nat) (l xs ys : By), escAll n l xs = .ok ys → ∃ t, ys = xs ++ t ∧ ∀ (s acc : By) (p m : Nat), At s p (t ++ [34]) → t.length < m → strAt s m p acc = .ok (acc ++ l) (p + t.length + 1)
  | n, [], xs, ys, h => by
    rw [escAll_nil] at h
    injection h with h
    subst h
    refine ⟨[], by simp, fun s acc p m ha hm => ?_⟩
    obtain ⟨m, rfl⟩ : ∃ k, m = k + 1 := ⟨m - 1, by simp at hm; omega⟩
    obtain ⟨a1, a2, _⟩ := At.cons (c := 34) (t := []) ha
    unfold strAt
    rw [if_pos a1, if_pos a2, List.append_nil]
    rfl
  | 0, _ :: _, xs, ys, h => by cases h
  | n + 1, c :: l, xs, ys, h => by
    cases hc : chr (c :: l) with
    | error bb => cases bb with
      | false => unfold escAll at h; rw [hc] at h; cases h
      | true => unfold escAll at h; rw [hc] at h; cases h
    | ok k =>
      rw [escAll_step (by simp) hc] at h
      obtain ⟨zs, hz, h⟩ := then_split h
      obtain ⟨rfl, _⟩ := putAt_ok hz
      obtain ⟨t, rfl, ht⟩ := escAll_back n _ _ _ h
      obtain ⟨u1, u2, u3, _, _⟩ := utf_code hc
      refine ⟨escOf (codeOf k (c :: l)) ++ t, by rw [List.append_assoc], fun s acc p m ha hm => ?_⟩
      rw [List.append_assoc] at ha
      obtain ⟨m, rfl⟩ : ∃ k, m = k + 1 := ⟨m - 1, by simp at hm; omega⟩
      obtain ⟨e1, e2⟩ := strAt_esc (m := m) (acc := acc) u2 u3 ha.left
      rw [List.length_append] at hm
      rw [e1, ht s _ _ m ha.right (by omega), List.append_assoc, u1, List.take_append_drop, List.length_append]
      congr 1
      omega
theorem quoteAt_back {l xs ys : By} (h : quoteAt l xs = .ok ys) : ∃ t, ys = xs ++ 34 :: t ∧ ∀ (s : By) (p : Nat), At s p (34 :: t) → textAt s p = .ok l (p + (34 :: t).length) := by
  unfold quoteAt at h
  obtain ⟨zs, hz, h⟩ := then_split h
  obtain ⟨us, hu, h⟩ := then_split h
  obtain ⟨rfl, _⟩ := putAt_ok hz
  obtain ⟨t, rfl, ht⟩ := escAll_back _ _ _ _ hu
  obtain ⟨rfl, _⟩ := putAt_ok h
  refine ⟨t ++ [34], by simp, fun s p ha => ?_⟩
  obtain ⟨a1, a2, a3⟩ := ha.cons
  unfold textAt
  have := a3.fits
  rw [List.length_append] at this
  rw [ht s [] (p + 1) (s.length + 1) a3 (by simp at this; omega)]
  simp
  omega
end Go.Proofs.YtlebockgdonceaaGreatDoor
namespace Go.Proofs.YtlebockgdonceaaGreatDoor

theorem not_blank_skip {s : By} {p c : Nat} (h : bt s p = c) (hb : isBlank c = false) : skip s p = p := skip_stop (by rw [h]; exact hb)
theorem take_snoc {α : Type} {l : List α} {i : Nat} {a : α} (h : l[i]? = some a) : l.take i ++ [a] = l.take (i + 1) := by
  rw [List.take_add_one, h]; rfl
theorem tail_back {α : Type} {close : Nat} (hcl : close = 93 ∨ close = 125) {F : By → List α → Nat → Out α} {els : List α} {pr : Nat → By → Pr}
    (hpr : ∀ i a xs ys, els[i]? = some a → pr i xs = .ok ys → ∃ c t, ys = xs ++ c :: t ∧ isBlank c = false ∧ c ≠ close ∧ ∀ s p, At s p (c :: t) → Stop s (p + (c :: t).length) → F s (els.take i) p = .ok a (p + (c :: t).length)) :
    ∀ (m i : Nat) (xs ys : By), 0 < i → i + m = els.length → wSeq pr m i xs = .ok ys → ∃ t, ys = xs ++ t ∧ ∀ (s : By) (q n : Nat), At s q (t ++ [close]) → t.length < n + 1 →
      Stop s q ∧ q < s.length ∧ (if bt s q = close then EStateM.Result.ok (els.take i) (q + 1) else if bt s q = 44 then seqAt s close (F s) n (skip s (q + 1)) (els.take i) else .error 40 q) = .ok els (q + t.length + 1)
  | 0, i, xs, ys, hi, hm, h => by
    injection h with h
    subst h
    refine ⟨[], by simp, fun s q n ha _ => ?_⟩
    obtain ⟨a1, a2, _⟩ := At.cons (c := close) (t := []) ha
    refine ⟨?_, a1, ?_⟩
    · unfold Stop; rw [a2]; rcases hcl with h | h <;> simp [h]
    · rw [if_pos a2, show i = els.length by omega, List.take_length]
      rfl
  | m + 1, i, xs, ys, hi, hm, h => by
    have hw : wSeq pr (m + 1) i xs = ((putAt xs [44]).then (pr i)).then (wSeq pr m (i + 1)) := by
      show ((if 0 < i then putAt xs [44] else .ok xs).then (pr i)).then (wSeq pr m (i + 1)) = _
      rw [if_pos hi]
    rw [hw] at h
    obtain ⟨zs, hz, h⟩ := then_split h
    obtain ⟨us, hu, hz⟩ := then_split hz
    obtain ⟨rfl, _⟩ := putAt_ok hu
    have hia : i < els.length := by omega
    obtain ⟨c, t1, rfl, c1, c2, c3⟩ := hpr i els[i] _ _ (List.getElem?_eq_getElem hia) hz
    obtain ⟨t2, rfl, ht⟩ := tail_back hcl hpr m (i + 1) _ _ (by omega) (by omega) h
    refine ⟨44 :: (c :: t1) ++ t2, by simp, fun s q n ha hn => ?_⟩
    rw [show (44 :: (c :: t1) ++ t2) ++ [close] = 44 :: ((c :: t1) ++ (t2 ++ [close])) by simp] at ha
    obtain ⟨a1, a2, a3⟩ := ha.cons
    have hL := a3.left
    have hR := a3.right
    obtain ⟨b1, b2, _⟩ := hL.cons
    have hlen : (44 :: (c :: t1) ++ t2).length = (c :: t1).length + t2.length + 1 := by simp; omega
    rw [hlen] at hn ⊢
    have hc1 : 1 ≤ (c :: t1).length := by simp
    obtain ⟨n, rfl⟩ : ∃ k, n = k + 1 := ⟨n - 1, by omega⟩
    obtain ⟨d1, d2, d3⟩ := ht s _ n hR (by omega)
    refine ⟨.inr (.inl a2), a1, ?_⟩
    rw [if_neg (by rw [a2]; rcases hcl with h | h <;> omega), if_pos a2, not_blank_skip b2 c1]
    unfold seqAt
    rw [c3 s (q + 1) hL d1]
    simp only
    rw [d1.skip, if_pos d2, take_snoc (List.getElem?_eq_getElem hia), d3]
    congr 1
    omega
theorem betw_back {α : Type} {o close : Nat} (hcl : close = 93 ∨ close = 125) {F : By → List α → Nat → Out α} {els : List α} {pr : Nat → By → Pr}
    (hpr : ∀ i a xs ys, els[i]? = some a → pr i xs = .ok ys → ∃ c t, ys = xs ++ c :: t ∧ isBlank c = false ∧ c ≠ close ∧ ∀ s p, At s p (c :: t) → Stop s (p + (c :: t).length) → F s (els.take i) p = .ok a (p + (c :: t).length))
    {n : Nat} (hn : n = els.length) {xs ys : By} (h : betwAt [o] [close] n pr xs = .ok ys) : ys.length ≤ 16384 ∧ ∃ t, ys = xs ++ o :: t ∧ ∀ s p, At s p (o :: t) → inAt s close (F s) p = .ok els (p + (o :: t).length) := by
  unfold betwAt at h
  obtain ⟨zs, hz, h2⟩ := then_split h
  obtain ⟨us, hu, h3⟩ := then_split h2
  obtain ⟨rfl, _⟩ := putAt_ok hz
  obtain ⟨rfl, hle⟩ := putAt_ok h3
  refine ⟨hle, ?_⟩
  cases n with
  | zero =>
    injection hu with hu
    subst hu
    have : els = [] := List.length_eq_zero_iff.1 hn.symm
    subst this
    refine ⟨[close], by simp, fun s p ha => ?_⟩
    obtain ⟨a1, a2, a3⟩ := ha.cons
    obtain ⟨b1, b2, _⟩ := a3.cons
    unfold inAt
    rw [not_blank_skip b2 (by rcases hcl with h | h <;> rw [h] <;> rfl), if_pos ⟨b1, b2⟩]
    rfl
  | succ m =>
    have hw : wSeq pr (m + 1) 0 (xs ++ [o]) = (pr 0 (xs ++ [o])).then (wSeq pr m 1) := rfl
    rw [hw] at hu
    obtain ⟨vs, hv, hu⟩ := then_split hu
    have hia : 0 < els.length := by omega
    obtain ⟨c, t1, rfl, c1, c2, c3⟩ := hpr 0 els[0] _ _ (List.getElem?_eq_getElem hia) hv
    obtain ⟨t2, rfl, ht⟩ := tail_back hcl hpr m 1 _ _ (by omega) (by omega) hu
    refine ⟨(c :: t1) ++ (t2 ++ [close]), by simp, fun s p ha => ?_⟩
    obtain ⟨a1, a2, a3⟩ := ha.cons
    have hL := a3.left
    have hR := a3.right
    have hfit := hR.fits
    obtain ⟨b1, b2, _⟩ := hL.cons
    rw [List.length_append] at hfit
    simp only [List.length_cons, List.length_nil] at hfit
    obtain ⟨d1, d2, d3⟩ := ht s _ s.length hR (by omega)
    unfold inAt
    rw [not_blank_skip b2 c1, if_neg (by rw [b2]; exact fun h => c2 h.2)]
    unfold seqAt
    have e0 := c3 s (p + 1) hL d1
    rw [List.take_zero] at e0
    rw [e0]
    simp only
    rw [d1.skip, if_pos d2, show ([] : List α) ++ [els[0]] = els.take 1 from by rw [← take_snoc (List.getElem?_eq_getElem hia)]; rfl, d3]
    simp only [List.length_append, List.length_cons, List.length_nil]
    congr 1
    omega
/-- What is written of a value at a depth is read as it. -/
def Goes (d : Nat) (j : J) (xs ys : By) : Prop := ys.length ≤ 16384 ∧ ∃ c t, ys = xs ++ c :: t ∧ isBlank c = false ∧ c ≠ 93 ∧ c ≠ 125 ∧ ∀ s p, At s p (c :: t) → Stop s (p + (c :: t).length) → vAt s d p = .ok j (p + (c :: t).length)
theorem name_back {had : List By} {nm xs ys : By} (h : wNameAt had nm xs = .ok ys) : ∃ t, ys = xs ++ 34 :: (t ++ [58]) ∧ ∀ (s : By) (p c : Nat), At s p (34 :: (t ++ [58])) → bt s (p + (34 :: (t ++ [58])).length) = c → isBlank c = false → nameAt s had p = .ok nm (p + (34 :: (t ++ [58])).length) := by
  unfold wNameAt at h
  split at h
  · split at h
    · cases h
    · rename_i hc
      obtain ⟨zs, hz, h⟩ := then_split h
      obtain ⟨t, rfl, ht⟩ := quoteAt_back hz
      obtain ⟨rfl, _⟩ := putAt_ok h
      refine ⟨t, by simp, fun s p c ha hb hbl => ?_⟩
      rw [show 34 :: (t ++ [58]) = (34 :: t) ++ [58] by simp] at ha hb ⊢
      obtain ⟨a1, a2, _⟩ := ha.left.cons
      obtain ⟨b1, b2, _⟩ := At.cons (c := 58) (t := []) ha.right
      rw [List.length_append, ← Nat.add_assoc] at hb ⊢
      have hb2 : bt s (p + (34 :: t).length + 1) = c := hb
      unfold nameAt
      rw [if_pos a1, if_pos a2, ht s p ha.left]
      simp only
      rw [if_neg hc, not_blank_skip b2 rfl, if_pos b1, if_pos b2, not_blank_skip hb2 hbl]
      rfl
  · cases h
theorem word_goes {k : Int} {xs ys w : By} {c : Nat} {w' : By} (hw : w = c :: w') (h : putAt xs w = .ok ys) (hc : isBlank c = false ∧ c ≠ 93 ∧ c ≠ 125) (d : Nat)
    (hv : ∀ s p, p < s.length → bt s p = c → vAt s d p = (wordAt s p w).map fun _ => J.mk k [] [] []) : Goes d (.mk k [] [] []) xs ys := by
  obtain ⟨rfl, hle⟩ := putAt_ok h
  refine ⟨hle, c, w', by rw [hw], hc.1, hc.2.1, hc.2.2, fun s p ha _ => ?_⟩
  obtain ⟨a1, a2, _⟩ := ha.cons
  rw [hv s p a1 a2, hw, wordAt_at _ s p ha]
  rfl
theorem zip_fst {α β : Type} : ∀ (a : List α) (b : List β), a.length = b.length → (a.zip b).map (·.1) = a
  | [], [], _ => rfl
  | x :: a, y :: b, h => by simp only [List.zip_cons_cons, List.map_cons]; rw [zip_fst a b (by simpa using h)]
  | [], _ :: _, h => by simp at h
  | _ :: _, [], h => by simp at h
theorem zip_snd {α β : Type} : ∀ (a : List α) (b : List β), a.length = b.length → (a.zip b).map (·.2) = b
  | [], [], _ => rfl
  | x :: a, y :: b, h => by simp only [List.zip_cons_cons, List.map_cons]; rw [zip_snd a b (by simpa using h)]
  | [], _ :: _, h => by simp at h
  | _ :: _, [], h => by simp at h
theorem vAt_cases (s : By) (d p : Nat) : vAt s d p = vStep s (match d with | 0 => none | d + 1 => some (vAt s d)) p := by cases d <;> rfl

set_option maxHeartbeats 1000000 in
theorem pStep_goes (d : Nat) (sub : Option (J → By → Pr)) (hsub : ∀ f, sub = some f → ∃ d', d = d' + 1 ∧ ∀ j xs ys, f j xs = .ok ys → Goes d' j xs ys) (j : J) (xs ys : By) (h : pStep sub j xs = .ok ys) : Goes d j xs ys := by
  have hj : j = .mk j.kind j.text j.names j.items := by cases j; rfl
  unfold pStep at h
  generalize j.kind = k at h hj
  generalize j.text = tx at h hj
  generalize j.names = ns at h hj
  generalize j.items = is at h hj
  subst hj
  by_cases hd0 : sub.isNone = true ∧ (k = 5 ∨ k = 6)
  · rw [if_pos hd0] at h
    cases h
  rw [if_neg hd0] at h
  by_cases hf : (tx ≠ [] ∧ ¬ (k = 3 ∨ k = 4)) ∨ (ns ≠ [] ∧ k ≠ 6) ∨ (is ≠ [] ∧ ¬ (k = 5 ∨ k = 6))
  · rw [if_pos hf] at h
    cases h
  rw [if_neg hf] at h
  have hT : ¬ (k = 3 ∨ k = 4) → tx = [] := fun hk => by
    cases tx with
    | nil => rfl
    | cons a b => exact absurd (Or.inl ⟨by simp, hk⟩) hf
  have hN : k ≠ 6 → ns = [] := fun hk => by
    cases ns with
    | nil => rfl
    | cons a b => exact absurd (Or.inr (Or.inl ⟨by simp, hk⟩)) hf
  have hI : ¬ (k = 5 ∨ k = 6) → is = [] := fun hk => by
    cases is with
    | nil => rfl
    | cons a b => exact absurd (Or.inr (Or.inr ⟨by simp, hk⟩)) hf
  split at h
  · rename_i hk
    rw [hT (by omega), hN (by omega), hI (by omega), hk]
    refine word_goes rfl h ⟨rfl, by decide, by decide⟩ _ (fun s p h1 h2 => ?_)
    rw [vAt_cases]; unfold vStep; rw [if_pos h1, if_pos h2]
  split at h
  · rename_i hk
    rw [hT (by omega), hN (by omega), hI (by omega), hk]
    refine word_goes rfl h ⟨rfl, by decide, by decide⟩ _ (fun s p h1 h2 => ?_)
    rw [vAt_cases]; unfold vStep; rw [if_pos h1, if_neg (by omega), if_pos h2]
  split at h
  · rename_i hk
    rw [hT (by omega), hN (by omega), hI (by omega), hk]
    refine word_goes rfl h ⟨rfl, by decide, by decide⟩ _ (fun s p h1 h2 => ?_)
    rw [vAt_cases]; unfold vStep; rw [if_pos h1, if_neg (by omega), if_neg (by omega), if_pos h2]
  split at h
  · rename_i hk
    split at h
    · rename_i hl
      obtain ⟨rfl, hle⟩ := putAt_ok h
      obtain ⟨c, t', rfl, hc⟩ := lit_first hl
      have hcd : c = 45 ∨ (48 ≤ c ∧ c ≤ 57) := by
        rcases hc with h | h
        · exact .inl h
        · exact .inr (yes_digit h)
      rw [hN (by omega), hI (by omega), hk]
      refine ⟨hle, c, t', rfl, ?_, by omega, by omega, fun s p ha hs => ?_⟩
      · unfold isBlank
        rw [Bool.or_eq_false_iff, Bool.or_eq_false_iff, Bool.or_eq_false_iff]
        refine ⟨⟨⟨?_, ?_⟩, ?_⟩, ?_⟩ <;> simp <;> omega
      · obtain ⟨a1, a2, _⟩ := ha.cons
        rw [vAt_cases]; unfold vStep
        rw [if_pos a1, if_neg (by omega), if_neg (by omega), if_neg (by omega), if_pos (by rw [a2]; exact hc), numAt_at hl ha hs]
        rfl
    · cases h
  split at h
  · rename_i hk
    split at h
    · have hle : ys.length ≤ 16384 := by
        unfold quoteAt at h
        obtain ⟨_, _, h2⟩ := then_split h
        obtain ⟨_, _, h3⟩ := then_split h2
        exact (putAt_ok h3).2
      obtain ⟨t, rfl, ht⟩ := quoteAt_back h
      rw [hN (by omega), hI (by omega), hk]
      refine ⟨hle, 34, t, rfl, rfl, by decide, by decide, fun s p ha hs => ?_⟩
      obtain ⟨a1, a2, _⟩ := ha.cons
      rw [vAt_cases]; unfold vStep
      rw [if_pos a1, if_neg (by omega), if_neg (by omega), if_neg (by omega), if_neg (by rw [a2]; decide), if_pos a2, ht s p ha]
      rfl
    · cases h
  split at h
  · rename_i hk
    cases sub with
    | none => cases h
    | some f =>
      obtain ⟨d, rfl, ih⟩ := hsub f rfl
      rw [hT (by omega), hN (by omega), hk]
      obtain ⟨hle, t, rfl, ht⟩ := betw_back (α := J) (o := 91) (close := 93) (.inl rfl) (F := fun s _ => vAt s d) (els := is) (pr := fun i ys => f (is.getD i J.zero) ys) (fun i a xs ys ha hp => by
          rw [show is.getD i J.zero = a by simp [List.getD, ha]] at hp
          obtain ⟨_, c, t, e1, e2, e3, _, e5⟩ := ih a xs ys hp
          exact ⟨c, t, e1, e2, e3, e5⟩) rfl h
      refine ⟨hle, 91, t, rfl, rfl, by decide, by decide, fun s p ha _ => ?_⟩
      obtain ⟨a1, a2, _⟩ := ha.cons
      rw [vAt_cases]; unfold vStep
      rw [if_pos a1, if_neg (by omega), if_neg (by omega), if_neg (by omega), if_neg (by rw [a2]; decide), if_neg (by omega), if_pos (.inl a2)]
      simp only
      rw [if_pos a2, ht s p ha]
      rfl
  split at h
  · rename_i hk
    cases sub with
    | none => cases h
    | some f =>
      obtain ⟨d, rfl, ih⟩ := hsub f rfl
      simp only at h
      split at h
      · rename_i hlen
        rw [hT (by omega), hk]
        have hz : (ns.zip is).length = is.length := by rw [List.length_zip]; omega
        obtain ⟨hle, t, rfl, ht⟩ := betw_back (α := By × J) (o := 123) (close := 125) (.inr rfl) (F := fun s => memAt s (vAt s d)) (els := ns.zip is) (pr := memW f ns is) (fun i a xs ys ha hp => by
            obtain ⟨a1, a2⟩ := a
            have hi := List.getElem?_zip_eq_some.1 ha
            unfold memW at hp
            rw [show is.getD i J.zero = a2 by simp [List.getD, hi.2], show ns.getD i [] = a1 by simp [List.getD, hi.1]] at hp
            obtain ⟨zs, hz, hp2⟩ := then_split hp
            obtain ⟨t, rfl, ht⟩ := name_back hz
            obtain ⟨_, c, t2, rfl, e2, _, _, e5⟩ := ih a2 _ _ hp2
            refine ⟨34, (t ++ [58]) ++ (c :: t2), by simp, rfl, by decide, fun s p hA hS => ?_⟩
            rw [← List.cons_append] at hA hS ⊢
            have hR := hA.right
            obtain ⟨b1, b2, _⟩ := hR.cons
            rw [List.length_append, ← Nat.add_assoc] at hS ⊢
            unfold memAt
            rw [List.map_take, zip_fst ns is hlen, ht s p c hA.left b2 e2]
            simp only
            rw [e5 s _ hR hS]
            rfl) hz.symm h
        refine ⟨hle, 123, t, rfl, rfl, by decide, by decide, fun s p ha _ => ?_⟩
        obtain ⟨a1, a2, _⟩ := ha.cons
        rw [vAt_cases]; unfold vStep
        rw [if_pos a1, if_neg (by omega), if_neg (by omega), if_neg (by omega), if_neg (by rw [a2]; decide), if_neg (by omega), if_pos (.inr a2)]
        simp only
        rw [if_neg (by omega), ht s p ha]
        simp only [Out.map]
        rw [zip_fst ns is hlen, zip_snd ns is hlen]
      · cases h
  cases h
theorem pAt_goes : ∀ (d : Nat) (j : J) (xs ys : By), pAt d j xs = .ok ys → Goes d j xs ys
  | 0, j, xs, ys, h => pStep_goes 0 none (fun f e => by cases e) j xs ys h
  | d + 1, j, xs, ys, h => pStep_goes (d + 1) (some (pAt d)) (fun f e => ⟨d, rfl, fun j xs ys hj => by injection e with e; rw [← e] at hj; exact pAt_goes d j xs ys hj⟩) j xs ys h
/-- P4.8: what is written is read as what was written. -/
theorem parse_back {j : J} {ys : By} (h : pAt 32 j [] = .ok ys) : parse ys = (j, 0, 0) := by
  obtain ⟨hle, c, t, e1, e2, _, _, e5⟩ := pAt_goes 32 j [] ys h
  rw [List.nil_append] at e1
  subst e1
  have hb : bt (c :: t) 0 = c := rfl
  have hst : Stop (c :: t) (0 + (c :: t).length) := .inl (bt_end (by omega))
  have hv := e5 (c :: t) 0 (at_whole _) hst
  unfold parse
  rw [if_neg (by omega), not_blank_skip hb e2, hv]
  simp only
  rw [hst.skip, if_neg (by omega)]
end Go.Proofs.YtlebockgdonceaaGreatDoor
namespace Go.Proofs.YtlebockgdonceaaGreatDoor

def Asc (xs : By) : Prop := ∀ c ∈ xs, 32 ≤ c ∧ c ≤ 126
theorem Asc.app {a b : By} (h : Asc a) (k : Asc b) : Asc (a ++ b) := fun c hc => by
  rcases List.mem_append.1 hc with h1 | h1
  · exact h c h1
  · exact k c h1
theorem Asc.lt {a : By} (h : Asc a) : ∀ c ∈ a, c < 256 := fun c hc => by have := h c hc; omega
/-- A way of writing that keeps to these bytes. -/
def Asks (f : By → Pr) : Prop := ∀ xs ys, Asc xs → f xs = .ok ys → Asc ys
theorem asks_put {t : By} (h : Asc t) : Asks fun xs => putAt xs t := fun xs ys hx hy => by rw [(putAt_ok hy).1]; exact hx.app h
theorem asks_then {f g : By → Pr} (hf : Asks f) (hg : Asks g) : Asks fun xs => (f xs).then g := fun xs ys hx hy => by
  obtain ⟨zs, h1, h2⟩ := then_split hy
  exact hg zs ys (hf xs zs hx h1) h2
theorem lit_asc : ∀ (t : By) (st : Nat), (litRun st t).1 = t.length → Asc t
  | [], _, _ => fun c hc => by cases hc
  | c :: t, st, h => by
    cases e : litStep st c with
    | none => rw [litRun_none e] at h; simp at h
    | some st' =>
      rw [litRun_some e] at h
      simp only [List.length_cons, Nat.add_right_cancel_iff] at h
      have ih := lit_asc t st' h
      intro x hx
      rcases List.mem_cons.1 hx with rfl | hx
      · unfold litStep at e
        have hd : isDigit x = true → 48 ≤ x ∧ x ≤ 57 := fun h => yes_digit h
        repeat' split at e
        all_goals first
          | (cases e; done)
          | (rename_i h1; have := h1.2; omega)
          | (rename_i h1; rcases h1 with h1 | h1 <;> (have := hd h1.2; omega))
          | (rename_i h1; have := hd h1.2; omega)
      · exact ih x hx
theorem hx_asc {n : Nat} (h : n < 16) : 32 ≤ hx n ∧ hx n ≤ 126 := by unfold hx; split <;> omega
theorem unit_asc (n : Nat) : Asc (unitOf n) := by
  intro x h
  simp only [unitOf, List.mem_cons, List.not_mem_nil, or_false] at h
  rcases h with rfl | rfl | rfl | rfl | rfl | rfl
  · omega
  · omega
  · exact hx_asc (by omega)
  · exact hx_asc (by omega)
  · exact hx_asc (by omega)
  · exact hx_asc (by omega)
theorem esc_asc (c : Nat) : Asc (escOf c) := by
  unfold escOf
  repeat' split
  all_goals first
    | exact unit_asc _
    | exact (unit_asc _).app (unit_asc _)
    | (intro x h; simp only [List.mem_cons, List.not_mem_nil, or_false] at h; omega)
theorem escAll_asc : ∀ (n : Nat) (l : By), Asks (escAll n l)
  | n, [] => fun xs ys hx hy => by rw [escAll_nil] at hy; injection hy with hy; rw [← hy]; exact hx
  | 0, _ :: _ => fun xs ys hx hy => by cases hy
  | n + 1, c :: l => fun xs ys hx hy => by
    cases hc : chr (c :: l) with
    | error bb => cases bb with
      | false => unfold escAll at hy; rw [hc] at hy; cases hy
      | true => unfold escAll at hy; rw [hc] at hy; cases hy
    | ok k =>
      rw [escAll_step (by simp) hc] at hy
      exact asks_then (asks_put (esc_asc _)) (escAll_asc n _) xs ys hx hy
theorem asc_one {c : Nat} (h : 32 ≤ c ∧ c ≤ 126) : Asc [c] := fun x hx => by simp at hx; omega
theorem quote_asc (t : By) : Asks (quoteAt t) := asks_then (asks_put (asc_one (by omega))) (asks_then (escAll_asc _ _) (asks_put (asc_one (by omega))))
theorem name_asc (had : List By) (nm : By) : Asks (wNameAt had nm) := fun xs ys hx hy => by
  unfold wNameAt at hy
  split at hy
  · split at hy
    · cases hy
    · exact asks_then (quote_asc nm) (asks_put (asc_one (by omega))) xs ys hx hy
  · cases hy
theorem seq_asc {f : Nat → By → Pr} (h : ∀ i, Asks (f i)) : ∀ (m i : Nat), Asks (wSeq f m i)
  | 0, i => fun xs ys hx hy => by injection hy with hy; rw [← hy]; exact hx
  | m + 1, i => fun xs ys hx hy => by
    refine asks_then (asks_then (f := fun xs => if 0 < i then putAt xs [44] else .ok xs) (fun xs ys hx hy => ?_) (h i)) (seq_asc h m (i + 1)) xs ys hx hy
    simp only at hy
    split at hy
    · exact asks_put (asc_one (by omega)) xs ys hx hy
    · injection hy with hy; rw [← hy]; exact hx
theorem betw_asc {o c : Nat} (ho : 32 ≤ o ∧ o ≤ 126) (hc : 32 ≤ c ∧ c ≤ 126) (n : Nat) {f : Nat → By → Pr} (h : ∀ i, Asks (f i)) : Asks (betwAt [o] [c] n f) :=
  asks_then (asks_put (asc_one ho)) (asks_then (seq_asc h n 0) (asks_put (asc_one hc)))
theorem pStep_asc (sub : Option (J → By → Pr)) (hs : ∀ f, sub = some f → ∀ j, Asks (f j)) (j : J) : Asks (pStep sub j) := fun xs ys hx hy => by
  unfold pStep at hy
  split at hy
  · cases hy
  split at hy
  · cases hy
  split at hy
  · exact asks_put (t := [110, 117, 108, 108]) (by unfold Asc; decide) xs ys hx hy
  split at hy
  · exact asks_put (t := [102, 97, 108, 115, 101]) (by unfold Asc; decide) xs ys hx hy
  split at hy
  · exact asks_put (t := [116, 114, 117, 101]) (by unfold Asc; decide) xs ys hx hy
  split at hy
  · split at hy
    · rename_i hl
      unfold isLit at hl
      rw [Bool.and_eq_true, decide_eq_true_iff] at hl
      exact asks_put (lit_asc _ 0 hl.2) xs ys hx hy
    · cases hy
  split at hy
  · split at hy
    · exact quote_asc _ xs ys hx hy
    · cases hy
  split at hy
  · cases sub with
    | none => cases hy
    | some f => exact betw_asc (by omega) (by omega) _ (fun i => hs f rfl _) xs ys hx hy
  split at hy
  · cases sub with
    | none => cases hy
    | some f =>
      simp only at hy
      split at hy
      · exact betw_asc (by omega) (by omega) _ (fun i => asks_then (name_asc _ _) (hs f rfl _)) xs ys hx hy
      · cases hy
  cases hy
theorem pAt_asc : ∀ (d : Nat) (j : J), Asks (pAt d j)
  | 0, j => pStep_asc none (fun f h => by cases h) j
  | d + 1, j => pStep_asc (some (pAt d)) (fun f h j => by injection h with h; rw [← h]; exact pAt_asc d j) j
end Go.Proofs.YtlebockgdonceaaGreatDoor
