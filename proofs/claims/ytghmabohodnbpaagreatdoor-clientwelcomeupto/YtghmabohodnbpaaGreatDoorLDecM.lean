/- What base64 decodes to, by groups of four letters; the same as a row of bits, eight at a time; the text that a Basic header says, as plain mathematics. -/
import Derived.Test.YtghmabohodnbpaaGreatDoorB64Math
namespace Go.Proofs.YtghmabohodnbpaaGreatDoor

theorem o64' (b x : Nat) (hx : x < 64) : o32 (b * 64 % 4294967296) x = (b * 64 + x) % 4294967296 := by
  unfold o32
  have e : b * 64 % 4294967296 % 4294967296 = 2 ^ 6 * (b % 67108864) := by omega
  rw [e, Nat.mod_eq_of_lt (show x < 4294967296 by omega), ← Nat.two_pow_add_eq_or_of_lt (by omega) (b % 67108864)]
  omega
theorem an_mask (v n : Nat) (hn : n ≤ 32) : an32 v (2 ^ n - 1) = v % 2 ^ n := by
  unfold an32
  have h1 : 2 ^ n ≤ 2 ^ 32 := Nat.pow_le_pow_right (by decide) hn
  rw [Nat.mod_eq_of_lt (show 2 ^ n - 1 < 4294967296 by have := Nat.two_pow_pos n; omega), Nat.and_two_pow_sub_one_eq_mod]
  exact Nat.mod_mod_of_dvd v (Nat.pow_dvd_pow 2 hn)
/-- The numbers of groups of six bits, three bytes at a time. -/
def g64 : List Nat → List Nat
  | x :: y :: z :: r => (x / 4) :: (x % 4 * 16 + y / 16) :: (y % 16 * 4 + z / 64) :: (z % 64) :: g64 r
  | [x, y] => [x / 4, x % 4 * 16 + y / 16, y % 16 * 4]
  | [x] => [x / 4, x % 4 * 16]
  | [] => []
/-- The bytes of numbers of six bits, four at a time; the bits that are left over. -/
def d64 : List Nat → List Nat
  | a :: b :: c :: d :: r => (a * 4 + b / 16) :: (b % 16 * 16 + c / 4) :: (c % 4 * 64 + d) :: d64 r
  | [a, b, c] => [a * 4 + b / 16, b % 16 * 16 + c / 4]
  | [a, b] => [a * 4 + b / 16]
  | _ => []
def left64 : List Nat → Nat
  | _ :: _ :: _ :: _ :: r => left64 r
  | [_, _, c] => c % 4
  | [_, b] => b % 16
  | [a] => a
  | [] => 0
theorem dec1 (B a : Nat) (out : List Nat) (ha : a < 64) : b64step ⟨B, 0, out⟩ a = ⟨(B * 64 + a) % 4294967296, 6, out⟩ := by
  simp only [b64step, o64' B a ha]
  rw [if_neg (by decide)]
theorem dec2 (B a b : Nat) (out : List Nat) (ha : a < 64) (hb : b < 64) : b64step ⟨(B * 64 + a) % 4294967296, 6, out⟩ b = ⟨((B * 64 + a) % 4294967296 * 64 + b) % 4294967296, 4, out ++ [a * 4 + b / 16]⟩ := by
  simp only [b64step, o64' _ b hb]
  rw [if_pos (by decide)]
  simp only [B64.mk.injEq, true_and, Nat.reduceSub]
  congr 2
  omega
theorem dec3 (B b c : Nat) (out : List Nat) (hc : c < 64) : b64step ⟨(B * 64 + b) % 4294967296, 4, out⟩ c = ⟨((B * 64 + b) % 4294967296 * 64 + c) % 4294967296, 2, out ++ [b % 16 * 16 + c / 4]⟩ := by
  simp only [b64step, o64' _ c hc]
  rw [if_pos (by decide)]
  simp only [B64.mk.injEq, true_and, Nat.reduceSub]
  congr 2
  omega
theorem dec4 (B c d : Nat) (out : List Nat) (hd : d < 64) : b64step ⟨(B * 64 + c) % 4294967296, 2, out⟩ d = ⟨((B * 64 + c) % 4294967296 * 64 + d) % 4294967296, 0, out ++ [c % 4 * 64 + d]⟩ := by
  simp only [b64step, o64' _ d hd]
  rw [if_pos (by decide)]
  simp only [B64.mk.injEq, true_and, Nat.reduceSub]
  congr 2
  omega
theorem dec_from : ∀ (v : List Nat) (_ : ∀ x ∈ v, x < 64) (B : Nat) (out : List Nat), (v.foldl b64step ⟨B, 0, out⟩).out = out ++ d64 v ∧ (v.foldl b64step ⟨B, 0, out⟩).bits % 2 ^ (v.foldl b64step ⟨B, 0, out⟩).count = left64 v
  | a :: b :: c :: d :: r, h, B, out => by
    have ha := h a (by simp)
    have hb := h b (by simp)
    have hc := h c (by simp)
    have hd := h d (by simp)
    simp only [List.foldl_cons]
    rw [dec1 B a out ha, dec2 B a b _ ha hb, dec3 _ b c _ hc, dec4 _ c d _ hd]
    have ih2 := dec_from r (fun x hx => h x (by simp [hx])) (((((B * 64 + a) % 4294967296 * 64 + b) % 4294967296 * 64 + c) % 4294967296 * 64 + d) % 4294967296) (out ++ [a * 4 + b / 16] ++ [b % 16 * 16 + c / 4] ++ [c % 4 * 64 + d])
    refine ⟨?_, ih2.2⟩
    rw [ih2.1]
    simp [d64]
  | [a, b, c], h, B, out => by
    have ha := h a (by simp)
    have hb := h b (by simp)
    have hc := h c (by simp)
    simp only [List.foldl_cons, List.foldl_nil]
    rw [dec1 B a out ha, dec2 B a b _ ha hb, dec3 _ b c _ hc]
    refine ⟨by simp [d64], ?_⟩
    simp only [left64]
    omega
  | [a, b], h, B, out => by
    have ha := h a (by simp)
    have hb := h b (by simp)
    simp only [List.foldl_cons, List.foldl_nil]
    rw [dec1 B a out ha, dec2 B a b _ ha hb]
    refine ⟨by simp [d64], ?_⟩
    simp only [left64]
    omega
  | [a], h, B, out => by
    have ha := h a (by simp)
    simp only [List.foldl_cons, List.foldl_nil]
    rw [dec1 B a out ha]
    refine ⟨by simp [d64], ?_⟩
    simp only [left64]
    omega
  | [], _, B, out => by simp [d64, left64, Nat.mod_one]
theorem vals_lt (l : List Nat) : ∀ x ∈ vals l, x < 64 := by
  intro x hx
  obtain ⟨c, _, h⟩ := List.mem_filterMap.1 hx
  exact val64_lt h
theorem b64run_d (l : List Nat) : (b64run l).out = d64 (vals l) ∧ an32 (b64run l).bits (2 ^ (b64run l).count - 1) = left64 (vals l) := by
  have h := dec_from (vals l) (vals_lt l) 0 []
  rw [an_mask _ _ (by have := b64run_count l; omega)]
  exact ⟨h.1, h.2⟩
/-- The answer again, by groups. -/
theorem fb64_eq (l : List Nat) : fb64 l = if 65536 < l.length then ([], 1, 0) else match badAt l with
  | some i => ([], 20, i)
  | none => if l.length % 4 = 1 then ([], 3, l.length) else if left64 (vals l) ≠ 0 then ([], 21, l.length - 1) else (d64 (vals l), 0, 0) := by
  unfold fb64
  rw [(b64run_d l).1, (b64run_d l).2]
  rfl
theorem g64_lt : ∀ (l : List Nat) (_ : ∀ x ∈ l, x < 256), ∀ y ∈ g64 l, y < 64
  | x :: y :: z :: r, h, a, ha => by
    have hx := h x (by simp)
    have hy := h y (by simp)
    have hz := h z (by simp)
    simp only [g64, List.mem_cons] at ha
    rcases ha with rfl | rfl | rfl | rfl | ha
    · omega
    · omega
    · omega
    · omega
    · exact g64_lt r (fun b hb => h b (by simp [hb])) a ha
  | [x, y], h, a, ha => by
    have hx := h x (by simp)
    have hy := h y (by simp)
    simp only [g64, List.mem_cons, List.not_mem_nil, or_false] at ha
    rcases ha with rfl | rfl | rfl <;> omega
  | [x], h, a, ha => by
    have hx := h x (by simp)
    simp only [g64, List.mem_cons, List.not_mem_nil, or_false] at ha
    rcases ha with rfl | rfl <;> omega
  | [], _, a, ha => by simp [g64] at ha
theorem d64_g64 : ∀ (l : List Nat) (_ : ∀ x ∈ l, x < 256), d64 (g64 l) = l ∧ left64 (g64 l) = 0 ∧ (g64 l).length % 4 ≠ 1
  | x :: y :: z :: r, h => by
    have hx := h x (by simp)
    have hy := h y (by simp)
    have hz := h z (by simp)
    have ih := d64_g64 r (fun b hb => h b (by simp [hb]))
    refine ⟨?_, ?_, ?_⟩
    · simp only [g64, d64, ih.1, List.cons.injEq, and_true]
      refine ⟨?_, ?_, ?_⟩ <;> omega
    · simp only [g64, left64]; exact ih.2.1
    · have := ih.2.2
      simp only [g64, List.length_cons]
      omega
  | [x, y], h => by
    have hx := h x (by simp)
    have hy := h y (by simp)
    refine ⟨?_, ?_, by simp [g64]⟩
    · simp only [g64, d64, List.cons.injEq, and_true]
      refine ⟨?_, ?_⟩ <;> omega
    · simp only [g64, left64]; omega
  | [x], h => by
    have hx := h x (by simp)
    refine ⟨?_, ?_, by simp [g64]⟩
    · simp only [g64, d64, List.cons.injEq, and_true]; omega
    · simp only [g64, left64]; omega
  | [], _ => by simp [g64, d64, left64]
theorem d64_lt : ∀ (v : List Nat) (_ : ∀ x ∈ v, x < 64), ∀ y ∈ d64 v, y < 256
  | a :: b :: c :: d :: r, h, y, hy => by
    have ha := h a (by simp)
    have hb := h b (by simp)
    have hc := h c (by simp)
    have hd := h d (by simp)
    simp only [d64, List.mem_cons] at hy
    rcases hy with rfl | rfl | rfl | hy
    · omega
    · omega
    · omega
    · exact d64_lt r (fun x hx => h x (by simp [hx])) y hy
  | [a, b, c], h, y, hy => by
    have ha := h a (by simp)
    have hb := h b (by simp)
    have hc := h c (by simp)
    simp only [d64, List.mem_cons, List.not_mem_nil, or_false] at hy
    rcases hy with rfl | rfl <;> omega
  | [a, b], h, y, hy => by
    have ha := h a (by simp)
    have hb := h b (by simp)
    simp only [d64, List.mem_cons, List.not_mem_nil, or_false] at hy
    subst hy; omega
  | [a], _, y, hy => by simp [d64] at hy
  | [], _, y, hy => by simp [d64] at hy

/-- The six bits of a number below 64. -/
def bits6 (v : Nat) : List Nat := [v / 32 % 2, v / 16 % 2, v / 8 % 2, v / 4 % 2, v / 2 % 2, v / 1 % 2]
/-- Bits by eights: the bytes, and what is left over. -/
def eights : List Nat → List Nat
  | a :: b :: c :: d :: e :: f :: g :: h :: r => (2 * (2 * (2 * (2 * (2 * (2 * (2 * (2 * 0 + a) + b) + c) + d) + e) + f) + g) + h) :: eights r
  | _ => []
def over : List Nat → List Nat
  | _ :: _ :: _ :: _ :: _ :: _ :: _ :: _ :: r => over r
  | l => l
theorem eights_cons (a b c d e f g h : Nat) (r : List Nat) : eights (a :: b :: c :: d :: e :: f :: g :: h :: r) = (2 * (2 * (2 * (2 * (2 * (2 * (2 * (2 * 0 + a) + b) + c) + d) + e) + f) + g) + h) :: eights r := rfl
theorem over_cons (a b c d e f g h : Nat) (r : List Nat) : over (a :: b :: c :: d :: e :: f :: g :: h :: r) = over r := rfl
theorem cons_eq {a b : Nat} {l m : List Nat} (h : a = b) (h2 : l = m) : a :: l = b :: m := by rw [h, h2]
theorem bits_four (a b c d : Nat) (ha : a < 64) (hb : b < 64) (hc : c < 64) (hd : d < 64) (B : List Nat) : eights (bits6 a ++ (bits6 b ++ (bits6 c ++ (bits6 d ++ B)))) = (a * 4 + b / 16) :: (b % 16 * 16 + c / 4) :: (c % 4 * 64 + d) :: eights B ∧ over (bits6 a ++ (bits6 b ++ (bits6 c ++ (bits6 d ++ B)))) = over B := by
  simp only [bits6, List.cons_append, List.nil_append]
  rw [eights_cons, eights_cons, eights_cons, over_cons, over_cons, over_cons]
  refine ⟨cons_eq ?_ (cons_eq ?_ (cons_eq ?_ rfl)), rfl⟩ <;> omega
theorem bits_three (a b c : Nat) (ha : a < 64) (hb : b < 64) (hc : c < 64) : eights (bits6 a ++ (bits6 b ++ bits6 c)) = [a * 4 + b / 16, b % 16 * 16 + c / 4] ∧ over (bits6 a ++ (bits6 b ++ bits6 c)) = [c / 2 % 2, c / 1 % 2] := by
  simp only [bits6, List.cons_append, List.nil_append]
  rw [eights_cons, eights_cons, over_cons, over_cons]
  refine ⟨cons_eq ?_ (cons_eq ?_ rfl), rfl⟩ <;> omega
theorem bits_two (a b : Nat) (ha : a < 64) (hb : b < 64) : eights (bits6 a ++ bits6 b) = [a * 4 + b / 16] ∧ over (bits6 a ++ bits6 b) = [b / 8 % 2, b / 4 % 2, b / 2 % 2, b / 1 % 2] := by
  simp only [bits6, List.cons_append, List.nil_append]
  rw [eights_cons, over_cons]
  refine ⟨cons_eq ?_ rfl, rfl⟩
  omega
theorem bits_d64 : ∀ (v : List Nat) (_ : ∀ x ∈ v, x < 64), eights (v.flatMap bits6) = d64 v ∧ ((∀ b ∈ over (v.flatMap bits6), b = 0) ↔ left64 v = 0) ∧ (over (v.flatMap bits6)).length = v.length % 4 * 6 % 8
  | a :: b :: c :: d :: r, h => by
    have ha := h a (by simp)
    have hb := h b (by simp)
    have hc := h c (by simp)
    have hd := h d (by simp)
    obtain ⟨i1, i2, i3⟩ := bits_d64 r (fun x hx => h x (by simp [hx]))
    obtain ⟨e1, e2⟩ := bits_four a b c d ha hb hc hd (r.flatMap bits6)
    simp only [List.flatMap_cons]
    rw [e1, e2, i1]
    refine ⟨rfl, ?_, ?_⟩
    · simp only [left64]; exact i2
    · simp only [List.length_cons]; rw [i3]; omega
  | [a, b, c], h => by
    have ha := h a (by simp)
    have hb := h b (by simp)
    have hc := h c (by simp)
    obtain ⟨e1, e2⟩ := bits_three a b c ha hb hc
    simp only [List.flatMap_cons, List.flatMap_nil, List.append_nil]
    rw [e1, e2]
    refine ⟨rfl, ?_, by simp⟩
    simp only [left64, List.mem_cons, List.not_mem_nil, or_false, forall_eq_or_imp, forall_eq]
    omega
  | [a, b], h => by
    have ha := h a (by simp)
    have hb := h b (by simp)
    obtain ⟨e1, e2⟩ := bits_two a b ha hb
    simp only [List.flatMap_cons, List.flatMap_nil, List.append_nil]
    rw [e1, e2]
    refine ⟨rfl, ?_, by simp⟩
    simp only [left64, List.mem_cons, List.not_mem_nil, or_false, forall_eq_or_imp, forall_eq]
    omega
  | [a], h => by
    have ha := h a (by simp)
    simp only [List.flatMap_cons, List.flatMap_nil, List.append_nil, bits6]
    refine ⟨rfl, ?_, rfl⟩
    show (∀ b ∈ [a / 32 % 2, a / 16 % 2, a / 8 % 2, a / 4 % 2, a / 2 % 2, a / 1 % 2], b = 0) ↔ a = 0
    simp only [List.mem_cons, List.not_mem_nil, or_false, forall_eq_or_imp, forall_eq]
    omega
  | [], _ => ⟨rfl, by simp [over, left64], rfl⟩
theorem eights_eight {l : List Nat} (h : 8 ≤ l.length) : eights l = (2 * (2 * (2 * (2 * (2 * (2 * (2 * (2 * 0 + l.getD 0 0) + l.getD 1 0) + l.getD 2 0) + l.getD 3 0) + l.getD 4 0) + l.getD 5 0) + l.getD 6 0) + l.getD 7 0) :: eights (l.drop 8) ∧ over l = over (l.drop 8) := by
  match l, h with
  | x0 :: x1 :: x2 :: x3 :: x4 :: x5 :: x6 :: x7 :: r, _ => exact ⟨rfl, rfl⟩
theorem eights_few {l : List Nat} (h : l.length < 8) : eights l = [] ∧ over l = l := by
  match l, h with
  | [], _ => exact ⟨rfl, rfl⟩
  | [a], _ => exact ⟨rfl, rfl⟩
  | [a, b], _ => exact ⟨rfl, rfl⟩
  | [a, b, c], _ => exact ⟨rfl, rfl⟩
  | [a, b, c, d], _ => exact ⟨rfl, rfl⟩
  | [a, b, c, d, e], _ => exact ⟨rfl, rfl⟩
  | [a, b, c, d, e, f], _ => exact ⟨rfl, rfl⟩
  | [a, b, c, d, e, f, g], _ => exact ⟨rfl, rfl⟩
  | x0 :: x1 :: x2 :: x3 :: x4 :: x5 :: x6 :: x7 :: r, h => simp at h; omega

/-- Of the common alphabet: a letter's six bits. -/
def six (c : Nat) : Option Nat :=
  if 65 ≤ c ∧ c ≤ 90 then some (c - 65) else if 97 ≤ c ∧ c ≤ 122 then some (c - 71) else if 48 ≤ c ∧ c ≤ 57 then some (c + 4) else if c = 43 then some 62 else if c = 47 then some 63 else none
theorem six_lt {c n : Nat} (h : six c = some n) : n < 64 := by
  unfold six at h
  split at h
  · simp at h; omega
  · split at h
    · simp at h; omega
    · split at h
      · simp at h; omega
      · split at h
        · simp at h; omega
        · split at h
          · simp at h; omega
          · simp at h
/-- One trailing sign is taken off. -/
def trim1 (l : List Nat) : List Nat := if l.getLast? = some 61 then l.dropLast else l
/-- The letters without the signs at the end. -/
def bare (l : List Nat) : List Nat := trim1 (trim1 l)
/-- What a text of the common alphabet decodes to. -/
def decT (l : List Nat) : Option (List Nat) :=
  if l.length % 4 ≠ 0 then none else
    if (bare l).all (fun c => (six c).isSome) = true then
      if left64 ((bare l).filterMap six) = 0 ∧ (bare l).length % 4 ≠ 1 then some (d64 ((bare l).filterMap six)) else none
    else none
/-- The digits of the other alphabet. -/
def other (c : Nat) : Nat := if c = 43 then 45 else if c = 47 then 95 else c
theorem other_six (c : Nat) (h1 : c ≠ 45) (h2 : c ≠ 95) : val64 (other c) = six c := by
  unfold other
  by_cases ha : c = 43
  · subst ha; decide
  · rw [if_neg ha]
    by_cases hb : c = 47
    · subst hb; decide
    · rw [if_neg hb]
      unfold val64 six
      rw [if_neg h1, if_neg h2, if_neg ha, if_neg hb]
theorem trim1_sub (l : List Nat) : (trim1 l).Sublist l := by
  unfold trim1
  split
  · exact List.dropLast_sublist l
  · exact List.Sublist.refl l
theorem bare_sub (l : List Nat) : (bare l).Sublist l := (trim1_sub _).trans (trim1_sub l)
theorem six_not {c : Nat} (h : (six c).isSome = true) : c ≠ 45 ∧ c ≠ 95 ∧ c < 128 := by
  unfold six at h
  split at h
  · omega
  · split at h
    · omega
    · split at h
      · omega
      · split at h
        · omega
        · split at h
          · omega
          · simp at h
theorem trim1_keep {l : List Nat} {c : Nat} (h : c ∈ l) (hc : c ≠ 61) : c ∈ trim1 l := by
  unfold trim1
  split
  · rename_i he
    obtain ⟨ys, rfl⟩ := List.getLast?_eq_some_iff.1 he
    rw [List.dropLast_concat]
    simp only [List.mem_append, List.mem_cons, List.not_mem_nil, or_false] at h
    rcases h with h | h
    · exact h
    · exact absurd h hc
  · exact h
theorem bare_keep {l : List Nat} {c : Nat} (h : c ∈ l) (hc : c ≠ 61) : c ∈ bare l := trim1_keep (trim1_keep h hc) hc
/-- The program's way: by the other alphabet. -/
theorem dec_other (l : List Nat) (hl : l.length ≤ 65536) (h45 : ∀ c ∈ l, c ≠ 45 ∧ c ≠ 95) :
    decT l = if l.length % 4 ≠ 0 then none else if (fb64 ((bare l).map other)).2.1 = 0 then some (fb64 ((bare l).map other)).1 else none := by
  unfold decT
  by_cases h4 : l.length % 4 ≠ 0
  · rw [if_pos h4, if_pos h4]
  · rw [if_neg h4, if_neg h4]
    have hb : ∀ c ∈ bare l, c ≠ 45 ∧ c ≠ 95 := fun c hc => h45 c ((bare_sub l).mem hc)
    have hbl : (bare l).length ≤ l.length := (bare_sub l).length_le
    generalize bare l = m at *
    have hv : ∀ m : List Nat, (∀ c ∈ m, c ≠ 45 ∧ c ≠ 95) → vals (m.map other) = m.filterMap six := by
      intro m hm
      unfold vals
      induction m with
      | nil => rfl
      | cons c r ih =>
        have hc := hm c (by simp)
        rw [List.map_cons, List.filterMap_cons, List.filterMap_cons, other_six c hc.1 hc.2, ih (fun x hx => hm x (by simp [hx]))]
    have e : fb64 (m.map other) = match badAt (m.map other) with
        | some i => ([], 20, i)
        | none => if m.length % 4 = 1 then ([], 3, m.length) else if left64 (m.filterMap six) ≠ 0 then ([], 21, m.length - 1) else (d64 (m.filterMap six), 0, 0) := by
      rw [fb64_eq, if_neg (by rw [List.length_map]; omega), hv m hb, List.length_map]
    rw [e]
    by_cases hall : m.all (fun c => (six c).isSome) = true
    · rw [if_pos hall]
      have hbad : badAt (m.map other) = none := by
        unfold badAt
        rw [List.findIdx?_eq_none_iff]
        intro x hx
        obtain ⟨c, hc, rfl⟩ := List.mem_map.1 hx
        rw [other_six c (hb c hc).1 (hb c hc).2]
        have := List.all_eq_true.1 hall c hc
        cases hs : six c with
        | none => rw [hs] at this; simp at this
        | some n => rfl
      rw [hbad]
      by_cases h1 : m.length % 4 = 1
      · simp [h1]
      · by_cases h0 : left64 (m.filterMap six) = 0
        · simp [h1, h0]
        · simp [h1, h0]
    · rw [if_neg hall]
      cases hbad : badAt (m.map other) with
      | some i => simp
      | none =>
        exfalso
        apply hall
        rw [List.all_eq_true]
        intro c hc
        unfold badAt at hbad
        rw [List.findIdx?_eq_none_iff] at hbad
        have := hbad (other c) (List.mem_map.2 ⟨c, hc, rfl⟩)
        rw [other_six c (hb c hc).1 (hb c hc).2] at this
        cases hs : six c with
        | none => rw [hs] at this; simp at this
        | some n => rfl
/-- Where one of the two stands, nothing is decoded; nor where a byte is above the letters. -/
theorem dec_bad {l : List Nat} {c : Nat} (h : c ∈ l) (hc : c = 45 ∨ c = 95 ∨ 128 ≤ c) : decT l = none := by
  unfold decT
  split
  · rfl
  · have hm := bare_keep h (by omega)
    rw [if_neg]
    intro hall
    have := six_not (List.all_eq_true.1 hall c hm)
    omega
theorem fb_bad {l : List Nat} {c : Nat} (h : c ∈ l) (hc : 128 ≤ c) : (fb64 ((bare l).map other)).2.1 ≠ 0 := by
  have hm := bare_keep h (by omega)
  have hv : val64 (other c) = none := by
    unfold other
    rw [if_neg (by omega), if_neg (by omega)]
    unfold val64
    rw [if_neg (by omega), if_neg (by omega), if_neg (by omega), if_neg (by omega), if_neg (by omega)]
  rw [fb64_eq]
  split
  · simp
  · cases hbad : badAt ((bare l).map other) with
    | some i => simp
    | none =>
      exfalso
      unfold badAt at hbad
      rw [List.findIdx?_eq_none_iff] at hbad
      have := hbad (other c) (List.mem_map.2 ⟨c, hm, rfl⟩)
      rw [hv] at this
      simp at this
end Go.Proofs.YtghmabohodnbpaaGreatDoor
