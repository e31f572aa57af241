/- Plain mathematics of the texts of the digest layer: base64 and hex by groups, there and back. -/
import Derived.Test.YtonnnolnkjahgabDoorB64Math
import Derived.Test.YtonnnolnkjahgabDoorB64Enc
namespace Go.Proofs.YtonnnolnkjahgabDoor

theorem o256 (b x : Nat) (hx : x < 256) : o32 (b * 256 % 4294967296) x = (b * 256 + x) % 4294967296 := by
  unfold o32
  have e : b * 256 % 4294967296 % 4294967296 = 2 ^ 8 * (b % 16777216) := by omega
  rw [e, Nat.mod_eq_of_lt (show x < 4294967296 by omega), ← Nat.two_pow_add_eq_or_of_lt (by omega) (b % 16777216)]
  omega
theorem o64' (b x : Nat) (hx : x < 64) : o32 (b * 64 % 4294967296) x = (b * 64 + x) % 4294967296 := by
  unfold o32
  have e : b * 64 % 4294967296 % 4294967296 = 2 ^ 6 * (b % 67108864) := by omega
  rw [e, Nat.mod_eq_of_lt (show x < 4294967296 by omega), ← Nat.two_pow_add_eq_or_of_lt (by omega) (b % 67108864)]
  omega
theorem an_mask (v n : Nat) (hn : n ≤ 32) : an32 v (2 ^ n - 1) = v % 2 ^ n := by
  unfold an32
  have h1 : 2 ^ n ≤ 2 ^ 32 := Nat.pow_le_pow_right (by decide) hn
  rw [Nat.mod_eq_of_lt (show 2 ^ n - 1 < 4294967296 by have := Nat.two_pow_pos n; omega), Nat.and_two_pow_sub_one_eq_mod]
  exact Nat.mod_mod_of_dvd v (Nat.pow_dvd_pow 2 hn)
theorem grp_mod (v : Nat) : grp v = lt64 (v % 64) := by unfold grp; rw [show (63 : Nat) = 2 ^ 6 - 1 from rfl, an_mask v 6 (by decide)]
/-- The numbers of groups of six bits, three bytes at a time. -/
def g64 : List Nat → List Nat
  | x :: y :: z :: r => (x / 4) :: (x % 4 * 16 + y / 16) :: (y % 16 * 4 + z / 64) :: (z % 64) :: g64 r
  | [x, y] => [x / 4, x % 4 * 16 + y / 16, y % 16 * 4]
  | [x] => [x / 4, x % 4 * 16]
  | [] => []
def fin64 (s : E64) : List Nat := if 0 < s.count then s.out ++ [grp (s.bits * 2 ^ (6 - s.count) % 4294967296)] else s.out
theorem enc1 (B x : Nat) (out : List Nat) (hx : x < 256) : e64step ⟨B, 0, out⟩ x = ⟨(B * 256 + x) % 4294967296, 2, out ++ [lt64 (x / 4)]⟩ := by
  simp only [e64step, o256 B x hx, grp_mod]
  rw [if_neg (by decide)]
  simp only [E64.mk.injEq, true_and, Nat.zero_add]
  congr 3
  omega
theorem enc2 (B x y : Nat) (out : List Nat) (hy : y < 256) : e64step ⟨(B * 256 + x) % 4294967296, 2, out⟩ y = ⟨((B * 256 + x) % 4294967296 * 256 + y) % 4294967296, 4, out ++ [lt64 (x % 4 * 16 + y / 16)]⟩ := by
  simp only [e64step, o256 _ y hy, grp_mod]
  rw [if_neg (by decide)]
  simp only [E64.mk.injEq, true_and, Nat.reduceAdd]
  congr 3
  omega
theorem enc3 (B x y z : Nat) (out : List Nat) (hz : z < 256) : e64step ⟨((B * 256 + x) % 4294967296 * 256 + y) % 4294967296, 4, out⟩ z = ⟨(((B * 256 + x) % 4294967296 * 256 + y) % 4294967296 * 256 + z) % 4294967296, 0, out ++ [lt64 (y % 16 * 4 + z / 64), lt64 (z % 64)]⟩ := by
  simp only [e64step, o256 _ z hz, grp_mod]
  rw [if_pos (by decide)]
  have e1 : (((B * 256 + x) % 4294967296 * 256 + y) % 4294967296 * 256 + z) % 4294967296 / 2 ^ (4 + 2) % 64 = y % 16 * 4 + z / 64 := by omega
  have e2 : (((B * 256 + x) % 4294967296 * 256 + y) % 4294967296 * 256 + z) % 4294967296 / 2 ^ (4 - 4) % 64 = z % 64 := by rw [show 2 ^ (4 - 4) = 1 from rfl, Nat.div_one]; omega
  rw [e1, e2]
  simp
theorem enc_from : ∀ (l : List Nat) (_ : ∀ x ∈ l, x < 256) (B : Nat) (out : List Nat), fin64 (l.foldl e64step ⟨B, 0, out⟩) = out ++ (g64 l).map lt64
  | x :: y :: z :: r, h, B, out => by
    have hx := h x (by simp)
    have hy := h y (by simp)
    have hz := h z (by simp)
    simp only [List.foldl_cons]
    rw [enc1 B x out hx, enc2 B x y _ hy, enc3 B x y z _ hz, enc_from r (fun a ha => h a (by simp [ha]))]
    simp [g64]
  | [x, y], h, B, out => by
    have hx := h x (by simp)
    have hy := h y (by simp)
    simp only [List.foldl_cons, List.foldl_nil]
    rw [enc1 B x out hx, enc2 B x y _ hy]
    simp only [fin64, grp_mod, g64, List.map_cons, List.map_nil]
    rw [if_pos (by decide)]
    simp only [List.append_assoc, List.cons_append, List.nil_append]
    congr 5
    omega
  | [x], h, B, out => by
    have hx := h x (by simp)
    simp only [List.foldl_cons, List.foldl_nil]
    rw [enc1 B x out hx]
    simp only [fin64, grp_mod, g64, List.map_cons, List.map_nil]
    rw [if_pos (by decide)]
    simp only [List.append_assoc, List.cons_append, List.nil_append]
    congr 4
    omega
  | [], _, B, out => by simp [fin64, g64]
theorem b64of_g (l : List Nat) (h : ∀ x ∈ l, x < 256) : b64of l = (g64 l).map lt64 := by
  have := enc_from l h 0 []
  rw [List.nil_append] at this
  exact this
/-- The bytes of numbers of six bits, four at a time; the bits that are left over. -/
def d64 : List Nat → List Nat
  | a :: b :: c :: d :: r => (a * 4 + b / 16) :: (b % 16 * 16 + c / 4) :: (c % 4 * 64 + d) :: d64 r
  | [a, b, c] => [a * 4 + b / 16, b % 16 * 16 + c / 4]
  | [a, b] => [a * 4 + b / 16]
  | _ => []
def left64 : List Nat → Nat
  | _ :: _ :: _ :: _ :: r => left64 r
  | [_, _, c] => c % 4
  | [_, b] => b % 16
  | [a] => a
  | [] => 0
theorem dec1 (B a : Nat) (out : List Nat) (ha : a < 64) : b64step ⟨B, 0, out⟩ a = ⟨(B * 64 + a) % 4294967296, 6, out⟩ := by
  simp only [b64step, o64' B a ha]
  rw [if_neg (by decide)]
theorem dec2 (B a b : Nat) (out : List Nat) (ha : a < 64) (hb : b < 64) : b64step ⟨(B * 64 + a) % 4294967296, 6, out⟩ b = ⟨((B * 64 + a) % 4294967296 * 64 + b) % 4294967296, 4, out ++ [a * 4 + b / 16]⟩ := by
  simp only [b64step, o64' _ b hb]
  rw [if_pos (by decide)]
  simp only [B64.mk.injEq, true_and, Nat.reduceSub]
  congr 2
  omega
theorem dec3 (B b c : Nat) (out : List Nat) (hc : c < 64) : b64step ⟨(B * 64 + b) % 4294967296, 4, out⟩ c = ⟨((B * 64 + b) % 4294967296 * 64 + c) % 4294967296, 2, out ++ [b % 16 * 16 + c / 4]⟩ := by
  simp only [b64step, o64' _ c hc]
  rw [if_pos (by decide)]
  simp only [B64.mk.injEq, true_and, Nat.reduceSub]
  congr 2
  omega
theorem dec4 (B c d : Nat) (out : List Nat) (hd : d < 64) : b64step ⟨(B * 64 + c) % 4294967296, 2, out⟩ d = ⟨((B * 64 + c) % 4294967296 * 64 + d) % 4294967296, 0, out ++ [c % 4 * 64 + d]⟩ := by
  simp only [b64step, o64' _ d hd]
  rw [if_pos (by decide)]
  simp only [B64.mk.injEq, true_and, Nat.reduceSub]
  congr 2
  omega
theorem dec_from : ∀ (v : List Nat) (_ : ∀ x ∈ v, x < 64) (B : Nat) (out : List Nat), (v.foldl b64step ⟨B, 0, out⟩).out = out ++ d64 v ∧ (v.foldl b64step ⟨B, 0, out⟩).bits % 2 ^ (v.foldl b64step ⟨B, 0, out⟩).count = left64 v
  | a :: b :: c :: d :: r, h, B, out => by
    have ha := h a (by simp)
    have hb := h b (by simp)
    have hc := h c (by simp)
    have hd := h d (by simp)
    simp only [List.foldl_cons]
    rw [dec1 B a out ha, dec2 B a b _ ha hb, dec3 _ b c _ hc, dec4 _ c d _ hd]
    have ih2 := dec_from r (fun x hx => h x (by simp [hx])) (((((B * 64 + a) % 4294967296 * 64 + b) % 4294967296 * 64 + c) % 4294967296 * 64 + d) % 4294967296) (out ++ [a * 4 + b / 16] ++ [b % 16 * 16 + c / 4] ++ [c % 4 * 64 + d])
    refine ⟨?_, ih2.2⟩
    rw [ih2.1]
    simp [d64]
  | [a, b, c], h, B, out => by
    have ha := h a (by simp)
    have hb := h b (by simp)
    have hc := h c (by simp)
    simp only [List.foldl_cons, List.foldl_nil]
    rw [dec1 B a out ha, dec2 B a b _ ha hb, dec3 _ b c _ hc]
    refine ⟨by simp [d64], ?_⟩
    simp only [left64]
    omega
  | [a, b], h, B, out => by
    have ha := h a (by simp)
    have hb := h b (by simp)
    simp only [List.foldl_cons, List.foldl_nil]
    rw [dec1 B a out ha, dec2 B a b _ ha hb]
    refine ⟨by simp [d64], ?_⟩
    simp only [left64]
    omega
  | [a], h, B, out => by
    have ha := h a (by simp)
    simp only [List.foldl_cons, List.foldl_nil]
    rw [dec1 B a out ha]
    refine ⟨by simp [d64], ?_⟩
    simp only [left64]
    omega
  | [], _, B, out => by simp [d64, left64, Nat.mod_one]
theorem vals_lt (l : List Nat) : ∀ x ∈ vals l, x < 64 := by
  intro x hx
  obtain ⟨c, _, h⟩ := List.mem_filterMap.1 hx
  exact val64_lt h
theorem b64run_d (l : List Nat) : (b64run l).out = d64 (vals l) ∧ an32 (b64run l).bits (2 ^ (b64run l).count - 1) = left64 (vals l) := by
  have h := dec_from (vals l) (vals_lt l) 0 []
  rw [an_mask _ _ (by have := b64run_count l; omega)]
  exact ⟨h.1, h.2⟩
/-- The answer again, by groups. -/
theorem fb64_eq (l : List Nat) : fb64 l = if 65536 < l.length then ([], 1, 0) else match badAt l with
  | some i => ([], 20, i)
  | none => if l.length % 4 = 1 then ([], 3, l.length) else if left64 (vals l) ≠ 0 then ([], 21, l.length - 1) else (d64 (vals l), 0, 0) := by
  unfold fb64
  rw [(b64run_d l).1, (b64run_d l).2]
  rfl
theorem val_lt64 : ∀ n, n < 64 → val64 (lt64 n) = some n := by decide
theorem lt_val64 {c n : Nat} (h : val64 c = some n) : lt64 n = c := by
  have h1 : ∀ c, c < 123 → ∀ n, n < 64 → val64 c = some n → lt64 n = c := by decide +kernel
  refine h1 c ?_ n (val64_lt h) h
  unfold val64 at h
  split at h
  · omega
  · split at h
    · omega
    · split at h
      · omega
      · split at h
        · omega
        · split at h
          · omega
          · simp at h
theorem g64_lt : ∀ (l : List Nat) (_ : ∀ x ∈ l, x < 256), ∀ y ∈ g64 l, y < 64
  | x :: y :: z :: r, h, a, ha => by
    have hx := h x (by simp)
    have hy := h y (by simp)
    have hz := h z (by simp)
    simp only [g64, List.mem_cons] at ha
    rcases ha with rfl | rfl | rfl | rfl | ha
    · omega
    · omega
    · omega
    · omega
    · exact g64_lt r (fun b hb => h b (by simp [hb])) a ha
  | [x, y], h, a, ha => by
    have hx := h x (by simp)
    have hy := h y (by simp)
    simp only [g64, List.mem_cons, List.not_mem_nil, or_false] at ha
    rcases ha with rfl | rfl | rfl <;> omega
  | [x], h, a, ha => by
    have hx := h x (by simp)
    simp only [g64, List.mem_cons, List.not_mem_nil, or_false] at ha
    rcases ha with rfl | rfl <;> omega
  | [], _, a, ha => by simp [g64] at ha
theorem d64_g64 : ∀ (l : List Nat) (_ : ∀ x ∈ l, x < 256), d64 (g64 l) = l ∧ left64 (g64 l) = 0 ∧ (g64 l).length % 4 ≠ 1
  | x :: y :: z :: r, h => by
    have hx := h x (by simp)
    have hy := h y (by simp)
    have hz := h z (by simp)
    have ih := d64_g64 r (fun b hb => h b (by simp [hb]))
    refine ⟨?_, ?_, ?_⟩
    · simp only [g64, d64, ih.1, List.cons.injEq, and_true]
      refine ⟨?_, ?_, ?_⟩ <;> omega
    · simp only [g64, left64]; exact ih.2.1
    · have := ih.2.2
      simp only [g64, List.length_cons]
      omega
  | [x, y], h => by
    have hx := h x (by simp)
    have hy := h y (by simp)
    refine ⟨?_, ?_, by simp [g64]⟩
    · simp only [g64, d64, List.cons.injEq, and_true]
      refine ⟨?_, ?_⟩ <;> omega
    · simp only [g64, left64]; omega
  | [x], h => by
    have hx := h x (by simp)
    refine ⟨?_, ?_, by simp [g64]⟩
    · simp only [g64, d64, List.cons.injEq, and_true]; omega
    · simp only [g64, left64]; omega
  | [], _ => by simp [g64, d64, left64]
theorem g64_d64 : ∀ (v : List Nat) (_ : ∀ x ∈ v, x < 64) (_ : v.length % 4 ≠ 1) (_ : left64 v = 0), g64 (d64 v) = v
  | a :: b :: c :: d :: r, h, hl, hz => by
    have ha := h a (by simp)
    have hb := h b (by simp)
    have hc := h c (by simp)
    have hd := h d (by simp)
    simp only [left64] at hz
    simp only [List.length_cons] at hl
    have ih := g64_d64 r (fun x hx => h x (by simp [hx])) (by omega) hz
    simp only [d64, g64, ih, List.cons.injEq, and_true]
    refine ⟨?_, ?_, ?_, ?_⟩ <;> omega
  | [a, b, c], h, _, hz => by
    have ha := h a (by simp)
    have hb := h b (by simp)
    have hc := h c (by simp)
    simp only [left64] at hz
    simp only [d64, g64, List.cons.injEq, and_true]
    refine ⟨?_, ?_, ?_⟩ <;> omega
  | [a, b], h, _, hz => by
    have ha := h a (by simp)
    have hb := h b (by simp)
    simp only [left64] at hz
    simp only [d64, g64, List.cons.injEq, and_true]
    refine ⟨?_, ?_⟩ <;> omega
  | [a], _, hl, _ => by simp at hl
  | [], _, _, _ => by simp [d64, g64]
theorem d64_lt : ∀ (v : List Nat) (_ : ∀ x ∈ v, x < 64), ∀ y ∈ d64 v, y < 256
  | a :: b :: c :: d :: r, h, y, hy => by
    have ha := h a (by simp)
    have hb := h b (by simp)
    have hc := h c (by simp)
    have hd := h d (by simp)
    simp only [d64, List.mem_cons] at hy
    rcases hy with rfl | rfl | rfl | hy
    · omega
    · omega
    · omega
    · exact d64_lt r (fun x hx => h x (by simp [hx])) y hy
  | [a, b, c], h, y, hy => by
    have ha := h a (by simp)
    have hb := h b (by simp)
    have hc := h c (by simp)
    simp only [d64, List.mem_cons, List.not_mem_nil, or_false] at hy
    rcases hy with rfl | rfl <;> omega
  | [a, b], h, y, hy => by
    have ha := h a (by simp)
    have hb := h b (by simp)
    simp only [d64, List.mem_cons, List.not_mem_nil, or_false] at hy
    subst hy; omega
  | [a], _, y, hy => by simp [d64] at hy
  | [], _, y, hy => by simp [d64] at hy
theorem vals_map {v : List Nat} (h : ∀ x ∈ v, x < 64) : vals (v.map lt64) = v := by
  induction v with
  | nil => rfl
  | cons x r ih =>
    have ih := ih fun y hy => h y (by simp [hy])
    unfold vals at ih ⊢
    simp only [List.map_cons, List.filterMap_cons, val_lt64 x (h x (by simp)), ih]
theorem badAt_map {v : List Nat} (h : ∀ x ∈ v, x < 64) : badAt (v.map lt64) = none := by
  unfold badAt
  rw [List.findIdx?_eq_none_iff]
  intro x hx
  obtain ⟨n, hn, rfl⟩ := List.mem_map.1 hx
  rw [val_lt64 n (h n hn)]
  rfl
theorem map_vals {l : List Nat} (h : badAt l = none) : (vals l).map lt64 = l := by
  unfold badAt at h
  rw [List.findIdx?_eq_none_iff] at h
  induction l with
  | nil => rfl
  | cons c r ih =>
    have ih := ih fun y hy => h y (by simp [hy])
    have hc := h c (by simp)
    cases e : val64 c with
    | none => rw [e] at hc; simp at hc
    | some n =>
      unfold vals at ih ⊢
      simp only [List.filterMap_cons, e, List.map_cons, ih, lt_val64 e]
/-- There and back. -/
theorem fb64_b64of (l : List Nat) (h : ∀ x ∈ l, x < 256) (hl : (b64of l).length ≤ 65536) : fb64 (b64of l) = (l, 0, 0) := by
  rw [fb64_eq, if_neg (by omega), b64of_g l h, badAt_map (g64_lt l h), vals_map (g64_lt l h)]
  obtain ⟨h1, h2, h3⟩ := d64_g64 l h
  simp only
  rw [if_neg (by simpa using h3), h2, h1]
  simp
theorem fb64_one {l : List Nat} (h : (fb64 l).2.1 = 0) : fb64 l = (d64 (vals l), 0, 0) ∧ b64of (fb64 l).1 = l ∧ ∀ x ∈ (fb64 l).1, x < 256 := by
  rw [fb64_eq] at h ⊢
  by_cases h1 : 65536 < l.length
  · rw [if_pos h1] at h; simp at h
  · rw [if_neg h1] at h ⊢
    cases hb : badAt l with
    | some i => rw [hb] at h; simp at h
    | none =>
      rw [hb] at h
      simp only at h ⊢
      by_cases h2 : l.length % 4 = 1
      · rw [if_pos h2] at h; simp at h
      · rw [if_neg h2] at h ⊢
        by_cases h3 : left64 (vals l) ≠ 0
        · rw [if_pos h3] at h; simp at h
        · rw [if_neg h3]
          have hd := d64_lt (vals l) (vals_lt l)
          refine ⟨rfl, ?_, hd⟩
          have e := map_vals hb
          have hlen : (vals l).length = l.length := by have := congrArg List.length e; simpa using this
          rw [b64of_g _ hd, g64_d64 _ (vals_lt l) (by rw [hlen]; exact h2) (by omega), e]
/-- The digits of sixteen. -/
def val16 (c : Nat) : Option Nat := if 48 ≤ c ∧ c ≤ 57 then some (c - 48) else if 97 ≤ c ∧ c ≤ 102 then some (c - 87) else none
theorem val16_lt {c n : Nat} (h : val16 c = some n) : n < 16 := by
  unfold val16 at h
  split at h
  · simp at h; omega
  · split at h
    · simp at h; omega
    · simp at h
def vals16 (l : List Nat) : List Nat := l.filterMap val16
def badAt16 (l : List Nat) : Option Nat := l.findIdx? fun c => (val16 c).isNone
def d16 : List Nat → List Nat
  | a :: b :: r => (a * 16 + b) :: d16 r
  | _ => []
def fhex (l : List Nat) : List Nat × Nat × Nat :=
  if 65536 < l.length then ([], 1, 0) else
  match badAt16 l with
  | some i => ([], 20, i)
  | none => if l.length % 2 = 1 then ([], 3, l.length) else (d16 (vals16 l), 0, 0)
theorem vals16_lt (l : List Nat) : ∀ x ∈ vals16 l, x < 16 := by
  intro x hx
  obtain ⟨c, _, h⟩ := List.mem_filterMap.1 hx
  exact val16_lt h
theorem val_dg : ∀ n, n < 16 → val16 (dg n) = some n := by decide
theorem dg_val {c n : Nat} (h : val16 c = some n) : dg n = c := by
  unfold val16 at h
  unfold dg
  split at h
  · simp at h; split <;> omega
  · split at h
    · simp at h; split <;> omega
    · simp at h
theorem d16_lt : ∀ (v : List Nat) (_ : ∀ x ∈ v, x < 16), ∀ y ∈ d16 v, y < 256
  | a :: b :: r, h, y, hy => by
    have ha := h a (by simp)
    have hb := h b (by simp)
    simp only [d16, List.mem_cons] at hy
    rcases hy with rfl | hy
    · omega
    · exact d16_lt r (fun x hx => h x (by simp [hx])) y hy
  | [a], _, y, hy => by simp [d16] at hy
  | [], _, y, hy => by simp [d16] at hy
theorem d16_even : ∀ (v : List Nat) (a : Nat), v.length % 2 = 0 → d16 (v ++ [a]) = d16 v
  | x :: y :: r, a, h => by
    simp only [List.length_cons] at h
    simp only [List.cons_append, d16, d16_even r a (by omega)]
  | [x], a, h => by simp at h
  | [], a, _ => rfl
theorem d16_odd : ∀ (v : List Nat) (a b : Nat), v.length % 2 = 0 → d16 (v ++ [a] ++ [b]) = d16 v ++ [a * 16 + b]
  | x :: y :: r, a, b, h => by
    simp only [List.length_cons] at h
    have := d16_odd r a b (by omega)
    simp only [List.append_assoc, List.cons_append, List.nil_append] at this
    simp only [List.append_assoc, List.cons_append, List.nil_append, d16, this]
  | [x], a, b, h => by simp at h
  | [], a, b, _ => rfl
theorem d16_length : ∀ (v : List Nat), (d16 v).length = v.length / 2
  | x :: y :: r => by simp only [d16, List.length_cons, d16_length r]; omega
  | [x] => by simp [d16]
  | [] => by simp [d16]
theorem hexOf_vals : ∀ (l : List Nat) (_ : ∀ x ∈ l, x < 256), vals16 (hexOf l) = l.flatMap (fun x => [x / 16, x % 16]) ∧ d16 (vals16 (hexOf l)) = l ∧ badAt16 (hexOf l) = none
  | x :: r, h => by
    have hx := h x (by simp)
    obtain ⟨h1, h2, h3⟩ := hexOf_vals r (fun b hb => h b (by simp [hb]))
    have e1 := val_dg (x / 16) (by omega)
    have e2 := val_dg (x % 16) (by omega)
    have ev : vals16 (hexOf (x :: r)) = x / 16 :: x % 16 :: vals16 (hexOf r) := by
      unfold vals16 hexOf
      simp only [List.flatMap_cons, List.cons_append, List.nil_append, List.filterMap_cons, e1, e2]
    refine ⟨?_, ?_, ?_⟩
    · rw [ev, h1]; simp
    · rw [ev, d16, h2]; congr 1; omega
    · unfold badAt16 at h3 ⊢
      rw [List.findIdx?_eq_none_iff] at h3 ⊢
      unfold hexOf at h3 ⊢
      intro y hy
      simp only [List.flatMap_cons, List.cons_append, List.nil_append, List.mem_cons] at hy
      rcases hy with rfl | rfl | hy
      · rw [e1]; rfl
      · rw [e2]; rfl
      · exact h3 y hy
  | [], _ => ⟨rfl, rfl, rfl⟩
theorem fhex_hexOf (l : List Nat) (h : ∀ x ∈ l, x < 256) (hl : (hexOf l).length ≤ 65536) : fhex (hexOf l) = (l, 0, 0) := by
  obtain ⟨_, h2, h3⟩ := hexOf_vals l h
  unfold fhex
  rw [if_neg (by omega), h3]
  simp only
  rw [if_neg (by rw [hexOf_length]; omega), h2]
theorem map_vals16 {l : List Nat} (h : badAt16 l = none) : (vals16 l).map dg = l := by
  unfold badAt16 at h
  rw [List.findIdx?_eq_none_iff] at h
  induction l with
  | nil => rfl
  | cons c r ih =>
    have ih := ih fun y hy => h y (by simp [hy])
    have hc := h c (by simp)
    cases e : val16 c with
    | none => rw [e] at hc; simp at hc
    | some n =>
      unfold vals16 at ih ⊢
      simp only [List.filterMap_cons, e, List.map_cons, ih, dg_val e]
theorem hexOf_d16 : ∀ (v : List Nat) (_ : ∀ x ∈ v, x < 16) (_ : v.length % 2 = 0), hexOf (d16 v) = v.map dg
  | a :: b :: r, h, hl => by
    have ha := h a (by simp)
    have hb := h b (by simp)
    simp only [List.length_cons] at hl
    have ih := hexOf_d16 r (fun x hx => h x (by simp [hx])) (by omega)
    have e1 : (a * 16 + b) / 16 = a := by omega
    have e2 : (a * 16 + b) % 16 = b := by omega
    unfold hexOf at ih ⊢
    simp only [d16, List.flatMap_cons, List.map_cons, ih, e1, e2, List.cons_append, List.nil_append]
  | [a], _, hl => by simp at hl
  | [], _, _ => rfl
theorem fhex_one {l : List Nat} (h : (fhex l).2.1 = 0) : fhex l = (d16 (vals16 l), 0, 0) ∧ hexOf (fhex l).1 = l ∧ ∀ x ∈ (fhex l).1, x < 256 := by
  unfold fhex at h ⊢
  by_cases h1 : 65536 < l.length
  · rw [if_pos h1] at h; simp at h
  · rw [if_neg h1] at h ⊢
    cases hb : badAt16 l with
    | some i => rw [hb] at h; simp at h
    | none =>
      rw [hb] at h
      simp only at h ⊢
      by_cases h2 : l.length % 2 = 1
      · rw [if_pos h2] at h; simp at h
      · rw [if_neg h2]
        have e := map_vals16 hb
        have hlen : (vals16 l).length = l.length := by have := congrArg List.length e; simpa using this
        refine ⟨rfl, ?_, d16_lt _ (vals16_lt l)⟩
        rw [hexOf_d16 _ (vals16_lt l) (by omega), e]
end Go.Proofs.YtonnnolnkjahgabDoor
