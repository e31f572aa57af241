/- Plain mathematics of the sum of the digest layer: words of 32 bits, the block's schedule, the rounds, the blocks; no condition but those typed at each fact. -/
namespace Go.Proofs.YtghmabohodnbpaaGreatDoor

def x32 (a b : Nat) : Nat := (a % 4294967296) ^^^ (b % 4294967296)
def an32 (a b : Nat) : Nat := (a % 4294967296) &&& (b % 4294967296)
def o32 (a b : Nat) : Nat := (a % 4294967296) ||| (b % 4294967296)
def n32 (a : Nat) : Nat := x32 4294967295 a
def a32 (a b : Nat) : Nat := (a + b) % 4294967296
def shr (a n : Nat) : Nat := a / 2 ^ n
def rot (x n : Nat) : Nat := o32 (x / 2 ^ n) (x * 2 ^ (32 - n) % 4294967296)

theorem x32_lt (a b : Nat) : x32 a b < 4294967296 := Nat.xor_lt_two_pow (n := 32) (Nat.mod_lt _ (by decide)) (Nat.mod_lt _ (by decide))
theorem an32_lt (a b : Nat) : an32 a b < 4294967296 := Nat.and_lt_two_pow (n := 32) _ (Nat.mod_lt _ (by decide))
theorem o32_lt (a b : Nat) : o32 a b < 4294967296 := Nat.or_lt_two_pow (n := 32) (Nat.mod_lt _ (by decide)) (Nat.mod_lt _ (by decide))
theorem n32_lt (a : Nat) : n32 a < 4294967296 := x32_lt _ _
theorem a32_lt (a b : Nat) : a32 a b < 4294967296 := Nat.mod_lt _ (by decide)
theorem rot_lt (x n : Nat) : rot x n < 4294967296 := o32_lt _ _
theorem shr_lt {a n : Nat} (h : a < 4294967296) : shr a n < 4294967296 := Nat.lt_of_le_of_lt (Nat.div_le_self _ _) h

def Kt : List Nat := [1116352408, 1899447441, 3049323471, 3921009573, 961987163, 1508970993, 2453635748, 2870763221, 3624381080, 310598401, 607225278, 1426881987, 1925078388, 2162078206, 2614888103, 3248222580, 3835390401, 4022224774, 264347078, 604807628, 770255983, 1249150122, 1555081692, 1996064986, 2554220882, 2821834349, 2952996808, 3210313671, 3336571891, 3584528711, 113926993, 338241895, 666307205, 773529912, 1294757372, 1396182291, 1695183700, 1986661051, 2177026350, 2456956037, 2730485921, 2820302411, 3259730800, 3345764771, 3516065817, 3600352804, 4094571909, 275423344, 430227734, 506948616, 659060556, 883997877, 958139571, 1322822218, 1537002063, 1747873779, 1955562222, 2024104815, 2227730452, 2361852424, 2428436474, 2756734187, 3204031479, 3329325298]
def first8 : List Nat := [1779033703, 3144134277, 1013904242, 2773480762, 1359893119, 2600822924, 528734635, 1541459225]
theorem Kt_lt : ∀ j, Kt.getD j 0 < 4294967296 := by
  intro j
  by_cases h : j < 64
  · have : ∀ j, j < 64 → Kt.getD j 0 < 4294967296 := by decide +kernel
    exact this j h
  · rw [List.getD, List.getElem?_eq_none (show Kt.length ≤ j by rw [show Kt.length = 64 from rfl]; omega)]; decide
theorem first8_lt : ∀ x ∈ first8, x < 4294967296 := by decide

def sg0 (x : Nat) : Nat := x32 (x32 (rot x 7) (rot x 18)) (shr x 3)
def sg1 (y : Nat) : Nat := x32 (x32 (rot y 17) (rot y 19)) (shr y 10)
def be4 (b0 b1 b2 b3 : Nat) : Nat := ((b0 * 256 + b1) * 256 + b2) * 256 + b3
/-- The t-th of a block's first words. -/
def wordAt (blk : List Nat) (t : Nat) : Nat := be4 (blk.getD (4 * t) 0) (blk.getD (4 * t + 1) 0) (blk.getD (4 * t + 2) 0) (blk.getD (4 * t + 3) 0)
def nextW (l : List Nat) (t : Nat) : Nat := a32 (a32 (a32 (l.getD (t - 16) 0) (sg0 (l.getD (t - 15) 0))) (l.getD (t - 7) 0)) (sg1 (l.getD (t - 2) 0))
/-- The first t words of a block's schedule. -/
def sched (blk : List Nat) : Nat → List Nat
  | 0 => []
  | t + 1 => let l := sched blk t; l ++ [if t < 16 then wordAt blk t else nextW l t]
theorem sched_length (blk : List Nat) (t : Nat) : (sched blk t).length = t := by
  induction t with
  | zero => rfl
  | succ t ih => simp [sched, ih]
theorem sched_low (blk : List Nat) (t : Nat) (h : t < 16) : sched blk (t + 1) = sched blk t ++ [wordAt blk t] := by simp [sched, h]
theorem sched_high (blk : List Nat) (t : Nat) (h : 16 ≤ t) : sched blk (t + 1) = sched blk t ++ [nextW (sched blk t) t] := by simp [sched, show ¬ t < 16 by omega]
theorem be4_lt {b0 b1 b2 b3 : Nat} (h0 : b0 < 256) (h1 : b1 < 256) (h2 : b2 < 256) (h3 : b3 < 256) : be4 b0 b1 b2 b3 < 4294967296 := by unfold be4; omega
theorem getD_lt_of {l : List Nat} {m : Nat} (h : ∀ x ∈ l, x < m) (h0 : 0 < m) (i : Nat) : l.getD i 0 < m := by
  by_cases hi : i < l.length
  · exact h _ (by simp [List.getD, hi])
  · simp [List.getD, List.getElem?_eq_none (show l.length ≤ i by omega), h0]
theorem sched_lt (blk : List Nat) (hb : ∀ x ∈ blk, x < 256) (t : Nat) : ∀ x ∈ sched blk t, x < 4294967296 := by
  induction t with
  | zero => intro x hx; simp [sched] at hx
  | succ t ih =>
    intro x hx
    by_cases h : t < 16
    · rw [sched_low blk t h] at hx
      rcases List.mem_append.1 hx with hx | hx
      · exact ih x hx
      · rw [List.mem_singleton.1 hx]
        exact be4_lt (getD_lt_of hb (by decide) _) (getD_lt_of hb (by decide) _) (getD_lt_of hb (by decide) _) (getD_lt_of hb (by decide) _)
    · rw [sched_high blk t (by omega)] at hx
      rcases List.mem_append.1 hx with hx | hx
      · exact ih x hx
      · rw [List.mem_singleton.1 hx]; exact a32_lt _ _

/-- The eight words of a register in the midst of a block. -/
structure S8 where
  a : Nat
  b : Nat
  c : Nat
  d : Nat
  e : Nat
  f : Nat
  g : Nat
  k : Nat
def S8.lt (s : S8) : Prop := s.a < 4294967296 ∧ s.b < 4294967296 ∧ s.c < 4294967296 ∧ s.d < 4294967296 ∧ s.e < 4294967296 ∧ s.f < 4294967296 ∧ s.g < 4294967296 ∧ s.k < 4294967296
def S8.list (s : S8) : List Nat := [s.a, s.b, s.c, s.d, s.e, s.f, s.g, s.k]
def S8.of (r : List Nat) : S8 := ⟨r.getD 0 0, r.getD 1 0, r.getD 2 0, r.getD 3 0, r.getD 4 0, r.getD 5 0, r.getD 6 0, r.getD 7 0⟩
def uOf (s : S8) (kt wt : Nat) : Nat := a32 (a32 (a32 (a32 s.k (x32 (x32 (rot s.e 6) (rot s.e 11)) (rot s.e 25))) (x32 (an32 s.e s.f) (an32 (n32 s.e) s.g))) kt) wt
def vOf (s : S8) : Nat := a32 (x32 (x32 (rot s.a 2) (rot s.a 13)) (rot s.a 22)) (x32 (x32 (an32 s.a s.b) (an32 s.a s.c)) (an32 s.b s.c))
def rnd (s : S8) (kt wt : Nat) : S8 := ⟨a32 (uOf s kt wt) (vOf s), s.a, s.b, s.c, a32 s.d (uOf s kt wt), s.e, s.f, s.g⟩
def rnds (s : S8) (W : List Nat) : Nat → S8
  | 0 => s
  | t + 1 => rnd (rnds s W t) (Kt.getD t 0) (W.getD t 0)
theorem rnd_lt {s : S8} (h : s.lt) (kt wt : Nat) : (rnd s kt wt).lt := by
  obtain ⟨h1, h2, h3, h4, h5, h6, h7, h8⟩ := h
  exact ⟨a32_lt _ _, h1, h2, h3, a32_lt _ _, h5, h6, h7⟩
theorem rnds_lt {s : S8} (h : s.lt) (W : List Nat) (t : Nat) : (rnds s W t).lt := by
  induction t with
  | zero => exact h
  | succ t ih => exact rnd_lt ih _ _
theorem S8.of_lt {r : List Nat} (h : ∀ x ∈ r, x < 4294967296) : (S8.of r).lt := by
  have := fun i => getD_lt_of h (by decide) i
  exact ⟨this 0, this 1, this 2, this 3, this 4, this 5, this 6, this 7⟩
def plus8 (h s : S8) : List Nat := [a32 h.a s.a, a32 h.b s.b, a32 h.c s.c, a32 h.d s.d, a32 h.e s.e, a32 h.f s.f, a32 h.g s.g, a32 h.k s.k]
/-- A register turned by a block. -/
def compress (r blk : List Nat) : List Nat := plus8 (S8.of r) (rnds (S8.of r) (sched blk 64) 64)
theorem compress_length (r blk : List Nat) : (compress r blk).length = 8 := rfl
theorem plus8_lt (h s : S8) : ∀ x ∈ plus8 h s, x < 4294967296 := by
  intro x hx
  simp only [plus8, List.mem_cons, List.not_mem_nil, or_false] at hx
  rcases hx with rfl | rfl | rfl | rfl | rfl | rfl | rfl | rfl <;> exact a32_lt _ _
theorem compress_lt (r blk : List Nat) : ∀ x ∈ compress r blk, x < 4294967296 := plus8_lt _ _

/-- The register behind n blocks of p. -/
def absF : Nat → List Nat → List Nat → List Nat
  | 0, r, _ => r
  | n + 1, r, p => absF n (compress r (p.take 64)) (p.drop 64)
def absorb (r p : List Nat) : List Nat := absF (p.length / 64) r p
theorem absF_snoc (n : Nat) : ∀ (r p : List Nat), absF (n + 1) r p = compress (absF n r p) ((p.drop (64 * n)).take 64) := by
  induction n with
  | zero => intro r p; simp [absF]
  | succ n ih =>
    intro r p
    rw [show absF (n + 1 + 1) r p = absF (n + 1) (compress r (p.take 64)) (p.drop 64) from rfl, ih, List.drop_drop, show 64 + 64 * n = 64 * (n + 1) by omega]
    rfl
theorem absF_more (n : Nat) : ∀ (r p q : List Nat), 64 * n ≤ p.length → absF n r (p ++ q) = absF n r p := by
  induction n with
  | zero => intro r p q _; rfl
  | succ n ih =>
    intro r p q h
    simp only [absF]
    rw [List.take_append_of_le_length (by omega), List.drop_append_of_le_length (by omega), ih _ _ _ (by simp; omega)]
theorem absF_add (m n : Nat) : ∀ (r p : List Nat), absF (m + n) r p = absF n (absF m r p) (p.drop (64 * m)) := by
  induction m with
  | zero => intro r p; simp [absF]
  | succ m ih =>
    intro r p
    rw [show m + 1 + n = (m + n) + 1 by omega]
    simp only [absF]
    rw [ih, List.drop_drop, show 64 + 64 * m = 64 * (m + 1) by omega]
theorem absF_length (n : Nat) : ∀ (r p : List Nat), r.length = 8 → (absF n r p).length = 8 := by
  induction n with
  | zero => intro r p h; exact h
  | succ n ih => intro r p _; exact ih _ _ (compress_length _ _)
theorem absF_lt (n : Nat) : ∀ (r p : List Nat), (∀ x ∈ r, x < 4294967296) → ∀ x ∈ absF n r p, x < 4294967296 := by
  induction n with
  | zero => intro r p h; exact h
  | succ n ih => intro r p _; exact ih _ _ (compress_lt _ _)
theorem absorb_length {r : List Nat} (p : List Nat) (h : r.length = 8) : (absorb r p).length = 8 := absF_length _ _ _ h
theorem absorb_lt {r : List Nat} (p : List Nat) (h : ∀ x ∈ r, x < 4294967296) : ∀ x ∈ absorb r p, x < 4294967296 := absF_lt _ _ _ h
/-- Whole blocks ahead. -/
theorem absorb_append (r p q : List Nat) (h : p.length % 64 = 0) : absorb r (p ++ q) = absorb (absorb r p) q := by
  unfold absorb
  have e : (p ++ q).length / 64 = p.length / 64 + q.length / 64 := by rw [List.length_append]; omega
  rw [e, absF_add, absF_more _ _ _ _ (by omega), List.drop_append_of_le_length (by omega), List.drop_of_length_le (show p.length ≤ 64 * (p.length / 64) by omega)]
  rfl
theorem absorb_short (r p : List Nat) (h : p.length < 64) : absorb r p = r := by unfold absorb; rw [show p.length / 64 = 0 by omega]; rfl
theorem absorb_one (r p : List Nat) (h : p.length = 64) : absorb r p = compress r p := by
  unfold absorb
  rw [h]
  show compress r (p.take 64) = _
  rw [List.take_of_length_le (by omega)]

/-- A register's bytes. -/
def bytesOf (n : Nat) : List Nat := [n / 16777216 % 256, n / 65536 % 256, n / 256 % 256, n % 256]
def regBytes (r : List Nat) : List Nat := r.flatMap bytesOf
def eight (n : Nat) : List Nat := (List.range 8).map fun i => n / 2 ^ (56 - 8 * i) % 256
theorem eight_length (n : Nat) : (eight n).length = 8 := by simp [eight]
theorem eight_lt (n : Nat) : ∀ x ∈ eight n, x < 256 := by
  intro x hx
  obtain ⟨i, _, rfl⟩ := List.mem_map.1 hx
  exact Nat.mod_lt _ (by decide)
theorem regBytes_length (r : List Nat) : (regBytes r).length = 4 * r.length := by
  induction r with
  | nil => rfl
  | cons x r ih =>
    simp only [regBytes, List.flatMap_cons, List.length_append, List.length_cons] at ih ⊢
    rw [ih]; simp [bytesOf]; omega
theorem regBytes_lt (r : List Nat) : ∀ x ∈ regBytes r, x < 256 := by
  intro x hx
  obtain ⟨n, _, hn⟩ := List.mem_flatMap.1 hx
  simp only [bytesOf, List.mem_cons, List.not_mem_nil, or_false] at hn
  rcases hn with rfl | rfl | rfl | rfl <;> omega
theorem regBytes_get (r : List Nat) : ∀ (i : Nat), i < 4 * r.length → (regBytes r).getD i 0 = r.getD (i / 4) 0 / 2 ^ (24 - 8 * (i % 4)) % 256 := by
  induction r with
  | nil => intro i h; simp at h
  | cons x r ih =>
    intro i h
    have e : regBytes (x :: r) = bytesOf x ++ regBytes r := rfl
    rw [e]
    by_cases h4 : i < 4
    · rcases (show i = 0 ∨ i = 1 ∨ i = 2 ∨ i = 3 by omega) with rfl | rfl | rfl | rfl <;> simp [bytesOf]
    · have h' := ih (i - 4) (by simp at h; omega)
      simp only [List.getD] at h' ⊢
      rw [List.getElem?_append_right (by simp [bytesOf]; omega)]
      rw [show (bytesOf x).length = 4 from rfl, h', show (i - 4) % 4 = i % 4 by omega, show i / 4 = (i - 4) / 4 + 1 by omega]
      simp
/-- What is laid behind the bytes for the sum: the mark, zeros, the number of bits. -/
def padZ (m : Nat) : Nat := (119 - m % 64) % 64
def padded (p : List Nat) (n : Nat) : List Nat := p ++ 128 :: List.replicate (padZ p.length) 0 ++ eight ((8 * n) % 18446744073709551616)
def total (r : List Nat) (past : Nat) (bs : List Nat) : List Nat := regBytes (absorb r (padded bs (past + bs.length)))
def sha (p : List Nat) : List Nat := total first8 0 p
theorem total_length {r : List Nat} (past : Nat) (bs : List Nat) (h : r.length = 8) : (total r past bs).length = 32 := by
  unfold total; rw [regBytes_length, absorb_length _ h]
theorem total_lt (r : List Nat) (past : Nat) (bs : List Nat) : ∀ x ∈ total r past bs, x < 256 := regBytes_lt _
theorem sha_length (p : List Nat) : (sha p).length = 32 := total_length 0 p rfl
theorem sha_lt (p : List Nat) : ∀ x ∈ sha p, x < 256 := total_lt _ _ _
theorem sha_abc : sha [97, 98, 99] = [186, 120, 22, 191, 143, 1, 207, 234, 65, 65, 64, 222, 93, 174, 34, 35, 176, 3, 97, 163, 150, 23, 122, 156, 180, 16, 255, 97, 242, 0, 21, 173] := by decide +kernel
end Go.Proofs.YtghmabohodnbpaaGreatDoor
