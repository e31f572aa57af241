/- The document's Ring and Spread. -/
import Derived.BigQuiet
import Derived.Test.YtmngmkbiibhmkaaVRefA
import Derived.Test.YtmngmkbiibhmkaaVSpreadL
import Derived.Test.YtmngmkbiibhmkaaVSpread
import Derived.Test.YtmngmkbiibhmkaaVGuard
import Derived.Test.YtmngmkbiibhmkaaVRefF
namespace Go.Proofs.Ytmngmkbiibhmkaa
open Go.RowKit Go.Shelf Go.Maps

def RG (a b i r : Nat) : Prop := (∀ d, r < d → d < i → dig a d = dig b d) ∧ (r = 0 ∨ (r < i ∧ dig a r ≠ dig b r))
theorem quo_split (a d : Nat) : a / 64 ^ d = 64 * (a / 64 ^ (d + 1)) + dig a d := by
  unfold dig
  rw [Nat.pow_succ, ← Nat.div_div_eq_div_mul]
  omega
theorem quo_eq {a b : Nat} : ∀ (k d : Nat), a / 64 ^ (d + k) = b / 64 ^ (d + k) → (∀ e, d ≤ e → e < d + k → dig a e = dig b e) → a / 64 ^ d = b / 64 ^ d
  | 0, d, h, _ => h
  | k + 1, d, h, hd => by
    have h1 := quo_eq k (d + 1) (by rw [show d + 1 + k = d + (k + 1) by omega]; exact h) (fun e h1 h2 => hd e (by omega) (by omega))
    rw [quo_split a d, quo_split b d, h1, hd d (Nat.le_refl _) (by omega)]
theorem quo_zero {a d : Nat} (ha : a < 18446744073709551616) (hd : 11 ≤ d) : a / 64 ^ d = 0 := by
  have h1 : 64 ^ 11 ≤ 64 ^ d := Nat.pow_le_pow_right (by omega) hd
  exact Nat.div_eq_of_lt (Nat.lt_of_lt_of_le (by omega) h1)
theorem ring_end {a b r : Nat} (ha : a < 18446744073709551616) (hb : b < 18446744073709551616) (h : RG a b 11 r) : ringN b a = if 4 < r then 4 else r := by
  have q : a / 64 ^ (r + 1) = b / 64 ^ (r + 1) := quo_eq 11 (r + 1) (by rw [quo_zero ha (by omega), quo_zero hb (by omega)]) fun e h1 h2 => by
    rcases Nat.lt_or_ge e 11 with h3 | h3
    · exact h.1 e (by omega) h3
    · unfold dig; rw [quo_zero ha h3, quo_zero hb h3]
  have hd : r ≠ 0 → a / 64 ^ r ≠ b / 64 ^ r := fun h0 => by
    rcases h.2 with h2 | h2
    · exact absurd h2 h0
    · intro e
      apply h2.2
      unfold dig
      rw [e]
  match r, q, hd with
  | 0, q, _ =>
    simp only [Nat.zero_add, Nat.pow_one] at q
    unfold ringN
    rw [if_pos q]
    rfl
  | 1, q, hd =>
    have hd := hd (by omega)
    simp only [Nat.reduceAdd, Nat.reducePow, Nat.pow_one] at q hd
    unfold ringN
    rw [if_neg hd, if_pos q]
    rfl
  | 2, q, hd =>
    have hd := hd (by omega)
    simp only [Nat.reduceAdd, Nat.reducePow] at q hd
    unfold ringN
    rw [if_neg (by omega), if_neg hd, if_pos q]
    rfl
  | 3, q, hd =>
    have hd := hd (by omega)
    simp only [Nat.reduceAdd, Nat.reducePow] at q hd
    unfold ringN
    rw [if_neg (by omega), if_neg (by omega), if_neg hd, if_pos q]
    rfl
  | r + 4, _, hd =>
    have hd := hd (by omega)
    have h4 : a / 16777216 ≠ b / 16777216 := fun e => hd (by
      rw [Nat.pow_add, Nat.mul_comm, ← Nat.div_div_eq_div_mul, ← Nat.div_div_eq_div_mul]
      simp only [Nat.reducePow]
      rw [e])
    unfold ringN
    rw [if_neg (by omega), if_neg (by omega), if_neg (by omega), if_neg h4]
    split <;> omega
structure RI (a b i x y r : Nat) : Prop where
  x : x = a / 64 ^ i
  y : y = b / 64 ^ i
  rg : RG a b i r
  le : r ≤ i
theorem RI.step {a b i x y r : Nat} (h : RI a b i x y r) : RI a b (i + 1) (x / 64) (y / 64) (if x % 64 = y % 64 then r else i) := by
  have hx : dig a i = x % 64 := by unfold dig; rw [h.x]
  have hy : dig b i = y % 64 := by unfold dig; rw [h.y]
  refine ⟨by rw [h.x, Nat.pow_succ, Nat.div_div_eq_div_mul], by rw [h.y, Nat.pow_succ, Nat.div_div_eq_div_mul], ?_, ?_⟩
  · by_cases e : x % 64 = y % 64
    · rw [if_pos e]
      refine ⟨fun d h1 h2 => ?_, ?_⟩
      · rcases Nat.lt_or_ge d i with h3 | h3
        · exact h.rg.1 d h1 h3
        · rw [show d = i by omega, hx, hy, e]
      · rcases h.rg.2 with h3 | h3
        · exact .inl h3
        · exact .inr ⟨by omega, h3.2⟩
    · rw [if_neg e]
      exact ⟨fun d h1 h2 => by omega, .inr ⟨by omega, by rw [hx, hy]; exact e⟩⟩
  · have := h.le
    split <;> omega
set_option maxHeartbeats 2000000 in
set_option maxRecDepth 100000 in
theorem ring_any (a b : Nat) (w : World) (ha : a < 18446744073709551616) (hb : b < 18446744073709551616) :
    Calls Try.prog 34 #[.int .u64 (a : Int), .int .u64 (b : Int)] w fun e w' => e = .returned (.int .i64 (ringN b a : Int)) ∧ w' = w := by
  have HE : Hid (∀ r, RG a b 11 r → ringN b a = if 4 < r then 4 else r) := hide fun r h => ring_end ha hb h
  generalize ringN b a = R at *
  have HA := hide ha
  have HB := hide hb
  have HS : Hid (RI a b 0 a b 0) := hide ⟨by simp, by simp, ⟨fun d h1 h2 => by omega, .inl rfl⟩, Nat.le_refl _⟩
  clear ha hb
  go_enter Try.func34, Try.ntmps34
  go_wp2_with fail
  go_loop [0, 1, 5, 6] (fun v0 v1 v5 v6 => ∃ i x y r : Nat, i ≤ 11 ∧ v6 = .int .i64 (i : Int) ∧ v0 = .int .u64 (x : Int) ∧ v1 = .int .u64 (y : Int) ∧ v5 = .int .i64 (r : Int) ∧ Hid (RI a b i x y r)) (fun _ _ _ v6 => 11 - (intOf v6).toNat)
  case atStart => exact ⟨0, a, b, 0, by omega, rfl, rfl, rfl, rfl, HS⟩
  case round =>
    clear HS
    obtain ⟨i, x, y, r, hi, rfl, rfl, rfl, rfl, HI⟩ := hrel
    have hxb : (x : Int) ≤ 18446744073709551615 := by have h1 := HI.out.x; have h2 := Nat.div_le_self a (64 ^ i); have h3 := HA.out; omega
    have hyb : (y : Int) ≤ 18446744073709551615 := by have h1 := HI.out.y; have h2 := Nat.div_le_self b (64 ^ i); have h3 := HB.out; omega
    by_cases hil : i < 11
    · have hil' : (i : Int) < 11 := by omega
      have HNX := hide HI.out.step
      by_cases he : x % 64 = y % 64
      · rw [if_pos he] at HNX
        have he1 : ((x : Int) % 64 == (y : Int) % 64) = true := by simp; omega
        have he2 : (x : Int) % 64 = (y : Int) % 64 := by omega
        clear he
        go_wp2_with fail
        go_round
        case rel => exact ⟨i + 1, x / 64, y / 64, r, by omega, by go_num, by simp, by simp, rfl, HNX⟩
        case measure => simp [intOf]; omega
      · rw [if_neg he] at HNX
        have he1 : ((x : Int) % 64 == (y : Int) % 64) = false := by simp; omega
        have he2 : ¬ (x : Int) % 64 = (y : Int) % 64 := by omega
        clear he
        go_wp2_with fail
        go_round
        case rel => exact ⟨i + 1, x / 64, y / 64, i, by omega, by go_num, by simp, by simp, rfl, HNX⟩
        case measure => simp [intOf]; omega
    · have hil' : ¬ (i : Int) < 11 := by omega
      obtain rfl : i = 11 := by omega
      have HR := hide (HE.out r HI.out.rg)
      have HRL := hide HI.out.le
      by_cases h4 : 4 < r
      · rw [if_pos h4] at HR
        have h4' : (4 : Int) < (r : Int) := by omega
        clear h4
        go_wp2_with fail
        go_ret
        exact ⟨by rw [HR.out]; rfl, rfl⟩
      · rw [if_neg h4] at HR
        have h4' : ¬ (4 : Int) < (r : Int) := by omega
        clear h4
        go_wp2_with fail
        go_ret
        exact ⟨by rw [HR.out]; rfl, rfl⟩
/-- How many timers lie in each ring. -/
def cntL (now : Nat) (L : List Tm) : List Nat := (List.range 5).map fun r => (L.filter fun p => ringN now p.2 == r).length
theorem cntL_len (now : Nat) (L : List Tm) : (cntL now L).length = 5 := by simp [cntL]
theorem cntL_get {now : Nat} {L : List Tm} {k : Nat} (hk : k < 5) : (cntL now L)[k]? = some ((L.filter fun p => ringN now p.2 == k).length) := by simp [cntL, hk]
theorem cntL_step {now : Nat} {L : List Tm} {x : Tm} : cntL now (L ++ [x]) = (cntL now L).set (ringN now x.2) ((L.filter fun p => ringN now p.2 == ringN now x.2).length + 1) := by
  have hk := ringN_le now x.2
  apply List.ext_getElem?
  intro r
  rw [List.getElem?_set]
  simp only [cntL_len]
  by_cases h5 : r < 5
  · rw [cntL_get h5]
    by_cases hr : ringN now x.2 = r
    · rw [if_pos hr, if_pos (by omega), hr, List.filter_append, List.length_append, List.filter_cons_of_pos (by simpa using hr)]
      rfl
    · rw [if_neg hr, cntL_get h5, List.filter_append, List.length_append, List.filter_cons_of_neg (by simpa using hr)]
      rfl
  · rw [List.getElem?_eq_none (by rw [cntL_len]; omega)]
    rw [if_neg (by omega), List.getElem?_eq_none (by rw [cntL_len]; omega)]
theorem len_split {P Q R : Tm → Bool} (h : ∀ p, R p = (P p || Q p)) (hd : ∀ p, P p = true → Q p = false) : ∀ L : List Tm, (L.filter R).length = (L.filter P).length + (L.filter Q).length
  | [] => rfl
  | p :: r => by
    have ih := len_split h hd r
    have h1 := h p
    have h2 := hd p
    rw [List.filter_cons, List.filter_cons, List.filter_cons]
    cases hp : P p
    · cases hq : Q p
      · rw [hp, hq] at h1; rw [h1]; simpa using ih
      · rw [hp, hq] at h1; rw [h1]; simp only [Bool.or_true, if_true, List.length_cons, Bool.false_eq_true, if_false]; omega
    · rw [h2 hp]
      rw [hp, h2 hp] at h1; rw [h1]; simp only [Bool.or_false, if_true, List.length_cons, Bool.false_eq_true, if_false]; omega
theorem lens_get {now : Nat} {L : List Tm} {k : Nat} (hk : k < 257) : (lens now L)[k]? = some ((L.filter fun p => slotN now p.2 == k).length) := by simp [lens, hk]
theorem lens_sum (now : Nat) (L : List Tm) (b : Nat) : ∀ k, b + k ≤ 257 → (((lens now L).drop b).take k).sum = (L.filter fun p => decide (b ≤ slotN now p.2 ∧ slotN now p.2 < b + k)).length
  | 0, _ => by
    rw [List.take_zero, List.filter_eq_nil_iff.2]
    · rfl
    · intro p _
      simp only [decide_eq_true_eq]
      omega
  | k + 1, h => by
    rw [List.take_add_one, List.getElem?_drop, lens_get (by omega), List.sum_append, lens_sum now L b k (by omega)]
    simp only [Option.toList_some, List.sum_cons, List.sum_nil, Nat.add_zero]
    refine (len_split (fun p => ?_) (fun p hp => ?_) L).symm
    · rw [Bool.eq_iff_iff]
      simp only [decide_eq_true_eq, Bool.or_eq_true, beq_iff_eq]
      omega
    · simp only [decide_eq_true_eq] at hp
      simp; omega
theorem ring_slots {now a r : Nat} (hr : r < 4) : (64 * r ≤ slotN now a ∧ slotN now a < 64 * r + 64) ↔ ringN now a = r := by
  have h1 := slotN_eq now a
  have h2 := ringN_le now a
  have h3 : dig a (ringN now a) < 64 := by unfold dig; exact Nat.mod_lt _ (by omega)
  by_cases h4 : ringN now a = 4
  · rw [if_pos h4] at h1; omega
  · rw [if_neg h4] at h1; omega
theorem ring_far {now a : Nat} : slotN now a = 256 ↔ ringN now a = 4 := by
  have h1 := slotN_eq now a
  have h2 := ringN_le now a
  have h3 : dig a (ringN now a) < 64 := by unfold dig; exact Nat.mod_lt _ (by omega)
  by_cases h4 : ringN now a = 4
  · rw [if_pos h4] at h1; omega
  · rw [if_neg h4] at h1; omega
theorem cnt_sum (now : Nat) (L : List Tm) {r : Nat} (hr : r < 4) : (((lens now L).drop (64 * r)).take 64).sum = (L.filter fun p => ringN now p.2 == r).length := by
  rw [lens_sum now L (64 * r) 64 (by omega)]
  congr 1
  apply List.filter_congr
  intro p _
  rw [Bool.eq_iff_iff]
  simp only [decide_eq_true_eq, beq_iff_eq]
  exact ring_slots hr
theorem far_cnt (now : Nat) (L : List Tm) : (L.filter fun p => slotN now p.2 == 256).length = (L.filter fun p => ringN now p.2 == 4).length := by
  congr 1
  apply List.filter_congr
  intro p _
  rw [Bool.eq_iff_iff]
  simp only [beq_iff_eq]
  exact ring_far
theorem spread_cnt (now : Nat) (L : List Tm) : .agg ((cntL now L).map iv).toArray = spreadV now L := by
  have e0 := cnt_sum now L (r := 0) (by omega)
  have e1 := cnt_sum now L (r := 1) (by omega)
  have e2 := cnt_sum now L (r := 2) (by omega)
  have e3 := cnt_sum now L (r := 3) (by omega)
  have hg := lens_get (now := now) (L := L) (k := 256) (by omega)
  rw [far_cnt] at hg
  unfold spreadV cntL
  generalize lens now L = ls at *
  have e4 : ls.getD 256 0 = (L.filter fun p => ringN now p.2 == 4).length := by unfold List.getD; rw [hg]; rfl
  rw [show 64 * 0 = 0 from rfl] at e0
  rw [show 64 * 1 = 64 from rfl] at e1
  rw [show 64 * 2 = 128 from rfl] at e2
  rw [show 64 * 3 = 192 from rfl] at e3
  rw [e0, e1, e2, e3, e4]
  rfl
end Go.Proofs.Ytmngmkbiibhmkaa
/- The document's Spread. -/
namespace Go.Proofs.Ytmngmkbiibhmkaa
open Go.RowKit Go.Shelf Go.Maps

def SCI (W2 wr : World) (N now : Nat) (M : List Tm) : Prop := Bl wr (N + 1) ((cntL now M).map iv) 46 ∧ But (N + 1) W2 wr
theorem cnt_le (now : Nat) (M : List Tm) (k : Nat) : (M.filter fun p => ringN now p.2 == k).length ≤ M.length := List.length_filter_le ..
set_option maxHeartbeats 2000000 in
set_option maxRecDepth 100000 in
theorem rspread_any (rp now : Nat) (v : Value) (L : List Tm) (w : World) (h : RefAt w rp now v L) (hl : L.length ≤ 8192) (hb : ∀ p ∈ L, p.2 < 18446744073709551616) (hnw : now < 18446744073709551616) :
    Calls Try.prog 18 #[pw rp] w fun e w' => e = .returned (spreadV now L) ∧ Below w.heap.size w w' := by
  obtain ⟨ao, c, hv, _, hr, _, _⟩ := h.form
  have HREF := hide h
  have hlt := h.lt
  have HG : Hid (∀ g, v.ownBlock = some g → g < w.heap.size) := hide fun g hg => (h.own.lt g hg).2
  obtain ⟨n, hn⟩ : ∃ n, n = L.length := ⟨_, rfl⟩
  have HN := hide hn
  rw [← hn] at hl hv
  have HBB := hide hb
  have HNW := hide hnw
  rw [← spread_cnt now L]
  have HCL : Hid ((cntL now L).length = 5) := hide (cntL_len now L)
  obtain ⟨N, hNN⟩ : ∃ N, N = w.heap.size := ⟨_, rfl⟩
  rw [← hNN] at HG hlt
  have HNN := hide hNN
  clear h hr hn hb hnw hNN
  unfold pw
  obtain ⟨C, hC⟩ : ∃ C, C = cntL now L := ⟨_, rfl⟩
  rw [← hC] at HCL ⊢
  have HC := hide hC
  clear hC
  obtain ⟨A0, A1, A2, A3, A4, hCA⟩ : ∃ A0 A1 A2 A3 A4, C = [A0, A1, A2, A3, A4] := by
    match C, HCL.out with
    | [A0, A1, A2, A3, A4], _ => exact ⟨A0, A1, A2, A3, A4, rfl⟩
  subst hCA
  clear HCL
  rw [show ((([A0, A1, A2, A3, A4] : List Nat).map iv).toArray : Array Value) = #[iv A0, iv A1, iv A2, iv A3, iv A4] from rfl]
  go_enter Try.func18, Try.ntmps18
  go_wp2
  rw [← HNN.out]
  have hs2 : ((w.alloc (.cells #[.int .i64 0, .int .i64 0, .int .i64 0, .int .i64 0, .int .i64 0] 46)).alloc (.cells #[.int .i64 0, .int .i64 0, .int .i64 0, .int .i64 0, .int .i64 0] 46)).heap.size = N + 2 := by rw [HNN.out]; simp
  have hb2 : Below N w ((w.alloc (.cells #[.int .i64 0, .int .i64 0, .int .i64 0, .int .i64 0, .int .i64 0] 46)).alloc (.cells #[.int .i64 0, .int .i64 0, .int .i64 0, .int .i64 0, .int .i64 0] 46)) := by rw [HNN.out]; exact (below_new w _).trans ((below_new _ _).mono (by simp))
  have hA2 : Bl ((w.alloc (.cells #[.int .i64 0, .int .i64 0, .int .i64 0, .int .i64 0, .int .i64 0] 46)).alloc (.cells #[.int .i64 0, .int .i64 0, .int .i64 0, .int .i64 0, .int .i64 0] 46)) N [.int .i64 0, .int .i64 0, .int .i64 0, .int .i64 0, .int .i64 0] 46 := by rw [HNN.out]; exact (Bl.new w _ _).alloc _
  have hC2 : Bl ((w.alloc (.cells #[.int .i64 0, .int .i64 0, .int .i64 0, .int .i64 0, .int .i64 0] 46)).alloc (.cells #[.int .i64 0, .int .i64 0, .int .i64 0, .int .i64 0, .int .i64 0] 46)) (N + 1) [.int .i64 0, .int .i64 0, .int .i64 0, .int .i64 0, .int .i64 0] 46 := by
    have := Bl.new (w.alloc (.cells #[.int .i64 0, .int .i64 0, .int .i64 0, .int .i64 0, .int .i64 0] 46)) #[.int .i64 0, .int .i64 0, .int .i64 0, .int .i64 0, .int .i64 0] 46
    rw [World.size_alloc, ← HNN.out] at this
    exact this
  have hR2 : RefAt ((w.alloc (.cells #[.int .i64 0, .int .i64 0, .int .i64 0, .int .i64 0, .int .i64 0] 46)).alloc (.cells #[.int .i64 0, .int .i64 0, .int .i64 0, .int .i64 0, .int .i64 0] 46)) rp now v L := HREF.out.keep (by rw [← HNN.out]; exact hb2)
  generalize (w.alloc (.cells #[.int .i64 0, .int .i64 0, .int .i64 0, .int .i64 0, .int .i64 0] 46)).alloc (.cells #[.int .i64 0, .int .i64 0, .int .i64 0, .int .i64 0, .int .i64 0] 46) = W2 at *
  have HAL : Hid (∀ wr, But (N + 1) W2 wr → RefAt wr rp now v L) := hide fun wr hb => hR2.same (hb.block rp (by omega) (by omega)) fun g hg => hb.block g (by have := HG.out g hg; omega) (by have := HG.out g hg; omega)
  have HA2 := hide hA2
  have HB2 := hide hb2
  have HS2 := hide hs2
  have HST : Hid (SCI W2 W2 N now []) := hide ⟨hC2, But.refl _ _⟩
  clear hA2 hb2 hC2 hR2 HREF hs2
  go_loopw [4] (fun v4 wr => ∃ i : Nat, i ≤ n ∧ v4 = .int .i64 (i : Int) ∧ Hid (SCI W2 wr N now (L.take i))) (fun v4 _ => n - (intOf v4).toNat)
  case atStart => exact ⟨0, by omega, rfl, HST⟩
  case round =>
    clear HST
    obtain ⟨i, hi, rfl, HI⟩ := hrel
    obtain ⟨b1, b2⟩ := HI.out
    have hrf := HAL.out wr b2
    have c0 : wr.cell? ⟨rp, 0, none⟩ = some (.slice ao n c) := by rw [← hv]; exact hrf.box.cell 0
    have c1 : wr.cell? ⟨rp, 1, none⟩ = some (.int .u64 (now : Int)) := hrf.box.cell 1
    by_cases hin : i < n
    · have hil : (i : Int) < (n : Int) := by omega
      obtain ⟨x, hx⟩ : ∃ x, L[i]? = some x := ⟨_, List.getElem?_eq_getElem (by have := HN.out; omega)⟩
      obtain ⟨ao', c', e', _, hrow⟩ := hrf.own.read
      rw [hv] at e'
      injection e' with e1 e2 e3
      subst e1
      obtain ⟨b, off, rfl, d0, d1⟩ := hrow.at hx
      have HX := hide (HBB.out x (List.mem_of_getElem? hx))
      have HTK : Hid (cntL now (L.take (i + 1)) = (cntL now (L.take i)).set (ringN now x.2) (((L.take i).filter fun p => ringN now p.2 == ringN now x.2).length + 1)) := hide (by rw [List.take_add_one, hx]; exact cntL_step)
      have hk5 := ringN_le now x.2
      have HCG := hide (cntL_get (now := now) (L := L.take i) (k := ringN now x.2) (by omega))
      have hcl := cnt_le now (L.take i) (ringN now x.2)
      have hil2 : (L.take i).length ≤ i := by simp; omega
      have HRG := hide (ring_any x.2 now · HX.out HNW.out)
      obtain ⟨x1, x2⟩ := x
      simp only at d1 HTK hk5 HCG hcl HRG
      generalize ringN now x2 = k at *
      generalize ((L.take i).filter fun p => ringN now p.2 == k).length = q at *
      have hq : (q : Int) ≤ 8192 := by omega
      have hk5' : (k : Int) < 5 := by omega
      have HB1 := hide b1
      have HB2' := hide b2
      clear hx d0 e2 e3 hrow hrf b1 b2 HI hcl hil2
      go_upto_region 5 with fail
      go_quiet ((go_at_call 34; exact Calls.quiet_of_same (HRG.out _)))
      have HB3 := hide (HB1.out.drewN nq)
      have HB4 := hide (HB2'.out.trans (But.drewN (N + 1) wr nq))
      generalize wr.drewN nq = w5 at *
      clear c0 c1 d1 HB1 HB2'
      have c5 : w5.cell? ⟨N + 1, k, none⟩ = some (.int .i64 (q : Int)) := by rw [HB3.out.cell k, List.getElem?_map, HCG.out]; rfl
      have f5 := HB3.out.frozen k
      have HNX : Hid (SCI W2 (w5.setCell ⟨N + 1, k, none⟩ (.int .i64 ((q : Int) + 1))) N now (L.take (i + 1))) := hide ⟨by
        have := HB3.out.set k (iv (q + 1))
        rw [← List.map_set, ← HTK.out] at this
        simpa [iv] using this, HB4.out.trans (But.setCell _ _ _ _)⟩
      go_wp2_with fail
      go_roundw
      case rel => exact ⟨i + 1, by omega, by simp, HNX⟩
      case measure => simp [intOf]; omega
    · have hil : ¬ (i : Int) < (n : Int) := by omega
      have hti : L.take i = L := List.take_of_length_le (by have := HN.out; omega)
      rw [hti, ← HC.out] at b1
      have HB : Hid (Bl wr (N + 1) [iv A0, iv A1, iv A2, iv A3, iv A4] 46) := hide b1
      have HN2 : Hid (Bl wr N [.int .i64 0, .int .i64 0, .int .i64 0, .int .i64 0, .int .i64 0] 46) := hide (HA2.out.but b2 (by omega))
      have HBW : Hid (Below N w wr) := hide (by
        have hs := HS2.out
        exact HB2.out.trans (b2.below (by omega) (by omega)))
      clear HI b1 b2 hrf HAL HC hti
      have HONE : Hid ((#[iv A0, iv A1, iv A2, iv A3, iv A4] : Array Value).all (·.oneCell') = true) := by show _ = _; simp [Value.oneCell', iv]
      go_wp2_with (first
        | (refine wpList_load_row rfl 46 _ rfl (N + 1) rfl 46 _ (0, 0) _ HB.out Try.underlying46 rfl (by kernel_rfl) ?_)
        | (refine wpList_store_row rfl 46 _ _ rfl N #[iv A0, iv A1, iv A2, iv A3, iv A4] rfl rfl 46 _ HN2.out (by kernel_rfl) rfl HONE.out ?_)
        | fail)
      have HN3 : Hid ((wr.setRow N #[iv A0, iv A1, iv A2, iv A3, iv A4]).heap[N]? = some (.cells #[iv A0, iv A1, iv A2, iv A3, iv A4] 46 (0, 0))) := setRow_heap _ N _ _ _ _ HN2.out
      (try simp only [Exit.inBlock, Exit.then])
      refine bodyPost_ret (results_cell_row rfl _ _ N 46 #[iv A0, iv A1, iv A2, iv A3, iv A4] (0, 0) _ rfl HN3.out Try.underlying46 rfl (by kernel_rfl)) rfl ⟨rfl, ?_⟩
      rw [← HNN.out]
      exact HBW.out.trans ⟨rfl, rfl, rfl, by simp, fun j hj => setRow_other _ N j _ (by omega)⟩
end Go.Proofs.Ytmngmkbiibhmkaa
/- wheel.nearest and wheel.Next on a live wheel. -/
namespace Go.Proofs.Ytmngmkbiibhmkaa
open Go.RowKit Go.Shelf Go.Maps

theorem next_math {now : Nat} {L : List Tm} {S : List (List Nat)} {k : Nat} {xs : List Nat} (h : Ok now L S) (hx : S[k]? = some xs) (he : ∀ j < k, S[j]? = some []) {m : Nat} (h1 : ∃ p ∈ L, p.1 ∈ xs ∧ p.2 = m) (h2 : ∀ p ∈ L, p.1 ∈ xs → m ≤ p.2) : IsLeast m L := by
  obtain ⟨q, hq, hqx, rfl⟩ := h1
  refine ⟨⟨q, hq, rfl⟩, fun p hp => ?_⟩
  have hmem : ∀ r ∈ L, slotN now r.2 = k → r.1 ∈ xs := fun r hr hk => (h.fits k xs hx).mem_iff.2 (List.mem_map.2 ⟨r, List.mem_filter.2 ⟨hr, by simpa using hk⟩, rfl⟩)
  have hslot : ∀ r ∈ L, r.1 ∈ xs → slotN now r.2 = k := fun r hr hk => by
    obtain ⟨r', hr', e⟩ := List.mem_map.1 ((h.fits k xs hx).mem_iff.1 hk)
    obtain ⟨g1, g2⟩ := List.mem_filter.1 hr'
    have := rise_inj h.rise _ g1 _ hr e
    rw [← this]; simpa using g2
  rcases Nat.lt_trichotomy (slotN now p.2) k with hlt | heq | hgt
  · have hp2 := (h.fits _ _ (he _ hlt)).mem_iff.2 (List.mem_map.2 ⟨p, List.mem_filter.2 ⟨hp, by simp⟩, rfl⟩)
    cases hp2
  · exact h2 p hp (hmem p hp heq)
  · rcases Nat.le_total q.2 p.2 with g | g
    · exact g
    · have := slot_mono (now := now) (Nat.le_of_lt (h.big p hp).2.2) g
      rw [hslot q hq hqx] at this
      omega
/-- Where the slots ahead are empty, and this one too, and it is the last, there is no timer. -/
theorem next_none {now : Nat} {L : List Tm} {S : List (List Nat)} (h : Ok now L S) (he : ∀ j < 257, S[j]? = some []) : L = [] := by
  cases L with
  | nil => rfl
  | cons p r =>
    have hp2 := (h.fits _ _ (he _ (slotN_lt now p.2))).mem_iff.2 (List.mem_map.2 ⟨p, List.mem_filter.2 ⟨List.mem_cons_self .., by simp⟩, rfl⟩)
    cases hp2
structure Near (w : World) (S : List (List Nat)) (k : Nat) (v : Value) (xs : List Nat) : Prop where
  lt : k < 257
  at' : S[k]? = some xs
  own : Own w 0 v xs
  before : ∀ j < k, S[j]? = some []
  ne : xs ≠ [] ∨ k = 256
set_option maxHeartbeats 1000000 in
set_option maxRecDepth 100000 in
theorem nearest_any (wp now : Nat) (L : List Tm) (Y : Lay) (S : List (List Nat)) (w : World) (h1 : Rep w wp now L S Y) : Calls Try.prog 40 #[pw wp] w fun e w' => ∃ v, e = .returned v ∧ w' = w ∧ Hid (∃ k xs, Near w S k v xs) := by
  have HR := hide h1
  clear h1
  unfold pw
  go_enter Try.func40, Try.ntmps40
  go_wp2
  go_loop [6] (fun v6 => ∃ i : Nat, i ≤ 4 ∧ v6 = .int .i64 (i : Int) ∧ Hid (∀ j < 64 * i, S[j]? = some [])) (fun v6 => 4 - (intOf v6).toNat)
  case atStart => exact ⟨0, by omega, rfl, fun j hj => by omega⟩
  case round =>
    obtain ⟨i, hi, rfl, HI⟩ := hrel
    by_cases hi4 : i < 4
    · have hi4' : (i : Int) < 4 := by omega
      have hi4d : decide ((i : Int) < 4) = true := decide_eq_true hi4'
      have HRG := hide (ring_range HR.out (i := i))
      have HRL := hide (ring_len HR.out hi4)
      obtain ⟨cs, hcs⟩ : ∃ cs, cs = (Y.vs.drop (i * 64)).take 64 := ⟨_, rfl⟩
      have HCS := hide hcs
      rw [← hcs] at HRG HRL
      clear hcs
      go_wp2_with (first | (refine wpList_load_mid rfl 67 _ rfl wp (2 + i * 64) rfl cs _ HRG.out Try.underlying67 rfl (by rw [HRL.out]; exact info69) ?_) | fail)
      go_loop [15] (fun v15 => ∃ k : Nat, k ≤ 64 ∧ v15 = .int .i64 (k : Int) ∧ Hid (∀ j < 64 * i + k, S[j]? = some [])) (fun v15 => 64 - (intOf v15).toNat)
      case atStart => exact ⟨0, by omega, rfl, HI⟩
      case round =>
        clear HI HRG
        obtain ⟨k, hk, rfl, HI⟩ := hrel
        by_cases hk64 : k < 64
        · have hk64' : (k : Int) < 64 := by omega
          obtain ⟨v, xs, hv, hxs, ho, _, _⟩ := HR.out.get (k := 64 * i + k) (by omega)
          have hck : cs[k]? = some v := by
            rw [HCS.out, List.getElem?_take, if_pos hk64, List.getElem?_drop, show i * 64 + k = 64 * i + k by omega]; exact hv
          have HO := hide ho
          obtain ⟨ao, cap, e, _, _⟩ := ho.read
          subst e
          have hlen := HRL.out
          have hcl : k < cs.length := by omega
          have hck2 : cs[k] = .slice ao xs.length cap := by simpa [hcl] using hck
          have hix := idx_any cs k ao xs.length cap hcl hck2 hlen w
          have HXS := hide hxs
          clear hck hck2 hcl hlen hv hxs ho
          by_cases hx0 : xs.length = 0
          · rw [hx0] at hix
            have HNX : Hid (∀ j < 64 * i + (k + 1), S[j]? = some []) := hide fun j hj => by
              rcases Nat.lt_or_ge j (64 * i + k) with h | h
              · exact HI.out j h
              · rw [show j = 64 * i + k by omega, HXS.out, List.length_eq_zero_iff.1 hx0]
            clear HI hx0 HO
            go_wp2_with fail
            go_round
            case rel => exact ⟨k + 1, by omega, by go_num, HNX⟩
            case measure => simp [intOf]; omega
          · have HNE : Hid (∃ k' xs', Near w S k' (.slice ao xs.length cap) xs') := hide ⟨64 * i + k, xs, by omega, HXS.out, HO.out, HI.out, .inl (fun e => hx0 (by rw [e]; rfl))⟩
            have hx0' : (0 : Int) < (xs.length : Int) := by omega
            generalize xs.length = xl at *
            clear hx0 HI HO
            go_wp2_with fail
            go_ret
            exact ⟨_, rfl, rfl, HNE⟩
        · have hk64' : ¬ (k : Int) < 64 := by omega
          obtain rfl : k = 64 := by omega
          have HNX : Hid (∀ j < 64 * (i + 1), S[j]? = some []) := hide fun j hj => HI.out j (by omega)
          clear HI
          go_wp2_with fail
          go_round
          case rel => exact ⟨i + 1, by omega, by go_num, HNX⟩
          case measure => simp [intOf]; omega
    · have hi4' : ¬ (i : Int) < 4 := by omega
      obtain rfl : i = 4 := by omega
      obtain ⟨v, xs, hv, hxs, ho, c9, f9⟩ := HR.out.get (k := 256) (by omega)
      have HNE : Hid (∃ k' xs', Near w S k' v xs') := hide ⟨256, xs, by omega, hxs, ho, fun j hj => HI.out j (by omega), .inr rfl⟩
      obtain ⟨ao, cap, e, _, _⟩ := ho.read
      subst e
      generalize xs.length = xl at *
      clear hv hxs ho HI
      go_wp2_with fail
      go_ret
      exact ⟨_, rfl, rfl, HNE⟩
/-- What Next keeps: the least of those that it has seen. -/
def NI (L : List Tm) (xs : List Nat) (j m : Nat) : Prop := m < 18446744073709551616 ∧ ((j = 0 ∧ m = 18446744073709551615) ∨ ((∃ p ∈ L, p.1 ∈ xs.take j ∧ p.2 = m) ∧ ∀ p ∈ L, p.1 ∈ xs.take j → m ≤ p.2))
theorem NI.step {now : Nat} {L : List Tm} {S : List (List Nat)} {xs : List Nat} {j m id a : Nat} (h : NI L xs j m) (hok : Ok now L S) (hx : xs[j]? = some id) (hm : (id, a) ∈ L) : NI L xs (j + 1) (min m a) := by
  obtain ⟨hb, h⟩ := h
  have hab := (hok.big _ hm).2.1
  simp only at hab
  have ht : xs.take (j + 1) = xs.take j ++ [id] := by rw [List.take_add_one, hx]; rfl
  refine ⟨by omega, .inr ?_⟩
  rw [ht]
  rcases h with ⟨rfl, rfl⟩ | ⟨⟨p, hp, hpx, e⟩, h2⟩
  · refine ⟨⟨(id, a), hm, by simp, by simp only; omega⟩, fun p hp hpx => ?_⟩
    have : p.1 = id := by simpa using hpx
    have := rise_inj hok.rise _ hp _ hm this
    rw [this]; simp only; omega
  · have h2' : ∀ r ∈ L, r.1 ∈ xs.take j ++ [id] → min m a ≤ r.2 := fun r hr hrx => by
      rcases List.mem_append.1 hrx with h | h
      · have := h2 r hr h; omega
      · have h3 : r.1 = id := by simpa using h
        have := rise_inj hok.rise _ hr _ hm h3
        rw [this]; simp only; omega
    refine ⟨?_, h2'⟩
    rcases Nat.le_total m a with g | g
    · exact ⟨p, hp, List.mem_append_left _ hpx, by omega⟩
    · exact ⟨(id, a), hm, List.mem_append_right _ (by simp), by simp only; omega⟩
set_option maxHeartbeats 1000000 in
set_option maxRecDepth 100000 in
theorem next_some (wp now : Nat) (L : List Tm) (Y : Lay) (w : World) (h : Whl w wp now L Y) (hne : L ≠ []) : Calls Try.prog 29 #[pw wp] w fun e w' => ∃ m : Nat, e = .returned (.tuple #[.int .u64 (m : Int), .bool true]) ∧ w' = w ∧ Hid (IsLeast m L) := by
  obtain ⟨S, h1, h2⟩ := h
  have HR := hide h1
  have HOK := hide h2
  have HML := hide (h1.map.len)
  have c1 := h1.mapc
  have HC := hide (nearest_any wp now L Y S w h1)
  have hl0 : ((L.length : Int) == 0) = false := by
    have : L.length ≠ 0 := fun e => hne (List.length_eq_zero_iff.1 e)
    simp; omega
  have HLK : Hid (∀ (id : Nat), id < 18446744073709551616 → (Instr.lookup 64 (.map (some Y.mp)) (.int .u64 (id : Int)) false).run Try.prog w = .ok (.int .u64 (((tget id L).getD 0 : Nat) : Int)) w) := hide fun id hid => h1.map.look hid
  have HNE := hide hne
  have HLN : Hid (∀ ty, (Builtin.len_ #[64] ty #[.map (some Y.mp)]).run Try.prog w = .ok (.int .i64 (L.length : Int)) w) := hide fun ty => h1.map.len ty
  have hln := HLN.out
  generalize L.length = ll at *
  unfold pw at HC ⊢
  clear h1 h2 hne HML
  go_enter Try.func29, Try.ntmps29
  go_wp2_with (go_at_call 40; refine HC.out.mono ?_; rintro e wx ⟨v, rfl, hwx, HN⟩; have hwy := hwx.symm; subst hwy; clear hwx; obtain ⟨k, xs, hN⟩ := HN.out; obtain ⟨ao, cap, e, _, hrow⟩ := hN.own.read; subst e; have HNR := hide hN; have HROW := hide hrow; clear hN hrow HN)
  obtain ⟨xl, hxl⟩ : ∃ xl, xl = xs.length := ⟨_, rfl⟩
  have HXL := hide hxl
  rw [← hxl]
  have hx8 : (xl : Int) ≤ 8192 := by have := HOK.out.short HNR.out.at'; omega
  clear hxl hln
  go_wp2_with fail
  go_loop [4, 20] (fun v4 v20 => ∃ j m : Nat, j ≤ xl ∧ v20 = .int .i64 (j : Int) ∧ v4 = .int .u64 (m : Int) ∧ Hid (NI L xs j m)) (fun _ v20 => xl - (intOf v20).toNat)
  case atStart => exact ⟨0, 18446744073709551615, by omega, rfl, rfl, by omega, .inl ⟨rfl, rfl⟩⟩
  case round =>
    obtain ⟨j, m, hj, rfl, rfl, HI⟩ := hrel
    by_cases hjx : j < xl
    · have hjx' : (j : Int) < (xl : Int) := by omega
      have hjl : j < xs.length := by have := HXL.out; omega
      obtain ⟨b, off, e0⟩ := HROW.out.form (by omega)
      subst e0
      have hc := HROW.out.cell j hjl
      have hx : xs[j]? = some (xs.getD j 0) := by simp [List.getD, hjl]
      have hmem : xs.getD j 0 ∈ xs := List.mem_of_getElem? hx
      obtain ⟨p, hp, e1⟩ := List.mem_map.1 ((HOK.out.fits _ _ HNR.out.at').mem_iff.1 hmem)
      have hpL := (List.mem_filter.1 hp).1
      have hbig := HOK.out.big p hpL
      obtain ⟨id, a⟩ := p
      simp only at e1 hbig
      rw [← e1] at hc hx
      have HNX := hide (HI.out.step HOK.out hx hpL)
      have hlk := HLK.out id hbig.1
      have htg := tget_mem HOK.out.rise hpL
      simp only at htg
      rw [htg] at hlk
      simp only [Option.getD_some] at hlk
      have hm2 : (m : Int) ≤ 18446744073709551615 := by have := HI.out.1; omega
      have ha2 : (a : Int) ≤ 18446744073709551615 := by omega
      obtain ⟨r, hr⟩ : ∃ r, r = min m a := ⟨_, rfl⟩
      rw [← hr] at HNX
      have hmin : min (m : Int) (a : Int) = (r : Int) := by omega
      have hmin2 : (if (a : Int) < (m : Int) then (a : Int) else (m : Int)) = (r : Int) := by split <;> omega
      have hmin3 : (if (m : Int) ≤ (a : Int) then (m : Int) else (a : Int)) = (r : Int) := by split <;> omega
      have HMM := hide (show (r = m ∧ m ≤ a) ∨ (r = a ∧ a ≤ m) by omega)
      clear hmem hp e1 hpL hbig hx hjl htg hr
      go_wp2_with fail
      go_round
      case rel => exact ⟨j + 1, r, by omega, by go_num, by go_num, HNX⟩
      case measure => simp [intOf]; omega
    · have hjx' : ¬ (j : Int) < (xl : Int) := by omega
      have hxn : xs ≠ [] := fun e => by
        rcases HNR.out.ne with h | h
        · exact h e
        · refine HNE.out (next_none HOK.out fun q hq => ?_)
          rcases Nat.lt_or_ge q k with g | g
          · exact HNR.out.before q g
          · rw [show q = k by omega, HNR.out.at', e]
      have HLE : Hid (IsLeast m L) := hide (by
        have hxj : xs.take j = xs := List.take_of_length_le (by have := HXL.out; omega)
        obtain ⟨_, h⟩ := HI.out
        rw [hxj] at h
        rcases h with ⟨h0, _⟩ | ⟨g1, g2⟩
        · exfalso
          have : xs.length ≠ 0 := fun e => hxn (List.length_eq_zero_iff.1 e)
          have := HXL.out
          omega
        · exact next_math HOK.out HNR.out.at' HNR.out.before g1 g2)
      clear hxn
      go_wp2_with fail
      go_ret2
      exact ⟨m, rfl, rfl, HLE⟩
set_option maxHeartbeats 1000000 in
set_option maxRecDepth 100000 in
theorem next_empty (wp now : Nat) (Y : Lay) (w : World) (h : Whl w wp now [] Y) : Calls Try.prog 29 #[pw wp] w fun e w' => e = .returned (.tuple #[.int .u64 0, .bool false]) ∧ w' = w := by
  obtain ⟨S, h1, h2⟩ := h
  have c1 := h1.mapc
  have hln : ∀ ty, (Builtin.len_ #[64] ty #[.map (some Y.mp)]).run Try.prog w = .ok (.int .i64 0) w := fun ty => h1.map.len ty
  unfold pw
  clear h1 h2
  go_enter Try.func29, Try.ntmps29
  go_wp2_with fail
  go_ret2
  exact ⟨rfl, rfl⟩
end Go.Proofs.Ytmngmkbiibhmkaa
/- The program's wheel and the document's side by side, apart from other blocks. -/
namespace Go.Proofs.Ytmngmkbiibhmkaa
open Go.RowKit Go.Shelf Go.Maps

/-- Both wheels, made since u, in blocks of their own, none of them in G. -/
structure Duo (u w : World) (wp rp n1 n2 : Nat) (L1 L2 : List Tm) (G : List Nat) : Prop where
  ex : ∃ Y v, Whl w wp n1 L1 Y ∧ RefAt w rp n2 v L2 ∧ (∀ b ∈ Y.blocks wp, u.heap.size ≤ b ∧ b ∉ G) ∧ (u.heap.size ≤ rp ∧ rp ∉ G ∧ rp ∉ Y.blocks wp) ∧ ∀ g, v.ownBlock = some g → u.heap.size ≤ g ∧ g ∉ G ∧ g ∉ Y.blocks wp
  bel : Below u.heap.size u w
theorem Duo.ok {u w : World} {wp rp n1 n2 : Nat} {L1 L2 : List Tm} {G : List Nat} (h : Duo u w wp rp n1 n2 L1 L2 G) : ∃ S, Ok n1 L1 S := by
  obtain ⟨Y, v, ⟨S, _, h⟩, _⟩ := h.ex
  exact ⟨S, h⟩
theorem Duo.below {u w w' : World} {wp rp n1 n2 : Nat} {L1 L2 : List Tm} {G : List Nat} (h : Duo u w wp rp n1 n2 L1 L2 G) (hb : Below w.heap.size w w') : Duo u w' wp rp n1 n2 L1 L2 G := by
  obtain ⟨⟨Y, v, h1, h2, h3, h4, h5⟩, h6⟩ := h
  exact ⟨⟨Y, v, h1.below hb, h2.keep hb, h3, h4, h5⟩, h6.trans (hb.mono h6.size)⟩
theorem Duo.drewN {u w : World} {wp rp n1 n2 : Nat} {L1 L2 : List Tm} {G : List Nat} (h : Duo u w wp rp n1 n2 L1 L2 G) (q : Nat) : Duo u (w.drewN q) wp rp n1 n2 L1 L2 G := h.below (below_drewN (Below.refl _ _) q)
/-- New blocks beside. -/
theorem Duo.fresh {u w w' : World} {wp rp n1 n2 : Nat} {L1 L2 : List Tm} {G G' : List Nat} (h : Duo u w wp rp n1 n2 L1 L2 G) (hb : Below w.heap.size w w') (hn : ∀ g ∈ G', g ∈ G ∨ w.heap.size ≤ g) : Duo u w' wp rp n1 n2 L1 L2 G' := by
  obtain ⟨⟨Y, v, h1, h2, h3, h4, h5⟩, h6⟩ := h
  have l1 := h1.lt
  have l2 := h2.lt
  refine ⟨⟨Y, v, h1.below hb, h2.keep hb, fun b hm => ⟨(h3 b hm).1, fun hg => ?_⟩, ⟨h4.1, fun hg => ?_, h4.2.2⟩, fun g hg => ⟨(h5 g hg).1, fun hgg => ?_, (h5 g hg).2.2⟩⟩, h6.trans (hb.mono h6.size)⟩
  · rcases hn b hg with h | h
    · exact (h3 b hm).2 h
    · have := l1 b hm; omega
  · rcases hn rp hg with h | h
    · exact h4.2.1 h
    · omega
  · rcases hn g hgg with h | h
    · exact (h5 g hg).2.1 h
    · have := (h2.own.lt g hg).2; omega
/-- Blocks of G turn. -/
theorem Duo.apart {u w w' : World} {wp rp n1 n2 : Nat} {L1 L2 : List Tm} {G fp : List Nat} (h : Duo u w wp rp n1 n2 L1 L2 G) (hf : Fr fp w w') (hs : ∀ b ∈ fp, b ∈ G) (hy : ∀ b ∈ fp, u.heap.size ≤ b) : Duo u w' wp rp n1 n2 L1 L2 G := by
  obtain ⟨⟨Y, v, h1, h2, h3, h4, h5⟩, h6⟩ := h
  exact ⟨⟨Y, v, h1.apart hf fun b hm hp => (h3 b hm).2 (hs b hp), h2.fr hf (fun hp => h4.2.1 (hs _ hp)) (fun g hg hp => (h5 g hg).2.1 (hs _ hp)), h3, h4, h5⟩, h6.trans (hf.below _ h6.size hy)⟩
/-- A call on the program's wheel. -/
theorem Duo.onW {u w w' : World} {wp rp n2 n3 : Nat} {L2 L3 : List Tm} {G : List Nat} {Y Y' : Lay} {v : Value} (h2 : RefAt w rp n2 v L2) (h3 : ∀ b ∈ Y.blocks wp, u.heap.size ≤ b ∧ b ∉ G) (h4 : u.heap.size ≤ rp ∧ rp ∉ G ∧ rp ∉ Y.blocks wp) (h5 : ∀ g, v.ownBlock = some g → u.heap.size ≤ g ∧ g ∉ G ∧ g ∉ Y.blocks wp) (h6 : Below u.heap.size u w) (hG : ∀ g ∈ G, g < w.heap.size) (k : Whl w' wp n3 L3 Y') (hA : Aft wp Y Y' w w') : Duo u w' wp rp n3 n2 L3 L2 G ∧ Held G w w' := by
  refine ⟨⟨⟨Y', v, k, h2.fr hA.fr h4.2.2 fun g hg => (h5 g hg).2.2, fun b hm => ?_, ⟨h4.1, h4.2.1, fun hm => ?_⟩, fun g hg => ⟨(h5 g hg).1, (h5 g hg).2.1, fun hm => ?_⟩⟩, h6.trans (hA.fr.below _ h6.size fun b hm => (h3 b hm).1)⟩, fun g hg => hA.fr.block g (hG g hg) fun hm => (h3 g hm).2 hg⟩
  · rcases hA.new b hm with h | h
    · exact h3 b h
    · exact ⟨Nat.le_trans h6.size h, fun hg => by have := hG b hg; omega⟩
  · rcases hA.new _ hm with h | h
    · exact h4.2.2 h
    · have := h2.lt; omega
  · rcases hA.new _ hm with h | h
    · exact (h5 g hg).2.2 h
    · have := (h2.own.lt g hg).2; omega
/-- A call on the document's. -/
theorem Duo.onR {u w w' : World} {wp rp n1 n3 : Nat} {L1 L3 : List Tm} {G : List Nat} {Y : Lay} {v : Value} (h1 : Whl w wp n1 L1 Y) (h3 : ∀ b ∈ Y.blocks wp, u.heap.size ≤ b ∧ b ∉ G) (h4 : u.heap.size ≤ rp ∧ rp ∉ G ∧ rp ∉ Y.blocks wp) (h5 : ∀ g, v.ownBlock = some g → u.heap.size ≤ g ∧ g ∉ G ∧ g ∉ Y.blocks wp) (h6 : Below u.heap.size u w) (hG : ∀ g ∈ G, g < w.heap.size) (k : RPost w w' rp n3 v L3) : Duo u w' wp rp n1 n3 L1 L3 G ∧ Held G w w' := by
  obtain ⟨v', k1, k2, k3⟩ := k
  have hlt := h1.lt
  refine ⟨⟨⟨Y, v', h1.apart k3 fun b hm hp => ?_, k1, h3, h4, fun g hg => ?_⟩, h6.trans (k3.below _ h6.size fun b hb => by rw [List.mem_singleton.1 hb]; exact h4.1)⟩, fun g hg => k3.block g (hG g hg) fun hp => h4.2.1 (by rw [← List.mem_singleton.1 hp]; exact hg)⟩
  · rw [List.mem_singleton.1 hp] at hm; exact h4.2.2 hm
  · rcases k2 g hg with h | h
    · exact h5 g h
    · exact ⟨Nat.le_trans h6.size h, fun hgg => by have := hG g hgg; omega, fun hm => by have := hlt g hm; omega⟩
section
variable {u w : World} {wp rp n1 n2 : Nat} {L1 L2 : List Tm} {G : List Nat}
theorem add_d (h : Duo u w wp rp n1 n2 L1 L2 G) (hG : ∀ g ∈ G, g < w.heap.size) (id a : Nat) (hid : id < 18446744073709551616) (ha : a < 18446744073709551616) :
    Calls Try.prog 14 #[pw wp, .int .u64 (id : Int), .int .u64 (a : Int)] w fun e w' => e = .returned (.int .i64 (addE n1 L1 id a : Int)) ∧ Duo u w' wp rp n1 n2 (addL n1 L1 id a) L2 G ∧ Held G w w' := by
  obtain ⟨⟨Y, v, h1, h2, h3, h4, h5⟩, h6⟩ := h
  exact (add_any wp n1 id a L1 Y w h1 hid ha).mono fun _ _ ⟨he, _, k1, k2⟩ => ⟨he, Duo.onW h2 h3 h4 h5 h6 hG k1 k2⟩
theorem remove_d (h : Duo u w wp rp n1 n2 L1 L2 G) (hG : ∀ g ∈ G, g < w.heap.size) (id : Nat) (hid : id < 18446744073709551616) :
    Calls Try.prog 23 #[pw wp, .int .u64 (id : Int)] w fun e w' => e = .returned (.int .i64 (remE L1 id : Int)) ∧ Duo u w' wp rp n1 n2 (tdel id L1) L2 G ∧ Held G w w' := by
  obtain ⟨⟨Y, v, h1, h2, h3, h4, h5⟩, h6⟩ := h
  exact (remove_any wp n1 id L1 Y w h1 hid).mono fun _ _ ⟨he, _, k1, k2⟩ => ⟨he, Duo.onW h2 h3 h4 h5 h6 hG k1 k2⟩
theorem advance_d (h : Duo u w wp rp n1 n2 L1 L2 G) (hG : ∀ g ∈ G, g < w.heap.size) (tt : Nat) (htt : tt < 18446744073709551616) :
    Calls Try.prog 19 #[pw wp, .int .u64 (tt : Int)] w fun e w' => ∃ ao n c, e = .returned (.tuple #[.slice ao n c, .int .i64 (if tt < n1 then 70 else 0)]) ∧ Own w' w.heap.size (.slice ao n c) (told tt L1) ∧ Duo u w' wp rp (max n1 tt) n2 (advL tt L1) L2 (vb (.slice ao n c) ++ G) ∧ Held G w w' := by
  obtain ⟨⟨Y, v, h1, h2, h3, h4, h5⟩, h6⟩ := h
  refine (advance_any wp n1 tt L1 Y w h1 htt).mono fun e w' ⟨ao, n, c, Y', he, k0, kn, k1, k2⟩ => ?_
  obtain ⟨q1, q2⟩ := Duo.onW h2 h3 h4 h5 h6 hG k1 k2
  refine ⟨ao, n, c, he, k0, ⟨⟨Y', v, k1, h2.fr k2.fr h4.2.2 fun g hg => (h5 g hg).2.2, fun b hm => ⟨?_, fun hg => ?_⟩, ⟨h4.1, fun hg => ?_, fun hm => ?_⟩, fun g hg => ⟨(h5 g hg).1, fun hgg => ?_, fun hm => ?_⟩⟩, q1.bel⟩, q2⟩
  · rcases k2.new b hm with h | h
    · exact (h3 b h).1
    · exact Nat.le_trans h6.size h
  · rcases List.mem_append.1 hg with hg | hg
    · exact kn b (mem_vb.1 hg) hm
    · rcases k2.new b hm with h | h
      · exact (h3 b h).2 hg
      · have := hG b hg; omega
  · rcases List.mem_append.1 hg with hg | hg
    · have := (k0.lt rp (mem_vb.1 hg)).1; have := h2.lt; omega
    · exact h4.2.1 hg
  · rcases k2.new _ hm with h | h
    · exact h4.2.2 h
    · have := h2.lt; omega
  · rcases List.mem_append.1 hgg with hgg | hgg
    · have := (k0.lt g (mem_vb.1 hgg)).1; have := (h2.own.lt g hg).2; omega
    · exact (h5 g hg).2.1 hgg
  · rcases k2.new _ hm with h | h
    · exact (h5 g hg).2.2 h
    · have := (h2.own.lt g hg).2; omega
theorem radd_d (h : Duo u w wp rp n1 n2 L1 L2 G) (hG : ∀ g ∈ G, g < w.heap.size) (hl : L2.length ≤ 8192) (id a : Nat) :
    Calls Try.prog 15 #[pw rp, .int .u64 (id : Int), .int .u64 (a : Int)] w fun e w' => e = .returned (.int .i64 (addE n2 L2 id a : Int)) ∧ Duo u w' wp rp n1 n2 L1 (addL n2 L2 id a) G ∧ Held G w w' := by
  obtain ⟨⟨Y, v, h1, h2, h3, h4, h5⟩, h6⟩ := h
  exact (radd_any rp n2 id a v L2 w h2 hl).mono fun _ _ ⟨he, k⟩ => ⟨he, Duo.onR h1 h3 h4 h5 h6 hG k⟩
theorem rremove_d (h : Duo u w wp rp n1 n2 L1 L2 G) (hG : ∀ g ∈ G, g < w.heap.size) (hl : L2.length ≤ 8192) (hr : Rise L2) (id : Nat) :
    Calls Try.prog 26 #[pw rp, .int .u64 (id : Int)] w fun e w' => e = .returned (.int .i64 (remE L2 id : Int)) ∧ Duo u w' wp rp n1 n2 L1 (tdel id L2) G ∧ Held G w w' := by
  obtain ⟨⟨Y, v, h1, h2, h3, h4, h5⟩, h6⟩ := h
  exact (rremove_any rp n2 id v L2 w h2 hl hr).mono fun _ _ ⟨he, k⟩ => ⟨he, Duo.onR h1 h3 h4 h5 h6 hG k⟩
theorem radvance_d (h : Duo u w wp rp n1 n2 L1 L2 G) (hG : ∀ g ∈ G, g < w.heap.size) (hl : L2.length ≤ 8192) (hr : Rise L2) (hb : ∀ p ∈ L2, n2 < p.2) (tt : Nat) :
    Calls Try.prog 20 #[pw rp, .int .u64 (tt : Int)] w fun e w' => ∃ ao n c, e = .returned (.tuple #[.slice ao n c, .int .i64 (if tt < n2 then 70 else 0)]) ∧ Own w' w.heap.size (.slice ao n c) (told tt L2) ∧ Duo u w' wp rp n1 (max n2 tt) L1 (advL tt L2) G ∧ Held G w w' := by
  obtain ⟨⟨Y, v, h1, h2, h3, h4, h5⟩, h6⟩ := h
  exact (radvance_any rp n2 tt v L2 w h2 hl hr hb).mono fun _ _ ⟨ao, n, c, he, hk⟩ => ⟨ao, n, c, he, hk.out.1, Duo.onR h1 h3 h4 h5 h6 hG hk.out.2⟩
theorem Duo.cells (h : Duo u w wp rp n1 n2 L1 L2 G) : ∃ ao c, w.cell? ⟨rp, 0, none⟩ = some (.slice ao L2.length c) ∧ w.cell? ⟨rp, 1, none⟩ = some (.int .u64 (n2 : Int)) := by
  obtain ⟨⟨Y, v, h1, h2, _⟩, _⟩ := h
  obtain ⟨ao, c, _, _, _, c0, c1⟩ := h2.form
  exact ⟨ao, c, c0, c1⟩
theorem now_d (h : Duo u w wp rp n1 n2 L1 L2 G) : Calls Try.prog 25 #[pw wp] w fun e w' => e = .returned (.int .u64 (n1 : Int)) ∧ w' = w := by
  obtain ⟨⟨Y, v, h1, _⟩, _⟩ := h
  exact now_any wp n1 L1 Y w h1
theorem len_d (h : Duo u w wp rp n1 n2 L1 L2 G) : Calls Try.prog 16 #[pw wp] w fun e w' => e = .returned (.int .i64 (L1.length : Int)) ∧ w' = w := by
  obtain ⟨⟨Y, v, h1, _⟩, _⟩ := h
  exact len_any wp n1 L1 Y w h1
theorem at_d (h : Duo u w wp rp n1 n2 L1 L2 G) (id : Nat) (hid : id < 18446744073709551616) : Calls Try.prog 27 #[pw wp, .int .u64 (id : Int)] w fun e w' => e = .returned (.tuple #[.int .u64 (((tget id L1).getD 0 : Nat) : Int), .bool (tget id L1).isSome]) ∧ w' = w := by
  obtain ⟨⟨Y, v, h1, _⟩, _⟩ := h
  exact at_any wp n1 id L1 Y w h1 hid
theorem rat_d (h : Duo u w wp rp n1 n2 L1 L2 G) (hl : L2.length ≤ 8192) (id : Nat) : Calls Try.prog 28 #[pw rp, .int .u64 (id : Int)] w fun e w' => e = .returned (.tuple #[.int .u64 (((tget id L2).getD 0 : Nat) : Int), .bool (tget id L2).isSome]) ∧ w' = w := by
  obtain ⟨⟨Y, v, h1, h2, _⟩, _⟩ := h
  exact rat_any rp n2 id v L2 w h2 hl
theorem spread_d (h : Duo u w wp rp n1 n2 L1 L2 G) : Calls Try.prog 17 #[pw wp] w fun e w' => e = .returned (spreadV n1 L1) ∧ Below w.heap.size w w' := by
  obtain ⟨⟨Y, v, h1, _⟩, _⟩ := h
  exact spread_whl wp n1 L1 Y w h1
theorem rspread_d (h : Duo u w wp rp n1 n2 L1 L2 G) (hl : L2.length ≤ 8192) (hb : ∀ p ∈ L2, p.2 < 18446744073709551616) (hn : n2 < 18446744073709551616) : Calls Try.prog 18 #[pw rp] w fun e w' => e = .returned (spreadV n2 L2) ∧ Below w.heap.size w w' := by
  obtain ⟨⟨Y, v, h1, h2, _⟩, _⟩ := h
  exact rspread_any rp n2 v L2 w h2 hl hb hn
end
/-- What Next tells. -/
def NextIs (L : List Tm) (m : Nat) (b : Bool) : Prop := (L = [] ∧ m = 0 ∧ b = false) ∨ (L ≠ [] ∧ b = true ∧ IsLeast m L)
theorem NextIs.uniq {L : List Tm} {m m' : Nat} {b b' : Bool} (h : NextIs L m b) (h' : NextIs L m' b') : m = m' ∧ b = b' := by
  rcases h with ⟨h1, h2, h3⟩ | ⟨h1, h2, h3⟩ <;> rcases h' with ⟨k1, k2, k3⟩ | ⟨k1, k2, k3⟩
  · exact ⟨by omega, by rw [h3, k3]⟩
  · exact absurd h1 k1
  · exact absurd k1 h1
  · exact ⟨h3.uniq k3, by rw [h2, k2]⟩
theorem next_d {u w : World} {wp rp n1 n2 : Nat} {L1 L2 : List Tm} {G : List Nat} (h : Duo u w wp rp n1 n2 L1 L2 G) : Calls Try.prog 29 #[pw wp] w fun e w' => ∃ (m : Nat) (b : Bool), e = .returned (.tuple #[.int .u64 (m : Int), .bool b]) ∧ w' = w ∧ Hid (NextIs L1 m b) := by
  obtain ⟨⟨Y, v, h1, _⟩, _⟩ := h
  by_cases hne : L1 = []
  · subst hne
    exact (next_empty wp n1 Y w h1).mono fun _ _ ⟨he, hw⟩ => ⟨0, false, he, hw, .inl ⟨rfl, rfl, rfl⟩⟩
  · exact (next_some wp n1 L1 Y w h1 hne).mono fun _ _ ⟨m, he, hw, hl⟩ => ⟨m, true, he, hw, .inr ⟨hne, rfl, hl.out⟩⟩
theorem rnext_d {u w : World} {wp rp n1 n2 : Nat} {L1 L2 : List Tm} {G : List Nat} (h : Duo u w wp rp n1 n2 L1 L2 G) (hl : L2.length ≤ 8192) {m : Nat} {b : Bool} (hm : NextIs L2 m b) : Calls Try.prog 30 #[pw rp] w fun e w' => e = .returned (.tuple #[.int .u64 (m : Int), .bool b]) ∧ w' = w := by
  obtain ⟨⟨Y, v, h1, h2, _⟩, _⟩ := h
  by_cases hne : L2 = []
  · subst hne
    refine (rnext_none rp n2 v w h2).mono fun _ _ ⟨he, hw⟩ => ⟨?_, hw⟩
    rcases hm with ⟨_, rfl, rfl⟩ | ⟨h, _⟩
    · exact he
    · exact absurd rfl h
  · refine (rnext_some rp n2 v L2 w h2 hl hne).mono fun _ _ ⟨m', he, hw, hl⟩ => ⟨?_, hw⟩
    rcases hm with ⟨h, _⟩ | ⟨_, rfl, h⟩
    · exact absurd h hne
    · rw [h.uniq hl.out]; exact he
theorem Duo.start {u w1 w2 : World} {wp rp now : Nat} (h : MineG u w1 wp now [] []) (hr : RefAt w2 rp now (.slice none 0 0) []) (hge : w1.heap.size ≤ rp) (hb : Below w1.heap.size w1 w2) : Duo u w2 wp rp now now [] [] [] := by
  obtain ⟨⟨Y, h1, h2, _⟩, h3⟩ := h
  exact ⟨⟨Y, _, h1.below hb, hr, fun b hm => ⟨h2 b hm, by simp⟩, ⟨Nat.le_trans h3.size hge, by simp, fun hm => by have := h1.lt rp hm; omega⟩, fun g hg => by cases hg⟩, h3.trans (hb.mono h3.size)⟩
end Go.Proofs.Ytmngmkbiibhmkaa
