/- The contracts of digitOf and ringOf. -/
import Derived.Test.YtmngmkbiibhmkaaVRep
import Derived.Deep.LoopGhost
import Derived.WalkMore
namespace Go.Proofs.Ytmngmkbiibhmkaa
open Go.RowKit Go.Maps

theorem dig_eq (t d : Nat) : wrap64 (((t : Int) / 2 ^ (6 * d)).tmod 64) = (dig t d : Int) := by
  have e : ((t : Int) / 2 ^ (6 * d)) = ((t / 64 ^ d : Nat) : Int) := by
    rw [Int.pow_mul, show (2 : Int) ^ 6 = 64 from rfl]
    simp
  rw [e]
  generalize ht : t / 64 ^ d = q
  unfold dig
  rw [ht]
  have : ((q : Int)).tmod 64 = ((q % 64 : Nat) : Int) := by rw [Int.tmod_eq_emod_of_nonneg (by omega)]; omega
  rw [this]
  unfold wrap64
  omega
set_option maxHeartbeats 1000000 in
set_option maxRecDepth 100000 in
theorem digitOf_any (t d : Nat) (w : World) (hd : d ≤ 10) :
    Calls Try.prog 42 #[.int .u64 (t : Int), .int .i64 (d : Int)] w fun e w' => e = .returned (.int .i64 (dig t d : Int)) ∧ w' = w := by
  go_enter Try.func42, Try.ntmps42
  go_wp2
  go_ret
  exact ⟨ret_int (dig_eq t d), rfl⟩
def digZ (v : Int) (d : Nat) : Int := dig v.toNat d
theorem digitOf_int (v : Int) (d : Nat) (w : World) (h0 : 0 ≤ v) (hd : d ≤ 10) :
    Calls Try.prog 42 #[.int .u64 v, .int .i64 (d : Int)] w fun e w' => e = .returned (.int .i64 (digZ v d)) ∧ w' = w := by
  obtain ⟨t, rfl⟩ := Int.eq_ofNat_of_zero_le h0
  exact digitOf_any t d w hd
theorem dig_up (a e : Nat) : a / 64 ^ e = 64 * (a / 64 ^ (e + 1)) + dig a e := by
  unfold dig
  rw [Nat.pow_succ, ← Nat.div_div_eq_div_mul]
  omega
theorem digs_eq {a b : Nat} (ha : a < 18446744073709551616) (hb : b < 18446744073709551616) : ∀ k i, i + k = 11 → (∀ e, i ≤ e → e < 11 → dig a e = dig b e) → a / 64 ^ i = b / 64 ^ i
  | 0, i, h, _ => by
    have : i = 11 := by omega
    subst this
    rw [Nat.div_eq_of_lt (Nat.lt_trans ha (by decide)), Nat.div_eq_of_lt (Nat.lt_trans hb (by decide))]
  | k + 1, i, h, hd => by
    rw [dig_up a i, dig_up b i, digs_eq ha hb k (i + 1) (by omega) (fun e h1 h2 => hd e (by omega) h2), hd i (by omega) (by omega)]
theorem digs_of {a b i e : Nat} (h : a / 64 ^ i = b / 64 ^ i) (he : i ≤ e) : dig a e = dig b e := by
  obtain ⟨k, rfl⟩ : ∃ k, e = i + k := ⟨e - i, by omega⟩
  unfold dig
  rw [Nat.pow_add, ← Nat.div_div_eq_div_mul, ← Nat.div_div_eq_div_mul, h]
theorem ringN_at {now a i : Nat} (hi : i < 4) (h1 : ∀ j, j < i → a / 64 ^ (j + 1) ≠ now / 64 ^ (j + 1)) (h2 : a / 64 ^ (i + 1) = now / 64 ^ (i + 1)) : ringN now a = i := by
  unfold ringN
  have a0 := h1 0
  have a1 := h1 1
  have a2 := h1 2
  simp only [Nat.reduceAdd, Nat.reducePow] at a0 a1 a2
  rcases (by omega : i = 0 ∨ i = 1 ∨ i = 2 ∨ i = 3) with rfl | rfl | rfl | rfl
  · simp only [Nat.reduceAdd, Nat.reducePow] at h2
    rw [if_pos h2]
  · simp only [Nat.reduceAdd, Nat.reducePow] at h2
    rw [if_neg (a0 (by omega)), if_pos h2]
  · simp only [Nat.reduceAdd, Nat.reducePow] at h2
    rw [if_neg (a0 (by omega)), if_neg (a1 (by omega)), if_pos h2]
  · simp only [Nat.reduceAdd, Nat.reducePow] at h2
    rw [if_neg (a0 (by omega)), if_neg (a1 (by omega)), if_neg (a2 (by omega)), if_pos h2]
theorem ringN_four {now a : Nat} (h1 : ∀ j, j < 4 → a / 64 ^ (j + 1) ≠ now / 64 ^ (j + 1)) : ringN now a = 4 := by
  unfold ringN
  have a0 := h1 0 (by omega)
  have a1 := h1 1 (by omega)
  have a2 := h1 2 (by omega)
  have a3 := h1 3 (by omega)
  simp only [Nat.reduceAdd, Nat.reducePow] at a0 a1 a2 a3
  rw [if_neg a0, if_neg a1, if_neg a2, if_neg a3]
set_option maxHeartbeats 4000000 in
set_option maxRecDepth 100000 in
theorem ringOf_any (wp now a : Nat) (w : World) (hc : w.cell? ⟨wp, 0, none⟩ = some (.int .u64 (now : Int))) (hn : now < 18446744073709551616) (ha : a < 18446744073709551616) :
    Calls Try.prog 41 #[pw wp, .int .u64 (a : Int)] w fun e w' => e = .returned (.int .i64 (ringN now a : Int)) ∧ ∃ n, w' = w.drewN n := by
  obtain ⟨r, hr⟩ : ∃ r : Nat, r = ringN now a := ⟨_, rfl⟩
  rw [← hr]
  have HR := hide hr
  have HN := hide hn
  have HA := hide ha
  clear hr hn ha
  unfold pw
  go_enter Try.func41, Try.ntmps41
  go_wp2
  go_step3
  go_wp2
  go_step3
  go_wp2
  go_loopw [7] (fun v7 wr => ∃ i : Nat, i ≤ 4 ∧ v7 = .int .i64 (i : Int) ∧ Hid (∀ j, j < i → a / 64 ^ (j + 1) ≠ now / 64 ^ (j + 1)) ∧ Hid (∃ n, wr = w.drewN n)) (fun v7 _ => 4 - (intOf v7).toNat)
  case atStart => exact ⟨0, by omega, rfl, fun j hj => by omega, ⟨0, rfl⟩⟩
  case round =>
    obtain ⟨i, hi, rfl, HO, HW⟩ := hrel
    by_cases h4 : i < 4
    · go_wp2_with fail
      go_loopw [6] (fun v6 wr => ∃ d : Nat, i + 1 ≤ d ∧ d ≤ 11 ∧ v6 = .int .i64 (d : Int) ∧ Hid (∀ e, i + 1 ≤ e → e < d → dig a e = dig now e) ∧ Hid (∃ n, wr = w.drewN n)) (fun v6 _ => 11 - (intOf v6).toNat)
      case atStart => exact ⟨i + 1, by omega, by omega, by simp, fun e h1 h2 => by omega, HW⟩
      case round =>
        clear HW
        obtain ⟨d, hd1, hd2, rfl, HD, HW⟩ := hrel
        by_cases h11 : d < 11
        · have HC : Hid (∀ v n, v = (a : Int) ∨ v = (now : Int) → Calls Try.prog 42 #[.int .u64 v, .int .i64 (d : Int)] (wr.drewN n) fun e w' => e = .returned (.int .i64 (digZ v d)) ∧ ∃ m, w' = wr.drewN m) := fun v n hv => by
            refine (digitOf_int v d _ ?_ (by omega)).mono fun e w' h => ⟨h.1, n, h.2⟩
            rcases hv with rfl | rfl <;> omega
          have hcw : wr.cell? ⟨wp, 0, none⟩ = some (.int .u64 (now : Int)) := by obtain ⟨q, hq⟩ := HW.out; rw [hq]; exact hc
          obtain ⟨za, hza⟩ : ∃ z, digZ (a : Int) d = z := ⟨_, rfl⟩
          obtain ⟨zn, hzn⟩ : ∃ z, digZ (now : Int) d = z := ⟨_, rfl⟩
          have HZ : Hid (za = zn ↔ dig a d = dig now d) := by show _ ↔ _; rw [← hza, ← hzn]; unfold digZ; simp only [Int.toNat_natCast]; omega
          by_cases hz : za = zn
          · have HE := hide (HZ.out.1 hz)
            have hb : (za == zn) = true := by simpa using hz
            clear HZ
            go_wp2_with fail
            go_quiet ((go_at_call 42; exact HC.out _ _ (by first | exact .inl rfl | exact .inr rfl)))
            go_wp2_with fail
            go_roundw
            case rel =>
              refine ⟨d + 1, by omega, by omega, by simp, fun e h1 h2 => ?_, ?_⟩
              · rcases Nat.lt_or_eq_of_le (Nat.le_of_lt_succ h2) with h | h
                · exact HD.out e h1 h
                · rw [h]; exact HE.out
              · obtain ⟨q, hq⟩ := HW.out
                exact ⟨_, by rw [hq, World.drewN_drewN]⟩
            case measure => simp [intOf]; omega
          · have HE : Hid (dig a d ≠ dig now d) := fun e => hz (HZ.out.2 e)
            have HO2 : Hid (∀ j, j < i + 1 → a / 64 ^ (j + 1) ≠ now / 64 ^ (j + 1)) := fun j hj e => by
              rcases Nat.lt_or_eq_of_le (Nat.le_of_lt_succ hj) with h | h
              · exact HO.out j h e
              · rw [h] at e
                exact HE.out (digs_of e hd1)
            have hb : (za == zn) = false := by simpa using hz
            clear HZ
            go_wp2_with fail
            go_quiet ((go_at_call 42; exact HC.out _ _ (by first | exact .inl rfl | exact .inr rfl)))
            go_wp2_with fail
            go_roundw
            case rel =>
              obtain ⟨q, hq⟩ := HW.out
              exact ⟨i + 1, by omega, by simp, HO2, ⟨_, by rw [hq, World.drewN_drewN]⟩⟩
            case measure => simp [intOf]; omega
        · have HE : Hid (r = i) := by
            show _ = _
            rw [HR.out]
            exact ringN_at h4 HO.out (digs_eq HA.out HN.out (11 - (i + 1)) (i + 1) (by omega) (fun e h1 h2 => HD.out e h1 (by omega)))
          go_wp2_with fail
          rw [Exit.noGoto_ret]
          go_ret
          exact ⟨ret_int (by rw [HE.out]), HW.out⟩
    · have HE : Hid (r = 4) := by
        show _ = _
        rw [HR.out]
        exact ringN_four fun j hj => HO.out j (by omega)
      go_wp2_with fail
      first | go_ret | (rw [Exit.noGoto_ret]; go_ret) | (simp only [Exit.noGoto_ret, go_sem]; go_ret)
      exact ⟨ret_int (by rw [HE.out]; rfl), HW.out⟩
end Go.Proofs.Ytmngmkbiibhmkaa
