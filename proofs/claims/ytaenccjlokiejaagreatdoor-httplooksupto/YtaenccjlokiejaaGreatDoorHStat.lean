/- The first line of a response, by the program. -/
import Derived.Test.YtaenccjlokiejaaGreatDoorHReason
import Derived.Test.YtaenccjlokiejaaGreatDoorHWord
import Derived.Test.YtaenccjlokiejaaGreatDoorHField
import Derived.Test.YtaenccjlokiejaaGreatDoorHAdd
namespace Go.Proofs.YtaenccjlokiejaaGreatDoor
open Go.RowKit Go.Shelf

theorem prefix_lenH {a l : U} (h : a.isPrefixOf l = true) : a.length ≤ l.length := (List.isPrefixOf_iff_prefix.1 h).length_le
theorem itoa_abc (a b c : Nat) (ha : 1 ≤ a) (ha9 : a ≤ 9) (hb : b ≤ 9) (hc : c ≤ 9) : Lib.itoa ((100 * a + 10 * b + c : Nat) : Int) = [UInt8.ofNat (48 + a), UInt8.ofNat (48 + b), UInt8.ofNat (48 + c)] := by
  unfold Lib.itoa
  rw [if_neg (by omega), Int.toNat_natCast]
  rw [Lib.decDigits, dif_neg (by omega)]
  rw [Lib.decDigits, dif_neg (by omega)]
  rw [Lib.decDigits, dif_pos (by omega)]
  have e1 : (100 * a + 10 * b + c) / 10 / 10 = a := by omega
  have e2 : (100 * a + 10 * b + c) / 10 % 10 = b := by omega
  have e3 : (100 * a + 10 * b + c) % 10 = c := by omega
  rw [e1, e2, e3]
  rfl
theorem digit_of {c : UInt8} (h : digB c = true) : ∃ a, a ≤ 9 ∧ c = UInt8.ofNat (48 + a) ∧ c.toNat - 48 = a := by
  have := digB_nat h
  refine ⟨c.toNat - 48, by omega, ?_, rfl⟩
  apply u8_ext
  simp
  omega
theorem three_of {l : U} (h3 : l.length = 3) (hall : l.all digB = true) : ∃ a b c, a ≤ 9 ∧ b ≤ 9 ∧ c ≤ 9 ∧ l = [UInt8.ofNat (48 + a), UInt8.ofNat (48 + b), UInt8.ofNat (48 + c)] ∧ numR l = 100 * a + 10 * b + c := by
  match l, h3 with
  | [x, y, z], _ =>
    simp only [List.all_cons, List.all_nil, Bool.and_true, Bool.and_eq_true] at hall
    obtain ⟨a, a9, ea, na⟩ := digit_of hall.1
    obtain ⟨b, b9, eb, nb⟩ := digit_of hall.2.1
    obtain ⟨c, c9, ec, nc⟩ := digit_of hall.2.2
    refine ⟨a, b, c, a9, b9, c9, by rw [ea, eb, ec], ?_⟩
    simp only [numR, List.foldl_cons, List.foldl_nil, na, nb, nc]
    omega
theorem digB_ofNat {a : Nat} (h : a ≤ 9) : digB (UInt8.ofNat (48 + a)) = true := by
  have : (UInt8.ofNat (48 + a)).toNat = 48 + a := by simp; omega
  simp only [digB, this]
  simp
  omega
theorem itoa_status {n : Nat} (h1 : 100 ≤ n) (h2 : n ≤ 599) : (Lib.itoa (n : Int)).length = 3 ∧ lengthB (Lib.itoa (n : Int)) = true ∧ numR (Lib.itoa (n : Int)) = n := by
  have e : n = 100 * (n / 100) + 10 * (n / 10 % 10) + n % 10 := by omega
  have hi := itoa_abc (n / 100) (n / 10 % 10) (n % 10) (by omega) (by omega) (by omega) (by omega)
  rw [← e] at hi
  have hd1 := digB_ofNat (show n / 100 ≤ 9 by omega)
  have hd2 := digB_ofNat (show n / 10 % 10 ≤ 9 by omega)
  have hd3 := digB_ofNat (show n % 10 ≤ 9 by omega)
  have hall : (Lib.itoa (n : Int)).all digB = true := by rw [hi, List.all_cons, List.all_cons, List.all_cons, hd1, hd2, hd3]; rfl
  have h3 : (Lib.itoa (n : Int)).length = 3 := by rw [hi]; rfl
  refine ⟨h3, by unfold lengthB; rw [h3, hall]; rfl, ?_⟩
  rw [hi]
  have t1 : (UInt8.ofNat (48 + n / 100)).toNat = 48 + n / 100 := by simp; omega
  have t2 : (UInt8.ofNat (48 + n / 10 % 10)).toNat = 48 + n / 10 % 10 := by simp; omega
  have t3 : (UInt8.ofNat (48 + n % 10)).toNat = 48 + n % 10 := by simp; omega
  simp only [numR, List.foldl_cons, List.foldl_nil, t1, t2, t3]
  omega
theorem take_pre {a l : U} (h : a.isPrefixOf l = true) : l.take a.length = a := by
  obtain ⟨r, rfl⟩ := List.isPrefixOf_iff_prefix.1 h
  simp
def lineT (n : Int) : U := statusT n ++ [13, 10]
theorem stat_yes {text : U} {v : Int} (hv : v = atoiV (text.takeWhile digB)) (hs : statusB v = true) (hp : (lineT v).isPrefixOf text = true) :
    lengthB (text.take 3) = true ∧ 100 ≤ numR (text.take 3) ∧ numR (text.take 3) ≤ 599 ∧ ((32 :: reasonR (numR (text.take 3))) ++ [13, 10]).isPrefixOf (text.drop 3) = true ∧ v = (numR (text.take 3) : Int) ∧ (lineT v).length = 3 + ((32 :: reasonR (numR (text.take 3))) ++ [13, 10]).length := by
  simp only [statusB, Bool.and_eq_true, decide_eq_true_eq] at hs
  obtain ⟨n, rfl⟩ : ∃ n : Nat, v = n := ⟨v.toNat, by omega⟩
  obtain ⟨h3, hlb, hn⟩ := itoa_status (n := n) (by omega) (by omega)
  obtain ⟨r, hr⟩ := List.isPrefixOf_iff_prefix.1 hp
  have e : text = Lib.itoa (n : Int) ++ ((32 :: reasonR (n : Int)) ++ [13, 10] ++ r) := by rw [← hr]; simp [lineT, statusT]
  have ht : text.take 3 = Lib.itoa (n : Int) := by rw [e, ← h3]; exact List.take_left
  have hd : text.drop 3 = (32 :: reasonR (n : Int)) ++ [13, 10] ++ r := by rw [e, ← h3]; exact List.drop_left
  rw [ht, hd, hn]
  refine ⟨hlb, by omega, by omega, List.isPrefixOf_iff_prefix.2 ⟨r, rfl⟩, rfl, ?_⟩
  simp [lineT, statusT, h3]
theorem stat_no {text : U} (h : lengthB (text.take 3) = true ∧ 100 ≤ numR (text.take 3) ∧ numR (text.take 3) ≤ 599 ∧ ((32 :: reasonR (numR (text.take 3))) ++ [13, 10]).isPrefixOf (text.drop 3) = true) :
    statusB (atoiV (text.takeWhile digB)) = true ∧ (lineT (atoiV (text.takeWhile digB))).isPrefixOf text = true := by
  obtain ⟨h1, h2, h3, h4⟩ := h
  obtain ⟨r, hr⟩ := List.isPrefixOf_iff_prefix.1 h4
  have hl3 : (text.take 3).length = 3 := by
    rw [List.length_take]
    have := congrArg List.length hr
    simp at this
    omega
  have hall : (text.take 3).all digB = true := by
    unfold lengthB at h1
    simp only [Bool.and_eq_true] at h1
    exact h1.2
  obtain ⟨a, b, c, a9, b9, c9, el, en⟩ := three_of hl3 hall
  have e : text = text.take 3 ++ text.drop 3 := (List.take_append_drop 3 text).symm
  have htw : text.takeWhile digB = text.take 3 := by
    conv => lhs; rw [e]
    rw [← hr]
    rw [List.takeWhile_append_of_pos (by simpa using hall)]
    rw [show ((32 :: reasonR (numR (text.take 3)) ++ [13, 10]) ++ r : U) = 32 :: (reasonR (numR (text.take 3)) ++ [13, 10] ++ r) by simp]
    rw [List.takeWhile_cons, show digB 32 = false from rfl]
    simp
  rw [htw, atoiV_digits h1]
  refine ⟨by simp [statusB]; omega, ?_⟩
  have hit : Lib.itoa ((numR (text.take 3) : Nat) : Int) = text.take 3 := by
    rw [en, itoa_abc a b c (by omega) a9 b9 c9, el]
  refine List.isPrefixOf_iff_prefix.2 ⟨r, ?_⟩
  conv => rhs; rw [e]
  rw [← hr]
  unfold lineT statusT
  rw [hit]
  simp
theorem atoiV_bounds (l : U) : -9223372036854775808 ≤ atoiV l ∧ atoiV l ≤ 9223372036854775807 := by
  unfold atoiV
  cases h : Lib.atoiAll l with
  | ok v => exact Lib.atoiAll_bounds h
  | «syntax» => exact ⟨by show _ ≤ (0 : Int); decide, by show (0 : Int) ≤ _; decide⟩
  | range => exact Lib.atoiSat_bounds l
def statV : Except (Nat × Nat) (Nat × Nat) → Value
  | .error (e, p) => .tuple #[.int .i64 0, .int .i64 (e : Int), .int .i64 (p : Int)]
  | .ok (n, k) => .tuple #[.int .i64 (n : Int), .int .i64 0, .int .i64 (k : Int)]
theorem statR_eq (raw : U) : statLineR raw = if ver9.isPrefixOf raw = true then
    (if statusB (atoiV ((raw.drop 9).takeWhile digB)) = true ∧ (lineT (atoiV ((raw.drop 9).takeWhile digB))).isPrefixOf (raw.drop 9) = true then .ok ((atoiV ((raw.drop 9).takeWhile digB)).toNat, 9 + (lineT (atoiV ((raw.drop 9).takeWhile digB))).length) else .error (156, 9)) else .error (152, 0) := by
  unfold statLineR
  by_cases h0 : ver9.isPrefixOf raw = true
  · rw [if_pos h0, if_pos h0]
    have hdd : raw.drop 12 = (raw.drop 9).drop 3 := by rw [List.drop_drop]
    rw [hdd]
    by_cases h1 : lengthB ((raw.drop 9).take 3) = true ∧ 100 ≤ numR ((raw.drop 9).take 3) ∧ numR ((raw.drop 9).take 3) ≤ 599 ∧ ((32 :: reasonR (numR ((raw.drop 9).take 3))) ++ [13, 10]).isPrefixOf ((raw.drop 9).drop 3) = true
    · have h2 := stat_no h1
      rw [if_pos h1, if_pos h2]
      obtain ⟨_, _, _, _, h3, h4⟩ := stat_yes rfl h2.1 h2.2
      rw [h4, h3]
      simp only [Int.toNat_natCast]
      congr 2
      omega
    · rw [if_neg h1, if_neg]
      intro h2
      obtain ⟨a1, a2, a3, a4, _, _⟩ := stat_yes rfl h2.1 h2.2
      exact h1 ⟨a1, a2, a3, a4⟩
  · rw [if_neg h0, if_neg h0]
theorem statusT_len (n : Int) (h0 : -9223372036854775808 ≤ n) (h1 : n ≤ 9223372036854775807) : (statusT n).length ≤ 44 := by
  unfold statusT
  have := itoa_len n h0 h1
  have := reason_len n
  simp
  omega
set_option maxHeartbeats 2000000 in
set_option maxRecDepth 100000 in
theorem readStatusLine_any (raw : U) (w : World) (hl : raw.length ≤ 32768) (E : Env w) :
    Calls Tryz.prog 45 #[.string (str raw)] w fun e w' => e = .returned (statV (statLineR raw)) ∧ Below w.heap.size w w' := by
  rw [statR_eq]
  have HP := hide (cutPrefix_any raw ver9 w)
  obtain ⟨tx, htx⟩ : ∃ tx, tx = raw.drop 9 := ⟨_, rfl⟩
  rw [← htx]
  obtain ⟨v, hv⟩ : ∃ v, v = atoiV (tx.takeWhile digB) := ⟨_, rfl⟩
  have hvb := atoiV_bounds (tx.takeWhile digB)
  rw [← hv] at hvb ⊢
  have ev : str ver9 = (⟨#[72, 84, 84, 80, 47, 49, 46, 49, 32]⟩ : ByteArray) := rfl
  rw [ev] at HP
  have hzr := str_size raw
  have HE := hide E
  by_cases h0 : ver9.isPrefixOf raw = true
  · rw [if_pos h0]
    obtain ⟨R, hR⟩ : ∃ R, R = (if statusB v = true ∧ (lineT v).isPrefixOf tx = true then Except.ok (v.toNat, 9 + (lineT v).length) else (.error (156, 9) : Except (Nat × Nat) (Nat × Nat))) := ⟨_, rfl⟩
    rw [← hR]
    have HNV : Hid (statusB v = true → ((v.toNat : Nat) : Int) = v) := by
      intro h
      simp only [statusB, Bool.and_eq_true, decide_eq_true_eq] at h
      omega
    have HR := hide hR
    clear hR
    have hp9 : Lib.trimPrefix raw ver9 = tx := by
      unfold Lib.trimPrefix Lib.hasPrefix
      rw [if_pos h0, htx]
      rfl
    rw [hp9, h0] at HP
    have hrl : 9 ≤ raw.length := prefix_lenH h0
    have hzt := str_size tx
    have htl : tx.length = raw.length - 9 := by rw [htx, List.length_drop]
    have hrn := run_le digB tx
    obtain ⟨k, hk⟩ : ∃ k, k = (tx.takeWhile digB).length := ⟨_, rfl⟩
    rw [← hk] at hrn
    have hsl := cut_to tx k (k : Int) rfl hrn
    rw [hk, take_run, ← hk] at hsl
    have HRN := hide (fun vv W hm => run_any tx vv digB W (by omega) hm)
    rw [← hk] at HRN
    have HAT := hide (fun W EE => atoi_any (tx.takeWhile digB) W (by omega) EE)
    rw [← hv] at HAT
    have HST := hide (fun W EE => statusText_any v W hvb.1 hvb.2 EE)
    have HIS := hide (fun W => isStatus_any v W)
    have hap := str_app (statusT v) [13, 10]
    have e13 : str [13, 10] = (⟨#[13, 10]⟩ : ByteArray) := rfl
    rw [e13] at hap
    have hzs := str_size (statusT v)
    have hsl2 := statusT_len v hvb.1 hvb.2
    have HHP := hide (fun W => hasPrefix_any tx (lineT v) W)
    have hlt : (lineT v).length = (statusT v).length + 2 := by simp [lineT]
    have hzl := str_size (lineT v)
    have ell : str (statusT v ++ [13, 10]) = str (lineT v) := rfl
    rw [ell] at hap
    obtain ⟨kl, hkl⟩ : ∃ kl, kl = (lineT v).length := ⟨_, rfl⟩
    rw [← hkl] at hzl hlt HR
    obtain ⟨ks, hks⟩ : ∃ ks, ks = (statusT v).length := ⟨_, rfl⟩
    rw [← hks] at hzs hsl2 hlt
    generalize (lineT v).isPrefixOf tx = pb at *
    generalize statusB v = sb at *
    generalize str (lineT v) = sl at *
    generalize str (statusT v) = ss at *
    generalize str (tx.takeWhile digB) = sd at *
    generalize str tx = st at *
    generalize str raw = s at *
    obtain ⟨N, hN⟩ : ∃ N, N = raw.length := ⟨_, rfl⟩
    rw [← hN] at hzr hrl htl hl
    rw [htl] at hzt
    have hsub : (N : Int) - ((N - 9 : Nat) : Int) = 9 := by omega
    have hkb : kl ≤ 46 := by omega
    clear hlt
    clear htx hv ev h0 hp9 hk e13 ell hkl hks hN E htl
    generalize N - 9 = M at *
    go_enter Tryz.func45, Tryz.ntmps45
    go_wp2_with fail
    refine HP.out.mono ?_
    rintro e w1 ⟨rfl, h1⟩
    have h2 := h1.symm
    subst h2
    clear h1 HP
    have hw9 : IntKind.i64.wrap ((N : Int) - (M : Int)) = 9 := by rw [hsub]; rfl
    go_wp2_with fail
    refine (digit_any w).mono ?_
    rintro e w2 ⟨vd, rfl, hm2, hb2⟩
    have HB2 := hide hb2
    have HQ2 := hide (HRN.out vd w2 hm2)
    clear hm2 hb2 HRN
    go_wp2_with fail
    refine HQ2.out.mono ?_
    rintro e w3 ⟨rfl, h3⟩
    have h4 := h3.symm
    subst h4
    clear h3 HQ2
    have HQ3 := hide (HAT.out w2 (HE.out.keep HB2.out))
    clear HAT
    go_wp2_with fail
    refine HQ3.out.mono ?_
    rintro e w4 ⟨ev, rfl, hb4⟩
    have HB4 := hide (HB2.out.trans (hb4.mono HB2.out.size))
    have HQ4 := hide (HST.out w4 (HE.out.keep HB4.out))
    clear hb4 HQ3 HB2 HST
    go_wp2_with fail
    refine HQ4.out.mono ?_
    rintro e w5 ⟨rfl, hb5⟩
    have HB5 := hide (HB4.out.trans (hb5.mono HB4.out.size))
    clear hb5 HQ4 HB4
    go_wp2_with fail
    refine (HIS.out w5).mono ?_
    rintro e w6 ⟨rfl, h6⟩
    have h7 := h6.symm
    subst h7
    clear h6 HIS
    cases sb with
    | false =>
      have HQ : Hid (R = .error (156, 9)) := by show _ = _; rw [HR.out]; simp
      clear HR
      go_wp2
      refine bodyPost_ret (v := statV (.error (156, 9))) (by simp [results, Tryz.results45, go_sem, statV]) rfl ?_
      exact ⟨by rw [HQ.out], HB5.out⟩
    | true =>
      go_wp2_with fail
      refine (HHP.out w5).mono ?_
      rintro e w6 ⟨rfl, h6⟩
      have h7 := h6.symm
      subst h7
      clear h6 HHP
      cases pb with
      | false =>
        have HQ : Hid (R = .error (156, 9)) := by show _ = _; rw [HR.out]; simp
        clear HR
        go_wp2
        refine bodyPost_ret (v := statV (.error (156, 9))) (by simp [results, Tryz.results45, go_sem, statV]) rfl ?_
        exact ⟨by rw [HQ.out], HB5.out⟩
      | true =>
        have HQ : Hid (R = .ok (v.toNat, 9 + kl)) := by show _ = _; rw [HR.out]; simp
        clear HR
        go_wp2
        refine bodyPost_ret (v := .tuple #[.int .i64 v, .int .i64 0, .int .i64 (9 + (kl : Int))]) (by simp [results, Tryz.results45, go_sem]) rfl ?_
        refine ⟨?_, HB5.out⟩
        rw [HQ.out]
        have : ((v.toNat : Nat) : Int) = v := by first | exact HNV.out rfl | exact HNV.out trivial
        simp [statV, this]
  · rw [if_neg h0]
    have h0f : ver9.isPrefixOf raw = false := Bool.eq_false_iff.2 h0
    rw [h0f] at HP
    generalize str (Lib.trimPrefix raw ver9) = sx at *
    generalize str raw = s at *
    clear h0 h0f ev htx hv hvb
    go_enter Tryz.func45, Tryz.ntmps45
    go_wp2_with fail
    refine HP.out.mono ?_
    rintro e w1 ⟨rfl, h1⟩
    have h2 := h1.symm
    subst h2
    clear h1 HP
    go_wp2
    refine bodyPost_ret (v := statV (.error (152, 0))) (by simp [results, Tryz.results45, go_sem, statV]) rfl ?_
    exact ⟨rfl, Below.refl _ _⟩
end Go.Proofs.YtaenccjlokiejaaGreatDoor
