/- The document's Normal. -/
import Derived.Test.YtonnnolnkjahgaaDoorCRefA
namespace Go.Proofs.YtonnnolnkjahgaaDoor
open Go.RowKit Go.Shelf

theorem mark_cap {c : Nat} (h : isMark c = true) : capN c = c ∧ isLet c = false := by
  unfold isMark at h
  rw [List.contains_iff_mem] at h
  have : ∀ x ∈ marks5, capN x = x ∧ isLet x = false := by decide
  exact this c h
theorem isMark_eq (c : Nat) : isMark c = (decide ((c : Int) = 32) || decide ((c : Int) = 45) || decide ((c : Int) = 95) || decide ((c : Int) = 46) || decide ((c : Int) = 47)) := by
  unfold isMark marks5
  rw [Bool.eq_iff_iff]
  simp
  omega
theorem mark_cap2 (c : Nat) : isMark (capN c) = isMark c := by
  rw [isMark_eq, isMark_eq, Bool.eq_iff_iff]
  unfold capN
  split
  · simp
    omega
  · rfl
/-- A byte that is no mark and no letter: there is no code. -/
theorem code_bad {l : List Nat} {k : Nat} (hk : k < l.length) (hm : isMark (l.getD k 0) = false) (hb : isLet (capN (l.getD k 0)) = false) : isCode (keepT l) = false := by
  apply isCode_not
  rw [← Bool.not_eq_true, List.all_eq_true]
  intro ha
  have hmem : capN (l.getD k 0) ∈ keepT l := List.mem_map.2 ⟨_, List.mem_filter.2 ⟨by simp [List.getD, hk], by rw [hm]; rfl⟩, rfl⟩
  have := ha _ hmem
  rw [hb] at this
  cases this
theorem conv_one (n : Nat) (W : World) : (convert 25 9 (.slice (some ⟨W.heap.size, 0, none⟩) 1 1)).run Tryd.prog (W.alloc (.cells #[.int .u8 (n : Int)] 5)) = .ok (.string (bstr [n])) (W.alloc (.cells #[.int .u8 (n : Int)] 5)) := conv_row 1 (row_one W n)
set_option maxHeartbeats 1000000 in
set_option maxRecDepth 100000 in
theorem rnormal_any (s : ByteArray) (w : World) :
    Calls Tryd.prog 16 #[.string s] w fun e w' => e = .returned (.tuple #[.string (bstr (normT (sbytes s))), .int .i64 ((normE (sbytes s) : Nat) : Int)]) ∧ Below w.heap.size w w' := by
  have hsl := sbytes_length s
  by_cases h64 : 64 < s.size
  · have h64' : (64 : Int) < (s.size : Int) := by omega
    rw [show normT (sbytes s) = [] by unfold normT; rw [hsl, if_pos h64], show normE (sbytes s) = 1 by unfold normE; rw [hsl, if_pos h64], bstr_nil]
    clear hsl h64
    go_enter Tryd.func16, Tryd.ntmps16
    go_wp2
    go_ret2
    exact ⟨rfl, Below.refl _ _⟩
  · have h64' : ¬ (64 : Int) < (s.size : Int) := by omega
    have HXS := hide (sbytes_lt s)
    have hix := str_index s
    have HKL : Hid (∀ k, (keepT ((sbytes s).take k)).length ≤ 64) := hide fun k => by
      have h1 := keepT_length ((sbytes s).take k)
      rw [List.length_take] at h1
      omega
    have HNT : Hid (normT (sbytes s) = if isCode (keepT (sbytes s)) then keepT (sbytes s) else []) := hide (by unfold normT; rw [hsl, if_neg h64])
    have HNE : Hid (normE (sbytes s) = if isCode (keepT (sbytes s)) then 0 else 91) := hide (by unfold normE; rw [hsl, if_neg h64])
    have HTK : Hid ((sbytes s).take s.size = sbytes s) := hide (by rw [← hsl, List.take_length])
    have HST : Hid (∀ k, k < s.size → keepT ((sbytes s).take (k + 1)) = if isMark ((sbytes s).getD k 0) then keepT ((sbytes s).take k) else keepT ((sbytes s).take k) ++ [capN ((sbytes s).getD k 0)]) := hide fun k hk => by rw [take_getD (by rw [hsl]; exact hk), keepT_snoc]
    have HBD : Hid (∀ k, k < s.size → isMark ((sbytes s).getD k 0) = false → isLet (capN ((sbytes s).getD k 0)) = false → isCode (keepT (sbytes s)) = false) := hide fun k hk hm hb => code_bad (by rw [hsl]; exact hk) hm hb
    generalize normT (sbytes s) = NT at *
    generalize normE (sbytes s) = NE at *
    have HN64 : Hid (s.size ≤ 64) := hide (by omega)
    have HRL := hide rletter_any
    generalize sbytes s = l at *
    generalize hn : s.size = n at *
    clear hsl h64
    go_enter Tryd.func16, Tryd.ntmps16
    go_wp2_with fail
    go_loopw [4, 5] (fun v a wr => ∃ (k : Nat) (S : ByteArray), k ≤ n ∧ a = .int .i64 k ∧ v = .string S ∧ Hid (S = bstr (keepT (l.take k))) ∧ Hid ((keepT (l.take k)).all isLet = true) ∧ Hid (Below w.heap.size w wr)) (fun _ a _ => n - (intOf a).toNat)
    case atStart => exact ⟨0, _, Nat.zero_le _, rfl, rfl, hide rfl, hide rfl, hide (Below.refl _ _)⟩
    case round =>
      obtain ⟨k, S, hk, rfl, rfl, HS, HAL, HB⟩ := hrel
      by_cases hlt : k < n
      · have hlt' : (k : Int) < (n : Int) := by omega
        have hx := hix k hlt
        have HSTK := hide (HST.out k hlt)
        have HLT := hide hlt
        have HKK := hide (HKL.out k)
        have hwri : IntKind.i64.wrap ((k : Int) + 1) = ((k + 1 : Nat) : Int) := by have := HN64.out; rw [IntKind.wrap_i64]; omega
        have hxl : l.getD k 0 < 256 := lt_get HXS.out k
        have HBK := hide (HBD.out k hlt)
        have HMC := hide (mark_cap2 (l.getD k 0))
        have HMQ := hide (isMark_eq (capN (l.getD k 0)))
        have HML := hide (@mark_cap (l.getD k 0))
        have HLC := hide (HRL.out (capN (l.getD k 0)) wr)
        have HCP : Hid (((97 ≤ l.getD k 0 ∧ l.getD k 0 ≤ 122) ∧ ((l.getD k 0 : Nat) : Int) - 97 + 65 = ((capN (l.getD k 0) : Nat) : Int)) ∨ (¬ (97 ≤ l.getD k 0 ∧ l.getD k 0 ≤ 122) ∧ capN (l.getD k 0) = l.getD k 0)) := hide (by
          by_cases h : 97 ≤ l.getD k 0 ∧ l.getD k 0 ≤ 122
          · exact .inl ⟨h, by unfold capN; rw [if_pos h]; omega⟩
          · exact .inr ⟨h, by unfold capN; rw [if_neg h]⟩)
        generalize keepT (l.take k) = kt at *
        generalize l.getD k 0 = c at *
        generalize capN c = d at *
        clear hix hk hlt
        obtain ⟨F, hF⟩ : ∃ F, F = decide (97 ≤ c ∧ c ≤ 122) := ⟨_, rfl⟩
        have HFF := hide hF
        clear hF
        go_upto_region 8 with fail
        go_cut [24] (fun a wx => a = .bool F ∧ wx = wr)
        case first =>
          by_cases h1 : 97 ≤ c
          · have h1' : (97 : Int) ≤ (c : Int) := by omega
            by_cases h2 : c ≤ 122
            · have h2' : (c : Int) ≤ 122 := by omega
              have e : F = true := by rw [HFF.out]; exact decide_eq_true ⟨h1, h2⟩
              clear h1 h2
              go_wp2
              go_meet
              case rel => exact ⟨by rw [e], by first | exact rfl | trivial⟩
            · have h2' : ¬ (c : Int) ≤ 122 := by omega
              have e : F = false := by rw [HFF.out]; exact decide_eq_false (fun h => h2 h.2)
              clear h1 h2
              go_wp2
              go_meet
              case rel => exact ⟨by rw [e], by first | exact rfl | trivial⟩
          · have h1' : ¬ (97 : Int) ≤ (c : Int) := by omega
            have e : F = false := by rw [HFF.out]; exact decide_eq_false (fun h => h1 h.1)
            clear h1
            go_wp2
            go_meet
            case rel => exact ⟨by rw [e], by first | exact rfl | trivial⟩
        case rest =>
          obtain ⟨rfl, hwc⟩ := hcut
          have hwd := hwc.symm
          subst hwd
          clear hwc
          have hsub : F = true → IntKind.u8.wrap ((c : Int) - 97) = (c : Int) - 97 ∧ IntKind.u8.wrap ((c : Int) - 97 + 65) = (d : Int) ∧ (c : Int) - 97 + 65 = (d : Int) := fun h => by
            rw [HFF.out] at h
            have h4 := of_decide_eq_true h
            rcases HCP.out with ⟨_, h3⟩ | ⟨h3, _⟩
            · exact ⟨by rw [IntKind.wrap_u8]; omega, by rw [h3, IntKind.wrap_u8]; omega, h3⟩
            · exact absurd h4 h3
          have hsame : F = false → d = c := fun h => by
            rw [HFF.out] at h
            rcases HCP.out with ⟨h3, _⟩ | ⟨_, h3⟩
            · exact absurd h3 (of_decide_eq_false h)
            · exact h3
          cases F with
          | true =>
            obtain ⟨e1, e2, e3⟩ := hsub rfl
            clear hsub hsame
            cases hl : isLet d with
            | true =>
              have hmf : isMark c = false := by
                cases hm : isMark c with
                | false => rfl
                | true =>
                  obtain ⟨h1, h2⟩ := HML.out hm
                  rw [h1] at hl
                  rw [hl] at h2
                  cases h2
              rw [hmf] at HSTK
              rw [hl] at HLC
              have HALL : Hid ((kt ++ [d]).all isLet = true) := hide (by rw [List.all_append, HAL.out]; simp [hl])
              have hcv := conv_one d
              obtain ⟨S2, hS2⟩ : ∃ S2, S2 = bstr (kt ++ [d]) := ⟨_, rfl⟩
              have hadd : ∀ w, (Op.stringOp .add S (bstr [d])).run Tryd.prog w = .ok (.string S2) w := by rw [HS.out, hS2]; exact add_str (by have := HKK.out; simp; omega)
              have HS2 := hide hS2
              generalize bstr [d] = SD at *
              clear hl hmf hS2
              go_wp2_with (first
                | (go_at_call 39; refine HLC.out.mono ?_; rintro e wx ⟨rfl, hwx⟩; have hwy := hwx.symm; subst hwy; clear hwx))
              go_roundw
              case rel => exact ⟨k + 1, S2, HLT.out, by first | rfl | simp, by first | exact rfl | trivial, by rw [HSTK.out]; exact HS2, by rw [HSTK.out]; exact HALL, hide (HB.out.trans ((below_new _ _).mono HB.out.size))⟩
              case measure => have := HLT.out; simp [intOf]; omega
            | false =>
              rw [hl] at HLC
              cases hm : isMark c with
              | true =>
                rw [hm] at HMC HSTK
                have HMT := hide (HMQ.out.symm.trans HMC.out)
                clear hm hl
                rcases (show (d : Int) = 32 ∨ (d : Int) = 45 ∨ (d : Int) = 95 ∨ (d : Int) = 46 ∨ (d : Int) = 47 by have := HMT.out; simp at this; omega) with hd | hd | hd | hd | hd
                · have f32 : ((d : Int) == 32) = true := by simp; omega
                  clear hd
                  go_wp2_with (first
                    | (go_at_call 39; refine HLC.out.mono ?_; rintro e wx ⟨rfl, hwx⟩; have hwy := hwx.symm; subst hwy; clear hwx))
                  go_roundw
                  case rel => exact ⟨k + 1, S, HLT.out, by first | rfl | simp, by first | exact rfl | trivial, by rw [HSTK.out]; exact HS, by rw [HSTK.out]; exact HAL, HB⟩
                  case measure => have := HLT.out; simp [intOf]; omega
                · have f32 : ((d : Int) == 32) = false := by simp; omega
                  have f45 : ((d : Int) == 45) = true := by simp; omega
                  clear hd
                  go_wp2_with (first
                    | (go_at_call 39; refine HLC.out.mono ?_; rintro e wx ⟨rfl, hwx⟩; have hwy := hwx.symm; subst hwy; clear hwx))
                  go_roundw
                  case rel => exact ⟨k + 1, S, HLT.out, by first | rfl | simp, by first | exact rfl | trivial, by rw [HSTK.out]; exact HS, by rw [HSTK.out]; exact HAL, HB⟩
                  case measure => have := HLT.out; simp [intOf]; omega
                · have f32 : ((d : Int) == 32) = false := by simp; omega
                  have f45 : ((d : Int) == 45) = false := by simp; omega
                  have f95 : ((d : Int) == 95) = true := by simp; omega
                  clear hd
                  go_wp2_with (first
                    | (go_at_call 39; refine HLC.out.mono ?_; rintro e wx ⟨rfl, hwx⟩; have hwy := hwx.symm; subst hwy; clear hwx))
                  go_roundw
                  case rel => exact ⟨k + 1, S, HLT.out, by first | rfl | simp, by first | exact rfl | trivial, by rw [HSTK.out]; exact HS, by rw [HSTK.out]; exact HAL, HB⟩
                  case measure => have := HLT.out; simp [intOf]; omega
                · have f32 : ((d : Int) == 32) = false := by simp; omega
                  have f45 : ((d : Int) == 45) = false := by simp; omega
                  have f95 : ((d : Int) == 95) = false := by simp; omega
                  have f46 : ((d : Int) == 46) = true := by simp; omega
                  clear hd
                  go_wp2_with (first
                    | (go_at_call 39; refine HLC.out.mono ?_; rintro e wx ⟨rfl, hwx⟩; have hwy := hwx.symm; subst hwy; clear hwx))
                  go_roundw
                  case rel => exact ⟨k + 1, S, HLT.out, by first | rfl | simp, by first | exact rfl | trivial, by rw [HSTK.out]; exact HS, by rw [HSTK.out]; exact HAL, HB⟩
                  case measure => have := HLT.out; simp [intOf]; omega
                · have f32 : ((d : Int) == 32) = false := by simp; omega
                  have f45 : ((d : Int) == 45) = false := by simp; omega
                  have f95 : ((d : Int) == 95) = false := by simp; omega
                  have f46 : ((d : Int) == 46) = false := by simp; omega
                  have f47 : ((d : Int) == 47) = true := by simp; omega
                  clear hd
                  go_wp2_with (first
                    | (go_at_call 39; refine HLC.out.mono ?_; rintro e wx ⟨rfl, hwx⟩; have hwy := hwx.symm; subst hwy; clear hwx))
                  go_roundw
                  case rel => exact ⟨k + 1, S, HLT.out, by first | rfl | simp, by first | exact rfl | trivial, by rw [HSTK.out]; exact HS, by rw [HSTK.out]; exact HAL, HB⟩
                  case measure => have := HLT.out; simp [intOf]; omega
              | false =>
                rw [hm] at HMC
                have HMT := hide (HMQ.out.symm.trans HMC.out)
                have hNC := HBK.out hm hl
                have hq : ¬ ((d : Int) = 32 ∨ (d : Int) = 45 ∨ (d : Int) = 95 ∨ (d : Int) = 46 ∨ (d : Int) = 47) := by have := HMT.out; simp at this; omega
                have f32 : ((d : Int) == 32) = false := by simp; omega
                have f45 : ((d : Int) == 45) = false := by simp; omega
                have f95 : ((d : Int) == 95) = false := by simp; omega
                have f46 : ((d : Int) == 46) = false := by simp; omega
                have f47 : ((d : Int) == 47) = false := by simp; omega
                rw [hNC] at HNT HNE
                clear hm hl hq hNC
                go_wp2_with (first
                  | (go_at_call 39; refine HLC.out.mono ?_; rintro e wx ⟨rfl, hwx⟩; have hwy := hwx.symm; subst hwy; clear hwx))
                go_ret2
                exact ⟨by rw [HNT.out, HNE.out]; rfl, HB.out⟩
          | false =>
            have hdc := hsame rfl
            clear hsub hsame
            obtain rfl := hdc
            cases hl : isLet d with
            | true =>
              have hmf : isMark d = false := by
                cases hm : isMark d with
                | false => rfl
                | true =>
                  obtain ⟨h1, h2⟩ := HML.out hm
                  rw [h1] at hl
                  rw [hl] at h2
                  cases h2
              rw [hmf] at HSTK
              rw [hl] at HLC
              have HALL : Hid ((kt ++ [d]).all isLet = true) := hide (by rw [List.all_append, HAL.out]; simp [hl])
              have hcv := conv_one d
              obtain ⟨S2, hS2⟩ : ∃ S2, S2 = bstr (kt ++ [d]) := ⟨_, rfl⟩
              have hadd : ∀ w, (Op.stringOp .add S (bstr [d])).run Tryd.prog w = .ok (.string S2) w := by rw [HS.out, hS2]; exact add_str (by have := HKK.out; simp; omega)
              have HS2 := hide hS2
              generalize bstr [d] = SD at *
              clear hl hmf hS2
              go_wp2_with (first
                | (go_at_call 39; refine HLC.out.mono ?_; rintro e wx ⟨rfl, hwx⟩; have hwy := hwx.symm; subst hwy; clear hwx))
              go_roundw
              case rel => exact ⟨k + 1, S2, HLT.out, by first | rfl | simp, by first | exact rfl | trivial, by rw [HSTK.out]; exact HS2, by rw [HSTK.out]; exact HALL, hide (HB.out.trans ((below_new _ _).mono HB.out.size))⟩
              case measure => have := HLT.out; simp [intOf]; omega
            | false =>
              rw [hl] at HLC
              cases hm : isMark d with
              | true =>
                rw [hm] at HSTK
                have HMT := hide (HMQ.out.symm.trans hm)
                clear hm hl
                rcases (show (d : Int) = 32 ∨ (d : Int) = 45 ∨ (d : Int) = 95 ∨ (d : Int) = 46 ∨ (d : Int) = 47 by have := HMT.out; simp at this; omega) with hd | hd | hd | hd | hd
                · have f32 : ((d : Int) == 32) = true := by simp; omega
                  clear hd
                  go_wp2_with (first
                    | (go_at_call 39; refine HLC.out.mono ?_; rintro e wx ⟨rfl, hwx⟩; have hwy := hwx.symm; subst hwy; clear hwx))
                  go_roundw
                  case rel => exact ⟨k + 1, S, HLT.out, by first | rfl | simp, by first | exact rfl | trivial, by rw [HSTK.out]; exact HS, by rw [HSTK.out]; exact HAL, HB⟩
                  case measure => have := HLT.out; simp [intOf]; omega
                · have f32 : ((d : Int) == 32) = false := by simp; omega
                  have f45 : ((d : Int) == 45) = true := by simp; omega
                  clear hd
                  go_wp2_with (first
                    | (go_at_call 39; refine HLC.out.mono ?_; rintro e wx ⟨rfl, hwx⟩; have hwy := hwx.symm; subst hwy; clear hwx))
                  go_roundw
                  case rel => exact ⟨k + 1, S, HLT.out, by first | rfl | simp, by first | exact rfl | trivial, by rw [HSTK.out]; exact HS, by rw [HSTK.out]; exact HAL, HB⟩
                  case measure => have := HLT.out; simp [intOf]; omega
                · have f32 : ((d : Int) == 32) = false := by simp; omega
                  have f45 : ((d : Int) == 45) = false := by simp; omega
                  have f95 : ((d : Int) == 95) = true := by simp; omega
                  clear hd
                  go_wp2_with (first
                    | (go_at_call 39; refine HLC.out.mono ?_; rintro e wx ⟨rfl, hwx⟩; have hwy := hwx.symm; subst hwy; clear hwx))
                  go_roundw
                  case rel => exact ⟨k + 1, S, HLT.out, by first | rfl | simp, by first | exact rfl | trivial, by rw [HSTK.out]; exact HS, by rw [HSTK.out]; exact HAL, HB⟩
                  case measure => have := HLT.out; simp [intOf]; omega
                · have f32 : ((d : Int) == 32) = false := by simp; omega
                  have f45 : ((d : Int) == 45) = false := by simp; omega
                  have f95 : ((d : Int) == 95) = false := by simp; omega
                  have f46 : ((d : Int) == 46) = true := by simp; omega
                  clear hd
                  go_wp2_with (first
                    | (go_at_call 39; refine HLC.out.mono ?_; rintro e wx ⟨rfl, hwx⟩; have hwy := hwx.symm; subst hwy; clear hwx))
                  go_roundw
                  case rel => exact ⟨k + 1, S, HLT.out, by first | rfl | simp, by first | exact rfl | trivial, by rw [HSTK.out]; exact HS, by rw [HSTK.out]; exact HAL, HB⟩
                  case measure => have := HLT.out; simp [intOf]; omega
                · have f32 : ((d : Int) == 32) = false := by simp; omega
                  have f45 : ((d : Int) == 45) = false := by simp; omega
                  have f95 : ((d : Int) == 95) = false := by simp; omega
                  have f46 : ((d : Int) == 46) = false := by simp; omega
                  have f47 : ((d : Int) == 47) = true := by simp; omega
                  clear hd
                  go_wp2_with (first
                    | (go_at_call 39; refine HLC.out.mono ?_; rintro e wx ⟨rfl, hwx⟩; have hwy := hwx.symm; subst hwy; clear hwx))
                  go_roundw
                  case rel => exact ⟨k + 1, S, HLT.out, by first | rfl | simp, by first | exact rfl | trivial, by rw [HSTK.out]; exact HS, by rw [HSTK.out]; exact HAL, HB⟩
                  case measure => have := HLT.out; simp [intOf]; omega
              | false =>
                have HMT := hide (HMQ.out.symm.trans hm)
                have hNC := HBK.out hm hl
                have hq : ¬ ((d : Int) = 32 ∨ (d : Int) = 45 ∨ (d : Int) = 95 ∨ (d : Int) = 46 ∨ (d : Int) = 47) := by have := HMT.out; simp at this; omega
                have f32 : ((d : Int) == 32) = false := by simp; omega
                have f45 : ((d : Int) == 45) = false := by simp; omega
                have f95 : ((d : Int) == 95) = false := by simp; omega
                have f46 : ((d : Int) == 46) = false := by simp; omega
                have f47 : ((d : Int) == 47) = false := by simp; omega
                rw [hNC] at HNT HNE
                clear hm hl hq hNC
                go_wp2_with (first
                  | (go_at_call 39; refine HLC.out.mono ?_; rintro e wx ⟨rfl, hwx⟩; have hwy := hwx.symm; subst hwy; clear hwx))
                go_ret2
                exact ⟨by rw [HNT.out, HNE.out]; rfl, HB.out⟩
      · have hlt' : ¬ (k : Int) < (n : Int) := by omega
        obtain rfl : k = n := by omega
        rw [HTK.out] at HS HAL
        have HCA := hide (isCode_all HAL.out)
        have HKZ := hide (HKL.out k)
        rw [HTK.out] at HKZ
        generalize keepT l = kt at *
        have hsz : (S.size : Int) = (kt.length : Int) := by rw [HS.out, bstr_size]
        clear hk hix hlt
        by_cases h8 : kt.length = 8
        · have h8' : ((S.size : Int) == 8) = true := by rw [hsz]; simp; omega
          have hc : isCode kt = true := by rw [HCA.out]; simp; omega
          have E1 : Hid (NT = kt) := hide (by rw [HNT.out, hc]; rfl)
          have E2 : Hid (NE = 0) := hide (by rw [HNE.out, hc]; rfl)
          clear hsz h8 hc
          go_wp2_with fail
          go_ret2
          exact ⟨by rw [E1.out, E2.out, ← HS.out]; rfl, HB.out⟩
        · have h8' : ((S.size : Int) == 8) = false := by rw [hsz]; simp; omega
          have hc : isCode kt = false := by rw [HCA.out]; simp; omega
          rw [hc] at HNT HNE
          clear hsz h8 hc
          go_wp2_with fail
          go_ret2
          exact ⟨by rw [HNT.out, HNE.out]; rfl, HB.out⟩
end Go.Proofs.YtonnnolnkjahgaaDoor
