/- The document's Basic: for every header. -/
import Derived.Test.YtmmcgfikmcppfaaGreatDoorLBasicP
import Derived.Test.YtmmcgfikmcppfaaGreatDoorLRDec
import Derived.Test.YtmmcgfikmcppfaaGreatDoorXUnR
import Derived.Lib.Space
namespace Go.Proofs.YtmmcgfikmcppfaaGreatDoor
open Go.RowKit

theorem str_to (s : ByteArray) (k : Nat) (i : Int) (hi : i = (k : Int)) (hk : k ≤ s.size) (w : World) : (Instr.slice 9 (.string s) none (some (.int .i64 i)) none).run Tryz.prog w = .ok (.string (bstr ((sbytes s).take k))) w := by
  subst hi
  rw [run_slice_string_h w 9 s Tryz.underlying9 .i64 (k : Int) (by omega) (by omega), extract_bstr, Int.toNat_natCast, List.drop_zero]
def lowR (c : Nat) : Nat := if 65 ≤ c ∧ c ≤ 90 then c + 32 else c
theorem low_all : ∀ (c : Fin 256) (j : Fin 5), ((c.val ||| 32) = schW.getD j.val 0) ↔ lowR c.val = schW.getD j.val 0 := by decide +kernel
theorem low_eq {c j : Nat} (hc : c < 256) (hj : j < 5) : ((c ||| 32) = schW.getD j 0) ↔ lowR c = schW.getD j 0 := low_all ⟨c, hc⟩ ⟨j, hj⟩
theorem low_blank : ∀ j : Fin 5, lowR 32 ≠ schW.getD j.val 0 := by decide
theorem get_take {l : List Nat} {k i : Nat} (hi : i < k) : (l.take k).getD i 0 = l.getD i 0 := by simp [List.getD, hi]
/-- The document's way to a header's scheme. -/
theorem bas_cond {h : List Nat} (hb : ∀ x ∈ h, x < 256) : (decide ((upTo 32 h).length < h.length) && isSch (upTo 32 h)) = true ↔ (6 ≤ h.length ∧ (∀ j, j < 5 → lowR (h.getD j 0) = schW.getD j 0) ∧ h.getD 5 0 = 32) := by
  have hc : ∀ i, h.getD i 0 < 256 := fun i => lt_get hb i
  constructor
  · intro hh
    rw [Bool.and_eq_true, decide_eq_true_eq] at hh
    obtain ⟨h1, h2⟩ := hh
    have h5 : (upTo 32 h).length = 5 := by
      apply Classical.byContradiction
      intro hn
      rw [isSch_len hn] at h2
      cases h2
    have he := upTo_end h1
    have ht := upTo_take 32 h
    rw [h5] at he ht
    refine ⟨by omega, fun j hj => ?_, he⟩
    apply Classical.byContradiction
    intro hn
    have : isSch (upTo 32 h) = false := isSch_no j hj (by rw [ht, get_take hj]; exact fun e => hn ((low_eq (hc j) hj).1 e))
    rw [this] at h2
    cases h2
  · rintro ⟨h6, h7, h8⟩
    have h5 : (upTo 32 h).length = 5 := upTo_len (by omega) (fun j hj e => by
      have := h7 j hj
      rw [e] at this
      exact low_blank ⟨j, hj⟩ this) (.inr h8)
    have ht := upTo_take 32 h
    rw [h5] at ht
    rw [Bool.and_eq_true, decide_eq_true_eq]
    refine ⟨by omega, isSch_yes h5 fun j hj => ?_⟩
    rw [ht, get_take hj]
    exact (low_eq (hc j) hj).2 (h7 j hj)
theorem bas_drop {h : List Nat} (h6 : 6 ≤ h.length) (h5 : (upTo 32 h).length = 5) (h8 : h.getD 5 0 = 32) : (h.drop ((upTo 32 h).length + 1)).dropWhile (· == 32) = (h.drop 5).dropWhile (· == 32) := by
  rw [h5]
  have e : h.drop 5 = h.getD 5 0 :: h.drop 6 := by
    rw [List.drop_eq_getElem_cons (show 5 < h.length by omega)]
    simp only [List.getD, List.getElem?_eq_getElem (show 5 < h.length by omega), Option.getD_some]
  rw [e, h8, List.dropWhile_cons]
  rfl
theorem bas_len {h : List Nat} (h6 : 6 ≤ h.length) (h7 : ∀ j, j < 5 → lowR (h.getD j 0) = schW.getD j 0) (h8 : h.getD 5 0 = 32) : (upTo 32 h).length = 5 :=
  upTo_len (by omega) (fun j hj e => by
    have := h7 j hj
    rw [e] at this
    exact low_blank ⟨j, hj⟩ this) (.inr h8)
theorem bas_skip {h : List Nat} {k : Nat} (h5 : 5 ≤ k) (hk : k ≤ h.length) (ha : ∀ j, 5 ≤ j → j < k → h.getD j 0 = 32) (he : k = h.length ∨ h.getD k 0 ≠ 32) : (h.drop 5).dropWhile (· == 32) = h.drop k := by
  rw [Lib.dropWhile_drop (· == 32) (h.drop 5) (k - 5), List.drop_drop, show 5 + (k - 5) = k by omega]
  · intro j b hj hjb
    rw [List.getElem?_drop] at hjb
    have := ha (5 + j) (by omega) (by omega)
    simp only [List.getD, hjb, Option.getD_some] at this
    simp [this]
  · intro b hb
    rw [List.getElem?_drop, show 5 + (k - 5) = k by omega] at hb
    rcases he with he | he
    · rw [List.getElem?_eq_none (by omega)] at hb; cases hb
    · simp only [List.getD, hb, Option.getD_some] at he
      simpa using he
  · rw [List.length_drop]; omega
set_option maxHeartbeats 4000000 in
set_option maxRecDepth 100000 in
theorem rbasic_any (s : ByteArray) (w : World) : Calls Tryz.prog 25 #[.string s] w fun e w' => e = .returned (basV (basT (sbytes s))) ∧ Below w.heap.size w w' := by
  obtain ⟨l, HL⟩ : ∃ l, Hid (l = sbytes s) := ⟨_, hide rfl⟩
  have HZ : Hid (l.length = s.size) := by show _ = _; rw [HL.out, sbytes_length]
  have HLT : Hid (∀ x ∈ l, x < 256) := by rw [HL.out]; exact sbytes_lt s
  obtain ⟨T, HT⟩ : ∃ T, Hid (T = basT l) := ⟨_, hide rfl⟩
  rw [← HL.out, ← HT.out]
  by_cases h1 : 1024 < s.size
  · have HTE : Hid (T = none) := by show _ = _; rw [HT.out]; unfold basT; rw [if_pos (by rw [HZ.out]; exact h1)]
    have h1i : (1024 : Int) < (s.size : Int) := by omega
    go_enter Tryz.func25, Tryz.ntmps25
    go_wp2
    go_ret3
    exact ⟨by rw [HTE.out]; rfl, Below.refl _ _⟩
  have h1i : ¬ (1024 : Int) < (s.size : Int) := by omega
  have HTC : Hid (¬ (6 ≤ l.length ∧ (∀ j, j < 5 → lowR (l.getD j 0) = schW.getD j 0) ∧ l.getD 5 0 = 32) → T = none) := by
    intro hn
    rw [HT.out]
    unfold basT
    rw [if_neg (by rw [HZ.out]; exact h1), if_neg]
    intro hc
    exact hn ((bas_cond HLT.out).1 hc)
  have HTY : Hid ((6 ≤ l.length ∧ (∀ j, j < 5 → lowR (l.getD j 0) = schW.getD j 0) ∧ l.getD 5 0 = 32) → T = (decT ((l.drop 5).dropWhile (· == 32))).bind nameT) := by
    intro hn
    rw [HT.out]
    unfold basT
    rw [if_neg (by rw [HZ.out]; exact h1), if_pos ((bas_cond HLT.out).2 hn), bas_drop hn.1 (bas_len hn.1 hn.2.1 hn.2.2) hn.2.2]
  have hsz : s.size ≤ 1024 := by omega
  clear h1
  by_cases h6 : s.size < 6
  · have HTE := hide (HTC.out (fun h => by have := HZ.out; omega))
    have h6i : (s.size : Int) < 6 := by omega
    go_enter Tryz.func25, Tryz.ntmps25
    go_wp2
    go_ret3
    exact ⟨by rw [HTE.out]; rfl, Below.refl _ _⟩
  have h6i : ¬ (s.size : Int) < 6 := by omega
  go_enter Tryz.func25, Tryz.ntmps25
  go_wp2
  go_loopw [6] (fun i wr => ∃ k : Nat, k ≤ 5 ∧ i = .int .i64 (k : Int) ∧ Hid (∀ j, j < k → lowR (l.getD j 0) = schW.getD j 0) ∧ wr = w) (fun i _ => 5 - (intOf i).toNat)
  case atStart => exact ⟨0, by omega, rfl, fun j hj => by omega, rfl⟩
  case round =>
    obtain ⟨k, hk, rfl, HA, hwr⟩ := hrel
    have hwr2 := hwr.symm
    subst hwr2
    clear hwr
    by_cases hlt : k < 5
    · have hix := str_index s k (by omega)
      have hiw := str_index { data := #[98, 97, 115, 105, 99] } k (by show k < 5; exact hlt)
      rw [← HL.out] at hix
      rw [show sbytes { data := #[98, 97, 115, 105, 99] } = schW from rfl] at hiw
      have hc : l.getD k 0 < 256 := lt_get HLT.out k
      have hki : (k : Int) < 5 := by omega
      have HST : Hid (lowR (l.getD k 0) = schW.getD k 0 → ∀ j, j < k + 1 → lowR (l.getD j 0) = schW.getD j 0) := by
        intro he j hj
        by_cases hjk : j < k
        · exact HA.out j hjk
        · obtain rfl : j = k := by omega
          exact he
      have HNO : Hid (lowR (l.getD k 0) ≠ schW.getD k 0 → T = none) := fun hn => HTC.out (fun h => hn (h.2.1 k hlt))
      have HLO : Hid (lowR (l.getD k 0) = if 65 ≤ l.getD k 0 ∧ l.getD k 0 ≤ 90 then l.getD k 0 + 32 else l.getD k 0) := rfl
      generalize lowR (l.getD k 0) = d at *
      generalize schW.getD k 0 = x at *
      generalize l.getD k 0 = c at *
      obtain ⟨F, hF⟩ : ∃ F, F = decide (65 ≤ c ∧ c ≤ 90) := ⟨_, rfl⟩
      have HFF := hide hF
      clear hF
      go_upto_region 8 with fail
      go_cut [38] (fun a wx => a = .bool F ∧ wx = w)
      case first =>
        by_cases g1 : 65 ≤ c
        · have g1' : (65 : Int) ≤ (c : Int) := by omega
          by_cases g2 : c ≤ 90
          · have g2' : (c : Int) ≤ 90 := by omega
            have e : F = true := by rw [HFF.out]; exact decide_eq_true ⟨g1, g2⟩
            clear g1 g2
            go_wp2
            go_meet
            case rel => exact ⟨by rw [e], by first | exact rfl | trivial⟩
          · have g2' : ¬ (c : Int) ≤ 90 := by omega
            have e : F = false := by rw [HFF.out]; exact decide_eq_false (fun h => g2 h.2)
            clear g1 g2
            go_wp2
            go_meet
            case rel => exact ⟨by rw [e], by first | exact rfl | trivial⟩
        · have g1' : ¬ (65 : Int) ≤ (c : Int) := by omega
          have e : F = false := by rw [HFF.out]; exact decide_eq_false (fun h => g1 h.1)
          clear g1
          go_wp2
          go_meet
          case rel => exact ⟨by rw [e], by first | exact rfl | trivial⟩
      case rest =>
        obtain ⟨rfl, hwc⟩ := hcut
        have hwd := hwc.symm
        subst hwd
        clear hwc
        cases F
        · have hF := of_decide_eq_false HFF.out.symm
          have hdc : c = d := by rw [HLO.out, if_neg hF]
          clear hF HFF HLO
          subst hdc
          by_cases he : c = x
          · have HA2 := hide (HST.out he)
            subst he
            clear HST HNO
            have hee : ((c : Int) != (c : Int)) = false := by simp
            go_wp2
            go_roundw
            case rel => exact ⟨k + 1, by omega, by go_num, HA2, by first | trivial | rfl⟩
            case measure => simp [intOf]; omega
          · have HTE := hide (HNO.out he)
            have hee : ((c : Int) != (x : Int)) = true := bne_iff_ne.2 (by omega)
            clear HST HNO
            go_wp2
            go_ret3
            exact ⟨by rw [HTE.out]; rfl, Below.refl _ _⟩
        · have hF := of_decide_eq_true HFF.out.symm
          have hdc : d = c + 32 := by rw [HLO.out, if_pos hF]
          have hw1 : IntKind.u8.wrap ((c : Int) - 65) = (c : Int) - 65 := by rw [IntKind.wrap_u8]; omega
          have hw2 : IntKind.u8.wrap ((c : Int) - 65 + 97) = (d : Int) := by rw [IntKind.wrap_u8]; omega
          have hw3 : (c : Int) - 65 + 97 = (d : Int) := by omega
          have hd256 : (d : Int) < 256 := by omega
          clear hF HFF HLO hdc
          by_cases he : d = x
          · have HA2 := hide (HST.out he)
            subst he
            clear HST HNO
            go_wp2
            go_roundw
            case rel => exact ⟨k + 1, by omega, by go_num, HA2, by first | trivial | rfl⟩
            case measure => simp [intOf]; omega
          · have HTE := hide (HNO.out he)
            have hee : ((d : Int) != (x : Int)) = true := bne_iff_ne.2 (by omega)
            clear HST HNO
            go_wp2
            go_ret3
            exact ⟨by rw [HTE.out]; rfl, Below.refl _ _⟩
    · obtain rfl : k = 5 := by omega
      have HA5 := HA
      clear HA
      go_wp2
      go_loopw [8] (fun i wr => ∃ k : Nat, (5 ≤ k ∧ k ≤ s.size) ∧ i = .int .i64 (k : Int) ∧ Hid (∀ j, 5 ≤ j → j < k → l.getD j 0 = 32) ∧ wr = w) (fun i _ => s.size - (intOf i).toNat)
      case atStart => exact ⟨5, ⟨by omega, by omega⟩, rfl, fun j h1 h2 => by omega, rfl⟩
      case round =>
        obtain ⟨k, ⟨hk5, hks⟩, rfl, HP, hwr⟩ := hrel
        have hwr2 := hwr.symm
        subst hwr2
        clear hwr
        obtain ⟨F, hF⟩ : ∃ F, F = decide (k < s.size ∧ l.getD k 0 = 32) := ⟨_, rfl⟩
        have HFF := hide hF
        clear hF
        go_upto_region 13 with fail
        go_cut [56] (fun a wx => a = .bool F ∧ wx = w)
        case first =>
          by_cases g1 : k < s.size
          · have hix := str_index s k g1
            rw [← HL.out] at hix
            have g1i : (k : Int) < (s.size : Int) := by omega
            by_cases g2 : l.getD k 0 = 32
            · have e : F = true := by rw [HFF.out]; exact decide_eq_true ⟨g1, g2⟩
              rw [g2] at hix
              clear g1 g2
              go_wp2
              go_meet
              case rel => exact ⟨by rw [e], by first | exact rfl | trivial⟩
            · have e : F = false := by rw [HFF.out]; exact decide_eq_false (fun h => g2 h.2)
              have g2i : (((l.getD k 0 : Nat) : Int) == 32) = false := by simp only [beq_eq_false_iff_ne]; omega
              generalize l.getD k 0 = c at *
              clear g1 g2
              go_wp2
              go_meet
              case rel => exact ⟨by rw [e], by first | exact rfl | trivial⟩
          · have e : F = false := by rw [HFF.out]; exact decide_eq_false (fun h => g1 h.1)
            have g1i : ¬ (k : Int) < (s.size : Int) := by omega
            clear g1
            go_wp2
            go_meet
            case rel => exact ⟨by rw [e], by first | exact rfl | trivial⟩
        case rest =>
          obtain ⟨rfl, hwc⟩ := hcut
          have hwd := hwc.symm
          subst hwd
          clear hwc
          cases F
          case true =>
            have hF := of_decide_eq_true HFF.out.symm
            have HP2 : Hid (∀ j, 5 ≤ j → j < k + 1 → l.getD j 0 = 32) := by
              intro j h1 h2
              by_cases hjk : j < k
              · exact HP.out j h1 hjk
              · obtain rfl : j = k := by omega
                exact hF.2
            have hk2 : k + 1 ≤ s.size := by omega
            clear hF HFF
            go_wp2
            go_roundw
            case rel => exact ⟨k + 1, ⟨by omega, hk2⟩, by go_num, HP2, by first | trivial | rfl⟩
            case measure => simp [intOf]; omega
          case false =>
            have hF := of_decide_eq_false HFF.out.symm
            have HT5 : Hid (k = 5 → T = none) := by
              intro hk
              apply HTC.out
              rintro ⟨-, -, h8⟩
              exact hF ⟨by omega, by rw [hk]; exact h8⟩
            have HT6 : Hid (k ≠ 5 → T = (decT (l.drop k)).bind nameT) := by
              intro hk
              rw [HTY.out ⟨by rw [HZ.out]; omega, HA5.out, HP.out 5 (Nat.le_refl _) (by omega)⟩, bas_skip hk5 (by rw [HZ.out]; exact hks) HP.out ?_]
              rw [HZ.out]
              by_cases hks2 : k = s.size
              · exact .inl hks2
              · exact .inr fun h => hF ⟨by omega, h⟩
            have hcut := str_from s k k rfl hks
            rw [← HL.out] at hcut
            have hdl : ∀ x ∈ l.drop k, x < 256 := fun x hx => HLT.out x (List.mem_of_mem_drop hx)
            have HRD := rdecoded_any (bstr (l.drop k)) w (by rw [bstr_size, List.length_drop]; have := HZ.out; omega)
            rw [sbytes_bstr hdl] at HRD
            obtain ⟨D, hD⟩ : ∃ D, D = decT (l.drop k) := ⟨_, rfl⟩
            rw [← hD] at HRD HT6
            have HDL : Hid (∀ t, D = some t → (∀ x ∈ t, x < 256) ∧ t.length ≤ 1024) := fun t ht => by
              have h4 := decT_lt (hD.symm.trans ht)
              refine ⟨h4.1, ?_⟩
              have := h4.2
              rw [List.length_drop] at this
              have := HZ.out
              omega
            generalize bstr (l.drop k) = s1 at *
            clear hF HFF HP HTC HTY HA5 hD hdl
            go_wp2_with fail
            refine HRD.mono ?_
            rintro e w2 ⟨-, x, rfl, hx, hb2⟩
            have HB2 := hide hb2
            have HX := hide hx
            clear hb2 hx HRD hcut
            by_cases hk6 : k = 5
            · have HTE := hide (HT5.out hk6)
              subst hk6
              clear HT5 HT6
              generalize D.isSome = b at *
              cases b
              all_goals
                go_wp2
                go_ret3
                exact ⟨by rw [HTE.out]; rfl, HB2.out⟩
            have hk6i : ((k : Int) == 5) = false := by simp only [beq_eq_false_iff_ne]; omega
            have HT7 := hide (HT6.out hk6)
            clear HT5 HT6 hk6
            cases D with
            | none =>
              have HTE : Hid (T = none) := HT7
              simp only [Option.isSome_none]
              go_wp2
              go_ret3
              exact ⟨by rw [HTE.out]; rfl, HB2.out⟩
            | some t =>
              have HTE : Hid (T = nameT t) := HT7
              have hxt := HX.out t rfl
              obtain ⟨ht256, ht1024⟩ := HDL.out t rfl
              have hxs : sbytes x = t := by rw [hxt, sbytes_bstr ht256]
              have hxz : t.length = x.size := by rw [← hxs, sbytes_length]
              have HXS := hide hxs
              have HXZ := hide hxz
              have hxl : x.size ≤ 1024 := by omega
              have HT256 := hide ht256
              simp only [Option.isSome_some]
              clear hxt ht256 hxs hxz HX HT7 HDL
              go_wp2
              go_loopw [11] (fun i wr => ∃ m : Nat, m ≤ x.size ∧ i = .int .i64 (m : Int) ∧ Hid (∀ j, j < m → t.getD j 0 ≠ 58) ∧ wr = w2) (fun i _ => x.size - (intOf i).toNat)
              case atStart => exact ⟨0, Nat.zero_le _, rfl, fun j h => by omega, rfl⟩
              case round =>
                obtain ⟨m, hm, rfl, HM, hwr⟩ := hrel
                have hwr2 := hwr.symm
                subst hwr2
                clear hwr
                obtain ⟨F, hF⟩ : ∃ F, F = decide (m < x.size ∧ t.getD m 0 ≠ 58) := ⟨_, rfl⟩
                have HFF := hide hF
                clear hF
                go_upto_region 19 with fail
                go_cut [81] (fun a wx => a = .bool F ∧ wx = w2)
                case first =>
                  by_cases g1 : m < x.size
                  · have hix := str_index x m g1
                    rw [HXS.out] at hix
                    have g1i : (m : Int) < (x.size : Int) := by omega
                    by_cases g2 : t.getD m 0 = 58
                    · have e : F = false := by rw [HFF.out]; exact decide_eq_false (fun h => h.2 g2)
                      rw [g2] at hix
                      clear g1 g2
                      go_wp2
                      go_meet
                      case rel => exact ⟨by rw [e], by first | exact rfl | trivial⟩
                    · have e : F = true := by rw [HFF.out]; exact decide_eq_true ⟨g1, g2⟩
                      have g2i : (((t.getD m 0 : Nat) : Int) != 58) = true := bne_iff_ne.2 (by omega)
                      generalize t.getD m 0 = c at *
                      clear g1 g2
                      go_wp2
                      go_meet
                      case rel => exact ⟨by rw [e], by first | exact rfl | trivial⟩
                  · have e : F = false := by rw [HFF.out]; exact decide_eq_false (fun h => g1 h.1)
                    have g1i : ¬ (m : Int) < (x.size : Int) := by omega
                    clear g1
                    go_wp2
                    go_meet
                    case rel => exact ⟨by rw [e], by first | exact rfl | trivial⟩
                case rest =>
                  obtain ⟨rfl, hwc⟩ := hcut
                  have hwd := hwc.symm
                  subst hwd
                  clear hwc
                  cases F
                  case true =>
                    have hF := of_decide_eq_true HFF.out.symm
                    have HM2 : Hid (∀ j, j < m + 1 → t.getD j 0 ≠ 58) := by
                      intro j hj
                      by_cases hjm : j < m
                      · exact HM.out j hjm
                      · obtain rfl : j = m := by omega
                        exact hF.2
                    have hm2 : m + 1 ≤ x.size := by omega
                    clear hF HFF
                    go_wp2
                    go_roundw
                    case rel => exact ⟨m + 1, hm2, by go_num, HM2, by first | trivial | rfl⟩
                    case measure => simp [intOf]; omega
                  case false =>
                    have hF := of_decide_eq_false HFF.out.symm
                    have hup : (upTo 58 t).length = m := upTo_len (by rw [HXZ.out]; exact hm) HM.out (by
                      rw [HXZ.out]
                      by_cases hmx : m = x.size
                      · exact .inl hmx
                      · right
                        apply Classical.byContradiction
                        intro h
                        exact hF ⟨by omega, h⟩)
                    have hut := upTo_take 58 t
                    rw [hup] at hut
                    clear hF HFF HM
                    by_cases hmx : m = x.size
                    · have HTN : Hid (T = none) := by
                        show _ = _
                        rw [HTE.out]
                        unfold nameT
                        rw [hup]
                        cases un (upTo 58 t) 0 with
                        | error b => rfl
                        | ok a =>
                          cases un (t.drop (m + 1)) 0 with
                          | error b => rfl
                          | ok b => exact if_neg (by rw [HXZ.out]; omega)
                      have hmi : (m : Int) = (x.size : Int) := by omega
                      clear hup hut
                      go_wp2
                      go_ret3
                      exact ⟨by rw [HTN.out]; rfl, HB2.out⟩
                    · have hmi : ((m : Int) == (x.size : Int)) = false := by simp only [beq_eq_false_iff_ne]; omega
                      have hc1 := str_to x m m rfl hm
                      have hc2 := str_from x (m + 1) ((m : Int) + 1) (by omega) (by omega)
                      rw [HXS.out] at hc1 hc2
                      obtain ⟨a1, e1, p1, ha1, ho1, hn1⟩ := unRes_shape (t.take m)
                      obtain ⟨a2, e2, p2, ha2, ho2, hn2⟩ := unRes_shape (t.drop (m + 1))
                      have HU1 : Hid (∀ W, Calls Tryz.prog 54 #[.string (bstr (t.take m))] W fun e' w' => e' = .returned (.tuple #[.string a1, .int .i64 (e1 : Int), .int .i64 (p1 : Int)]) ∧ Below W.heap.size W w') := fun W => by
                        have := refUnescape_any (bstr (t.take m)) W (by rw [bstr_size, List.length_take]; have := HXZ.out; omega); rw [sbytes_bstr (fun y hy => HT256.out y (List.mem_of_mem_take hy)), ha1] at this; exact this
                      have HU2 : Hid (∀ W, Calls Tryz.prog 54 #[.string (bstr (t.drop (m + 1)))] W fun e' w' => e' = .returned (.tuple #[.string a2, .int .i64 (e2 : Int), .int .i64 (p2 : Int)]) ∧ Below W.heap.size W w') := fun W => by
                        have := refUnescape_any (bstr (t.drop (m + 1))) W (by rw [bstr_size, List.length_drop]; have := HXZ.out; omega); rw [sbytes_bstr (fun y hy => HT256.out y (List.mem_of_mem_drop hy)), ha2] at this; exact this
                      have HOK : Hid (e1 = 0 → e2 = 0 → T = some (sbytes a1, sbytes a2)) := by
                        intro h1 h2
                        obtain ⟨u1, hu1, rfl⟩ := ho1 h1
                        obtain ⟨u2, hu2, rfl⟩ := ho2 h2
                        rw [HTE.out]
                        unfold nameT
                        rw [hup, hut, hu1, hu2]
                        rw [sbytes_bstr (un_lt _ _ _ _ (Nat.le_refl _) hu1).1, sbytes_bstr (un_lt _ _ _ _ (Nat.le_refl _) hu2).1]
                        simp only
                        rw [if_pos (by rw [HXZ.out]; omega)]
                      have HBD : Hid (e1 ≠ 0 ∨ e2 ≠ 0 → T = none) := by
                        intro h
                        rw [HTE.out]
                        unfold nameT
                        rw [hup, hut]
                        rcases h with h | h
                        · obtain ⟨b, hb⟩ := hn1 h
                          rw [hb]
                        · obtain ⟨b, hb⟩ := hn2 h
                          rw [hb]
                          cases un (t.take m) 0 <;> rfl
                      clear ha1 ho1 hn1 ha2 ho2 hn2 hup hut
                      generalize bstr (t.take m) = q1 at *
                      generalize bstr (t.drop (m + 1)) = q2 at *
                      go_wp2_with fail
                      refine (HU1.out _).mono ?_
                      rintro e3 w3 ⟨rfl, hb3⟩
                      have HB3 := hide (HB2.out.trans (hb3.mono HB2.out.size))
                      clear hb3 HU1
                      go_wp2_with fail
                      refine (HU2.out _).mono ?_
                      rintro e4 w4 ⟨rfl, hb4⟩
                      have HB4 := hide (HB3.out.trans (hb4.mono HB3.out.size))
                      clear hb4 HU2
                      by_cases g1 : e1 = 0
                      · by_cases g2 : e2 = 0
                        · have HTO := hide (HOK.out g1 g2)
                          subst g1 g2
                          go_wp2
                          go_ret3
                          exact ⟨by rw [HTO.out]; simp only [basV, bstr_sbytes]; rfl, HB4.out⟩
                        · have HTO := hide (HBD.out (.inr g2))
                          subst g1
                          have gi : ((e2 : Int) != 0) = true := bne_iff_ne.2 (by omega)
                          go_wp2
                          go_ret3
                          exact ⟨by rw [HTO.out]; rfl, HB4.out⟩
                      · have HTO := hide (HBD.out (.inl g1))
                        have gi : ((e1 : Int) != 0) = true := bne_iff_ne.2 (by omega)
                        go_wp2
                        go_ret3
                        exact ⟨by rw [HTO.out]; rfl, HB4.out⟩
end Go.Proofs.YtmmcgfikmcppfaaGreatDoor
