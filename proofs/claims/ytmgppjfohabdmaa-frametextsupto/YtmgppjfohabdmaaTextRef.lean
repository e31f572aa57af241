/- The contracts of the reference's PutText and Text. -/
import Derived.Test.YtmgppjfohabdmaaText
import Derived.Test.YtmgppjfohabdmaaNumRef
import Derived.Test.YtmgppjfohabdmaaUintRef
namespace Go.Proofs.Ytmgppjfohabdmaa
open Go.RowKit

set_option maxRecDepth 100000 in
theorem refPutText_any (n c : Nat) (ao : Option Addr) (xs : List Nat) (s : ByteArray) (w : World) (hn : n = xs.length) (hl : n ≤ 1099511627776) (hs : s.size ≤ 1099511627776) (hr : Row w ao xs) :
    Calls Try.prog 15 #[.slice ao n c, .string s] w fun e w' => ∃ ro rn rc, e = .returned (.slice ro rn rc) ∧ Hid (Made w w' ro rn rc (xs ++ uenc s.size ++ sbytes s)) := by
  have HR : Hid (Row w ao xs) := hr
  have HN : Hid (n = xs.length) := hn
  clear hr hn
  go_enter Try.func15, Try.ntmps15
  go_wp2_with fail
  refine (refPutUint_any s.size n c ao xs w (by omega) HN.out (by omega) HR.out).mono ?_
  rintro e w1 ⟨ro, rn, rc, rfl, h1⟩
  have HM1 : Hid (Made w w1 ro rn rc (xs ++ uenc s.size)) := h1
  have hrn : rn ≤ 1099511627800 := by have := h1.out.1; have := uenc_length s.size; have := HN.out; rw [List.length_append] at *; omega
  clear h1
  obtain ⟨c2, w2, hcv, hrow, hbel⟩ := conv_text w1 s
  have HR2 : Hid (Row w2 (some ⟨w1.heap.size, 0, none⟩) (sbytes s)) := hrow
  have HL2 : Hid (Below w1.heap.size w1 w2) := hbel
  clear hrow hbel
  go_wp2_with fail
  refine (joined_any rn s.size rc c2 ro _ _ (sbytes s) w2 HM1.out.1 (sbytes_length s).symm (by omega) (HM1.out.2.2.1.keep HL2.out) HR2.out).mono ?_
  rintro e w3 ⟨jo, jc, rfl, h3⟩
  have HM3 : Hid (Made w w3 jo (rn + s.size) jc (xs ++ uenc s.size ++ sbytes s)) := by
    have a := HM1.out.2.2.2.2.size
    have b := HL2.out.size
    exact ⟨h3.out.1, h3.out.2.1, h3.out.2.2.1, h3.out.2.2.2.1.lower (by omega), (HM1.out.2.2.2.2.trans (HL2.out.mono a)).trans (h3.out.2.2.2.2.mono (by omega))⟩
  clear h3
  go_wp2
  go_ret
  exact ⟨_, _, _, rfl, HM3⟩
set_option maxHeartbeats 800000 in
set_option maxRecDepth 100000 in
theorem refText_any (n cap : Nat) (ao : Option Addr) (most : Int) (xs : List Nat) (w : World) (hn : n = xs.length) (hnc : n ≤ cap) (hl : n ≤ 140737488351232) (hm : -9223372036854775808 ≤ most ∧ most ≤ 9223372036854775807) (hx : ∀ x ∈ xs, x < 256) (hr : Row w ao xs) :
    Calls Try.prog 17 #[.slice ao n cap, .int .i64 most] w fun e w' => e = .returned (.tuple #[.string (bstr (textOf xs most).1), .int .i64 (((textOf xs most).2.1 : Nat) : Int), .int .i64 (((textOf xs most).2.2 : Nat) : Int)]) ∧ w' = w := by
  have HX : Hid (∀ x ∈ xs, x < 256) := hx
  have HR : Hid (Row w ao xs) := hr
  have HN : Hid (n = xs.length) := hn
  by_cases h0 : most < 0
  · have HE : Hid (textOf xs most = ([], 0, 2)) := by show _ = _; unfold textOf; rw [if_pos h0]
    rw [HE.out]
    clear hx hr hn
    go_enter Try.func17, Try.ntmps17
    go_wp2
    go_ret3
    exact ⟨rfl, rfl⟩
  · obtain ⟨rv, rk, re, hu⟩ : ∃ rv rk re, uread xs = (rv, rk, re) := ⟨_, _, _, rfl⟩
    have hrv : rv < 18446744073709551616 := by have := uread_lt xs; rw [hu] at this; exact this
    have hend : re = 0 → rk ≤ n ∧ 0 < rk := fun h => by
      have := udec_end xs 0 0
      unfold uread at hu
      rw [hu] at this
      have := this h
      simp only at this
      omega
    have HU : Hid (uread xs = (rv, rk, re)) := hu
    have HE : Hid (textOf xs most = if re ≠ 0 then ([], 0, re) else if most < (rv : Int) then ([], 0, 1) else if n - rk < rv then ([], 0, 3) else ((xs.drop rk).take rv, rk + rv, 0)) := by
      show _ = _
      unfold textOf
      rw [if_neg h0, hu, hn]
    rw [HE.out]
    clear hx hr hn hu HE
    by_cases he : re = 0
    · obtain ⟨hk1, hk2⟩ := hend he
      subst he
      rw [if_neg (by simp)]
      have hne : (((0 : Nat) : Int) != 0) = false := by decide
      clear hend
      by_cases hb1 : most < (rv : Int)
      · rw [if_pos hb1]
        go_enter Try.func17, Try.ntmps17
        go_wp2_with fail
        refine (refUint_any n cap ao xs w HN.out hl HX.out HR.out).mono ?_
        rintro e w1 ⟨rfl, rfl⟩
        rw [HU.out]
        go_wp2
        go_ret3
        exact ⟨rfl, rfl⟩
      · rw [if_neg hb1]
        by_cases hb2 : n - rk < rv
        · rw [if_pos hb2]
          go_enter Try.func17, Try.ntmps17
          go_wp2_with fail
          refine (refUint_any n cap ao xs w HN.out hl HX.out HR.out).mono ?_
          rintro e w1 ⟨rfl, rfl⟩
          rw [HU.out]
          go_wp2
          go_ret3
          exact ⟨rfl, rfl⟩
        · rw [if_neg hb2]
          obtain ⟨b, off, hao⟩ := HR.out.form (by have := HN.out; omega)
          obtain ⟨lo, hsl, hlo⟩ := slice_text b off n cap rk rv xs (by omega) hnc
          have HLO : Hid (Row w lo ((xs.drop rk).take rv)) := hlo w HN.out (by rw [← hao]; exact HR.out)
          have hcv : (convert 22 9 (.slice lo rv (cap - rk))).run Try.prog w = .ok (.string (bstr ((xs.drop rk).take rv))) w := by
            have := conv_row (cap - rk) HLO.out
            rwa [show ((xs.drop rk).take rv).length = rv by have := HN.out; simp; omega] at this
          clear hlo
          generalize bstr ((xs.drop rk).take rv) = out at *
          go_enter Try.func17, Try.ntmps17
          go_wp2_with fail
          refine (refUint_any n cap _ xs w HN.out hl HX.out (by first | exact HR.out | (rw [← hao]; exact HR.out))).mono ?_
          rintro e w1 ⟨rfl, rfl⟩
          rw [HU.out]
          go_wp2
          go_ret3
          exact ⟨by go_num, rfl⟩
    · rw [if_pos he]
      have hne : (((re : Nat) : Int) != 0) = true := by rw [bne_iff_ne]; omega
      clear hend he
      go_enter Try.func17, Try.ntmps17
      go_wp2_with fail
      refine (refUint_any n cap ao xs w HN.out hl HX.out HR.out).mono ?_
      rintro e w1 ⟨rfl, rfl⟩
      rw [HU.out]
      go_wp2
      go_ret3
      exact ⟨rfl, rfl⟩
end Go.Proofs.Ytmgppjfohabdmaa
