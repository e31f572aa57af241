/- The document's User. -/
import Derived.Test.YtonnnolnkjahgabDoorCRefS
import Derived.Test.YtonnnolnkjahgabDoorCRefA
namespace Go.Proofs.YtonnnolnkjahgabDoor
open Go.RowKit Go.Shelf

theorem lets_mid (m : Nat) (hm : m < 20) (w : World) : (Instr.slice 9 (.string letsS) (some (.int .i64 (m : Int))) (some (.int .i64 ((m : Int) + 1))) none).run Tryd.prog w = .ok (.string (bstr [lets.getD m 0])) w := by
  have h : letsS.size = 20 := rfl
  rw [run_slice_string w 9 letsS .i64 .i64 (m : Int) ((m : Int) + 1) Tryd.underlying9 (by omega) (by omega) (by omega), extract_bstr, Int.toNat_natCast, show ((m : Int) + 1).toNat = m + 1 by omega]
  have e : ∀ m, m < 20 → ((sbytes letsS).take (m + 1)).drop m = [lets.getD m 0] := by decide
  rw [e m hm]
set_option maxHeartbeats 1000000 in
set_option maxRecDepth 100000 in
theorem ruser_any (sp : Nat) (xs bs : List Nat) (w : World) (h : Src 31 w sp xs bs) (hx : xs.length ≤ 4096) :
    Calls Tryd.prog 24 #[pf sp] w fun e w' => e = .returned (.tuple #[.string (bstr (userR [] xs).1), .int .i64 (((userR [] xs).2.1 : Nat) : Int)]) ∧ ∃ bs', Src 31 w' sp (userR [] xs).2.2 bs' ∧ Aft bs bs' w w' := by
  have HS := hide h
  have HX := hide hx
  obtain ⟨R, hR⟩ : ∃ R, R = userR [] xs := ⟨_, rfl⟩
  rw [← hR]
  have HR := hide hR.symm
  have HLS := hide letters_any
  have HLM := hide lets_mid
  generalize letsS = LS at *
  clear h hR hx
  unfold pf
  go_enter Tryd.func24, Tryd.ntmps24
  go_wp2_with (go_at_call 31; refine (HLS.out _).mono ?_; rintro e wx ⟨rfl, hwx⟩; have hwy := hwx.symm; subst hwy; clear hwx)
  go_loopw [5] (fun v wr => ∃ (n : Nat) (S : ByteArray), v = .string S ∧ S.size = n ∧ n ≤ 8 ∧ Hid (∃ code ys bs', S = bstr code ∧ n = code.length ∧ ys.length ≤ 4096 ∧ userR code ys = R ∧ Src 31 wr sp ys bs' ∧ Aft bs bs' w wr)) (fun _ wr => leftN wr sp)
  case atStart => exact ⟨0, _, rfl, rfl, by omega, hide ⟨[], xs, bs, rfl, rfl, HX.out, HR.out, HS.out, Aft.refl _ _⟩⟩
  case round =>
    obtain ⟨n, S, rfl, hz, hn8, hr⟩ := hrel
    obtain ⟨code, ys, bs1, hS, hnc, hyl, hu, hsr, haf⟩ := hr.out
    have HSE := hide hS
    have HNC := hide hnc
    have HYL := hide hyl
    have HU := hide hu
    have HSR := hide hsr
    have HAF := hide haf
    have HLN := hide hsr.leftN
    have HHD := hide hsr.head
    clear hr hS hnc hyl hu hsr haf HR HS
    by_cases hlt : n < 8
    · have hlt' : (n : Int) < 8 := by omega
      have HN8 : Hid (¬ 8 ≤ code.length) := hide (by have := HNC.out; omega)
      have HN9 := hide hlt
      clear hn8 hlt
      cases ys with
      | nil =>
        have HBY := hide (rbyteDry_any sp bs1 wr HSR.out)
        have HE := hide (HU.out.symm.trans (userR_dry HN8.out))
        unfold pf at HBY
        go_wp2_with (go_at_call 21; refine HBY.out.mono ?_; rintro e wx ⟨rfl, hwx⟩; have hwy := hwx.symm; subst hwy; clear hwx)
        go_ret2
        rw [HE.out]
        exact ⟨rfl, bs1, HSR.out, HAF.out⟩
      | cons x ys =>
        have HBY := hide (rbyte_any sp x ys bs1 wr HSR.out (by have := HYL.out; simp at this; omega))
        have HUN := hide ((userR_next HN8.out x ys).symm.trans HU.out)
        have HYL2 : Hid (ys.length ≤ 4096) := hide (by have := HYL.out; simp at this; omega)
        have hx : x < 256 := HSR.out.byte x (by simp)
        unfold pf at HBY
        clear HU HYL
        by_cases h240 : x < 240
        · have h240' : (x : Int) < 240 := by omega
          have hmod : Int.tmod (x : Int) 20 = ((x % 20 : Nat) : Int) := by rw [show (20 : Int) = ((20 : Nat) : Int) from rfl, ← Int.ofNat_tmod]
          have hr20 : x % 20 < 20 := Nat.mod_lt _ (by decide)
          have hlm := HLM.out (x % 20) hr20
          have HUS : Hid (userS code x = code ++ [lets.getD (x % 20) 0]) := hide (by unfold userS; rw [if_pos h240])
          rw [HUS.out] at HUN
          have hadd : ∀ W, (Op.stringOp .add S (bstr [lets.getD (x % 20) 0])).run Tryd.prog W = .ok (.string (bstr (code ++ [lets.getD (x % 20) 0]))) W := fun W => by
            rw [HSE.out]
            exact add_str (by have := HN8.out; simp; omega) W
          have hr21 : IntKind.i64.wrap (((x % 20 : Nat) : Int) + 1) = ((x % 20 : Nat) : Int) + 1 := by rw [IntKind.wrap_i64]; omega
          have hzn : (bstr (code ++ [lets.getD (x % 20) 0])).size = n + 1 := by rw [bstr_size, List.length_append, HNC.out]; rfl
          have HSN : Hid (∃ d, bstr (code ++ [lets.getD (x % 20) 0]) = bstr (code ++ [d]) ∧ userR (code ++ [d]) ys = R) := hide ⟨_, rfl, HUN.out⟩
          clear HUS h240 hr20 HUN
          generalize bstr (code ++ [lets.getD (x % 20) 0]) = S2 at *
          generalize bstr [lets.getD (x % 20) 0] = S1 at *
          generalize x % 20 = r at *
          go_wp2_with (first
            | (go_at_call 21; refine HBY.out.mono ?_; rintro e w2 ⟨rfl, bs2, h2, k2⟩; have HS2 := hide h2; have HA2 := hide (HAF.out.trans (k2.up HHD.out)); clear h2 k2))
          go_roundw
          case rel =>
            obtain ⟨d, e1, e2⟩ := HSN.out
            exact ⟨n + 1, S2, by first | exact rfl | trivial, hzn, by have := HN9.out; omega, hide ⟨code ++ [d], ys, bs2, e1, by rw [List.length_append, HNC.out]; rfl, HYL2.out, e2, HS2.out, HA2.out⟩⟩
          case measure => rw [HS2.out.leftN, HLN.out]; simp
        · have h240' : ¬ (x : Int) < 240 := by omega
          have HUS : Hid (userS code x = code) := hide (by unfold userS; rw [if_neg h240])
          rw [HUS.out] at HUN
          clear HUS h240 hx
          go_wp2_with (first
            | (go_at_call 21; refine HBY.out.mono ?_; rintro e w2 ⟨rfl, bs2, h2, k2⟩; have HS2 := hide h2; have HA2 := hide (HAF.out.trans (k2.up HHD.out)); clear h2 k2))
          go_roundw
          case rel => exact ⟨n, S, by first | exact rfl | trivial, hz, by have := HN9.out; omega, hide ⟨code, ys, bs2, HSE.out, HNC.out, HYL2.out, HUN.out, HS2.out, HA2.out⟩⟩
          case measure => rw [HS2.out.leftN, HLN.out]; simp
    · have hlt' : ¬ (n : Int) < 8 := by omega
      have HE := hide (HU.out.symm.trans (userR_done (by have := HNC.out; omega) ys))
      clear hn8 hlt
      go_wp2_with fail
      go_ret2
      rw [HE.out, HSE.out]
      exact ⟨rfl, bs1, HSR.out, HAF.out⟩
end Go.Proofs.YtonnnolnkjahgabDoor
