/- The contract of User: eight letters by the bytes that are drawn. -/
import Derived.Test.YtonnnolnkjahgabDoorCLet
namespace Go.Proofs.YtonnnolnkjahgabDoor
open Go.RowKit Go.Shelf

/-- One byte more. -/
def userS (code : List Nat) (x : Nat) : List Nat := if x < 240 then code ++ [lets.getD (x % 20) 0] else code
/-- The text, the error, the bytes that are left. -/
def userR : List Nat → List Nat → List Nat × Nat × List Nat
  | code, [] => if 8 ≤ code.length then (code, 0, []) else ([], 90, [])
  | code, x :: xs => if 8 ≤ code.length then (code, 0, x :: xs) else userR (userS code x) xs
theorem userR_done {code : List Nat} (h : 8 ≤ code.length) (xs : List Nat) : userR code xs = (code, 0, xs) := by
  cases xs <;> simp [userR, h]
theorem userR_dry {code : List Nat} (h : ¬ 8 ≤ code.length) : userR code [] = ([], 90, []) := by simp [userR, h]
theorem userR_next {code : List Nat} (h : ¬ 8 ≤ code.length) (x : Nat) (xs : List Nat) : userR code (x :: xs) = userR (userS code x) xs := by simp [userR, h]
theorem let_lt (x : Nat) : lets.getD (x % 20) 0 < 256 := lets_lt _ (Nat.mod_lt _ (by decide))
theorem userS_len (code : List Nat) (x : Nat) : (userS code x).length ≤ code.length + 1 := by unfold userS; split <;> simp
theorem src_out {T : TypeId} {w : World} {sp : Nat} {xs bs : List Nat} (h : Src T w sp xs bs) {B : Nat} (hB : B = w.heap.size) : ∀ b ∈ bs, b < B := fun b hb => by rw [hB]; exact h.lts b hb
/-- How many bytes a source has left, by its block. -/
def leftN (w : World) (sp : Nat) : Nat := match w.cell? ⟨sp, 0, none⟩ with
  | some (.slice _ n _) => n
  | _ => 0
theorem Src.leftN {T : TypeId} {w : World} {sp : Nat} {xs bs : List Nat} (h : Src T w sp xs bs) : leftN w sp = xs.length := by
  obtain ⟨v, hb, hl, -, -⟩ := h.ex
  obtain ⟨ao, cap, rfl, -, -⟩ := hl.read
  have c0 : w.cell? ⟨sp, 0, none⟩ = some (.slice ao xs.length cap) := hb.cell 0
  unfold Go.Proofs.YtonnnolnkjahgabDoor.leftN
  rw [c0]
set_option maxHeartbeats 1000000 in
set_option maxRecDepth 100000 in
theorem user_any (sp : Nat) (xs bs : List Nat) (w : World) (h : Src 49 w sp xs bs) (hT : Lets w) (hG : 0 ∉ bs) :
    Calls Tryd.prog 17 #[pf sp] w fun e w' => e = .returned (.tuple #[.string (bstr (userR [] xs).1), .int .i64 (((userR [] xs).2.1 : Nat) : Int)]) ∧ Src 49 w' sp (userR [] xs).2.2 bs ∧ Aft bs bs w w' := by
  have HT := hide hT
  have HG := hide hG
  have HLT := hide (src_out h rfl)
  have HS := hide h
  obtain ⟨R, hR⟩ : ∃ R, R = userR [] xs := ⟨_, rfl⟩
  rw [← hR]
  have HR := hide hR.symm
  clear hT hG h hR
  unfold pf
  go_enter Tryd.func17, Tryd.ntmps17
  go_wp2_with (first | (at_make; refine wpList_make_bytes rfl _ _ rfl .i64 .i64 _ _ 0 8 rfl rfl rfl rfl (by omega) (by omega) ?_) | fail)
  rintro w1 hb1 hbel1 hs1
  have HO1 : Hid (Own w1 w.heap.size (.slice (some ⟨w.heap.size, 0, none⟩) 0 8) []) := Blk.own (xs := []) (ys := List.replicate 8 0) (n := 0) (c := 8) hb1 rfl (by simp) (Nat.le_refl _) (by unfold maxLen; omega)
  have HS1 := hide (HS.out.keep hbel1)
  have HF1 : Hid (Fr bs w w1) := hide (Fr.of hbel1)
  clear hb1 hbel1 hs1 HS
  go_wp2
  go_loopw [4] (fun v wr => ∃ (n c : Nat) (ao : Option Addr), v = .slice ao n c ∧ n ≤ 8 ∧ Hid (∃ code ys, n = code.length ∧ userR code ys = R ∧ Own wr w.heap.size (.slice ao n c) code ∧ Src 49 wr sp ys bs ∧ Fr bs w wr ∧ ∀ x ∈ code, x < 256)) (fun _ wr => leftN wr sp)
  case atStart => exact ⟨0, 8, _, rfl, by omega, hide ⟨[], xs, rfl, HR.out, HO1.out, HS1.out, HF1.out, fun x hx => by cases hx⟩⟩
  case round =>
    obtain ⟨n, c, ao, rfl, hn8, hr⟩ := hrel
    obtain ⟨code, ys, hnc, hu, ho, hsr, hf, hcb⟩ := hr.out
    have HO := hide ho
    have HSR := hide hsr
    have HF := hide hf
    have HCB := hide hcb
    have HNC := hide hnc
    have HU := hide hu
    have HLN := hide hsr.leftN
    clear hr ho hsr hf hcb hnc hu HO1 HS1 HF1
    by_cases hlt : n < 8
    · have hlt' : (n : Int) < 8 := by omega
      have HN8 : Hid (¬ 8 ≤ code.length) := hide (by have := HNC.out; omega)
      have HN9 := hide hlt
      clear hn8 hlt
      cases ys with
      | nil =>
        have HBY := hide (byteDry_any sp bs wr HSR.out)
        have HE := hide (HU.out.symm.trans (userR_dry HN8.out))
        unfold pf at HBY
        clear HR
        go_wp2_with (go_at_call 16; refine HBY.out.mono ?_; rintro e wx ⟨rfl, hwx⟩; have hwy := hwx.symm; subst hwy; clear hwx)
        go_ret2
        rw [HE.out]
        exact ⟨rfl, HSR.out, HF.out, fun b hb => .inl hb⟩
      | cons x ys =>
        have HBY := hide (byte_any sp x ys bs wr HSR.out)
        have HUN := hide ((userR_next HN8.out x ys).symm.trans HU.out)
        have hx : x < 256 := HSR.out.byte x (by simp)
        unfold pf at HBY
        clear HU
        by_cases h240 : x < 240
        · have h240' : (x : Int) < 240 := by omega
          have hmod : Int.tmod (x : Int) 20 = ((x % 20 : Nat) : Int) := by rw [show (20 : Int) = ((20 : Nat) : Int) from rfl, ← Int.ofNat_tmod]
          have HLL := hide (let_lt x)
          have hr20 : x % 20 < 20 := Nat.mod_lt _ (by decide)
          have HUS : Hid (userS code x = code ++ [lets.getD (x % 20) 0]) := hide (by unfold userS; rw [if_pos h240])
          rw [HUS.out] at HUN
          have HLC : Hid (∀ W, Lets W → W.cell? ⟨0, x % 20, none⟩ = some (.int .u8 ((lets.getD (x % 20) 0 : Nat) : Int))) := hide fun W hW => hW _ hr20
          have hr21 : ((x % 20 : Nat) : Int) < 20 := by omega
          clear HUS h240 hx hr20
          generalize lets.getD (x % 20) 0 = d at *
          generalize x % 20 = r at *
          go_wp2_with (first
            | (go_at_call 16; refine HBY.out.mono ?_; rintro e w2 ⟨rfl, h2, k2⟩; have HS2 := hide h2; have HF2 := hide (HF.out.trans k2.fr (fun b hb => .inl hb)); have HO2 := hide (HO.out.fr k2.fr HLT.out); have l0 := HLC.out w2 (HT.out.fr HF2.out HG.out); clear h2 k2)
            | (at_builtin; refine wpList_append_bytes rfl _ _ rfl w.heap.size _ code rfl (HO2.out.alloc _) (some ⟨w2.heap.size, 0, none⟩) 1 1 [d] rfl rfl (row_one _ _) (by have := HN8.out; simp; omega) (by have := HF2.out.size; simp; omega) ?_))
          rintro v1 w3 hown1 hgr1
          have HF3 : Hid (Fr bs w w3) := hide (Fr.own (HO2.out.alloc _) hgr1 (HF2.out.trans (Fr.alloc [] _ _) (fun x hx => by cases hx)) (Nat.le_refl _))
          have HS3 : Hid (Src 49 w3 sp ys bs) := hide ((HS2.out.apart (Fr.alloc [] _ _) (fun _ _ e => by cases e)).apart (Fr.grown (fp := Value.ownBlock (.slice ao n c) |>.toList) hgr1 (fun j hj => by rw [hj]; simp)) (fun b hb e => by have h1 := HO2.out.ge b (by simpa using e); have h2 := HLT.out b hb; omega))
          obtain ⟨ao', c', rfl, -, -⟩ := hown1.read
          have HO3 := hide hown1
          obtain ⟨n', hn'⟩ : ∃ n', n' = (code ++ [d]).length := ⟨_, rfl⟩
          rw [← hn'] at HO3 ⊢
          have HN' := hide hn'
          have HLE : Hid (n' ≤ 8) := hide (by have := HN8.out; rw [hn', List.length_append]; simp; omega)
          clear hown1 hgr1 hn'
          go_wp2
          go_roundw
          case rel => exact ⟨n', c', ao', by first | exact rfl | trivial, HLE.out, hide ⟨code ++ [d], ys, HN'.out, HUN.out, HO3.out, HS3.out, HF3.out, lt_append HCB.out (fun y hy => by rw [List.mem_singleton.1 hy]; exact HLL.out)⟩⟩
          case measure => rw [HS3.out.leftN, HLN.out]; simp
        · have h240' : ¬ (x : Int) < 240 := by omega
          have HUS : Hid (userS code x = code) := hide (by unfold userS; rw [if_neg h240])
          rw [HUS.out] at HUN
          clear HUS h240 hx
          go_wp2_with (first
            | (go_at_call 16; refine HBY.out.mono ?_; rintro e w2 ⟨rfl, h2, k2⟩; have HS2 := hide h2; have HF2 := hide (HF.out.trans k2.fr (fun b hb => .inl hb)); have HO2 := hide (HO.out.fr k2.fr HLT.out); clear h2 k2))
          go_roundw
          case rel => exact ⟨n, c, ao, by first | exact rfl | trivial, by have := HN9.out; omega, hide ⟨code, ys, HNC.out, HUN.out, HO2.out, HS2.out, HF2.out, HCB.out⟩⟩
          case measure => rw [HS2.out.leftN, HLN.out]; simp
    · have hlt' : ¬ (n : Int) < 8 := by omega
      have HE := hide (HU.out.symm.trans (userR_done (by have := HNC.out; omega) ys))
      obtain ⟨ao', c', hv, -, hro⟩ := HO.out.read
      have hcv := conv_row c' hro
      rw [← hv] at hcv
      clear hn8 hlt hro hv HR
      go_wp2_with fail
      go_ret2
      rw [HE.out]
      exact ⟨rfl, HSR.out, HF.out, fun b hb => .inl hb⟩
end Go.Proofs.YtonnnolnkjahgabDoor
