/- drawn and the document's bytes, coded, User: codes of bytes that are drawn. -/
import Derived.Test.YtonnnolnkjahgabDoorCRefS
import Derived.Test.YtonnnolnkjahgabDoorCRefA
import Derived.Test.YtonnnolnkjahgabDoorCodesFn
namespace Go.Proofs.YtonnnolnkjahgabDoor
open Go.RowKit Go.Shelf

/-- The text, and the error, of so many bytes. -/
def drawT (n : Nat) (xs : List Nat) : List Nat := if n ≤ xs.length then b64of (xs.take n) else []
def drawE (n : Nat) (xs : List Nat) : Nat := if n ≤ xs.length then 0 else 90
theorem draw_ok {n : Nat} {xs : List Nat} (h : n ≤ xs.length) : drawT n xs = b64of (xs.take n) ∧ drawE n xs = 0 := by unfold drawT drawE; rw [if_pos h, if_pos h]; exact ⟨rfl, rfl⟩
theorem draw_dry {n : Nat} {xs : List Nat} (h : xs.length < n) : drawT n xs = [] ∧ drawE n xs = 90 ∧ xs.drop n = [] := by unfold drawT drawE; rw [if_neg (by omega), if_neg (by omega)]; exact ⟨rfl, rfl, List.drop_eq_nil_of_le (by omega)⟩
theorem drop_cons {xs ys : List Nat} {x i : Nat} (h : xs.drop i = x :: ys) : i < xs.length ∧ xs.take (i + 1) = xs.take i ++ [x] ∧ xs.drop (i + 1) = ys := by
  have hi : i < xs.length := by
    rcases Nat.lt_or_ge i xs.length with h2 | h2
    · exact h2
    · rw [List.drop_eq_nil_of_le h2] at h; cases h
  rw [drop_getD hi] at h
  injection h with h1 h2
  exact ⟨hi, by rw [stake_getD hi, h1], h2⟩
set_option maxHeartbeats 1000000 in
set_option maxRecDepth 100000 in
theorem drawn_any (sp n : Nat) (xs bs : List Nat) (w : World) (h : Src 49 w sp xs bs) (hn : n ≤ 64) :
    Calls Tryd.prog 25 #[pf sp, .int .i64 (n : Int)] w fun e w' => e = .returned (.tuple #[.string (bstr (drawT n xs)), .int .i64 ((drawE n xs : Nat) : Int)]) ∧ Src 49 w' sp (xs.drop n) bs ∧ Aft bs bs w w' := by
  have HS := hide h
  have HLT := hide (src_out h rfl)
  have HN := hide hn
  have HOK := hide (@draw_ok n xs)
  have HDRY := hide (@draw_dry n xs)
  have HB64 := hide base64_any
  generalize drawT n xs = DT at *
  generalize drawE n xs = DE at *
  clear h hn
  unfold pf
  go_enter Tryd.func25, Tryd.ntmps25
  go_wp2_with (first | (at_make; refine wpList_make_bytes rfl _ _ rfl .i64 .i64 _ _ 0 n rfl rfl rfl rfl (by omega) (by have := HN.out; omega) ?_) | fail)
  rintro w1 hb1 hbel1 hs1
  have HO1 : Hid (Own w1 w.heap.size (.slice (some ⟨w.heap.size, 0, none⟩) 0 n) []) := Blk.own (xs := []) (ys := List.replicate n 0) (n := 0) (c := n) hb1 rfl (by simp) (Nat.le_refl _) (by have := HN.out; unfold maxLen; omega)
  have HS1 := hide (HS.out.keep hbel1)
  have HF1 : Hid (Fr bs w w1) := hide (Fr.of hbel1)
  clear hb1 hbel1 hs1
  go_wp2
  go_loopw [6, 12] (fun v a wr => ∃ (i c : Nat) (ao : Option Addr), v = .slice ao i c ∧ a = .int .i64 (i : Int) ∧ i ≤ n ∧ Hid (i ≤ xs.length ∧ Own wr w.heap.size (.slice ao i c) (xs.take i) ∧ Src 49 wr sp (xs.drop i) bs ∧ Fr bs w wr)) (fun _ a _ => n - (intOf a).toNat)
  case atStart => exact ⟨0, n, _, rfl, rfl, by omega, hide ⟨by omega, HO1.out, HS1.out, HF1.out⟩⟩
  case round =>
    obtain ⟨i, c, ao, rfl, rfl, hi, hr⟩ := hrel
    obtain ⟨hil, ho, hsr, hf⟩ := hr.out
    have HO := hide ho
    have HSR := hide hsr
    have HF := hide hf
    have HIL := hide hil
    have hwri : IntKind.i64.wrap ((i : Int) + 1) = ((i + 1 : Nat) : Int) := by have := HN.out; rw [IntKind.wrap_i64]; omega
    clear hr ho hsr hf hil HO1 HS1 HF1
    by_cases hlt : i < n
    · have hlt' : (i : Int) < (n : Int) := by omega
      have HLT2 := hide hlt
      clear hi hlt
      cases hd : xs.drop i with
      | nil =>
        have hsr := HSR.out
        rw [hd] at hsr
        have HBY := hide (byteDry_any sp bs wr hsr)
        have HE := hide (HDRY.out (by have := HLT2.out; have := congrArg List.length hd; simp at this; omega))
        have HS2 := hide hsr
        unfold pf at HBY
        clear hsr hd
        go_wp2_with (go_at_call 16; refine HBY.out.mono ?_; rintro e wx ⟨rfl, hwx⟩; have hwy := hwx.symm; subst hwy; clear hwx)
        go_ret2
        obtain ⟨e1, e2, e3⟩ := HE.out
        rw [e1, e2, e3]
        exact ⟨rfl, HS2.out, HF.out, fun b hb => .inl hb⟩
      | cons x ys =>
        obtain ⟨hix, htk, hdr⟩ := drop_cons hd
        have hsr := HSR.out
        rw [hd] at hsr
        have HBY := hide (byte_any sp x ys bs wr hsr)
        have HTK := hide htk
        have HDR := hide hdr
        have HIX := hide hix
        have HTL : Hid ((xs.take i).length = i) := hide (by simp; omega)
        unfold pf at HBY
        clear hsr hd htk hdr hix
        generalize xs.take i = code at *
        go_wp2_with (first
          | (go_at_call 16; refine HBY.out.mono ?_; rintro e w2 ⟨rfl, h2, k2⟩; have HS2 := hide h2; have HF2 := hide (HF.out.trans k2.fr (fun b hb => .inl hb)); have HO2 := hide (HO.out.fr k2.fr HLT.out); clear h2 k2)
          | (at_builtin; refine wpList_append_bytes rfl _ _ rfl w.heap.size _ code rfl (HO2.out.alloc _) (some ⟨w2.heap.size, 0, none⟩) 1 1 [x] rfl rfl (row_one _ _) (by have := HTL.out; have := HLT2.out; have := HN.out; simp; omega) (by have := HF2.out.size; simp; omega) ?_))
        rintro v1 w3 hown1 hgr1
        have HF3 : Hid (Fr bs w w3) := hide (Fr.own (HO2.out.alloc _) hgr1 (HF2.out.trans (Fr.alloc [] _ _) (fun x hx => by cases hx)) (Nat.le_refl _))
        have HS3 : Hid (Src 49 w3 sp ys bs) := hide ((HS2.out.apart (Fr.alloc [] _ _) (fun _ _ e => by cases e)).apart (Fr.grown (fp := Value.ownBlock (.slice ao i c) |>.toList) hgr1 (fun j hj => by rw [hj]; simp)) (fun b hb e => by have h1 := HO2.out.ge b (by simpa using e); have h2 := HLT.out b hb; omega))
        obtain ⟨ao', c', rfl, -, -⟩ := hown1.read
        have HO3 := hide hown1
        have HL3 : Hid ((code ++ [x]).length = i + 1) := hide (by rw [List.length_append, HTL.out]; rfl)
        rw [HL3.out] at HO3 ⊢
        clear hown1 hgr1
        go_wp2
        go_roundw
        case rel => exact ⟨i + 1, c', ao', by first | exact rfl | trivial, by first | rfl | simp, HLT2.out, hide ⟨HIX.out, by rw [HTK.out]; exact HO3.out, by rw [HDR.out]; exact HS3.out, HF3.out⟩⟩
        case measure => have := HLT2.out; simp [intOf]; omega
    · have hlt' : ¬ (i : Int) < (n : Int) := by omega
      obtain rfl : i = n := by omega
      have HE := hide (HOK.out HIL.out)
      obtain ⟨ao', c', hv, hle, hro⟩ := HO.out.read
      have HTL : Hid (i = (xs.take i).length) := hide (by have := HIL.out; simp; omega)
      have HB := hide (HB64.out i c ao (xs.take i) wr (by have := HN.out; omega) HTL.out (lt_take HS.out.byte i) (by injection hv with h1 _ _; rw [h1]; exact hro))
      clear hi hlt hro hv hle
      go_wp2_with (go_at_call 32; refine HB.out.mono ?_; rintro e w2 ⟨rfl, h2⟩; have H2 := hide h2; clear h2)
      go_ret2
      obtain ⟨e1, e2⟩ := HE.out
      rw [e1, e2]
      exact ⟨rfl, HSR.out.keep H2.out, HF.out.trans (Fr.of (fp := []) H2.out) (fun x hx => by cases hx), fun b hb => .inl hb⟩
theorem device_any (sp : Nat) (xs bs : List Nat) (w : World) (h : Src 49 w sp xs bs) :
    Calls Tryd.prog 12 #[pf sp] w fun e w' => e = .returned (.tuple #[.string (bstr (drawT 32 xs)), .int .i64 ((drawE 32 xs : Nat) : Int)]) ∧ Src 49 w' sp (xs.drop 32) bs ∧ Aft bs bs w w' := by
  have HD := hide (drawn_any sp 32 xs bs w h (by omega))
  clear h
  unfold pf at *
  go_enter Tryd.func12, Tryd.ntmps12
  go_wp2_with (go_at_call 25; refine HD.out.mono ?_; rintro e w1 ⟨rfl, h1⟩; have H1 := hide h1; clear h1)
  go_ret2
  exact ⟨rfl, H1.out⟩
theorem auth_any (sp : Nat) (xs bs : List Nat) (w : World) (h : Src 49 w sp xs bs) :
    Calls Tryd.prog 13 #[pf sp] w fun e w' => e = .returned (.tuple #[.string (bstr (drawT 24 xs)), .int .i64 ((drawE 24 xs : Nat) : Int)]) ∧ Src 49 w' sp (xs.drop 24) bs ∧ Aft bs bs w w' := by
  have HD := hide (drawn_any sp 24 xs bs w h (by omega))
  clear h
  unfold pf at *
  go_enter Tryd.func13, Tryd.ntmps13
  go_wp2_with (go_at_call 25; refine HD.out.mono ?_; rintro e w1 ⟨rfl, h1⟩; have H1 := hide h1; clear h1)
  go_ret2
  exact ⟨rfl, H1.out⟩
end Go.Proofs.YtonnnolnkjahgabDoor
