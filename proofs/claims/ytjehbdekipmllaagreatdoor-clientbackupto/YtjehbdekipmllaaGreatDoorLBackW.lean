/- The walk of the law ClientBack: every list of clients and every text: true, and nothing old turns. -/
import Derived.Test.YtjehbdekipmllaaGreatDoorLBackN
import Derived.Test.YtjehbdekipmllaaGreatDoorLLive
namespace Go.Proofs.YtjehbdekipmllaaGreatDoor
open Go.RowKit

theorem COwn.rowB {w : World} {B n c : Nat} {ao : Option Addr} {l : List Cl} (h : COwn w B (.slice ao n c) l) : CRow w ao l := by
  obtain ⟨a, c', e, _, hr, _⟩ := h.shape
  cases e
  exact hr
theorem DOwn.rowB {w : World} {B n c : Nat} {ao : Option Addr} {l : List Cl} (h : DOwn w B (.slice ao n c) l) : CRow w ao l := by
  obtain ⟨a, c', e, _, hr, _⟩ := h.shape
  cases e
  exact hr
theorem clParse_b (s : ByteArray) (L : List Cl) (er ln n : Nat) (w : World) (hR : parR s.data.toList = (L, er, ln)) (hn : n = L.length) (hM : MaxL w) :
    Calls Tryz.prog 6 #[.string s] w fun e w' => ∃ fo fc, e = .returned (.tuple #[.slice fo n fc, .int .i64 (er : Int), .int .i64 (ln : Int)]) ∧ Hid (CRow w' fo L ∧ Below w.heap.size w w') := by
  have h := clParse_any s w hM
  rw [hR] at h
  refine h.mono ?_
  rintro e w' ⟨-, v, rfl, ho, hb⟩
  obtain ⟨fo, fc, rfl, _, hr, _⟩ := ho.own.shape
  exact ⟨fo, fc, by rw [hn], hr, hb⟩
set_option linter.unusedSimpArgs false in
set_option maxHeartbeats 8000000 in
set_option maxRecDepth 100000 in
theorem clientBack_walk (n c : Nat) (ao : Option Addr) (L : List Cl) (s : ByteArray) (w : World) (hn : n = L.length) (hl : n ≤ 1048576) (hr : CRow0 w ao L) (hz : ∀ c ∈ L, ClBd c) (hM : MaxL w) (hG : NG w) :
    Calls Tryz.prog 5 #[.slice ao n c, .string s] w fun e w' => e = .returned (.bool true) ∧ Below w.heap.size w w' := by
  have HN := hide hn
  have HR : Hid (CRow0 w ao L) := hr
  have HM := hide hM
  have HG := hide hG
  have HZ16 : Hid (∀ c ∈ L, c.scopes.length * 16 ≤ 140737488355328) := fun c hc => by have := (hz c hc).2.2.2.1; omega
  have HZL : Hid (∀ c ∈ L, c.scopes.length ≤ 140737488355328) := fun c hc => by have := (hz c hc).2.2.2.1; omega
  have HC := hide (lcopied_any n c ao L w hn (by omega) HZ16.out hr)
  have hP := print_two L
  have HPR : Hid (∀ (n c : Nat) (ao : Option Addr) (W : World), n = L.length → n ≤ 1099511627776 → CRow W ao L → MaxL W → NG W → Calls Tryz.prog 13 #[.slice ao n c] W fun e w' => e = .returned (.tuple #[.string (bstr (printR L).1), .int .i64 ((printR L).2 : Int)]) ∧ Below W.heap.size W w') := fun n c ao W h1 h2 h3 h4 h5 => clPrint_any n c ao L W h1 h2 hz h3 h4 h5
  generalize printR L = P at *
  obtain ⟨T0, er⟩ := P
  simp only at hP HPR
  obtain ⟨K, g, ln, hK⟩ : ∃ K g ln, parR s.data.toList = (K, g, ln) := ⟨_, _, _, rfl⟩
  obtain ⟨n2, hn2⟩ : ∃ n2, n2 = K.length := ⟨_, rfl⟩
  have hgood := par_good s.data.toList
  rw [hK] at hgood
  have HGD : Hid ((g = 0 → faultR K = 0 ∧ (∀ c ∈ K, checkB c = true) ∧ K.length ≤ 256) ∧ (g ≠ 0 → K = [])) := hgood
  have HN2 := hide hn2
  have HPS : Hid (∀ W, MaxL W → Calls Tryz.prog 6 #[.string s] W fun e w' => ∃ fo fc, e = .returned (.tuple #[.slice fo n2 fc, .int .i64 (g : Int), .int .i64 (ln : Int)]) ∧ Hid (CRow w' fo K ∧ Below W.heap.size W w')) := fun W hW => clParse_b s K g ln n2 W hK hn2 hW
  clear hn hr hM hG hz hK hn2 hgood
  go_enter Tryz.func5, Tryz.ntmps5
  go_wp2_with fail
  refine HC.out.mono ?_
  rintro e w1 ⟨-, fo, fc, rfl, hown, hb1⟩
  have HB1 := hide hb1
  have hs1 := hb1.size
  have HP1 := hide (HPR.out n fc fo w1 HN.out (by omega) hown.rowB (HM.out.keep hb1) (HG.out.keep hb1))
  clear hown hb1 HC HPR
  go_wp2_with fail
  refine HP1.out.mono ?_
  rintro e w2 ⟨rfl, hb2⟩
  have HB2 := hide (HB1.out.trans (hb2.mono hs1))
  have hs2 := HB2.out.size
  clear hb2 HP1 HB1
  rcases hP with ⟨h0, hback⟩ | ⟨h0, hemp⟩
  case' inl =>
    subst h0
    have HPB := hide (clParse_b (bstr T0) L 0 0 n w2 hback HN.out (HM.out.keep HB2.out))
    generalize bstr T0 = T at *
    clear hback
    go_wp2_with (first | (go_at_call 8; refine (num_any _ _).mono ?_; rintro e wx ⟨rfl, hwx⟩; have hwy := hwx.symm; subst hwy; clear hwx) | fail)
    refine HPB.out.mono ?_
    rintro e w3 ⟨o3, c3, rfl, H3⟩
    have HB3 := hide (HB2.out.trans (H3.out.2.mono hs2))
    have hs3 := HB3.out.size
    have HR3 := hide H3.out.1
    have HAL := hide (all_any n c ao L w3 HN.out (by omega) HZ16.out (HR.out.keep HB3.out))
    clear H3 HPB
    go_wp2_with (first | (go_at_call 8; refine (num_any _ _).mono ?_; rintro e wx ⟨rfl, hwx⟩; have hwy := hwx.symm; subst hwy; clear hwx) | fail)
    refine HAL.out.mono ?_
    rintro e w4 ⟨-, o4, c4, rfl, hdown, hb4⟩
    have HB4 := hide (HB3.out.trans (hb4.mono hs3))
    have hs4 := HB4.out.size
    have HLT := hide (list_true n c3 c4 o3 o4 L w4 HN.out (by omega) HZL.out (HR3.out.keep hb4) hdown.rowB)
    clear hdown hb4 HAL HR3
    go_wp2_with fail
    refine HLT.out.mono ?_
    rintro e w5 ⟨rfl, hb5⟩
    have HBQ := hide (HB4.out.trans (hb5.mono hs4))
    clear hb5 HLT HB4 HB3 HB2 hs2 hs3 hs4
    go_wp2_with fail
    generalize w5 = wq at *
  case' inr =>
    subst hemp
    have h0i : ((er : Int) == 0) = false := by simp; omega
    have h0n : ¬ (er : Int) = 0 := by omega
    have hbe : bstr [] = { data := #[] } := rfl
    rw [hbe]
    have HBQ := HB2
    clear HB2 hs2 hbe
    go_wp2_with (first | (go_at_call 8; refine (num_any _ _).mono ?_; rintro e wx ⟨rfl, hwx⟩; have hwy := hwx.symm; subst hwy; clear hwx) | fail)
    generalize w2 = wq at *
  all_goals
    have hsq := HBQ.out.size
    refine (HPS.out wq (HM.out.keep HBQ.out)).mono ?_
    rintro e w8 ⟨o8, c8, rfl, H8⟩
    have HB8 := hide (HBQ.out.trans (H8.out.2.mono hsq))
    have hs8 := HB8.out.size
    have HR8 := hide H8.out.1
    clear H8 HBQ hsq HPS
    by_cases hg : g = 0
    · subst hg
      obtain ⟨hf, hck, h256⟩ := HGD.out.1 rfl
      have HCK : Hid (∀ c ∈ K, checkB c = true) := hck
      have hn2 : n2 ≤ 256 := by rw [HN2.out]; exact h256
      have HK16 : Hid (∀ c ∈ K, c.scopes.length * 16 ≤ 140737488355328) := fun c hc => by have := (clok (hck c hc)).few; omega
      have HKL : Hid (∀ c ∈ K, c.scopes.length ≤ 140737488355328) := fun c hc => by have := (clok (hck c hc)).few; omega
      have HC2 := hide (lcopied_any n2 c8 o8 K w8 HN2.out (by omega) HK16.out HR8.out.to0)
      have hP2 := print_ok hf
      have HBK : Hid (faultR K = 0) := hf
      clear hf hck h256 HGD
      go_wp2_with (first | (go_at_call 8; refine (num_any _ _).mono ?_; rintro e wx ⟨rfl, hwx⟩; have hwy := hwx.symm; subst hwy; clear hwx) | fail)
      refine HC2.out.mono ?_
      rintro e w9 ⟨-, o9, c9, rfl, hown9, hb9⟩
      have HB9 := hide (HB8.out.trans (hb9.mono hs8))
      have hs9 := HB9.out.size
      have HR9 := hide (HR8.out.keep hb9)
      have HP2 := hide (clPrint_any n2 c9 o9 K w9 HN2.out (by omega) (fun c hc => ok_bd (HCK.out c hc)) hown9.rowB (HM.out.keep HB9.out) (HG.out.keep HB9.out))
      clear hown9 hb9 HC2 HR8
      go_wp2_with fail
      refine HP2.out.mono ?_
      rintro e w10 ⟨rfl, hb10⟩
      have HB10 := hide (HB9.out.trans (hb10.mono hs9))
      have hs10 := HB10.out.size
      have HR10 := hide (HR9.out.keep hb10)
      clear hb10 HP2 HR9 HB9 HB8
      rcases hP2 with ⟨q1, q2, q3⟩ | q
      · rw [q1, q2]
        have HPB := hide (clParse_b (bstr (textR K)) K 0 0 n2 w10 (print_back HBK.out q3) HN2.out (HM.out.keep HB10.out))
        generalize bstr (textR K) = T2 at *
        clear q1 q2 q3 HBK HCK
        go_wp2_with (first | (go_at_call 8; refine (num_any _ _).mono ?_; rintro e wx ⟨rfl, hwx⟩; have hwy := hwx.symm; subst hwy; clear hwx) | fail)
        refine HPB.out.mono ?_
        rintro e w11 ⟨o11, c11, rfl, H11⟩
        have HB11 := hide (HB10.out.trans (H11.out.2.mono hs10))
        have hs11 := HB11.out.size
        have HR11 := hide H11.out.1
        have HAL2 := hide (all_any n2 c8 o8 K w11 HN2.out (by omega) HK16.out (HR10.out.keep H11.out.2).to0)
        clear H11 HPB HR10
        go_wp2_with (first | (go_at_call 8; refine (num_any _ _).mono ?_; rintro e wx ⟨rfl, hwx⟩; have hwy := hwx.symm; subst hwy; clear hwx) | fail)
        refine HAL2.out.mono ?_
        rintro e w12 ⟨-, o12, c12, rfl, hdown12, hb12⟩
        have HB12 := hide (HB11.out.trans (hb12.mono hs11))
        have hs12 := HB12.out.size
        have HLT2 := hide (list_true n2 c11 c12 o11 o12 K w12 HN2.out (by omega) HKL.out (HR11.out.keep hb12) hdown12.rowB)
        clear hdown12 hb12 HAL2 HR11
        go_wp2_with fail
        refine HLT2.out.mono ?_
        rintro e w13 ⟨rfl, hb13⟩
        have HB13 := hide (HB12.out.trans (hb13.mono hs12))
        have hs13 := HB13.out.size
        have HLV := hide (live_true w13 (HM.out.keep HB13.out))
        clear hb13 HLT2
        go_wp2_with fail
        refine HLV.out.mono ?_
        rintro e w14 ⟨rfl, hb14⟩
        have HB14 := hide (HB13.out.trans (hb14.mono hs13))
        clear hb14 HLV
        go_wp2
        go_ret
        exact ⟨rfl, HB14.out⟩
      · rw [q]
        have hbe2 : bstr (([], 1) : List Nat × Nat).1 = { data := #[] } := rfl
        have hbe3 : (((([], 1) : List Nat × Nat).2 : Nat) : Int) = 1 := rfl
        rw [hbe2, hbe3]
        have HLV := hide (live_true w10 (HM.out.keep HB10.out))
        clear q hbe2 hbe3
        go_wp2_with (first | (go_at_call 8; refine (num_any _ _).mono ?_; rintro e wx ⟨rfl, hwx⟩; have hwy := hwx.symm; subst hwy; clear hwx) | fail)
        refine HLV.out.mono ?_
        rintro e w14 ⟨rfl, hb14⟩
        have HB14 := hide (HB10.out.trans (hb14.mono hs10))
        clear hb14 HLV
        go_wp2
        go_ret
        exact ⟨rfl, HB14.out⟩
    · have hK0 := HGD.out.2 hg
      have hn0 : n2 = 0 := by rw [HN2.out, hK0]; rfl
      subst hn0
      have hgi : ((g : Int) == 0) = false := by simp; omega
      have hgn : ((g : Int) != 0) = true := by rw [bne, hgi]; rfl
      have HLV := hide (live_true w8 (HM.out.keep HB8.out))
      clear hg hK0 HGD
      go_wp2_with (first | (go_at_call 8; refine (num_any _ _).mono ?_; rintro e wx ⟨rfl, hwx⟩; have hwy := hwx.symm; subst hwy; clear hwx) | fail)
      refine HLV.out.mono ?_
      rintro e w14 ⟨rfl, hb14⟩
      have HB14 := hide (HB8.out.trans (hb14.mono hs8))
      clear hb14 HLV
      go_wp2
      go_ret
      exact ⟨rfl, HB14.out⟩
end Go.Proofs.YtjehbdekipmllaaGreatDoor
