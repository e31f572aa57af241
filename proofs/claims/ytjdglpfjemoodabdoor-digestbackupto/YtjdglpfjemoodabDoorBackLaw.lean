/- The walk of the law DigestBack: for every row of bytes and every text it returns true and turns nothing old; the table of roots is a condition. -/
import Derived.Test.YtjdglpfjemoodabDoorFromHexFn
import Derived.Test.YtjdglpfjemoodabDoorLive2
import Derived.Test.YtjdglpfjemoodabDoorSmallOwn
namespace Go.Proofs.YtjdglpfjemoodabDoor
open Go.RowKit

set_option maxHeartbeats 4000000 in
set_option maxRecDepth 100000 in
theorem digestBack_walk (n cap : Nat) (ao : Option Addr) (xs : List Nat) (s : ByteArray) (w : World) (hl : n ≤ 1048576) (hn : n = xs.length) (hx : ∀ x ∈ xs, x < 256) (hr : Row w ao xs) (hT : Roots w 0) :
    Calls Tryd.prog 4 #[.slice ao n cap, .string s] w fun e w' => e = .returned (.bool true) ∧ Below w.heap.size w w' := by
  have HN : Hid (n = xs.length) := hn
  have HX : Hid (∀ x ∈ xs, x < 256) := hx
  have HR : Hid (Row w ao xs) := hr
  have HT : Hid (Roots w 0) := hT
  obtain ⟨t1, ht1⟩ : ∃ t, t = bstr (b64of xs) := ⟨_, rfl⟩
  have HF1 : Hid (t1.size ≤ 65536 → fb64 (sbytes t1) = (xs, 0, 0)) := fun h => by
    have e : sbytes t1 = b64of xs := by rw [ht1]; exact sbytes_bstr (b64of_lt hx)
    rw [e]; exact fb64_b64of xs hx (by rw [← e, sbytes_length]; exact h)
  have HT1 : Hid (bstr (b64of xs) = t1) := ht1.symm
  obtain ⟨t2, ht2⟩ : ∃ t, t = bstr (hexOf xs) := ⟨_, rfl⟩
  have HF2 : Hid (t2.size ≤ 65536 → fhex (sbytes t2) = (xs, 0, 0)) := fun h => by
    have e : sbytes t2 = hexOf xs := by rw [ht2]; exact sbytes_bstr (hexOf_lt hx)
    rw [e]; exact fhex_hexOf xs hx (by rw [← e, sbytes_length]; exact h)
  have HT2 : Hid (bstr (hexOf xs) = t2) := ht2.symm
  have HF3 : Hid ((fb64 (sbytes s)).2.1 = 0 → bstr (b64of (fb64 (sbytes s)).1) = s ∧ ∀ x ∈ (fb64 (sbytes s)).1, x < 256) := fun h => by
    obtain ⟨_, h2, h3⟩ := fb64_one h
    exact ⟨by rw [h2, bstr_sbytes], h3⟩
  have HF4 : Hid ((fhex (sbytes s)).2.1 = 0 → bstr (hexOf (fhex (sbytes s)).1) = s ∧ ∀ x ∈ (fhex (sbytes s)).1, x < 256) := fun h => by
    obtain ⟨_, h2, h3⟩ := fhex_one h
    exact ⟨by rw [h2, bstr_sbytes], h3⟩
  have HL3 : Hid ((fb64 (sbytes s)).1.length ≤ 65536) := fb64_len _
  have HL4 : Hid ((fhex (sbytes s)).1.length ≤ 65536) := fhex_len _
  clear hx hr hT ht1 ht2 hn
  go_enter Tryd.func4, Tryd.ntmps4
  go_wp2_with (first | (at_builtin; refine wpList_append_bytes rfl _ _ rfl w.heap.size _ [] rfl (own_new w w.heap.size [] (Nat.le_refl _) (Nat.zero_le _)) ao _ cap xs HN.out rfl (HR.out.keep (below_new w _)) (by simp; rw [← HN.out]; omega) (by simp) ?_) | fail)
  rintro v1 w1 hown1 hgr1
  obtain ⟨ao1, c1, rfl, hc1, hr1, hb1⟩ := copied hown1 hgr1 HN.out
  have HB1 : Hid (Below w.heap.size w w1) := hb1
  have HR1 : Hid (Row w1 ao1 xs) := hr1
  have hs1 := HB1.out.size
  clear hown1 hgr1 hr1 hb1
  go_wp2_with fail
  refine (base64_any n c1 ao1 xs w1 (by omega) HN.out HX.out HR1.out).mono ?_
  rintro e w2 ⟨rfl, h2⟩
  rw [HT1.out]
  have HB2 : Hid (Below w.heap.size w w2) := HB1.out.trans (h2.mono hs1)
  have hs2 := HB2.out.size
  clear h2 HR1 HB1 hs1
  go_wp2_with fail
  refine (fromBase64_any t1 w2).mono ?_
  rintro e w3 ⟨ro, rn, rc, rfl, h3⟩
  have HB3 : Hid (Below w.heap.size w w3) := HB2.out.trans (h3.out.2.2.2.mono hs2)
  have hs3 := HB3.out.size
  have HO3 : Hid (t1.size ≤ 65536 → rn = n ∧ Row w3 ro xs ∧ (fb64 (sbytes t1)).2.1 = 0) := fun h => by
    have h3 := h3.out
    rw [HF1.out h] at h3 ⊢
    obtain ⟨a0, c0, e0, _, r0⟩ := h3.2.2.1.read
    cases e0
    exact ⟨HN.out.symm, r0, rfl⟩
  clear h3 HF1
  generalize (fb64 (sbytes t1)).2.1 = e1 at *
  generalize (fb64 (sbytes t1)).2.2 = p1 at *
  go_upto_region 3 with fail
  go_cut [32] (fun c wx => c = .bool false ∧ wx = w3)
  case first =>
    by_cases hle : t1.size ≤ 65536
    · obtain ⟨h1, h2, h3⟩ := HO3.out hle
      subst h1 h3
      have HR3 : Hid (Row w3 ro xs) := h2
      clear h2 HO3
      go_wp2_with (go_at_call 13; refine (num_any _ _).mono ?_; rintro e w11 ⟨rfl, rfl⟩)
      rw [HN.out]
      refine (same_any rc cap ro ao xs xs _ HR3.out (HR.out.keep HB3.out) HX.out HX.out).mono ?_
      rw [← HN.out]
      rintro e w11 ⟨rfl, rfl⟩
      simp only [decide_true]
      go_wp2
      go_meet
      case rel => exact ⟨rfl, rfl⟩
    · clear HO3
      go_wp2
      go_meet
      case rel => exact ⟨rfl, rfl⟩
  case rest =>
    obtain ⟨rfl, rfl⟩ := hcut
    go_wp2_with (first | (at_builtin; refine wpList_append_bytes rfl _ _ rfl wc.heap.size _ [] rfl (own_new wc wc.heap.size [] (Nat.le_refl _) (Nat.zero_le _)) ao _ cap xs HN.out rfl ((HR.out.keep HB3.out).keep (below_new wc _)) (by simp; rw [← HN.out]; omega) (by simp) ?_) | fail)
    rintro v4 w4 hown4 hgr4
    obtain ⟨ao4, c4, rfl, hc4, hr4, hb4⟩ := copied hown4 hgr4 HN.out
    have HB4 : Hid (Below w.heap.size w w4) := HB3.out.trans (hb4.mono hs3)
    have HR4 : Hid (Row w4 ao4 xs) := hr4
    have hs4 := HB4.out.size
    clear hown4 hgr4 hr4 hb4
    go_wp2_with fail
    refine (hex_any n c4 ao4 xs w4 (by omega) HN.out HX.out HR4.out).mono ?_
    rintro e w5 ⟨rfl, h5⟩
    rw [HT2.out]
    have HB5 : Hid (Below w.heap.size w w5) := HB4.out.trans (h5.mono hs4)
    have hs5 := HB5.out.size
    clear h5 HR4 HB4 hs4
    go_wp2_with fail
    refine (fromHex_any t2 w5).mono ?_
    rintro e w6 ⟨ro6, rn6, rc6, rfl, h6⟩
    have HB6 : Hid (Below w.heap.size w w6) := HB5.out.trans (h6.out.2.2.2.mono hs5)
    have hs6 := HB6.out.size
    have HO6 : Hid (t2.size ≤ 65536 → rn6 = n ∧ Row w6 ro6 xs ∧ (fhex (sbytes t2)).2.1 = 0) := fun h => by
      have h6 := h6.out
      rw [HF2.out h] at h6 ⊢
      obtain ⟨a0, c0, e0, _, r0⟩ := h6.2.2.1.read
      cases e0
      exact ⟨HN.out.symm, r0, rfl⟩
    clear h6 HF2
    generalize (fhex (sbytes t2)).2.1 = e2 at *
    generalize (fhex (sbytes t2)).2.2 = p2 at *
    go_upto_region 7 with fail
    go_cut [56] (fun c wx => c = .bool false ∧ wx = w6)
    case first =>
      by_cases hle : t2.size ≤ 65536
      · obtain ⟨h1, h2, h3⟩ := HO6.out hle
        subst h1 h3
        have HR6 : Hid (Row w6 ro6 xs) := h2
        clear h2 HO6
        go_wp2_with (go_at_call 13; refine (num_any _ _).mono ?_; rintro e w11 ⟨rfl, rfl⟩)
        rw [HN.out]
        refine (same_any rc6 cap ro6 ao xs xs _ HR6.out (HR.out.keep HB6.out) HX.out HX.out).mono ?_
        rw [← HN.out]
        rintro e w11 ⟨rfl, rfl⟩
        simp only [decide_true]
        go_wp2
        go_meet
        case rel => exact ⟨rfl, rfl⟩
      · clear HO6
        go_wp2
        go_meet
        case rel => exact ⟨rfl, rfl⟩
    case rest =>
      obtain ⟨rfl, rfl⟩ := hcut
      clear HO3 HO6
      go_wp2_with fail
      refine (fromBase64_any s wc).mono ?_
      rintro e w7 ⟨ro7, rn7, rc7, rfl, h7⟩
      have HB7 : Hid (Below w.heap.size w w7) := HB6.out.trans (h7.out.2.2.2.mono hs6)
      have hs7 := HB7.out.size
      obtain ⟨a7, e7⟩ : ∃ a, a = (fb64 (sbytes s)).1 := ⟨_, rfl⟩
      rw [← e7] at HF3 HL3 h7
      have HR7 : Hid (rn7 = a7.length ∧ Row w7 ro7 a7) := by
        obtain ⟨a0, c0, e0, _, r0⟩ := h7.out.2.2.1.read
        cases e0
        exact ⟨rfl, r0⟩
      clear h7 e7
      generalize (fb64 (sbytes s)).2.1 = e3 at *
      generalize (fb64 (sbytes s)).2.2 = p3 at *
      go_upto_region 10 with fail
      go_cut [71] (fun c wx => c = .bool false ∧ Hid (Below w7.heap.size w7 wx))
      case first =>
        by_cases he : e3 = 0
        · subst he
          obtain ⟨hF, hFx⟩ := HF3.out rfl
          have HF : Hid (bstr (b64of a7) = s) := hF
          have HFX : Hid (∀ x ∈ a7, x < 256) := hFx
          have hrl : rn7 ≤ 65536 := by rw [HR7.out.1]; exact HL3.out
          clear hF hFx HF3
          go_wp2_with (go_at_call 13; refine (num_any _ _).mono ?_; rintro e w11 ⟨rfl, rfl⟩)
          refine (base64_any rn7 rc7 ro7 a7 _ (by omega) HR7.out.1 HFX.out HR7.out.2).mono ?_
          rintro e w11 ⟨rfl, h11⟩
          rw [HF.out]
          go_wp2
          go_meet
          case rel => exact ⟨rfl, h11⟩
        · have hei : ((e3 : Int) == 0) = false := by rw [beq_eq_false_iff_ne]; omega
          clear HF3
          go_wp2_with (go_at_call 13; refine (num_any _ _).mono ?_; rintro e w11 ⟨rfl, rfl⟩)
          go_meet
          case rel => exact ⟨rfl, Below.refl _ _⟩
      case rest =>
        obtain ⟨rfl, hL8⟩ := hcut
        have HB8 : Hid (Below w.heap.size w wc) := HB7.out.trans (hL8.out.mono hs7)
        have hs8 := HB8.out.size
        clear hL8 HF3 HL3 HR7
        go_wp2_with fail
        refine (fromHex_any s wc).mono ?_
        rintro e w9 ⟨ro9, rn9, rc9, rfl, h9⟩
        have HB9 : Hid (Below w.heap.size w w9) := HB8.out.trans (h9.out.2.2.2.mono hs8)
        have hs9 := HB9.out.size
        obtain ⟨a9, e9⟩ : ∃ a, a = (fhex (sbytes s)).1 := ⟨_, rfl⟩
        rw [← e9] at HF4 HL4 h9
        have HR9 : Hid (rn9 = a9.length ∧ Row w9 ro9 a9) := by
          obtain ⟨a0, c0, e0, _, r0⟩ := h9.out.2.2.1.read
          cases e0
          exact ⟨rfl, r0⟩
        clear h9 e9
        generalize (fhex (sbytes s)).2.1 = e4 at *
        generalize (fhex (sbytes s)).2.2 = p4 at *
        go_wp2_with fail
        refine (live_true w9 (HT.out.keep HB9.out)).mono ?_
        rintro e w10 ⟨rfl, h10⟩
        have HB10 : Hid (Below w.heap.size w w10) := HB9.out.trans (h10.mono hs9)
        have hs10 := HB10.out.size
        have HR10 : Hid (Row w10 ro9 a9) := HR9.out.2.keep h10
        clear h10
        by_cases he : e4 = 0
        · subst he
          obtain ⟨hF, hFx⟩ := HF4.out rfl
          have HF : Hid (bstr (hexOf a9) = s) := hF
          have HFX : Hid (∀ x ∈ a9, x < 256) := hFx
          have hrl : rn9 ≤ 65536 := by rw [HR9.out.1]; exact HL4.out
          clear hF hFx HF4
          go_wp2_with (go_at_call 13; refine (num_any _ _).mono ?_; rintro e w11 ⟨rfl, rfl⟩)
          refine (hex_any rn9 rc9 ro9 a9 _ (by omega) HR9.out.1 HFX.out HR10.out).mono ?_
          rintro e w11 ⟨rfl, h11⟩
          rw [HF.out]
          go_wp2
          go_ret
          exact ⟨rfl, HB10.out.trans (h11.mono hs10)⟩
        · have hei : ((e4 : Int) != 0) = true := by rw [bne_iff_ne]; omega
          have hei2 : ((e4 : Int) == 0) = false := by rw [beq_eq_false_iff_ne]; omega
          clear HF4
          go_wp2_with (go_at_call 13; refine (num_any _ _).mono ?_; rintro e w11 ⟨rfl, rfl⟩)
          go_ret
          exact ⟨rfl, HB10.out⟩
end Go.Proofs.YtjdglpfjemoodabDoor
