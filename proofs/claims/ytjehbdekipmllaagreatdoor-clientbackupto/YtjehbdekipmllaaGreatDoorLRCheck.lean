/- The document's Check: every client. -/
import Derived.Test.YtjehbdekipmllaaGreatDoorLJoin
import Derived.BigQuiet
namespace Go.Proofs.YtjehbdekipmllaaGreatDoor
open Go.RowKit

def rbytesB (lo a b : Nat) (s : ByteArray) : Bool := allB lo s.data.toList && (decide (a ≤ s.size) && decide (s.size ≤ b))
set_option maxHeartbeats 400000 in
set_option maxRecDepth 100000 in
theorem rbytes_any (s : ByteArray) (f a b : Nat) (w : World) (hs : s.size ≤ 9223372036854775807) :
    Calls Tryz.prog 67 #[.string s, .int .u8 (f : Int), .int .u8 126, .int .i64 (a : Int), .int .i64 (b : Int)] w fun e w' => e = .returned (.bool (rbytesB f a b s)) ∧ w' = w := by
  obtain ⟨R, HR⟩ : ∃ R, Hid (R = rbytesB f a b s) := ⟨_, hide rfl⟩
  rw [← HR.out]
  go_enter Tryz.func67, Tryz.ntmps67
  go_wp2
  go_loop [11] (fun i => ∃ k : Nat, k ≤ s.size ∧ i = .int .i64 k ∧ Hid (allB f (s.data.toList.take k) = true)) (fun i => s.size - (intOf i).toNat)
  case atStart => exact ⟨0, Nat.zero_le _, rfl, rfl⟩
  case round =>
    obtain ⟨k, hk, rfl, HA⟩ := hrel
    by_cases hlt : k < s.size
    · have HS : Hid (allB f (s.data.toList.take (k + 1)) = (decide (f ≤ s[k].toNat) && decide (s[k].toNat ≤ 126))) := by
        show _ = _
        rw [take_byte s k hlt, allB_snoc, HA.out, Bool.true_and]
      by_cases h1 : s[k].toNat < f
      · have HF : Hid (R = false) := by show _ = _; rw [HR.out]; unfold rbytesB; rw [allB_bad (k := k + 1) (by rw [HS.out, decide_eq_false (by omega)]; rfl)]; rfl
        have h1i : (s[k].toNat : Int) < (f : Int) := by omega
        clear HS
        go_wp2
        go_ret
        exact ⟨by rw [HF.out]; rfl, rfl⟩
      · have h1i : (f : Int) ≤ (s[k].toNat : Int) := by omega
        by_cases h2 : 126 < s[k].toNat
        · have HF : Hid (R = false) := by show _ = _; rw [HR.out]; unfold rbytesB; rw [allB_bad (k := k + 1) (by rw [HS.out, decide_eq_false (p := s[k].toNat ≤ 126) (by omega), Bool.and_false])]; rfl
          have h2i : (126 : Int) < (s[k].toNat : Int) := by omega
          clear HS
          go_wp2
          go_ret
          exact ⟨by rw [HF.out]; rfl, rfl⟩
        · have HT : Hid (allB f (s.data.toList.take (k + 1)) = true) := by
            show _ = _
            rw [HS.out, decide_eq_true (by omega), decide_eq_true (by omega)]; rfl
          have h2i : (s[k].toNat : Int) ≤ 126 := by omega
          clear HS
          go_wp2
          go_round
          case rel => exact ⟨k + 1, by omega, by go_num, HT⟩
          case measure => simp [intOf]; omega
    · have HF : Hid (R = (decide (a ≤ s.size) && decide (s.size ≤ b))) := by
        show _ = _
        have := HA.out
        rw [List.take_of_length_le (by simp; omega)] at this
        rw [HR.out]; unfold rbytesB; rw [this, Bool.true_and]
      by_cases h1 : a ≤ s.size
      · have h1i : (a : Int) ≤ (s.size : Int) := by omega
        by_cases h2 : s.size ≤ b
        · have h2i : (s.size : Int) ≤ (b : Int) := by omega
          have HF2 : Hid (R = true) := by show _ = _; rw [HF.out, decide_eq_true h1, decide_eq_true h2]; rfl
          go_wp2
          go_ret
          exact ⟨by rw [HF2.out]; first | rfl | simp, rfl⟩
        · have h2i : (b : Int) < (s.size : Int) := by omega
          have HF2 : Hid (R = false) := by show _ = _; rw [HF.out, decide_eq_false h2, Bool.and_false]
          go_wp2
          go_ret
          exact ⟨by rw [HF2.out]; first | rfl | simp, rfl⟩
      · have h1i : (s.size : Int) < (a : Int) := by omega
        have HF2 : Hid (R = false) := by show _ = _; rw [HF.out, decide_eq_false h1]; rfl
        go_wp2
        go_ret
        exact ⟨by rw [HF2.out]; first | rfl | simp, rfl⟩
set_option maxHeartbeats 1000000 in
set_option maxRecDepth 100000 in
theorem rtexts_any (n m c d : Nat) (ao bo : Option Addr) (a b : List U) (w : World) (hn : n = a.length) (hm : m = b.length) (hl : n ≤ 140737488355328) (hx : SRow w ao a) (hy : SRow w bo b) :
    Calls Tryz.prog 66 #[.slice ao n c, .slice bo m d] w fun e w' => e = .returned (.bool (decide (a = b))) ∧ ∃ q, w' = w.drewN q := by
  have HN : Hid (n = a.length) := hn
  have HM : Hid (m = b.length) := hm
  have HX : Hid (SRow w ao a) := hx
  have HY : Hid (SRow w bo b) := hy
  obtain ⟨D, HD⟩ : ∃ D, Hid (D = decide (a = b)) := ⟨_, hide rfl⟩
  rw [← HD.out]
  by_cases hne : n = m
  · subst hne
    clear hx hy hn hm
    go_enter Tryz.func66, Tryz.ntmps66
    go_wp2
    go_loopw [5] (fun i wr => ∃ k : Nat, k ≤ n ∧ i = .int .i64 (k : Int) ∧ Hid (a.take k = b.take k) ∧ ∃ q, wr = w.drewN q) (fun i _ => n - (intOf i).toNat)
    case atStart => exact ⟨0, Nat.zero_le _, rfl, rfl, 0, rfl⟩
    case round =>
      obtain ⟨k, hk, rfl, HT, q, rfl⟩ := hrel
      by_cases hlt : k < n
      · obtain ⟨b1, o1, rfl⟩ := HX.out.form (by rw [← HN.out]; omega)
        obtain ⟨b2, o2, rfl⟩ := HY.out.form (by rw [← HM.out]; omega)
        obtain ⟨x, hxx⟩ : ∃ x, a[k]? = some x := ⟨_, List.getElem?_eq_getElem (by rw [← HN.out]; exact hlt)⟩
        obtain ⟨y, hyy⟩ : ∃ y, b[k]? = some y := ⟨_, List.getElem?_eq_getElem (by rw [← HM.out]; exact hlt)⟩
        obtain ⟨xb, HXB⟩ : ∃ xb : ByteArray, Hid (xb = ⟨x.toArray⟩) := ⟨_, hide rfl⟩
        obtain ⟨yb, HYB⟩ : ∃ yb : ByteArray, Hid (yb = ⟨y.toArray⟩) := ⟨_, hide rfl⟩
        have c0 : w.cell? ⟨b1, o1 + k, none⟩ = some (.string xb) := by rw [HXB.out]; exact HX.out.cell hxx
        have c1 : w.cell? ⟨b2, o2 + k, none⟩ = some (.string yb) := by rw [HYB.out]; exact HY.out.cell hyy
        have HXX := hide hxx
        have HYY := hide hyy
        have hit : (k : Int) < (n : Int) := by omega
        have hq : (xb.toList == yb.toList) = decide (x = y) := by
          rw [HXB.out, HYB.out, Lib.toList_data, Lib.toList_data, Bool.eq_iff_iff]; simp
        clear hxx hyy
        by_cases hxy : x = y
        · have hb : (xb.toList == yb.toList) = true := by rw [hq, decide_eq_true hxy]
          have hb2 : (xb.toList != yb.toList) = false := by rw [bne, hb]; rfl
          have HT2 : Hid (a.take (k + 1) = b.take (k + 1)) := by
            show _ = _
            rw [List.take_add_one, List.take_add_one, HT.out, HXX.out, HYY.out, hxy]
          clear hq hxy HT
          go_wp2
          go_quiet (fail)
          go_wp2
          go_roundw
          case rel => exact ⟨k + 1, by omega, by go_num, HT2, q + nq, by simp [World.drewN]⟩
          case measure => simp [intOf]; omega
        · have hb : (xb.toList == yb.toList) = false := by rw [hq, decide_eq_false hxy]
          have hb2 : (xb.toList != yb.toList) = true := by rw [bne, hb]; rfl
          have HDF : Hid (D = false) := by
            show _ = _
            rw [HD.out, decide_eq_false]
            intro h
            have := HXX.out
            rw [h, HYY.out] at this
            exact hxy (Option.some.inj this).symm
          clear hq HT
          go_wp2
          go_quiet (fail)
          go_wp2
          go_ret
          exact ⟨by rw [HDF.out]; rfl, q + nq, by simp [World.drewN]; omega⟩
      · have HDT : Hid (D = true) := by
          show _ = _
          have := HT.out
          rw [List.take_of_length_le (by rw [← HN.out]; omega), List.take_of_length_le (by rw [← HM.out]; omega)] at this
          rw [HD.out, decide_eq_true this]
        go_wp2
        go_ret
        exact ⟨by rw [HDT.out]; rfl, q, rfl⟩
  · have HDF : Hid (D = false) := by show _ = _; rw [HD.out, decide_eq_false]; intro h; apply hne; rw [hn, hm, h]
    have hni : ((n : Int) == (m : Int)) = false := by rw [beq_eq_false_iff_ne]; omega
    have hnj : ((n : Int) != (m : Int)) = true := by rw [bne_iff_ne]; omega
    clear hx hy hn hm
    go_enter Tryz.func66, Tryz.ntmps66
    go_wp2
    go_ret
    exact ⟨by rw [HDF.out]; rfl, 0, rfl⟩
def rurlB (pg : Bool) (url : ByteArray) : Bool := if pg then rbytesB 33 9 256 url && Lib.hasPrefix url.data.toList sHttps.data.toList else decide (url.size = 0)
theorem cut_prefix (s : ByteArray) : ((s.extract 0 8).toList == [104, 116, 116, 112, 115, 58, 47, 47]) = Lib.hasPrefix s.data.toList sHttps.data.toList := by
  rw [Lib.toList_data, Bool.eq_iff_iff]
  unfold Lib.hasPrefix
  rw [List.isPrefixOf_iff_prefix, List.prefix_iff_eq_take, beq_iff_eq]
  have e : (s.extract 0 8).data.toList = s.data.toList.take 8 := by simp
  rw [e]
  have hl : sHttps.data.toList.length = 8 := rfl
  rw [hl]
  exact ⟨fun h => h.symm, fun h => h.symm⟩
set_option maxHeartbeats 400000 in
set_option maxRecDepth 100000 in
theorem rurl_any (id secret url : ByteArray) (gr : Int) (pg : Bool) (so : Option Addr) (n cp : Nat) (w : World) (hs : url.size ≤ 9223372036854775807) :
    Calls Tryz.prog 68 #[.agg #[.string id, .string secret, .int .i64 gr, .bool pg, .string url, .slice so n cp]] w fun e w' => e = .returned (.bool (rurlB pg url)) ∧ Below w.heap.size w w' := by
  obtain ⟨B, HB⟩ : ∃ B, Hid (B = rbytesB 33 9 256 url) := ⟨_, hide rfl⟩
  have HC : ∀ w, Calls Tryz.prog 67 #[.string url, .int .u8 33, .int .u8 126, .int .i64 9, .int .i64 256] w fun e w' => e = .returned (.bool B) ∧ w' = w := by
    intro w; rw [HB.out]; exact rbytes_any url 33 9 256 w hs
  cases pg
  · by_cases h0 : url.size = 0
    · have HR : Hid (rurlB false url = true) := by show _ = _; unfold rurlB; rw [if_neg (by simp), decide_eq_true h0]
      have := empty_of h0
      subst this
      clear h0
      go_enter Tryz.func68, Tryz.ntmps68
      go_wp2
      go_ret
      exact ⟨by rw [HR.out]; rfl, below_new _ _⟩
    · have HR : Hid (rurlB false url = false) := by show _ = _; unfold rurlB; rw [if_neg (by simp), decide_eq_false h0]
      have hne := ne_of_size h0
      go_enter Tryz.func68, Tryz.ntmps68
      go_wp2
      go_ret
      exact ⟨by rw [HR.out]; rfl, below_new _ _⟩
  · cases B
    · have HR : Hid (rurlB true url = false) := by show _ = _; unfold rurlB; rw [if_pos rfl, ← HB.out]; rfl
      go_enter Tryz.func68, Tryz.ntmps68
      go_wp2_with (refine (HC _).mono ?_; rintro e w' ⟨rfl, rfl⟩)
      go_ret
      exact ⟨by rw [HR.out]; rfl, below_new _ _⟩
    · have h9 : 9 ≤ url.size := by
        have := HB.out
        unfold rbytesB at this
        simp at this
        omega
      have h8i : (8 : Int) ≤ (url.size : Int) := by omega
      obtain ⟨P, HP⟩ : ∃ P, Hid (P = Lib.hasPrefix url.data.toList sHttps.data.toList) := ⟨_, hide rfl⟩
      have hcut : ((url.extract 0 8).toList == [104, 116, 116, 112, 115, 58, 47, 47]) = P := by rw [HP.out]; exact cut_prefix url
      have HR : Hid (rurlB true url = P) := by show _ = _; unfold rurlB; rw [if_pos rfl, ← HB.out, HP.out]; rfl
      go_enter Tryz.func68, Tryz.ntmps68
      go_wp2_with (refine (HC _).mono ?_; rintro e w' ⟨rfl, rfl⟩)
      go_ret
      exact ⟨by rw [HR.out]; rfl, below_new _ _⟩
end Go.Proofs.YtjehbdekipmllaaGreatDoor
