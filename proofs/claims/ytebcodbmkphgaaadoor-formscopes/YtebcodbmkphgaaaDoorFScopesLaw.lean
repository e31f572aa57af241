/- The walk of the law FormScopes: every text: true, and nothing old turns. -/
import Derived.Test.YtebcodbmkphgaaaDoorLiveFn
import Derived.Test.YtebcodbmkphgaaaDoorScopesRef
import Derived.Test.YtebcodbmkphgaaaDoorPairsFn
import Derived.Test.YtebcodbmkphgaaaDoorFrameUp
namespace Go.Proofs.YtebcodbmkphgaaaDoor
open Go.RowKit

theorem scoOut_len (t : U) : (scoOut t).1.length ≤ 32 := by
  unfold scoOut
  split
  · simp
  · split
    · simp
    · split
      · split
        · simp
        · simp; omega
      · simp
theorem scopes_m (s : ByteArray) (l : List U) (er m : Nat) (w : World) (hO : scoOut s.data.toList = (l, er)) (hm : m = l.length) (hsz : s.size ≤ 9223372036854775807) (hM : MaxL w) :
    Calls Tryd.prog 21 #[.string s] w fun e w' => ∃ fo fc, e = .returned (.tuple #[.slice fo m fc, .int .i64 (er : Int)]) ∧ Hid (SOwn w' w.heap.size (.slice fo m fc) l ∧ Below w.heap.size w w') := by
  subst hm
  refine (scopes_any s w hsz hM).mono ?_
  rintro e w' ⟨v, rfl, h⟩
  rw [hO] at h ⊢
  obtain ⟨fo, fc, rfl, _⟩ := h.out.1.shape
  exact ⟨fo, fc, rfl, h⟩
theorem refScopes_m (s : ByteArray) (l : List U) (er m : Nat) (w : World) (hO : scoOut s.data.toList = (l, er)) (hm : m = l.length) (hsz : s.size ≤ 9223372036854775807) :
    Calls Tryd.prog 22 #[.string s] w fun e w' => ∃ fo fc, e = .returned (.tuple #[.slice fo m fc, .int .i64 (er : Int)]) ∧ Hid (SOwn w' w.heap.size (.slice fo m fc) l ∧ Below w.heap.size w w') := by
  subst hm
  refine (refScopes_any s w hsz).mono ?_
  rintro e w' ⟨v, rfl, h⟩
  rw [hO] at h ⊢
  obtain ⟨fo, fc, rfl, _⟩ := h.out.1.shape
  exact ⟨fo, fc, rfl, h⟩
theorem SOwn.row {w : World} {B n c : Nat} {ao : Option Addr} {l : List U} (h : SOwn w B (.slice ao n c) l) : SRow w ao l := by
  obtain ⟨a, c', e, _, hr, _⟩ := h.shape
  cases e
  exact hr
/-- The first k written over. -/
def overU (k : Nat) (q : U) (l : List U) : List U := List.replicate k q ++ l.drop k
theorem overU_zero (q : U) (l : List U) : overU 0 q l = l := by simp [overU]
theorem overU_len {k : Nat} (q : U) {l : List U} (h : k ≤ l.length) : (overU k q l).length = l.length := by simp [overU]; omega
theorem overU_set {k : Nat} (q : U) {l : List U} (h : k < l.length) : (overU k q l).set k q = overU (k + 1) q l := by
  unfold overU
  rw [List.set_append_right _ _ (by simp), List.length_replicate, Nat.sub_self, List.drop_eq_getElem_cons h, List.set_cons_zero, List.replicate_succ', List.append_assoc]
  rfl

set_option linter.unusedSimpArgs false in
set_option maxHeartbeats 1600000 in
set_option maxRecDepth 100000 in
theorem formScopes_walk (s : ByteArray) (w : World) (hl : s.size ≤ 9223372036854775807) (hM : MaxL w) :
    Calls Tryd.prog 7 #[.string s] w fun e w' => e = .returned (.bool true) ∧ Below w.heap.size w w' := by
  have HM : Hid (MaxL w) := hM
  have HL : Hid (s.size ≤ 9223372036854775807) := hl
  obtain ⟨l, er, HO⟩ : ∃ l er, Hid (scoOut s.data.toList = (l, er)) := ⟨_, _, rfl⟩
  obtain ⟨m, hm⟩ : ∃ m, m = l.length := ⟨_, rfl⟩
  have HML : Hid (m = l.length) := hm
  have hml : m ≤ 32 := by have := scoOut_len s.data.toList; rw [HO.out] at this; rw [hm]; exact this
  have he0 : (((er : Nat) : Int) != ((er : Nat) : Int)) = false := by simp
  obtain ⟨i0, hi, hz0, hz1, hz2⟩ := info_parts infoStr
  clear hM hl hm
  go_enter Tryd.func7, Tryd.ntmps7
  go_wp2_with fail
  refine (scopes_m s l er m w HO.out HML.out HL.out HM.out).mono ?_
  rintro e w1 ⟨f1, c1, rfl, h1⟩
  have HP1 : Hid (SOwn w1 w.heap.size (.slice f1 m c1) l) := h1.out.1
  have HB1 : Hid (Below w.heap.size w w1) := h1.out.2
  have hs1 := HB1.out.size
  clear h1
  go_wp2_with fail
  refine (scopes_m s l er m w1 HO.out HML.out HL.out (HM.out.keep HB1.out)).mono ?_
  rintro e w2 ⟨f2, c2, rfl, h2⟩
  have HP2 : Hid (SOwn w2 w1.heap.size (.slice f2 m c2) l) := h2.out.1
  have HB12 : Hid (Below w1.heap.size w1 w2) := h2.out.2
  have hs2 := HB12.out.size
  clear h2
  go_wp2_with fail
  refine (refScopes_m s l er m w2 HO.out HML.out HL.out).mono ?_
  rintro e w4 ⟨f4, c4, rfl, h4⟩
  have HP4 : Hid (SOwn w4 w2.heap.size (.slice f4 m c4) l) := h4.out.1
  have HB24 : Hid (Below w2.heap.size w2 w4) := h4.out.2
  have hs4 := HB24.out.size
  have HB14 : Hid (Below w1.heap.size w1 w4) := HB12.out.trans (HB24.out.mono hs2)
  have HP14 : Hid (SOwn w4 w.heap.size (.slice f1 m c1) l) := HP1.out.keep HB14.out
  have HP24 : Hid (SOwn w4 w1.heap.size (.slice f2 m c2) l) := HP2.out.keep HB24.out
  have HG1 : Hid (∀ g, (Value.slice f1 m c1).ownBlock = some g → g < w1.heap.size) := HP1.out.lt
  have HB4 : Hid (Below w.heap.size w w4) := HB1.out.trans (HB14.out.mono hs1)
  clear h4 HP1 HP2 HB12 HB24
  go_wp2_with (go_at_call 8; refine (num_any _ _).mono ?_; rintro e wn ⟨rfl, rfl⟩)
  refine (texts_true m c1 c4 f1 f4 l _ HML.out (by omega) (by exact HP14.out.row) (by exact HP4.out.row)).mono ?_
  rintro e w5 ⟨rfl, k5, rfl⟩
  go_wp2_with fail
  refine (texts_true m c2 c4 f2 f4 l _ HML.out (by omega) (by exact HP24.out.row) (by exact HP4.out.row)).mono ?_
  rintro e w6 ⟨rfl, k6, hw6⟩
  have HX6 : Hid (SOwn w6 w.heap.size (.slice f1 m c1) (overU 0 [63] l) ∧ Below w.heap.size w w6 ∧ Upper w1.heap.size w6 w6) := by
    refine ⟨?_, ?_, Upper.refl _ _⟩
    · rw [overU_zero, hw6]; exact HP14.out
    · rw [hw6]; exact below_drewN (below_drewN HB4.out _) _
  have HP26 : Hid (SOwn w6 w1.heap.size (.slice f2 m c2) l) := by rw [hw6]; exact HP24.out
  have HP46 : Hid (SOwn w6 w2.heap.size (.slice f4 m c4) l) := by rw [hw6]; exact HP4.out
  have hs6 : w2.heap.size ≤ w6.heap.size := by rw [hw6]; exact hs4
  clear hw6 HP14 HP24 HP4 HB14 HB4
  go_wp2
  go_loopw [9] (fun i wr => ∃ k : Nat, k ≤ m ∧ i = .int .i64 k ∧ Hid (SOwn wr w.heap.size (.slice f1 m c1) (overU k [63] l) ∧ Below w.heap.size w wr ∧ Upper w1.heap.size w6 wr)) (fun i _ => m - (intOf i).toNat)
  case atStart => exact ⟨0, Nat.zero_le _, rfl, HX6⟩
  case round =>
    clear HX6
    obtain ⟨k, hk, rfl, HX⟩ := hrel
    by_cases hlt : k < m
    · have hol : (overU k [63] l).length = m := by rw [overU_len _ (by rw [← HML.out]; exact hk)]; exact HML.out.symm
      obtain ⟨g, cap, cur, e, hg, hh, _, _, _, _⟩ := HX.out.1.here (by rw [hol]; omega)
      rw [hol] at e
      cases e
      obtain ⟨q, hq⟩ : ∃ q, (overU k [63] l)[k]? = some q := ⟨_, List.getElem?_eq_getElem (by rw [hol]; exact hlt)⟩
      have hcc := HX.out.1.row.cell hq
      rw [Nat.zero_add] at hcc
      have d0 : wr.cell? ⟨g, k, none⟩ = some (.string ⟨q.toArray⟩) := hcc
      have g0 : wr.frozen? ⟨g, k, none⟩ = false := by simp [World.frozen?, hh]
      have HGL : Hid (g < w1.heap.size ∧ w.heap.size ≤ g) := ⟨HG1.out g rfl, hg⟩
      have HX2 : Hid (SOwn (wr.setCell ⟨g, k, none⟩ (.string { data := #[63] })) w.heap.size (.slice (some ⟨g, 0, none⟩) m c1) (overU (k + 1) [63] l) ∧ Below w.heap.size w (wr.setCell ⟨g, k, none⟩ (.string { data := #[63] })) ∧ Upper w1.heap.size w6 (wr.setCell ⟨g, k, none⟩ (.string { data := #[63] }))) := by
        refine ⟨?_, HX.out.2.1.setCell hg _, HX.out.2.2.setCell HGL.out.1 _⟩
        have h := SOwn.put (by rw [hol]) HX.out.1 (k := k) (by rw [hol]; exact hlt) [63]
        rw [overU_set _ (by rw [← HML.out]; exact hlt)] at h
        exact h
      clear hcc hq hh hol
      go_wp2
      go_roundw
      case rel => exact ⟨k + 1, by omega, by go_num, HX2⟩
      case measure => simp [intOf]; omega
    · obtain rfl : k = m := by omega
      obtain ⟨L, HLL⟩ : ∃ L, Hid (L = overU k [63] l) := ⟨_, rfl⟩
      have HLN : Hid (L.length = k) := by show _ = _; rw [HLL.out, overU_len _ (by rw [← HML.out]; exact Nat.le_refl _)]; exact HML.out.symm
      have HXL : Hid (SOwn wr w.heap.size (.slice f1 k c1) L) := by rw [HLL.out]; exact HX.out.1
      have HBr : Hid (Below w.heap.size w wr) := HX.out.2.1
      have HUr : Hid (Upper w1.heap.size w6 wr) := HX.out.2.2
      have hsr := HBr.out.size
      clear HX HLL
      go_wp2_with (first | (at_builtin; refine wpList_append_own_at _ rfl (.tmp 58) (.tmp 59) 47 rfl w.heap.size 9 i0 (.string { data := #[] }) 1 16 Tryd.underlying47 hi hz0 hz1 hz2 rfl (by decide) _ L.length (L.map encStr) rfl (World.ownsRow.alloc HXL.out _) ⟨wr.heap.size, 0, none⟩ 1 1 [.string { data := #[63, 63] }] rfl rfl (one_new _ _ (by simp) _ _) (by intro u hu; simp at hu; rcases hu with rfl; rfl) (by unfold maxLen; rw [HLN.out]; omega) (by rw [HLN.out]; omega) (by simp; omega) ?_) | fail)
      intro v7 w7 hown7 hgrow7 hnil7 hat7
      have HV7 : Hid (SOwn w7 w.heap.size v7 (L ++ [[63, 63]])) := sown_snoc hown7
      have HB7 : Hid (Below w.heap.size w w7) := (HBr.out.alloc hsr _).grown hgrow7 (by simp; omega) HXL.out.ge
      have HU7 : Hid (Upper w1.heap.size w6 w7) := (HUr.out.trans (Upper.of (below_new _ _))).grown hgrow7 (fun g hg => .inl (HG1.out g hg))
      have HP27 : Hid (SOwn w7 w1.heap.size (.slice f2 k c2) l) := HP26.out.upper HU7.out
      have HP47 : Hid (SOwn w7 w2.heap.size (.slice f4 k c4) l) := HP46.out.upper (HU7.out.mono (by omega))
      have hvl : (L ++ [[63, 63]]).length = k + 1 := by rw [List.length_append, HLN.out]; rfl
      obtain ⟨vo, vc, hv, _, hvr, _⟩ := HV7.out.shape
      rw [hvl] at hv
      subst hv
      obtain ⟨bb, oo, rfl⟩ := hvr.form (by rw [hvl]; omega)
      have HLast : Hid (w7.cell? ⟨bb, oo + k, none⟩ = some (.string { data := #[63, 63] })) := hvr.cell (i := k) (u := [63, 63]) (by rw [List.getElem?_append_right (by rw [HLN.out]; exact Nat.le_refl _), HLN.out, Nat.sub_self]; rfl)
      have hs7 := HB7.out.size
      clear hown7 hgrow7 hnil7 hat7 hvl hvr HV7 HP26 HP46
      go_wp2_with fail
      refine (scopes_m s l er k _ HO.out HML.out HL.out (by exact HM.out.keep HB7.out)).mono ?_
      rintro e w8 ⟨f8, c8, rfl, h8⟩
      have HP8 : Hid (SOwn w8 w7.heap.size (.slice f8 k c8) l) := h8.out.1
      have HB8 : Hid (Below w.heap.size w w8) := HB7.out.trans (h8.out.2.mono hs7)
      have HP28 : Hid (SOwn w8 w1.heap.size (.slice f2 k c2) l) := HP27.out.keep h8.out.2
      have HP48 : Hid (SOwn w8 w2.heap.size (.slice f4 k c4) l) := HP47.out.keep h8.out.2
      have hlast : w8.cell? ⟨bb, oo + k, none⟩ = some (.string { data := #[63, 63] }) := cell_kept HLast.out h8.out.2
      have hs8 := HB8.out.size
      clear h8 HP27 HP47 HLast
      go_wp2_with fail
      refine (texts_true k c2 c4 f2 f4 l _ HML.out (by omega) (by exact HP28.out.row) (by exact HP48.out.row)).mono ?_
      rintro e w9 ⟨rfl, k9, rfl⟩
      go_wp2_with (go_at_call 8; refine (num_any _ _).mono ?_; rintro e wn ⟨rfl, rfl⟩)
      refine (texts_true k c8 c4 f8 f4 l _ HML.out (by omega) (by exact HP8.out.row) (by exact HP48.out.row)).mono ?_
      rintro e w10 ⟨rfl, k10, rfl⟩
      go_wp2_with fail
      refine (live_true _ (by exact HM.out.keep (below_drewN HB8.out _))).mono ?_
      rintro e w11 ⟨rfl, hb11⟩
      have HB11 : Hid (Below w.heap.size w w11) := (below_drewN HB8.out (k9 + k10)).trans (hb11.mono (by simp; omega))
      clear hb11
      go_wp2
      go_ret
      exact ⟨rfl, HB11.out⟩
end Go.Proofs.YtebcodbmkphgaaaDoor
