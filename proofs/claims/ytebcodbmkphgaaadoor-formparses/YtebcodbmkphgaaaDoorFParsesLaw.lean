/- The walk of the law FormParses: every text: true, and nothing old turns. -/
import Derived.Test.YtebcodbmkphgaaaDoorLiveFn
import Derived.Test.YtebcodbmkphgaaaDoorParseRef
import Derived.Test.YtebcodbmkphgaaaDoorPairsFn
import Derived.Test.YtebcodbmkphgaaaDoorTheirsFn
import Derived.Test.YtebcodbmkphgaaaDoorFrameUp
namespace Go.Proofs.YtebcodbmkphgaaaDoor
open Go.RowKit

theorem parOut_len (xs : List Nat) : (parOut xs).1.length ≤ 64 ∧ ∀ q ∈ (parOut xs).1, bytes2 q := by
  unfold parOut
  split
  · simp
  · cases h : parse xs 0 [] with
    | ok l => exact parse_lt _ _ _ _ _ (Nat.le_refl _) (by simp) (by simp) h
    | error e => obtain ⟨a, b⟩ := e; simp [outOf]
theorem parse_m (s : ByteArray) (l : List Two) (er pl m : Nat) (w : World) (hO : parOut (sbytes s) = (l, er, pl)) (hm : m = l.length) (hsz : s.size ≤ 9223372036854775807) (hM : MaxL w) :
    Calls Tryd.prog 14 #[.string s] w fun e w' => ∃ fo fc, e = .returned (.tuple #[.slice fo m fc, .int .i64 (er : Int), .int .i64 (pl : Int)]) ∧ Hid (POwn 40 w' w.heap.size (.slice fo m fc) l ∧ Below w.heap.size w w') := by
  subst hm
  refine (parse_any s w hsz hM).mono ?_
  rintro e w' ⟨v, rfl, h⟩
  rw [hO] at h ⊢
  obtain ⟨fo, fc, rfl, _⟩ := h.out.1.shape
  exact ⟨fo, fc, rfl, h⟩
theorem refParse_m (s : ByteArray) (l : List Two) (er pl m : Nat) (w : World) (hO : parOut (sbytes s) = (l, er, pl)) (hm : m = l.length) (hsz : s.size ≤ 9223372036854775807) :
    Calls Tryd.prog 15 #[.string s] w fun e w' => ∃ fo fc, e = .returned (.tuple #[.slice fo m fc, .int .i64 (er : Int), .int .i64 (pl : Int)]) ∧ Hid (POwn 64 w' w.heap.size (.slice fo m fc) l ∧ Below w.heap.size w w') := by
  subst hm
  refine (refParse_any s w hsz).mono ?_
  rintro e w' ⟨v, rfl, h⟩
  rw [hO] at h ⊢
  obtain ⟨fo, fc, rfl, _⟩ := h.out.1.shape
  exact ⟨fo, fc, rfl, h⟩
theorem theirs_m (n c : Nat) (ao : Option Addr) (l : List Two) (w : World) (hn : n = l.length) (hl : n ≤ 4398046511104) (hr : PRow w ao l) :
    Calls Tryd.prog 16 #[.slice ao n c] w fun e w' => ∃ fo fc, e = .returned (.slice fo n fc) ∧ Hid (POwn 40 w' w.heap.size (.slice fo n fc) l ∧ Below w.heap.size w w') := by
  refine (theirs_any n c ao l w hn hl hr).mono ?_
  rintro e w' ⟨v, rfl, h⟩
  obtain ⟨fo, fc, rfl, _⟩ := h.out.1.shape
  rw [← hn] at h ⊢
  exact ⟨fo, fc, rfl, h⟩
theorem POwn.row {t : TypeId} {w : World} {B n c : Nat} {ao : Option Addr} {l : List Two} (h : POwn t w B (.slice ao n c) l) : PRow w ao l := by
  obtain ⟨a, c', e, _, hr, _⟩ := h.shape
  cases e
  exact hr
/-- The first k written over. -/
def over (k : Nat) (q : Two) (l : List Two) : List Two := List.replicate k q ++ l.drop k
theorem over_zero (q : Two) (l : List Two) : over 0 q l = l := by simp [over]
theorem over_len {k : Nat} (q : Two) {l : List Two} (h : k ≤ l.length) : (over k q l).length = l.length := by simp [over]; omega
theorem over_set {k : Nat} (q : Two) {l : List Two} (h : k < l.length) : (over k q l).set k q = over (k + 1) q l := by
  unfold over
  rw [List.set_append_right _ _ (by simp), List.length_replicate, Nat.sub_self, List.drop_eq_getElem_cons h, List.set_cons_zero, List.replicate_succ', List.append_assoc]
  rfl

set_option linter.unusedSimpArgs false in
set_option maxHeartbeats 1600000 in
set_option maxRecDepth 100000 in
theorem formParses_walk (s : ByteArray) (w : World) (hl : s.size ≤ 9223372036854775807) (hM : MaxL w) :
    Calls Tryd.prog 5 #[.string s] w fun e w' => e = .returned (.bool true) ∧ Below w.heap.size w w' := by
  have HM : Hid (MaxL w) := hM
  have HL : Hid (s.size ≤ 9223372036854775807) := hl
  obtain ⟨l, er, pl, HO⟩ : ∃ l er pl, Hid (parOut (sbytes s) = (l, er, pl)) := ⟨_, _, _, rfl⟩
  obtain ⟨m, hm⟩ : ∃ m, m = l.length := ⟨_, rfl⟩
  have HML : Hid (m = l.length) := hm
  have hml : m ≤ 64 := by have := (parOut_len (sbytes s)).1; rw [HO.out] at this; rw [hm]; exact this
  have he0 : (((er : Nat) : Int) != ((er : Nat) : Int)) = false := by simp
  have hp0 : (((pl : Nat) : Int) != ((pl : Nat) : Int)) = false := by simp
  obtain ⟨i0, hi, hz0, hz1, hz2⟩ := info_parts infoPair
  clear hM hl hm
  go_enter Tryd.func5, Tryd.ntmps5
  go_wp2_with fail
  refine (parse_m s l er pl m w HO.out HML.out HL.out HM.out).mono ?_
  rintro e w1 ⟨f1, c1, rfl, h1⟩
  have HP1 : Hid (POwn 40 w1 w.heap.size (.slice f1 m c1) l) := h1.out.1
  have HB1 : Hid (Below w.heap.size w w1) := h1.out.2
  have hs1 := HB1.out.size
  clear h1
  go_wp2_with fail
  refine (parse_m s l er pl m w1 HO.out HML.out HL.out (HM.out.keep HB1.out)).mono ?_
  rintro e w2 ⟨f2, c2, rfl, h2⟩
  have HP2 : Hid (POwn 40 w2 w1.heap.size (.slice f2 m c2) l) := h2.out.1
  have HB12 : Hid (Below w1.heap.size w1 w2) := h2.out.2
  have hs2 := HB12.out.size
  clear h2
  go_wp2_with fail
  refine (refParse_m s l er pl m w2 HO.out HML.out HL.out).mono ?_
  rintro e w3 ⟨f3, c3, rfl, h3⟩
  have HP3 : Hid (POwn 64 w3 w2.heap.size (.slice f3 m c3) l) := h3.out.1
  have HB23 : Hid (Below w2.heap.size w2 w3) := h3.out.2
  have hs3 := HB23.out.size
  clear h3
  go_wp2_with fail
  refine (theirs_m m c3 f3 l w3 HML.out (by omega) HP3.out.row).mono ?_
  rintro e w4 ⟨f4, c4, rfl, h4⟩
  have HP4 : Hid (POwn 40 w4 w3.heap.size (.slice f4 m c4) l) := h4.out.1
  have HB34 : Hid (Below w3.heap.size w3 w4) := h4.out.2
  have hs4 := HB34.out.size
  have HB14 : Hid (Below w1.heap.size w1 w4) := (HB12.out.trans (HB23.out.mono hs2)).trans (HB34.out.mono (by omega))
  have HP14 : Hid (POwn 40 w4 w.heap.size (.slice f1 m c1) l) := HP1.out.keep HB14.out
  have HP24 : Hid (POwn 40 w4 w1.heap.size (.slice f2 m c2) l) := HP2.out.keep (HB23.out.trans (HB34.out.mono hs3))
  have HG1 : Hid (∀ g, (Value.slice f1 m c1).ownBlock = some g → g < w1.heap.size) := HP1.out.lt
  have HB4 : Hid (Below w.heap.size w w4) := HB1.out.trans (HB14.out.mono hs1)
  clear h4 HP1 HP2 HP3 HB12 HB23 HB34
  go_wp2_with (go_at_call 8; refine (num_any _ _).mono ?_; rintro e wn ⟨rfl, rfl⟩)
  refine (pairs_true m c1 c4 f1 f4 l _ HML.out (by omega) (by exact HP14.out.row) (by exact HP4.out.row)).mono ?_
  rintro e w5 ⟨rfl, k5, rfl⟩
  go_wp2_with fail
  refine (pairs_true m c2 c4 f2 f4 l _ HML.out (by omega) (by exact HP24.out.row) (by exact HP4.out.row)).mono ?_
  rintro e w6 ⟨rfl, k6, hw6⟩
  have HX6 : Hid (POwn 40 w6 w.heap.size (.slice f1 m c1) (over 0 ([120], [121]) l) ∧ Below w.heap.size w w6 ∧ Upper w1.heap.size w6 w6) := by
    refine ⟨?_, ?_, Upper.refl _ _⟩
    · rw [over_zero, hw6]; exact HP14.out
    · rw [hw6]; exact below_drewN (below_drewN HB4.out _) _
  have HP26 : Hid (POwn 40 w6 w1.heap.size (.slice f2 m c2) l) := by rw [hw6]; exact HP24.out
  have HP46 : Hid (POwn 40 w6 w3.heap.size (.slice f4 m c4) l) := by rw [hw6]; exact HP4.out
  have hs6 : w3.heap.size ≤ w6.heap.size := by rw [hw6]; exact hs4
  clear hw6 HP14 HP24 HP4 HB14 HB4
  go_wp2
  go_loopw [13] (fun i wr => ∃ k : Nat, k ≤ m ∧ i = .int .i64 k ∧ Hid (POwn 40 wr w.heap.size (.slice f1 m c1) (over k ([120], [121]) l) ∧ Below w.heap.size w wr ∧ Upper w1.heap.size w6 wr)) (fun i _ => m - (intOf i).toNat)
  case atStart => exact ⟨0, Nat.zero_le _, rfl, HX6⟩
  case round =>
    clear HX6
    obtain ⟨k, hk, rfl, HX⟩ := hrel
    by_cases hlt : k < m
    · have hol : (over k ([120], [121]) l).length = m := by rw [over_len _ (by rw [← HML.out]; exact hk)]; exact HML.out.symm
      obtain ⟨g, cap, cur, e, hg, hh, _, _, _, _⟩ := HX.out.1.here (by rw [hol]; omega)
      rw [hol] at e
      cases e
      obtain ⟨q, hq⟩ : ∃ q, (over k ([120], [121]) l)[k]? = some q := ⟨_, List.getElem?_eq_getElem (by rw [hol]; exact hlt)⟩
      have hcc := HX.out.1.row.cell hq
      rw [Nat.zero_add, Nat.mul_comm] at hcc
      have d0 : wr.cell? ⟨g, k * 2, none⟩ = some (.string (bstr q.1)) := hcc.1
      have d1 : wr.cell? ⟨g, k * 2 + 1, none⟩ = some (.string (bstr q.2)) := hcc.2
      have g0 : wr.frozen? ⟨g, k * 2, none⟩ = false := by simp [World.frozen?, hh]
      have g1 : wr.frozen? ⟨g, k * 2 + 1, none⟩ = false := by simp [World.frozen?, hh]
      have HGL : Hid (g < w1.heap.size ∧ w.heap.size ≤ g) := ⟨HG1.out g rfl, hg⟩
      have HX2 : Hid (POwn 40 ((wr.setCell ⟨g, k * 2, none⟩ (.string { data := #[120] })).setCell ⟨g, k * 2 + 1, none⟩ (.string { data := #[121] })) w.heap.size (.slice (some ⟨g, 0, none⟩) m c1) (over (k + 1) ([120], [121]) l) ∧ Below w.heap.size w ((wr.setCell ⟨g, k * 2, none⟩ (.string { data := #[120] })).setCell ⟨g, k * 2 + 1, none⟩ (.string { data := #[121] })) ∧ Upper w1.heap.size w6 ((wr.setCell ⟨g, k * 2, none⟩ (.string { data := #[120] })).setCell ⟨g, k * 2 + 1, none⟩ (.string { data := #[121] }))) := by
        refine ⟨?_, ((HX.out.2.1.setCell hg _).setCell hg _), (HX.out.2.2.setCell HGL.out.1 _).setCell HGL.out.1 _⟩
        have h := POwn.put (by rw [hol]) HX.out.1 (k := k) (by rw [hol]; exact hlt) ([120], [121])
        rw [over_set _ (by rw [← HML.out]; exact hlt)] at h
        exact h
      clear hcc hq hh hol
      go_wp2
      go_roundw
      case rel => exact ⟨k + 1, by omega, by go_num, HX2⟩
      case measure => simp [intOf]; omega
    · obtain rfl : k = m := by omega
      obtain ⟨L, HLL⟩ : ∃ L, Hid (L = over k ([120], [121]) l) := ⟨_, rfl⟩
      have HLN : Hid (L.length = k) := by show _ = _; rw [HLL.out, over_len _ (by rw [← HML.out]; exact Nat.le_refl _)]; exact HML.out.symm
      have HY0 : Hid (POwn 40 wr w.heap.size (.slice f1 k c1) (L ++ List.replicate 0 ([122], [])) ∧ Below w.heap.size w wr ∧ Upper w1.heap.size w6 wr ∧ ∀ g, (Value.slice f1 k c1).ownBlock = some g → g < w1.heap.size ∨ w6.heap.size ≤ g) := by
        refine ⟨?_, HX.out.2.1, HX.out.2.2, fun g hg => .inl (HG1.out g hg)⟩
        rw [HLL.out, List.replicate_zero, List.append_nil]; exact HX.out.1
      clear HX
      go_wp2
      go_loopw [14, 15] (fun v i wz => ∃ j : Nat, j ≤ 64 ∧ i = .int .i64 j ∧ Hid (POwn 40 wz w.heap.size v (L ++ List.replicate j ([122], [])) ∧ Below w.heap.size w wz ∧ Upper w1.heap.size w6 wz ∧ ∀ g, v.ownBlock = some g → g < w1.heap.size ∨ w6.heap.size ≤ g)) (fun _ i _ => 64 - (intOf i).toNat)
      case atStart => exact ⟨0, by omega, rfl, HY0⟩
      case round =>
        clear HY0
        obtain ⟨j, hj, rfl, HY⟩ := hrel
        have hsy := HY.out.2.1.size
        by_cases hlj : j < 64
        · have HLJ : Hid ((L ++ List.replicate j ([122], [])).length = k + j) := by show _ = _; rw [List.length_append, List.length_replicate, HLN.out]
          go_wp2_with (first | (at_builtin; refine wpList_append_own_at _ rfl (.tmp 86) (.tmp 88) 31 rfl w.heap.size 40 i0 (.agg #[.string { data := #[] }, .string { data := #[] }]) 2 32 Tryd.underlying31 hi hz0 hz1 hz2 rfl (by decide) _ (L ++ List.replicate j ([122], [])).length (flat2 (L ++ List.replicate j ([122], []))) rfl (World.ownsRow.alloc HY.out.1 _) ⟨wr.heap.size, 0, none⟩ 1 1 [.string { data := #[122] }, .string { data := #[] }] rfl rfl (two_new _ _ (by simp) _ _ _) (by intro u hu; simp at hu; rcases hu with rfl | rfl <;> rfl) (by unfold maxLen; rw [HLJ.out]; omega) (by rw [HLJ.out]; omega) (by simp; omega) ?_; intro v3 w3 hown3 hgrow3 hnil3 hat3))
          have HY3 : Hid (POwn 40 w3 w.heap.size v3 (L ++ List.replicate (j + 1) ([122], [])) ∧ Below w.heap.size w w3 ∧ Upper w1.heap.size w6 w3 ∧ ∀ g, v3.ownBlock = some g → g < w1.heap.size ∨ w6.heap.size ≤ g) := by
            refine ⟨?_, (HY.out.2.1.alloc hsy _).grown hgrow3 (by simp; omega) HY.out.1.ge, ?_, fun g hg => ?_⟩
            · rw [List.replicate_succ', ← List.append_assoc]
              unfold POwn
              rw [List.length_append, flat2_snoc]
              exact hown3
            · refine Upper.grown (HY.out.2.2.1.trans (Upper.of (below_new _ _))) hgrow3 (fun g hg => ?_)
              exact HY.out.2.2.2 g hg
            · rcases hat3 with h | h
              · rw [h] at hg; exact HY.out.2.2.2 g hg
              · rw [h] at hg
                cases hg
                right
                have := HY.out.2.2.1.1
                simp; omega
          clear hown3 hgrow3 hnil3 hat3
          go_roundw
          case rel => exact ⟨j + 1, by omega, by go_num, HY3⟩
          case measure => simp [intOf]; omega
        · obtain rfl : j = 64 := by omega
          have HVL : Hid ((L ++ List.replicate 64 ([122], [])).length = k + 64) := by show _ = _; rw [List.length_append, List.length_replicate, HLN.out]
          obtain ⟨vo, vc, hv, _, _, _⟩ := HY.out.1.shape
          rw [HVL.out] at hv
          subst hv
          have HU : Hid (Upper w1.heap.size w6 wr) := HY.out.2.2.1
          have HBr : Hid (Below w.heap.size w wr) := HY.out.2.1
          have HP2r : Hid (POwn 40 wr w1.heap.size (.slice f2 k c2) l) := HP26.out.upper HU.out
          have HP4r : Hid (POwn 40 wr w3.heap.size (.slice f4 k c4) l) := HP46.out.upper (HU.out.mono (by omega))
          clear HY HP26 HP46 HU
          go_wp2_with fail
          refine (parse_m s l er pl k _ HO.out HML.out HL.out (by exact HM.out.keep HBr.out)).mono ?_
          rintro e w8 ⟨f8, c8, rfl, h8⟩
          have HP8 : Hid (POwn 40 w8 wr.heap.size (.slice f8 k c8) l) := h8.out.1
          have hsr := HBr.out.size
          have HB8 : Hid (Below w.heap.size w w8) := HBr.out.trans (h8.out.2.mono hsr)
          have HP28 : Hid (POwn 40 w8 w1.heap.size (.slice f2 k c2) l) := HP2r.out.keep h8.out.2
          have HP48 : Hid (POwn 40 w8 w3.heap.size (.slice f4 k c4) l) := HP4r.out.keep h8.out.2
          have hs8 := HB8.out.size
          clear h8 HP2r HP4r HBr
          go_wp2_with fail
          refine (pairs_true k c2 c4 f2 f4 l _ HML.out (by omega) (by exact HP28.out.row) (by exact HP48.out.row)).mono ?_
          rintro e w9 ⟨rfl, k9, rfl⟩
          go_wp2_with (go_at_call 8; refine (num_any _ _).mono ?_; rintro e wn ⟨rfl, rfl⟩)
          refine (pairs_true k c8 c4 f8 f4 l _ HML.out (by omega) (by exact HP8.out.row) (by exact HP48.out.row)).mono ?_
          rintro e w10 ⟨rfl, k10, rfl⟩
          go_wp2_with fail
          refine (live_true _ (by exact HM.out.keep (below_drewN HB8.out _))).mono ?_
          rintro e w11 ⟨rfl, hb11⟩
          have HB11 : Hid (Below w.heap.size w w11) := (below_drewN HB8.out (k9 + k10)).trans (hb11.mono (by simp; omega))
          clear hb11
          go_wp2
          go_ret
          exact ⟨rfl, HB11.out⟩
end Go.Proofs.YtebcodbmkphgaaaDoor
