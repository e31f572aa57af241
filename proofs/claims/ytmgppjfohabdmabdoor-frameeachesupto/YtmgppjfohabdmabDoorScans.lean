/- The walk of the law FrameScans: every row of bytes within a size: it returns true and turns nothing old. -/
import Derived.Deep.DeepCutAuto
import Derived.Test.YtmgppjfohabdmabDoorScansMath
import Derived.Test.YtmgppjfohabdmabDoorScan
import Derived.Test.YtmgppjfohabdmabDoorLive
namespace Go.Proofs.YtmgppjfohabdmabDoor
open Go.RowKit

theorem scan_m (n cap : Nat) (ao : Option Addr) (xs : List Nat) (fr : List (Nat × List Nat)) (m en er : Nat) (w : World) (hn : n = xs.length) (hm : m = fr.length) (hsc : scanR xs.length xs = (fr, en, er)) (hl : n ≤ 1073741824) (hnc : n ≤ cap) (hx : ∀ x ∈ xs, x < 256) (hr : Row w ao xs) (hT : Tab w) :
    Calls Tryd.prog 10 #[.slice ao n cap] w fun e w' => ∃ fo fc ls, e = .returned (.tuple #[.slice fo m fc, .int .i64 (en : Int), .int .i64 (er : Int)]) ∧ Hid (FInv w.heap.size w' (.slice fo m fc) fr ls ∧ Below w.heap.size w w') := by
  subst hn; subst hm
  refine (scan_any cap ao xs w hl hnc hx hr hT).mono ?_
  rintro e w' ⟨v, ls, rfl, h⟩
  rw [hsc] at h ⊢
  obtain ⟨fo, fc, rfl, _⟩ := h.out.1.shape
  exact ⟨fo, fc, ls, rfl, h⟩
theorem refScan_m (n cap : Nat) (ao : Option Addr) (xs : List Nat) (fr : List (Nat × List Nat)) (m en er : Nat) (w : World) (hn : n = xs.length) (hm : m = fr.length) (hsc : scanR xs.length xs = (fr, en, er)) (hl : n ≤ 1073741824) (hnc : n ≤ cap) (hx : ∀ x ∈ xs, x < 256) (hr : Row w ao xs) :
    Calls Tryd.prog 11 #[.slice ao n cap] w fun e w' => ∃ fo fc ls, e = .returned (.tuple #[.slice fo m fc, .int .i64 (en : Int), .int .i64 (er : Int)]) ∧ Hid (RInv w.heap.size w' (.slice fo m fc) fr ls ∧ Below w.heap.size w w') := by
  subst hn; subst hm
  refine (refScan_any cap ao xs w hl hnc hx hr).mono ?_
  rintro e w' ⟨v, ls, rfl, h⟩
  rw [hsc] at h ⊢
  obtain ⟨fo, fc, rfl, _⟩ := h.out.1.shape
  exact ⟨fo, fc, ls, rfl, h⟩

set_option maxHeartbeats 1600000 in
set_option maxRecDepth 100000 in
theorem frameScans_walk (cb : Nat) (bo : Option Addr) (xs : List Nat) (w : World) (hl : xs.length ≤ 1048576) (hcb : xs.length ≤ cb) (hx : ∀ x ∈ xs, x < 256) (hb : Row w bo xs) (hT : Tab w) :
    Calls Tryd.prog 3 #[.slice bo xs.length cb] w fun e w' => e = .returned (.bool true) ∧ Below w.heap.size w w' := by
  have HX : Hid (∀ x ∈ xs, x < 256) := hx
  have HB : Hid (Row w bo xs) := hb
  have HT : Hid (Tab w) := hT
  obtain ⟨fr, en, er, HS⟩ : ∃ fr en er, Hid (scanR xs.length xs = (fr, en, er)) := ⟨_, _, _, rfl⟩
  have HMEM : Hid (∀ x ∈ fr, x.2.length ≤ 2097152 ∧ ∀ y ∈ x.2, y < 256) := fun x hx' => scan_mem xs.length xs hx x (by rw [HS.out]; exact hx')
  have HBY : Hid (∀ x ∈ fr, ∀ y ∈ x.2, y < 256) := fun x hx' => (HMEM.out x hx').2
  obtain ⟨m, hm⟩ : ∃ m, m = fr.length := ⟨_, rfl⟩
  have HM : Hid (m = fr.length) := hm
  have hml : m ≤ 1048576 := by
    have h := scan_len xs.length xs
    rw [HS.out] at h
    have h2 : 9 * fr.length ≤ xs.length := h
    omega
  clear hx hb hT hm
  go_enter Tryd.func3, Tryd.ntmps3
  go_wp2_with fail
  refine (lent_row cb bo xs w (by omega) HB.out).mono ?_
  rintro e w1 ⟨g, c1, rfl, h1⟩
  have hle1 := h1.out.1
  have hgl : g < w1.heap.size := h1.out.2.2.1
  have HF1 : Hid (Row w1 (some ⟨g, 0, none⟩) (xs ++ marks 64)) := h1.out.2.2.2.2.1
  have HL1 : Hid (Below w.heap.size w w1) := h1.out.2.2.2.2.2
  have hs1 := HL1.out.size
  clear h1
  go_wp2_with fail
  refine (scan_m xs.length c1 _ xs fr m en er w1 rfl HM.out HS.out (by omega) (by omega) HX.out HF1.out.take (HT.out.keep HL1.out)).mono ?_
  rintro e w2 ⟨xo, xc, lx, rfl, h2⟩
  have HX2 : Hid (FInv w1.heap.size w2 (.slice xo m xc) fr lx) := h2.out.1
  have HL12 : Hid (Below w1.heap.size w1 w2) := h2.out.2
  have hs2 := HL12.out.size
  have HL2 : Hid (Below w.heap.size w w2) := HL1.out.trans (HL12.out.mono hs1)
  clear h2
  go_wp2_with fail
  refine (scan_m xs.length c1 _ xs fr m en er w2 rfl HM.out HS.out (by omega) (by omega) HX.out (HF1.out.keep HL12.out).take (HT.out.keep HL2.out)).mono ?_
  rintro e w3 ⟨yo, yc, ly, rfl, h3⟩
  have HY3 : Hid (FInv w2.heap.size w3 (.slice yo m yc) fr ly) := h3.out.1
  have HL23 : Hid (Below w2.heap.size w2 w3) := h3.out.2
  have hs3 := HL23.out.size
  have HX3 : Hid (FInv w1.heap.size w3 (.slice xo m xc) fr lx) := HX2.out.below HL23.out
  have HL13 : Hid (Below w1.heap.size w1 w3) := HL12.out.trans (HL23.out.mono hs2)
  have HL3 : Hid (Below w.heap.size w w3) := HL1.out.trans (HL13.out.mono hs1)
  have HLT : Hid (∀ (i : Nat) (li : Value), lx[i]? = some li → ∀ g, li.ownBlock = some g → g < w2.heap.size) := fun i li hi g hg => (HX2.out.lt i li hi g hg).2
  have HLY : Hid (∀ (i : Nat) (li : Value), ly[i]? = some li → ∀ g, li.ownBlock = some g → g < w3.heap.size) := fun i li hi g hg => (HY3.out.lt i li hi g hg).2
  clear h3 HX2 HL2
  go_wp2_with fail
  refine (refScan_m xs.length cb bo xs fr m en er w3 rfl HM.out HS.out (by omega) hcb HX.out (HB.out.keep HL3.out)).mono ?_
  rintro e w4 ⟨ro, rc, lr, rfl, h4⟩
  have HR4 : Hid (RInv w3.heap.size w4 (.slice ro m rc) fr lr) := h4.out.1
  have HL34 : Hid (Below w3.heap.size w3 w4) := h4.out.2
  have hs4 := HL34.out.size
  have HX4 : Hid (FInv w1.heap.size w4 (.slice xo m xc) fr lx) := HX3.out.below HL34.out
  have HY4 : Hid (FInv w2.heap.size w4 (.slice yo m yc) fr ly) := HY3.out.below HL34.out
  have HL14 : Hid (Below w1.heap.size w1 w4) := HL13.out.trans (HL34.out.mono (by omega))
  clear h4 HX3 HY3 HL13 HL34 HL23 HL12 HL3
  have he0 : (((er : Nat) : Int) != ((er : Nat) : Int)) = false := by simp
  have hn0 : (((en : Nat) : Int) != ((en : Nat) : Int)) = false := by simp
  go_wp2_with (go_at_call 12; refine (num_any _ _).mono ?_; rintro e w5 ⟨rfl, rfl⟩)
  refine (frames_true m xc rc _ _ xo ro fr lx lr _ HM.out (by omega) HBY.out (by exact HX4.out) (by exact HR4.out)).mono ?_
  rintro e w6 ⟨rfl, h6⟩
  have HX6 : Hid (FInv w1.heap.size w6 (.slice xo m xc) fr lx) := HX4.out.below h6.out
  have HY6 : Hid (FInv w2.heap.size w6 (.slice yo m yc) fr ly) := HY4.out.below h6.out
  have HR6 : Hid (RInv w3.heap.size w6 (.slice ro m rc) fr lr) := HR4.out.below h6.out
  have HL16 : Hid (Below w1.heap.size w1 w6) := HL14.out.trans (h6.out.mono (by omega))
  have hs6 := h6.out.size
  clear h6 HX4 HY4 HR4 HL14
  go_wp2_with fail
  refine (frames_true m yc rc _ _ yo ro fr ly lr _ HM.out (by omega) HBY.out (by exact HY6.out) (by exact HR6.out)).mono ?_
  rintro e w7 ⟨rfl, h7⟩
  have HX7 : Hid (FInv w1.heap.size w7 (.slice xo m xc) fr lx) := HX6.out.below h7.out
  have HY7 : Hid (FInv w2.heap.size w7 (.slice yo m yc) fr ly) := HY6.out.below h7.out
  have HR7 : Hid (RInv w3.heap.size w7 (.slice ro m rc) fr lr) := HR6.out.below h7.out
  have HL17 : Hid (Below w1.heap.size w1 w7) := HL16.out.trans (h7.out.mono (by omega))
  have hs7 := h7.out.size
  clear h7 HX6 HY6 HR6 HL16
  go_wp2_with fail
  refine (kept_true _ c1 cb g 0 bo xs _ (by omega) rfl hle1 (by exact HF1.out.keep HL17.out) (by exact HB.out.keep (HL1.out.trans (HL17.out.mono hs1))) HX.out).mono ?_
  rintro e w8 ⟨rfl, rfl⟩
  go_upto_region 7 with fail
  go_cut [89] (fun c wx => c = .bool false ∧ Hid (Below w1.heap.size w8 wx ∧ RInv w3.heap.size wx (.slice ro m rc) fr lr))
  case first =>
    by_cases h100 : m < 100
    · have hb1 : decide ((m : Int) < 100) = true := by simp; omega
      go_wp2_with fail
      refine (loads_any m m xc yc _ _ xo yo fr fr lx ly _ HM.out HM.out (by omega) (by omega) (by exact HX7.out) (by exact HY7.out)).mono ?_
      rintro e w9 ⟨v, rfl, h9⟩
      obtain ⟨lo, kc, rfl⟩ := outer_shape h9.out.1
      have HV9 : Hid (w9.ownsRow w1.heap.size 22 1 (.slice lo (m + m) kc) (m + m) (lx ++ ly)) := row_lower h9.out.1 (by omega)
      have HL9 : Hid (Below w8.heap.size w8 w9) := h9.out.2
      have hs9 := HL9.out.size
      have HX9 : Hid (FInv w1.heap.size w9 (.slice xo m xc) fr lx) := HX7.out.below HL9.out
      have HY9 : Hid (FInv w2.heap.size w9 (.slice yo m yc) fr ly) := HY7.out.below HL9.out
      have HR9 : Hid (RInv w3.heap.size w9 (.slice ro m rc) fr lr) := HR7.out.below HL9.out
      have HVL : Hid (m + m = (lx ++ ly).length) := by show _ = _; rw [List.length_append, HX9.out.len, HY9.out.len, ← HM.out]
      generalize m + m = k2 at *
      clear h9
      go_wp2_with fail
      refine (alone_list w1.heap.size k2 kc lo (lx ++ ly) w9 HVL.out (by have h := HVL.out; rw [List.length_append, HX9.out.len, HY9.out.len, ← HM.out] at h; omega) (by omega) HV9.out (two_own HX9.out HY9.out (Nat.le_refl _) (by omega) (fun x hx => (HMEM.out x hx).1) (fun x hx => (HMEM.out x hx).1)) (two_apart HX9.out HY9.out HLT.out)).mono ?_
      rintro e w10 ⟨rfl, h10⟩
      have HU : Hid (Upper w3.heap.size w9 w10) := fun g hg hlt => h10.out.2 g hlt (fun u hu e => by
        have := two_under (U := w3.heap.size) (fun i li hi g hg => by have := HLT.out i li hi g hg; omega) HLY.out u hu g e
        omega)
      have HL10 : Hid (Below w1.heap.size w8 w10) := (HL9.out.mono (by omega)).trans h10.out.1
      have HR10 : Hid (RInv w3.heap.size w10 (.slice ro m rc) fr lr) := HR9.out.upper HU.out
      clear h10 HX9 HY9 HR9 HU HV9 HL9
      go_wp2
      go_meet
      case rel => exact ⟨rfl, HL10.out, HR10.out⟩
    · have hb1 : decide ((m : Int) < 100) = false := by simp; omega
      go_wp2
      go_meet
      case rel => exact ⟨rfl, Below.refl _ _, HR7.out⟩
  case rest =>
    obtain ⟨rfl, hc⟩ := hcut
    have HL1c : Hid (Below w1.heap.size w1 wc) := HL17.out.trans hc.out.1
    have HRc : Hid (RInv w3.heap.size wc (.slice ro m rc) fr lr) := hc.out.2
    have HLc : Hid (Below w.heap.size w wc) := HL1.out.trans (HL1c.out.mono hs1)
    have hsc := HLc.out.size
    clear hc HX7 HY7 HR7 HL17
    go_wp2_with fail
    refine (scan_m xs.length c1 _ xs fr m en er _ rfl HM.out HS.out (by omega) (by omega) HX.out (by exact (HF1.out.keep HL1c.out).take) (by exact HT.out.keep HLc.out)).mono ?_
    rintro e w11 ⟨zo, zc, lz, rfl, h11⟩
    have HZ11 : Hid (FInv wc.heap.size w11 (.slice zo m zc) fr lz) := h11.out.1
    have HR11 : Hid (RInv w3.heap.size w11 (.slice ro m rc) fr lr) := HRc.out.below h11.out.2
    have HF11 : Hid (Row w11 (some ⟨g, 0, none⟩) (xs ++ marks 64)) := (HF1.out.keep HL1c.out).keep h11.out.2
    have HL11 : Hid (Below w.heap.size w w11) := HLc.out.trans (h11.out.2.mono hsc)
    have hs11 := HL11.out.size
    clear h11 HRc HL1c HLc hsc
    go_wp2_with fail
    refine (kept_true _ c1 cb g 0 bo xs _ (by omega) rfl hle1 (by exact HF11.out) (by exact HB.out.keep HL11.out) HX.out).mono ?_
    rintro e w12 ⟨rfl, rfl⟩
    go_wp2_with (go_at_call 12; refine (num_any _ _).mono ?_; rintro e w13 ⟨rfl, rfl⟩)
    refine (frames_true m zc rc _ _ zo ro fr lz lr _ HM.out (by omega) HBY.out (by exact HZ11.out) (by exact HR11.out)).mono ?_
    rintro e w14 ⟨rfl, h14⟩
    have HL14 : Hid (Below w.heap.size w w14) := HL11.out.trans (h14.out.mono hs11)
    have hs14 := HL14.out.size
    clear h14
    go_wp2_with fail
    refine (live_true _ (by exact HT.out.keep HL14.out)).mono ?_
    rintro e w15 ⟨rfl, h15⟩
    have HL15 : Hid (Below w.heap.size w w15) := HL14.out.trans (h15.mono hs14)
    clear h15
    go_wp2
    go_ret
    exact ⟨rfl, HL15.out⟩
end Go.Proofs.YtmgppjfohabdmabDoor
