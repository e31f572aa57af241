/- breakPatterns. -/
import Derived.Test.YtmngmkbiibhmkaaVRev
import Derived.Laws.Bits64b
namespace Go.Proofs.Ytmngmkbiibhmkaa
open Go.RowKit Go.Maps

theorem But.young {g rb : Nat} {w wr : World} (h : But g w wr) (hr : w.heap.size ≤ rb) (i : Nat) (v : Value) : But g w (wr.setCell ⟨rb, i, none⟩ v) :=
  ⟨h.os, h.tape, h.output, by have := h.size; simpa [World.setCell] using this, fun k hk hkg => (heap_setCell_other wr ⟨rb, i, none⟩ k v (by show k ≠ rb; omega)).trans (h.block k hk hkg)⟩
theorem SR.young {w wr : World} {g rb : Nat} {ds : List Nat} {rest : List Value} (h : SR w wr g ds rest) (hg : g < w.heap.size) (hr : w.heap.size ≤ rb) (i : Nat) (v : Value) : SR w (wr.setCell ⟨rb, i, none⟩ v) g ds rest :=
  ⟨h.bl.other (by omega) i v, h.but.young hr i v⟩
theorem SR.alloc {w wr : World} {g : Nat} {ds : List Nat} {rest : List Value} (h : SR w wr g ds rest) (o : Obj) : SR w (wr.alloc o) g ds rest := ⟨h.bl.alloc o, h.but.trans (But.alloc _ _ o)⟩
theorem SR.swapx {w wr : World} {g i j : Nat} {ds : List Nat} {rest : List Value} {v u : Value} (h : SR w wr g ds rest) (hi : i < ds.length) (hj : j < ds.length) (hv : v = .int .u64 (gt ds j : Int)) (hu : u = .int .u64 (gt ds i : Int)) : SR w ((wr.setCell ⟨g, i, none⟩ v).setCell ⟨g, j, none⟩ u) g (swp ds i j) rest := by rw [hv, hu]; exact h.swap hi hj
theorem and_mask (X m : Nat) (hX : X < 18446744073709551616) (hm : 0 < m) (hm2 : m < 18446744073709551616) : ∃ o : Nat, o < m ∧ bits .and .u64 (X : Int) ((m : Int) - 1) = (o : Int) := by
  refine ⟨X &&& (m - 1), ?_, ?_⟩
  · have := Nat.and_le_right (n := X) (m := m - 1); omega
  · rw [show (m : Int) - 1 = ((m - 1 : Nat) : Int) by omega]
    exact bits_and_u64_nat _ _ hX (by omega)
set_option maxHeartbeats 1000000 in
set_option maxRecDepth 100000 in
theorem break_any (g n cap a b : Nat) (ds : List Nat) (rest : List Value) (w : World) (hB : Bl w g (ds.map uv ++ rest) 22) (hn : n = ds.length) (hl : n ≤ 1000000) (hab : a + 8 ≤ b) (hb : b ≤ n) :
    Calls Try.prog 76 #[.slice (some ⟨g, 0, none⟩) n cap, .int .i64 (a : Int), .int .i64 (b : Int)] w fun e w' => e = .returned (.tuple #[]) ∧ ∃ es, SR w w' g es rest ∧ SegP a b ds es := by
  obtain ⟨l, hl1⟩ : ∃ l, l = b - a := ⟨_, rfl⟩
  have hl2 : (b : Int) - (a : Int) = (l : Int) := by omega
  obtain ⟨q, hq⟩ : ∃ q, q = l / 4 := ⟨_, rfl⟩
  have hq2 : (l : Int) / 4 = (q : Int) := by omega
  have hq3 : 2 ≤ q := by omega
  have hq4 : 4 * q ≤ l := by omega
  have hl3 : a + l = b := by omega
  have hl4 : 8 ≤ l := by omega
  have HB := hide hB
  have HN := hide hn
  have HG := hide hB.lt
  clear hB hn hl1 hq
  go_enter Try.func76, Try.ntmps76
  go_wp2_with (go_at_call 70; refine (pow_any l (by omega) (by omega) _).mono ?_; rintro e w2 ⟨m, hm0, hm1, rfl, hw⟩; subst hw)
  obtain ⟨rb, hrb⟩ : ∃ rb, rb = w.heap.size := ⟨_, rfl⟩
  have HRB := hide hrb
  have HS : Hid (SR w (w.alloc (.cells #[.int .u64 (l : Int)] 117)) g ds rest) := (SR.refl HB.out).alloc _
  have H0 : Hid (Bl (w.alloc (.cells #[.int .u64 (l : Int)] 117)) rb [.int .u64 (l : Int)] 117) := by show Bl _ _ _ _; rw [hrb]; exact Bl.new _ _ _
  have hne : g ≠ rb := by have := HG.out; omega
  rw [← hrb]
  clear hrb
  go_loopw [9] (fun v9 wr => ∃ i X : Nat, X < 18446744073709551616 ∧ a + q * 2 ≤ i + 1 ∧ i ≤ a + q * 2 + 2 ∧ v9 = .int .i64 (i : Int) ∧ Hid (∃ es, SR w wr g es rest ∧ SegP a b ds es) ∧ Hid (Bl wr rb [.int .u64 (X : Int)] 117)) (fun v9 _ => (a + q * 2 + 2 - intOf v9).toNat)
  case atStart => exact ⟨a + q * 2 - 1, l, by omega, by omega, by omega, by rw [show ((a + q * 2 - 1 : Nat) : Int) = (a : Int) + (q : Int) * 2 - 1 by omega], ⟨ds, HS.out, SegP.refl _ _ _⟩, H0⟩
  case round =>
    clear HS H0
    obtain ⟨i, X, hX, hi1, hi2, rfl, HI, HR⟩ := hrel
    by_cases hlt : i ≤ a + q * 2 + 1
    · have hlt' : (i : Int) ≤ (a : Int) + (q : Int) * 2 + 1 := by omega
      have cr : wr.cell? ⟨rb, 0, none⟩ = some (.int .u64 (X : Int)) := by rw [HR.out.cell 0]; rfl
      have fr := HR.out.frozen 0
      have CR := hide cr
      have FR := hide fr
      clear cr fr
      go_wp2_with (go_at_call 71; refine (next_any rb X hX wr CR.out FR.out).mono ?_; rintro e w2 ⟨Y, hY, rfl, hw⟩; obtain ⟨o, ho1, ho2⟩ := and_mask Y m hY hm0 (by omega); have HW := hide hw; clear hw)
      all_goals
        have HI2 : Hid (∃ es, SR w w2 g es rest ∧ SegP a b ds es) := by
          obtain ⟨es, h1, h2⟩ := HI.out
          rw [HW.out]
          exact ⟨es, (h1.young HG.out (by rw [HRB.out]; exact Nat.le_refl _) _ _).drewN 3, h2⟩
        have HR2 : Hid (Bl w2 rb [.int .u64 (Y : Int)] 117) := by
          show Bl _ _ _ _
          rw [HW.out]
          exact ((HR.out.set 0 _).drewN 3)
        clear HI HR CR FR HW ho2
        obtain ⟨W, hW⟩ : ∃ W, W = w2 := ⟨_, rfl⟩
        subst hW
        obtain ⟨es, h1, h2⟩ := HI2.out
        have HR := HR2
        have hel : es.length = n := by rw [h2.len, HN.out]
        clear HI2 HR2
      · obtain ⟨F, hF⟩ : ∃ F, F = a + (o - l) := ⟨_, rfl⟩
        have iF : (a : Int) + ((o : Int) - (l : Int)) = (F : Int) := by omega
        have bF : a ≤ F ∧ F < b := by omega
        clear hF
        by_cases hFi : F = i
        · have hFi2 := hFi.symm
          subst hFi2
          have ci := h1.cell (t := i) (by omega)
          have fi := h1.free i
          have SW : Hid (∃ fs, SR w (((W.setCell ⟨g, i, none⟩ (.int .u64 (gt es i : Int))).setCell ⟨g, i, none⟩ (.int .u64 (gt es i : Int))).drew) g fs rest ∧ SegP a b ds fs) := ⟨_, (h1.swap (by omega) (by omega)).drewN 1, h2.trans (seg_swp (by omega) (by omega) (by omega) (by omega) (by omega))⟩
          have RB : Hid (Bl (((W.setCell ⟨g, i, none⟩ (.int .u64 (gt es i : Int))).setCell ⟨g, i, none⟩ (.int .u64 (gt es i : Int))).drew) rb [.int .u64 (Y : Int)] 117) := ((HR.out.other (by omega) _ _).other (by omega) _ _).drewN 1
          generalize gt es i = x at *
          clear h1 h2 HR
          go_region
          all_goals go_wp2_with fail
          all_goals go_roundw
          case rel => exact ⟨i + 1, Y, hY, by omega, by omega, by simp, SW, RB⟩
          case measure => simp [intOf]; omega
        · have ci := h1.cell (t := i) (by omega)
          have fi := h1.free i
          have cF := h1.cell (t := F) (by omega)
          have fF := h1.free F
          have SW : Hid (∃ fs, SR w (((W.setCell ⟨g, i, none⟩ (.int .u64 (gt es F : Int))).setCell ⟨g, F, none⟩ (.int .u64 (gt es i : Int))).drew) g fs rest ∧ SegP a b ds fs) := ⟨_, (h1.swap (by omega) (by omega)).drewN 1, h2.trans (seg_swp (by omega) (by omega) (by omega) (by omega) (by omega))⟩
          have RB : Hid (Bl (((W.setCell ⟨g, i, none⟩ (.int .u64 (gt es F : Int))).setCell ⟨g, F, none⟩ (.int .u64 (gt es i : Int))).drew) rb [.int .u64 (Y : Int)] 117) := ((HR.out.other (by omega) _ _).other (by omega) _ _).drewN 1
          generalize gt es i = x at *
          generalize gt es F = y at *
          clear h1 h2 HR
          go_region
          all_goals go_wp2_with fail
          all_goals go_roundw
          case rel => exact ⟨i + 1, Y, hY, by omega, by omega, by simp, SW, RB⟩
          case measure => simp [intOf]; omega
      · obtain ⟨F, hF⟩ : ∃ F, F = a + o := ⟨_, rfl⟩
        have iF : (a : Int) + (o : Int) = (F : Int) := by omega
        have bF : a ≤ F ∧ F < b := by omega
        clear hF
        by_cases hFi : F = i
        · have hFi2 := hFi.symm
          subst hFi2
          have ci := h1.cell (t := i) (by omega)
          have fi := h1.free i
          have SW : Hid (∃ fs, SR w (((W.setCell ⟨g, i, none⟩ (.int .u64 (gt es i : Int))).setCell ⟨g, i, none⟩ (.int .u64 (gt es i : Int))).drew) g fs rest ∧ SegP a b ds fs) := ⟨_, (h1.swap (by omega) (by omega)).drewN 1, h2.trans (seg_swp (by omega) (by omega) (by omega) (by omega) (by omega))⟩
          have RB : Hid (Bl (((W.setCell ⟨g, i, none⟩ (.int .u64 (gt es i : Int))).setCell ⟨g, i, none⟩ (.int .u64 (gt es i : Int))).drew) rb [.int .u64 (Y : Int)] 117) := ((HR.out.other (by omega) _ _).other (by omega) _ _).drewN 1
          generalize gt es i = x at *
          clear h1 h2 HR
          go_region
          all_goals go_wp2_with fail
          all_goals go_roundw
          case rel => exact ⟨i + 1, Y, hY, by omega, by omega, by simp, SW, RB⟩
          case measure => simp [intOf]; omega
        · have ci := h1.cell (t := i) (by omega)
          have fi := h1.free i
          have cF := h1.cell (t := F) (by omega)
          have fF := h1.free F
          have SW : Hid (∃ fs, SR w (((W.setCell ⟨g, i, none⟩ (.int .u64 (gt es F : Int))).setCell ⟨g, F, none⟩ (.int .u64 (gt es i : Int))).drew) g fs rest ∧ SegP a b ds fs) := ⟨_, (h1.swap (by omega) (by omega)).drewN 1, h2.trans (seg_swp (by omega) (by omega) (by omega) (by omega) (by omega))⟩
          have RB : Hid (Bl (((W.setCell ⟨g, i, none⟩ (.int .u64 (gt es F : Int))).setCell ⟨g, F, none⟩ (.int .u64 (gt es i : Int))).drew) rb [.int .u64 (Y : Int)] 117) := ((HR.out.other (by omega) _ _).other (by omega) _ _).drewN 1
          generalize gt es i = x at *
          generalize gt es F = y at *
          clear h1 h2 HR
          go_region
          all_goals go_wp2_with fail
          all_goals go_roundw
          case rel => exact ⟨i + 1, Y, hY, by omega, by omega, by simp, SW, RB⟩
          case measure => simp [intOf]; omega
    · have hlt' : ¬ (i : Int) ≤ (a : Int) + (q : Int) * 2 + 1 := by omega
      clear HR
      go_wp2_with fail
      go_end0
      exact ⟨rfl, HI.out⟩
end Go.Proofs.Ytmngmkbiibhmkaa
