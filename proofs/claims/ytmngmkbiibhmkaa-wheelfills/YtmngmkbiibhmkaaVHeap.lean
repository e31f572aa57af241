/- siftDown, heapSort. -/
import Derived.Test.YtmngmkbiibhmkaaVSegW
namespace Go.Proofs.Ytmngmkbiibhmkaa
open Go.RowKit Go.Maps

set_option maxHeartbeats 8000000 in
set_option maxRecDepth 100000 in
theorem sift_any (g n cap lo hi f : Nat) (ds : List Nat) (rest : List Value) (w : World) (hB : Bl w g (ds.map uv ++ rest) 22) (hn : n = ds.length) (hl : n ≤ 1000000) (hlo : lo ≤ hi) (hb : f + hi ≤ n) (hH : HeapF f (lo + 1) hi ds) :
    Calls Try.prog 84 #[.slice (some ⟨g, 0, none⟩) n cap, .int .i64 (lo : Int), .int .i64 (hi : Int), .int .i64 (f : Int)] w fun e w' => e = .returned (.tuple #[]) ∧ ∃ es, SR w w' g es rest ∧ SegP (f + lo) (f + hi) ds es ∧ HeapF f lo hi es := by
  have HB := hide hB
  have HN := hide hn
  have HH := hide hH
  clear hB hn hH
  go_enter Try.func84, Try.ntmps84
  go_wp2
  go_loopw [8] (fun v8 wr => ∃ r : Nat, lo ≤ r ∧ r ≤ hi ∧ v8 = .int .i64 (r : Int) ∧ Hid (∃ es, SR w wr g es rest ∧ SegP (f + lo) (f + hi) ds es ∧ HeapR f lo hi r es)) (fun v8 _ => n + 1 - (intOf v8).toNat)
  case atStart => exact ⟨lo, by omega, by omega, rfl, ds, SR.refl HB.out, SegP.refl _ _ _, heapR_start HH.out⟩
  case round =>
    obtain ⟨r, hr1, hr2, rfl, HI⟩ := hrel
    obtain ⟨es, h1, h2, h3⟩ := HI.out
    have hel : es.length = n := by rw [h2.len, HN.out]
    clear HI
    obtain ⟨ch, hch⟩ : ∃ ch, ch = 2 * r + 1 := ⟨_, rfl⟩
    have hci : 2 * (r : Int) + 1 = (ch : Int) := by omega
    have HCH := hide hch
    by_cases hc : hi ≤ ch
    · have HE : Hid (∃ fs, SR w wr g fs rest ∧ SegP (f + lo) (f + hi) ds fs ∧ HeapF f lo hi fs) := ⟨es, h1, h2, heapR_stop h3 fun c k1 k2 => by omega⟩
      have hc' : (hi : Int) ≤ (ch : Int) := by omega
      clear h1 h2 h3 hch
      go_wp2_with fail
      go_end0
      exact ⟨rfl, HE.out⟩
    · have hc' : ¬ (hi : Int) ≤ (ch : Int) := by omega
      obtain ⟨FR, hFR⟩ : ∃ x, x = f + r := ⟨_, rfl⟩
      obtain ⟨F1, hF1⟩ : ∃ x, x = f + ch := ⟨_, rfl⟩
      obtain ⟨F2, hF2⟩ : ∃ x, x = f + (ch + 1) := ⟨_, rfl⟩
      have EF := hide (show FR = f + r ∧ F1 = f + ch ∧ F2 = f + (ch + 1) from ⟨hFR, hF1, hF2⟩)
      have iR : (f : Int) + (r : Int) = (FR : Int) := by omega
      have i1 : (f : Int) + (ch : Int) = (F1 : Int) := by omega
      have i2 : (F1 : Int) + 1 = (F2 : Int) := by omega
      have i3 : (f : Int) + ((ch : Int) + 1) = (F2 : Int) := by omega
      have lR : FR < n := by omega
      have l1 : F1 < n := by omega
      have wR : IntKind.i64.wrap (FR : Int) = (FR : Int) := by rw [IntKind.wrap_i64]; omega
      have w1 : IntKind.i64.wrap (F1 : Int) = (F1 : Int) := by rw [IntKind.wrap_i64]; omega
      have w2 : IntKind.i64.wrap (F2 : Int) = (F2 : Int) := by rw [IntKind.wrap_i64]; omega
      have cR := h1.cell (t := FR) (by omega)
      have c1 := h1.cell (t := F1) (by omega)
      have fR := h1.free FR
      have f1 := h1.free F1
      have f2 := h1.free F2
      by_cases hs : ch + 1 < hi
      · have hs' : (ch : Int) + 1 < (hi : Int) := by omega
        have l2 : F2 < n := by omega
        have c2 := h1.cell (t := F2) (by omega)
        by_cases hL : gt es F1 < gt es F2
        · have HM : Hid (∀ d, (d = 2 * r + 1 ∨ d = 2 * r + 2) → d < hi → gt es (f + d) ≤ gt es (f + (ch + 1))) := fun d hd _ => by rw [hF1, hF2] at hL; rcases hd with rfl | rfl; rw [← hch]; omega; rw [show 2 * r + 2 = ch + 1 by omega]; omega
          have hLd : decide (gt es F1 < gt es F2) = true := decide_eq_true hL
          have SW : Hid (gt es FR < gt es F2 → ∀ q, ∃ fs, SR w (((wr.setCell ⟨g, FR, none⟩ (.int .u64 (gt es F2 : Int))).setCell ⟨g, F2, none⟩ (.int .u64 (gt es FR : Int))).drewN q) g fs rest ∧ SegP (f + lo) (f + hi) ds fs ∧ HeapR f lo hi (ch + 1) fs) := fun hs q => ⟨_, (h1.swap (by omega) (by omega)).drewN q, h2.trans (seg_swp (by omega) (by omega) (by omega) (by omega) (by omega)), by rw [EF.out.1, EF.out.2.2] at hs ⊢; exact heapR_step h3 (by omega) (by omega) (by omega) (by omega) hs HM.out⟩
          have ST : Hid (¬ gt es FR < gt es F2 → ∀ q, ∃ fs, SR w (wr.drewN q) g fs rest ∧ SegP (f + lo) (f + hi) ds fs ∧ HeapF f lo hi fs) := fun hs q => ⟨es, h1.drewN q, h2, heapR_stop h3 fun d hd hdh => by have := HM.out d hd hdh; rw [EF.out.1, EF.out.2.2] at hs; omega⟩
          generalize gt es FR = x at *
          generalize gt es F1 = z1 at *
          generalize gt es F2 = z2 at *
          clear h1 h2 h3 HM hch hFR hF1 hF2
          by_cases hxy : x < z2
          · have hd : decide (x < z2) = true := decide_eq_true hxy
            have HSW := hide (SW.out hxy)
            clear SW ST
            go_wp2_with fail
            go_quiet ((go_at_call 80; exact (less_any _ _ _).mono fun _ _ h => ⟨h.1, _, h.2⟩))
            go_wp2_with fail
            go_quiet ((go_at_call 80; exact (less_any _ _ _).mono fun _ _ h => ⟨h.1, _, h.2⟩))
            go_wp2_with fail
            go_region
            all_goals go_wp2_with fail
            all_goals go_roundw
            case rel => exact ⟨ch + 1, by omega, by omega, by first | rfl | simp, HSW.out _⟩
            case measure => simp [intOf]; omega
          · have hd : decide (x < z2) = false := decide_eq_false hxy
            have HST := hide (ST.out hxy)
            clear SW ST
            go_wp2_with fail
            go_quiet ((go_at_call 80; exact (less_any _ _ _).mono fun _ _ h => ⟨h.1, _, h.2⟩))
            go_wp2_with fail
            go_quiet ((go_at_call 80; exact (less_any _ _ _).mono fun _ _ h => ⟨h.1, _, h.2⟩))
            go_wp2_with fail
            first | go_end0 | ((try simp only [Exit.inBlock, Exit.then]); refine bodyPost_ret (results_none rfl _ _ _) rfl ?_)
            exact ⟨rfl, by first | exact HST.out _ | (rw [World.drewN_drewN]; exact HST.out _)⟩
        · have HM : Hid (∀ d, (d = 2 * r + 1 ∨ d = 2 * r + 2) → d < hi → gt es (f + d) ≤ gt es (f + ch)) := fun d hd _ => by rw [hF1, hF2] at hL; rcases hd with rfl | rfl; rw [← hch]; exact Nat.le_refl _; rw [show 2 * r + 2 = ch + 1 by omega]; omega
          have hLd : decide (gt es F1 < gt es F2) = false := decide_eq_false hL
          have SW : Hid (gt es FR < gt es F1 → ∀ q, ∃ fs, SR w (((wr.setCell ⟨g, FR, none⟩ (.int .u64 (gt es F1 : Int))).setCell ⟨g, F1, none⟩ (.int .u64 (gt es FR : Int))).drewN q) g fs rest ∧ SegP (f + lo) (f + hi) ds fs ∧ HeapR f lo hi (ch) fs) := fun hs q => ⟨_, (h1.swap (by omega) (by omega)).drewN q, h2.trans (seg_swp (by omega) (by omega) (by omega) (by omega) (by omega)), by rw [EF.out.1, EF.out.2.1] at hs ⊢; exact heapR_step h3 (by omega) (by omega) (by omega) (by omega) hs HM.out⟩
          have ST : Hid (¬ gt es FR < gt es F1 → ∀ q, ∃ fs, SR w (wr.drewN q) g fs rest ∧ SegP (f + lo) (f + hi) ds fs ∧ HeapF f lo hi fs) := fun hs q => ⟨es, h1.drewN q, h2, heapR_stop h3 fun d hd hdh => by have := HM.out d hd hdh; rw [EF.out.1, EF.out.2.1] at hs; omega⟩
          generalize gt es FR = x at *
          generalize gt es F1 = z1 at *
          generalize gt es F2 = z2 at *
          clear h1 h2 h3 HM hch hFR hF1 hF2
          by_cases hxy : x < z1
          · have hd : decide (x < z1) = true := decide_eq_true hxy
            have HSW := hide (SW.out hxy)
            clear SW ST
            go_wp2_with fail
            go_quiet ((go_at_call 80; exact (less_any _ _ _).mono fun _ _ h => ⟨h.1, _, h.2⟩))
            go_wp2_with fail
            go_quiet ((go_at_call 80; exact (less_any _ _ _).mono fun _ _ h => ⟨h.1, _, h.2⟩))
            go_wp2_with fail
            go_region
            all_goals go_wp2_with fail
            all_goals go_roundw
            case rel => exact ⟨ch, by omega, by omega, by first | rfl | simp, HSW.out _⟩
            case measure => simp [intOf]; omega
          · have hd : decide (x < z1) = false := decide_eq_false hxy
            have HST := hide (ST.out hxy)
            clear SW ST
            go_wp2_with fail
            go_quiet ((go_at_call 80; exact (less_any _ _ _).mono fun _ _ h => ⟨h.1, _, h.2⟩))
            go_wp2_with fail
            go_quiet ((go_at_call 80; exact (less_any _ _ _).mono fun _ _ h => ⟨h.1, _, h.2⟩))
            go_wp2_with fail
            first | go_end0 | ((try simp only [Exit.inBlock, Exit.then]); refine bodyPost_ret (results_none rfl _ _ _) rfl ?_)
            exact ⟨rfl, by first | exact HST.out _ | (rw [World.drewN_drewN]; exact HST.out _)⟩
      · have hs' : ¬ (ch : Int) + 1 < (hi : Int) := by omega
        have w3 : IntKind.i64.wrap ((ch : Int) + 1) = (ch : Int) + 1 := by rw [IntKind.wrap_i64]; omega
        have hsd : decide ((ch : Int) + 1 < (hi : Int)) = false := decide_eq_false hs'
        have HM : Hid (∀ d, (d = 2 * r + 1 ∨ d = 2 * r + 2) → d < hi → gt es (f + d) ≤ gt es (f + ch)) := fun d hd hdh => by rcases hd with rfl | rfl; rw [← hch]; exact Nat.le_refl _; omega
        have SW : Hid (gt es FR < gt es F1 → ∀ q, ∃ fs, SR w (((wr.setCell ⟨g, FR, none⟩ (.int .u64 (gt es F1 : Int))).setCell ⟨g, F1, none⟩ (.int .u64 (gt es FR : Int))).drewN q) g fs rest ∧ SegP (f + lo) (f + hi) ds fs ∧ HeapR f lo hi (ch) fs) := fun hs q => ⟨_, (h1.swap (by omega) (by omega)).drewN q, h2.trans (seg_swp (by omega) (by omega) (by omega) (by omega) (by omega)), by rw [EF.out.1, EF.out.2.1] at hs ⊢; exact heapR_step h3 (by omega) (by omega) (by omega) (by omega) hs HM.out⟩
        have ST : Hid (¬ gt es FR < gt es F1 → ∀ q, ∃ fs, SR w (wr.drewN q) g fs rest ∧ SegP (f + lo) (f + hi) ds fs ∧ HeapF f lo hi fs) := fun hs q => ⟨es, h1.drewN q, h2, heapR_stop h3 fun d hd hdh => by have := HM.out d hd hdh; rw [EF.out.1, EF.out.2.1] at hs; omega⟩
        generalize gt es FR = x at *
        generalize gt es F1 = z1 at *
        clear h1 h2 h3 HM hch hFR hF1 hF2
        by_cases hxy : x < z1
        · have hd : decide (x < z1) = true := decide_eq_true hxy
          have HSW := hide (SW.out hxy)
          clear SW ST
          go_wp2_with fail
          go_quiet ((go_at_call 80; exact (less_any _ _ _).mono fun _ _ h => ⟨h.1, _, h.2⟩))
          go_wp2_with fail
          go_quiet ((go_at_call 80; exact (less_any _ _ _).mono fun _ _ h => ⟨h.1, _, h.2⟩))
          go_wp2_with fail
          go_region
          all_goals go_wp2_with fail
          all_goals go_roundw
          case rel => exact ⟨ch, by omega, by omega, by first | rfl | simp, HSW.out _⟩
          case measure => simp [intOf]; omega
        · have hd : decide (x < z1) = false := decide_eq_false hxy
          have HST := hide (ST.out hxy)
          clear SW ST
          go_wp2_with fail
          go_quiet ((go_at_call 80; exact (less_any _ _ _).mono fun _ _ h => ⟨h.1, _, h.2⟩))
          go_wp2_with fail
          go_quiet ((go_at_call 80; exact (less_any _ _ _).mono fun _ _ h => ⟨h.1, _, h.2⟩))
          go_wp2_with fail
          first | go_end0 | ((try simp only [Exit.inBlock, Exit.then]); refine bodyPost_ret (results_none rfl _ _ _) rfl ?_)
          exact ⟨rfl, by first | exact HST.out _ | (rw [World.drewN_drewN]; exact HST.out _)⟩
end Go.Proofs.Ytmngmkbiibhmkaa
