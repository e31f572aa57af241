/- heapSort, reverseRange. -/
import Derived.Test.YtmngmkbiibhmkaaVHeap
import Derived.Test.YtmngmkbiibhmkaaVHeapM
namespace Go.Proofs.Ytmngmkbiibhmkaa
open Go.RowKit Go.Maps

theorem sift0_any (g n cap hi f : Nat) (ds : List Nat) (rest : List Value) (w : World) (hB : Bl w g (ds.map uv ++ rest) 22) (hn : n = ds.length) (hl : n ≤ 1000000) (hb : f + hi ≤ n) (hH : HeapF f 1 hi ds) :
    Calls Try.prog 84 #[.slice (some ⟨g, 0, none⟩) n cap, .int .i64 0, .int .i64 (hi : Int), .int .i64 (f : Int)] w fun e w' => e = .returned (.tuple #[]) ∧ ∃ es, SR w w' g es rest ∧ SegP f (f + hi) ds es ∧ HeapF f 0 hi es :=
  sift_any g n cap 0 hi f ds rest w hB hn hl (Nat.zero_le _) hb hH

set_option maxHeartbeats 1000000 in
set_option maxRecDepth 100000 in
theorem heapSort_any (g n cap a b : Nat) (ds : List Nat) (rest : List Value) (w : World) (hB : Bl w g (ds.map uv ++ rest) 22) (hn : n = ds.length) (hd : ds.Nodup) (hl : n ≤ 1000000) (hab : a < b) (hb : b ≤ n) :
    Calls Try.prog 75 #[.slice (some ⟨g, 0, none⟩) n cap, .int .i64 (a : Int), .int .i64 (b : Int)] w fun e w' => e = .returned (.tuple #[]) ∧ ∃ es, SR w w' g es rest ∧ SegP a b ds es ∧ Srt a b es := by
  obtain ⟨hi, hhi⟩ : ∃ hi, hi = b - a := ⟨_, rfl⟩
  have hhi' : (b : Int) - (a : Int) = (hi : Int) := by omega
  have HB := hide hB
  have HN := hide hn
  have HD := hide hd
  have hq : ((hi : Int) - 1) / 2 = (((hi - 1) / 2 : Nat) : Int) := by omega
  obtain ⟨s, hs⟩ : ∃ s, s = (hi - 1) / 2 := ⟨_, rfl⟩
  rw [← hs] at hq
  have hs1 : s < hi := by omega
  have HS : Hid (hi ≤ 2 * (s + 1) + 1) := by show hi ≤ _; omega
  have hh2 : a + hi = b := by omega
  have HH := hide hhi
  have HQ := hide hq
  clear hB hn hd hs hhi hq
  go_enter Try.func75, Try.ntmps75
  go_wp2
  go_loopw [9] (fun v9 wr => ∃ k : Nat, k ≤ hi ∧ v9 = .int .i64 ((k : Int) - 1) ∧ Hid (∃ es, SR w wr g es rest ∧ SegP a b ds es ∧ HeapF a k hi es)) (fun v9 _ => (intOf v9 + 1).toNat)
  case atStart => exact ⟨s + 1, by omega, by rw [show ((s + 1 : Nat) : Int) - 1 = (s : Int) by omega, HQ.out], ds, SR.refl HB.out, SegP.refl _ _ _, heapF_none _ HS.out⟩
  case round =>
    obtain ⟨k, hk, rfl, HI⟩ := hrel
    by_cases h0 : k = 0
    · subst h0
      have h0' : ¬ (0 : Int) ≤ ((0 : Nat) : Int) - 1 := by omega
      have HI2 : Hid (∃ es, SR w wr g es rest ∧ SegP a b ds es ∧ HeapF a 0 hi es) := HI.out
      clear HI
      go_wp2_with fail
      go_loopw [10] (fun v10 wr => ∃ k : Nat, k ≤ hi ∧ v10 = .int .i64 ((k : Int) - 1) ∧ Hid (∃ es, SR w wr g es rest ∧ SegP a b ds es ∧ HeapF a 0 k es ∧ Tail a k b es)) (fun v10 _ => (intOf v10 + 1).toNat)
      case atStart =>
        obtain ⟨es, h1, h2, h3⟩ := HI2.out
        exact ⟨hi, by omega, rfl, es, h1, h2, h3, fun p q k1 k2 k3 k4 => by omega⟩
      case round =>
        clear HI2
        obtain ⟨k, hk, rfl, HI⟩ := hrel
        by_cases h0 : k = 0
        · subst h0
          have h0'' : ¬ (0 : Int) ≤ ((0 : Nat) : Int) - 1 := by omega
          have HE : Hid (∃ es, SR w wr g es rest ∧ SegP a b ds es ∧ Srt a b es) := by
            obtain ⟨es, h1, h2, h3, h4⟩ := HI.out
            exact ⟨es, h1, h2, fun p q k1 k2 k3 => h4 p q k1 k2 (by omega) k3⟩
          clear HI
          go_wp2_with fail
          go_end0
          exact ⟨rfl, HE.out⟩
        · obtain ⟨i, rfl⟩ : ∃ i, k = i + 1 := ⟨k - 1, by omega⟩
          rw [show ((i + 1 : Nat) : Int) - 1 = (i : Int) by omega]
          obtain ⟨es, h1, h2, h3, h4⟩ := HI.out
          clear HI h0
          have hel : es.length = n := by rw [h2.len, HN.out]
          obtain ⟨F, hF⟩ : ∃ x, x = a + i := ⟨_, rfl⟩
          have iF : (a : Int) + (i : Int) = (F : Int) := by omega
          have wF : IntKind.i64.wrap (F : Int) = (F : Int) := by rw [IntKind.wrap_i64]; omega
          rcases (show a = F ∨ a < F by omega) with hlt | hlt
          · obtain rfl : i = 0 := by omega
            have hFa : a = F := by omega
            subst hFa
            have la : a < n := by omega
            have ca := h1.cell (t := a) (by omega)
            have fa := h1.free a
            have SW : Hid (SR w (((wr.setCell ⟨g, a, none⟩ (.int .u64 (gt es a : Int))).setCell ⟨g, a, none⟩ (.int .u64 (gt es a : Int))).drew) g (swp es a a) rest) := (h1.swap (by omega) (by omega)).drewN 1
            have hp : HeapF a 1 0 (swp es a a) ∧ Tail a 0 b (swp es a a) := by
              have := heap_pop h3 h4 (by omega) (by omega)
              simpa using this
            have HP := hide hp
            have HG := hide (h2.trans (seg_swp (b := b) (i := a) (j := a) (by omega) (by omega) (by omega) (by omega) (by omega)))
            obtain ⟨x, hx⟩ : ∃ x, x = gt es a := ⟨_, rfl⟩
            rw [← hx] at SW
            rw [← hx] at ca
            generalize swp es a a = fs at *
            clear h1 h2 h3 h4 hp hx hF
            go_wp2_with fail
            go_region
            all_goals go_wp2_with (go_at_call 84; refine (sift0_any g n cap 0 a fs rest _ SW.out.bl (by rw [HG.out.len, HN.out]) hl (by omega) HP.out.1).mono ?_; rintro e w2 ⟨rfl, hw⟩; obtain ⟨gs, g1, g2, g3⟩ := hw; have HI : Hid (∃ es, SR w w2 g es rest ∧ SegP a b ds es ∧ HeapF a 0 0 es ∧ Tail a 0 b es) := ⟨gs, SW.out.trans g1, HG.out.trans (g2.mono (by omega) (by omega)), g3, HP.out.2.seg g2 (HG.out.nodup HD.out) (by omega) (by rw [HG.out.len, ← HN.out]; exact hb)⟩; clear g1 g2 g3 SW HP HG)
            all_goals go_roundw
            case rel => exact ⟨0, by omega, by first | rfl | simp, HI⟩
            case measure => simp [intOf]
          · have la : a < n := by omega
            have lF : F < n := by omega
            have ca := h1.cell (t := a) (by omega)
            have cF := h1.cell (t := F) (by omega)
            have fa := h1.free a
            have fF := h1.free F
            have SW : Hid (SR w (((wr.setCell ⟨g, a, none⟩ (.int .u64 (gt es F : Int))).setCell ⟨g, F, none⟩ (.int .u64 (gt es a : Int))).drew) g (swp es a F) rest) := (h1.swap (by omega) (by omega)).drewN 1
            have hp : HeapF a 1 i (swp es a F) ∧ Tail a i b (swp es a F) := by
              have := heap_pop h3 h4 (by omega) (by omega)
              rwa [← hF] at this
            have HP := hide hp
            have HG := hide (h2.trans (seg_swp (b := b) (i := a) (j := F) (by omega) (by omega) (by omega) (by omega) (by omega)))
            obtain ⟨x, hx⟩ : ∃ x, x = gt es a := ⟨_, rfl⟩
            obtain ⟨y, hy⟩ : ∃ y, y = gt es F := ⟨_, rfl⟩
            rw [← hx, ← hy] at SW
            rw [← hx] at ca
            rw [← hy] at cF
            generalize swp es a F = fs at *
            clear h1 h2 h3 h4 hp hx hy hF
            go_wp2_with fail
            go_region
            all_goals go_wp2_with (go_at_call 84; refine (sift0_any g n cap i a fs rest _ SW.out.bl (by rw [HG.out.len, HN.out]) hl (by omega) HP.out.1).mono ?_; rintro e w2 ⟨rfl, hw⟩; obtain ⟨gs, g1, g2, g3⟩ := hw; have HI : Hid (∃ es, SR w w2 g es rest ∧ SegP a b ds es ∧ HeapF a 0 i es ∧ Tail a i b es) := ⟨gs, SW.out.trans g1, HG.out.trans (g2.mono (by omega) (by omega)), g3, HP.out.2.seg g2 (HG.out.nodup HD.out) (by omega) (by rw [HG.out.len, ← HN.out]; exact hb)⟩; clear g1 g2 g3 SW HP HG)
            all_goals go_roundw
            case rel => exact ⟨i, by omega, rfl, HI⟩
            case measure => simp [intOf]
    · obtain ⟨i, rfl⟩ : ∃ i, k = i + 1 := ⟨k - 1, by omega⟩
      rw [show ((i + 1 : Nat) : Int) - 1 = (i : Int) by omega]
      have HI2 := HI.out
      clear HI h0
      obtain ⟨es, h1, h2, h3⟩ := HI2
      have H1 := hide h1
      have H2 := hide h2
      have H3 := hide h3
      clear h1 h2 h3
      go_wp2_with (go_at_call 84; refine (sift_any g n cap i hi a es rest wr H1.out.bl (by rw [H2.out.len, HN.out]) hl (by omega) (by omega) H3.out).mono ?_; rintro e w2 ⟨rfl, hw⟩; obtain ⟨gs, g1, g2, g3⟩ := hw; have HI : Hid (∃ es, SR w w2 g es rest ∧ SegP a b ds es ∧ HeapF a i hi es) := ⟨gs, H1.out.trans g1, H2.out.trans (g2.mono (by omega) (by omega)), g3⟩; clear g1 g2 g3 H1 H2 H3)
      go_roundw
      case rel => exact ⟨i, by omega, rfl, HI⟩
      case measure => simp [intOf]
end Go.Proofs.Ytmngmkbiibhmkaa
