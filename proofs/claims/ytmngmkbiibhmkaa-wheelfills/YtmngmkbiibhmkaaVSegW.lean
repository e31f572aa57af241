/- A row that is being sorted, in memory; Less, insertionSort. -/
import Derived.CellFam
import Derived.Test.YtmngmkbiibhmkaaVSort
import Derived.Test.YtmngmkbiibhmkaaVSegM
namespace Go.Proofs.Ytmngmkbiibhmkaa
open Go.RowKit Go.Maps

/-- The row's block holds ds, behind it whatever; of the rest nothing old has turned. -/
structure SR (w wr : World) (g : Nat) (ds : List Nat) (rest : List Value) : Prop where
  bl : Bl wr g (ds.map uv ++ rest) 22
  but : But g w wr
theorem SR.refl {w : World} {g : Nat} {ds : List Nat} {rest : List Value} (h : Bl w g (ds.map uv ++ rest) 22) : SR w w g ds rest := ⟨h, But.refl _ _⟩
theorem SR.trans {w w1 w2 : World} {g : Nat} {ds es : List Nat} {rest : List Value} (h : SR w w1 g ds rest) (k : SR w1 w2 g es rest) : SR w w2 g es rest := ⟨k.bl, h.but.trans k.but⟩
theorem SR.drewN {w wr : World} {g : Nat} {ds : List Nat} {rest : List Value} (h : SR w wr g ds rest) (n : Nat) : SR w (wr.drewN n) g ds rest := ⟨h.bl.drewN n, h.but.trans (But.drewN _ _ n)⟩
theorem SR.below {w wr w' : World} {g : Nat} {ds : List Nat} {rest : List Value} (h : SR w wr g ds rest) (hb : Below wr.heap.size wr w') : SR w w' g ds rest := ⟨h.bl.keep hb, h.but.trans (But.of hb)⟩
theorem SR.cell {w wr : World} {g : Nat} {ds : List Nat} {rest : List Value} (h : SR w wr g ds rest) {t : Nat} (ht : t < ds.length) : wr.cell? ⟨g, t, none⟩ = some (.int .u64 (gt ds t : Int)) := by
  rw [h.bl.cell t, List.getElem?_append_left (by simpa using ht)]
  simp [gt, List.getD, ht, uv]
theorem SR.free {w wr : World} {g : Nat} {ds : List Nat} {rest : List Value} (h : SR w wr g ds rest) (t : Nat) : wr.frozen? ⟨g, t, none⟩ = false := h.bl.frozen t
theorem SR.swap {w wr : World} {g i j : Nat} {ds : List Nat} {rest : List Value} (h : SR w wr g ds rest) (hi : i < ds.length) (hj : j < ds.length) : SR w ((wr.setCell ⟨g, i, none⟩ (.int .u64 (gt ds j : Int))).setCell ⟨g, j, none⟩ (.int .u64 (gt ds i : Int))) g (swp ds i j) rest := by
  refine ⟨?_, (h.but.trans (But.setCell g wr i _)).trans (But.setCell g _ j _)⟩
  have := (h.bl.set i (.int .u64 (gt ds j : Int))).set j (.int .u64 (gt ds i : Int))
  rw [List.set_append_left _ _ (by simpa using hi), List.set_append_left _ _ (by simpa using hj)] at this
  rw [show (swp ds i j).map uv = ((ds.map uv).set i (.int .u64 (gt ds j : Int))).set j (.int .u64 (gt ds i : Int)) by unfold swp; rw [List.map_set, List.map_set]; rfl]
  exact this
set_option maxHeartbeats 1000000 in
set_option maxRecDepth 100000 in
theorem less_any (a b : Nat) (w : World) : Calls Try.prog 80 #[.int .u64 (a : Int), .int .u64 (b : Int)] w fun e w' => e = .returned (.bool (decide (a < b))) ∧ w' = w := by
  have HA := hide (isNaN_any a w)
  go_enter Try.func80, Try.ntmps80
  go_wp2_with (go_at_call 53; refine HA.out.mono ?_; rintro e w2 ⟨rfl, hw⟩; have h := hw.symm; subst h)
  go_ret
  exact ⟨rfl, rfl⟩
set_option maxHeartbeats 8000000 in
set_option maxRecDepth 100000 in
theorem insertion_any (g n cap a b : Nat) (ds : List Nat) (rest : List Value) (w : World) (hB : Bl w g (ds.map uv ++ rest) 22) (hn : n = ds.length) (hl : n ≤ 1000000) (hab : a ≤ b) (hb : b ≤ n) :
    Calls Try.prog 74 #[.slice (some ⟨g, 0, none⟩) n cap, .int .i64 (a : Int), .int .i64 (b : Int)] w fun e w' => e = .returned (.tuple #[]) ∧ ∃ es, SR w w' g es rest ∧ SegP a b ds es ∧ Srt a b es := by
  have HB := hide hB
  have HN := hide hn
  clear hB hn
  go_enter Try.func74, Try.ntmps74
  go_wp2
  go_loopw [6] (fun v6 wr => ∃ i : Nat, a < i ∧ i ≤ b + 1 ∧ v6 = .int .i64 (i : Int) ∧ Hid (∃ es, SR w wr g es rest ∧ SegP a b ds es ∧ Srt a i es)) (fun v6 _ => b + 1 - (intOf v6).toNat)
  case atStart => exact ⟨a + 1, by omega, by omega, by simp, ds, SR.refl HB.out, SegP.refl _ _ _, fun p q h1 h2 h3 => by omega⟩
  case round =>
    obtain ⟨i, hai, hib, rfl, HI⟩ := hrel
    by_cases hlt : i < b
    · go_wp2_with fail
      go_loopw [7] (fun v7 wr => ∃ j : Nat, a ≤ j ∧ j ≤ i ∧ v7 = .int .i64 (j : Int) ∧ Hid (∃ es, SR w wr g es rest ∧ SegP a b ds es ∧ InsJ a j i es)) (fun v7 _ => (intOf v7).toNat)
      case atStart =>
        obtain ⟨es, h1, h2, h3⟩ := HI.out
        exact ⟨i, by omega, by omega, rfl, es, h1, h2, insJ_start h3⟩
      case round =>
        clear HI
        obtain ⟨j, haj, hji, rfl, HI⟩ := hrel
        obtain ⟨es, h1, h2, h3⟩ := HI.out
        have hel : es.length = n := by rw [h2.len, HN.out]
        have HE := hide (show SR w wr g es rest ∧ SegP a b ds es ∧ InsJ a j i es from ⟨h1, h2, h3⟩)
        have OUT : Hid ((j ≤ a ∨ gt es (j - 1) ≤ gt es j) → ∀ q, ∃ es, SR w (wr.drewN q) g es rest ∧ SegP a b ds es ∧ Srt a (i + 1) es) := fun hs q => ⟨es, h1.drewN q, h2, insJ_stop h3 hs⟩
        by_cases hja : a < j
        · have cj := h1.cell (t := j) (by omega)
          have ck := h1.cell (t := j - 1) (by omega)
          have fj := h1.free j
          have fk := h1.free (j - 1)
          have hjk : (j : Int) - 1 = ((j - 1 : Nat) : Int) := by omega
          have SW : Hid (gt es j < gt es (j - 1) → ∀ q, ∃ fs, SR w (((wr.setCell ⟨g, j, none⟩ (.int .u64 (gt es (j - 1) : Int))).setCell ⟨g, j - 1, none⟩ (.int .u64 (gt es j : Int))).drewN q) g fs rest ∧ SegP a b ds fs ∧ InsJ a (j - 1) i fs) := fun hs q => ⟨_, (h1.swap (by omega) (by omega)).drewN q, h2.trans (seg_swp (by omega) (by omega) (by omega) (by omega) (by omega)), insJ_swap h3 hja hji (by omega) hs⟩
          generalize gt es j = x at *
          generalize gt es (j - 1) = y at *
          have hja' : (a : Int) < (j : Int) := by omega
          clear h1 h2 h3
          by_cases hxy : x < y
          · have hd : decide (x < y) = true := decide_eq_true hxy
            have HSW := hide (SW.out hxy)
            clear SW OUT
            go_wp2_with fail
            go_quiet ((go_at_call 80; exact Calls.quiet_of_same (less_any _ _ _)))
            go_wp2_with fail
            go_region
            all_goals go_wp2_with fail
            all_goals go_roundw
            case rel => exact ⟨j - 1, by omega, by omega, rfl, HSW.out (nq + 1)⟩
            case measure => simp [intOf]; omega
          · have hd : decide (x < y) = false := decide_eq_false hxy
            have HOU := hide (OUT.out (.inr (by omega)))
            clear SW OUT
            go_wp2_with fail
            go_quiet ((go_at_call 80; exact Calls.quiet_of_same (less_any _ _ _)))
            go_wp2_with fail
            go_roundw
            case rel => exact ⟨i + 1, by omega, by omega, by simp, HOU.out nq⟩
            case measure => simp [intOf]; omega
        · have hja' : ¬ (a : Int) < (j : Int) := by omega
          have HOU := hide (OUT.out (.inl (by omega)))
          clear OUT h1 h2 h3
          go_wp2_with fail
          go_quiet ((go_at_call 80; exact Calls.quiet_of_same (less_any _ _ _)))
          go_wp2_with fail
          go_roundw
          case rel => exact ⟨i + 1, by omega, by omega, by simp, HOU.out nq⟩
          case measure => simp [intOf]; omega
    · have hlt' : ¬ (i : Int) < (b : Int) := by omega
      have HE : Hid (∃ es, SR w wr g es rest ∧ SegP a b ds es ∧ Srt a b es) := by
        obtain ⟨es, h1, h2, h3⟩ := HI.out
        exact ⟨es, h1, h2, fun p q k1 k2 k3 => h3 p q k1 k2 (by omega)⟩
      go_wp2_with fail
      go_end0
      exact ⟨rfl, HE.out⟩
end Go.Proofs.Ytmngmkbiibhmkaa
