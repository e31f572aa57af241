/- The law's live: a timer is told when it is due. -/
import Derived.Test.YtmngmkbiibhmkaaVLive
namespace Go.Proofs.Ytmngmkbiibhmkaa
open Go.RowKit Go.Maps

theorem live_sort : ((advD 105 [(3, 105), (7, 105), (9, 101)]).mergeSort leT).map (·.1) = [9, 3, 7] := by
  have e : advD 105 [(3, 105), (7, 105), (9, 101)] = [(3, 105), (7, 105), (9, 101)] := by decide
  have e2 : [(3, 105), (7, 105), (9, 101)].mergeSort leT = [(9, 101), (3, 105), (7, 105)] :=
    sorted_eq (merge_sorted _) (by decide) ((List.mergeSort_perm _ leT).trans (by decide))
  rw [e, e2]
  rfl
/-- A wheel of one's own: all of it is young, and of what was there nothing has turned. -/
structure Mine (w0 w : World) (wp now : Nat) (L : List Tm) : Prop where
  whl : ∃ Y, Whl w wp now L Y ∧ ∀ b ∈ Y.blocks wp, w0.heap.size ≤ b
  bel : Below w0.heap.size w0 w
theorem Mine.aft {w0 w w' : World} {wp now' : Nat} {L' : List Tm} {Y Y' : Lay} (h1 : ∀ b ∈ Y.blocks wp, w0.heap.size ≤ b) (hb : Below w0.heap.size w0 w) (h2 : Whl w' wp now' L' Y') (hA : Aft wp Y Y' w w') : Mine w0 w' wp now' L' :=
  ⟨⟨Y', h2, fun b hm => by
    rcases hA.new b hm with h | h
    · exact h1 b h
    · exact Nat.le_trans hb.size h⟩, hb.trans (hA.fr.below _ hb.size h1)⟩
theorem Mine.below {w0 w w' : World} {wp now : Nat} {L : List Tm} (h : Mine w0 w wp now L) (hb : Below w.heap.size w w') : Mine w0 w' wp now L := by
  obtain ⟨⟨Y, h1, h2⟩, h3⟩ := h
  exact ⟨⟨Y, h1.below hb, h2⟩, h3.trans (hb.mono h3.size)⟩
theorem new_mine (now : Nat) (w : World) (hn : now < 18446744073709551616) : Calls Try.prog 7 #[.int .u64 (now : Int)] w fun e w' => ∃ wp, e = .returned (pw wp) ∧ Mine w w' wp now [] :=
  (new_any now w hn).mono fun _ _ ⟨wp, Y, he, h1, h2, h3⟩ => ⟨wp, he, ⟨Y, h1, h3⟩, h2⟩
theorem add_mine {w0 w : World} {wp now : Nat} {L : List Tm} (h : Mine w0 w wp now L) (id a : Nat) (hid : id < 18446744073709551616) (ha : a < 18446744073709551616) :
    Calls Try.prog 14 #[pw wp, .int .u64 (id : Int), .int .u64 (a : Int)] w fun e w' => e = .returned (.int .i64 (addE now L id a : Int)) ∧ Mine w0 w' wp now (addL now L id a) := by
  obtain ⟨⟨Y, h1, h2⟩, h3⟩ := h
  exact (add_any wp now id a L Y w h1 hid ha).mono fun _ _ ⟨he, _, k1, k2⟩ => ⟨he, Mine.aft h2 h3 k1 k2⟩
theorem remove_mine {w0 w : World} {wp now : Nat} {L : List Tm} (h : Mine w0 w wp now L) (id : Nat) (hid : id < 18446744073709551616) :
    Calls Try.prog 23 #[pw wp, .int .u64 (id : Int)] w fun e w' => e = .returned (.int .i64 (remE L id : Int)) ∧ Mine w0 w' wp now (tdel id L) := by
  obtain ⟨⟨Y, h1, h2⟩, h3⟩ := h
  exact (remove_any wp now id L Y w h1 hid).mono fun _ _ ⟨he, _, k1, k2⟩ => ⟨he, Mine.aft h2 h3 k1 k2⟩
theorem advance_mine {w0 w : World} {wp now : Nat} {L : List Tm} (h : Mine w0 w wp now L) (tt : Nat) (htt : tt < 18446744073709551616) :
    Calls Try.prog 19 #[pw wp, .int .u64 (tt : Int)] w fun e w' => ∃ ao n c, e = .returned (.tuple #[.slice ao n c, .int .i64 (if tt < now then 70 else 0)]) ∧ Own w' w.heap.size (.slice ao n c) (((advD tt L).mergeSort leT).map (·.1)) ∧ Mine w0 w' wp (max now tt) (advL tt L) := by
  obtain ⟨⟨Y, h1, h2⟩, h3⟩ := h
  exact (advance_any wp now tt L Y w h1 htt).mono fun _ _ ⟨ao, n, c, _, he, k0, _, k1, k2⟩ => ⟨ao, n, c, he, k0, Mine.aft h2 h3 k1 k2⟩
theorem len_mine {w0 w : World} {wp now : Nat} {L : List Tm} (h : Mine w0 w wp now L) : Calls Try.prog 16 #[pw wp] w fun e w' => e = .returned (.int .i64 (L.length : Int)) ∧ w' = w := by
  obtain ⟨⟨Y, h1, h2⟩, h3⟩ := h
  exact len_any wp now L Y w h1
theorem now_mine {w0 w : World} {wp now : Nat} {L : List Tm} (h : Mine w0 w wp now L) : Calls Try.prog 25 #[pw wp] w fun e w' => e = .returned (.int .u64 (now : Int)) ∧ w' = w := by
  obtain ⟨⟨Y, h1, h2⟩, h3⟩ := h
  exact now_any wp now L Y w h1
theorem at_mine {w0 w : World} {wp now : Nat} {L : List Tm} (h : Mine w0 w wp now L) (id : Nat) (hid : id < 18446744073709551616) : Calls Try.prog 27 #[pw wp, .int .u64 (id : Int)] w fun e w' => e = .returned (.tuple #[.int .u64 (((tget id L).getD 0 : Nat) : Int), .bool (tget id L).isSome]) ∧ w' = w := by
  obtain ⟨⟨Y, h1, h2⟩, h3⟩ := h
  exact at_any wp now id L Y w h1 hid
theorem row_three (w : World) (a b c : Nat) (t : TypeId) : Row (w.alloc (.cells #[.int .u64 (a : Int), .int .u64 (b : Int), .int .u64 (c : Int)] t)) (some ⟨w.heap.size, 0, none⟩) [a, b, c] := by
  refine .inr ⟨_, _, rfl, fun i hi => ?_⟩
  have hb := Bl.new w #[.int .u64 (a : Int), .int .u64 (b : Int), .int .u64 (c : Int)] t
  rw [Nat.zero_add, hb.cell i]
  have : i < 3 := by simpa using hi
  rcases (by omega : i = 0 ∨ i = 1 ∨ i = 2) with rfl | rfl | rfl <;> rfl
set_option maxHeartbeats 4000000 in
set_option maxRecDepth 100000 in
theorem live_true (w : World) : Calls Try.prog 9 #[] w fun e w' => e = .returned (.bool true) ∧ Below w.heap.size w w' := by
  have H0 : Hid (Calls Try.prog 7 #[.int .u64 100] w fun e w' => ∃ wp, e = .returned (pw wp) ∧ Mine w w' wp 100 []) := new_mine 100 w (by decide)
  have H1 : Hid (∀ w1 wp, Mine w w1 wp 100 [] → Calls Try.prog 14 #[pw wp, .int .u64 7, .int .u64 105] w1 fun e w' => e = .returned (.int .i64 0) ∧ Mine w w' wp 100 [(7, 105)]) := fun w1 wp h => add_mine h 7 105 (by decide) (by decide)
  have H2 : Hid (∀ w1 wp, Mine w w1 wp 100 [(7, 105)] → Calls Try.prog 14 #[pw wp, .int .u64 3, .int .u64 105] w1 fun e w' => e = .returned (.int .i64 0) ∧ Mine w w' wp 100 [(3, 105), (7, 105)]) := fun w1 wp h => add_mine h 3 105 (by decide) (by decide)
  have H3 : Hid (∀ w1 wp, Mine w w1 wp 100 [(3, 105), (7, 105)] → Calls Try.prog 14 #[pw wp, .int .u64 9, .int .u64 101] w1 fun e w' => e = .returned (.int .i64 0) ∧ Mine w w' wp 100 [(3, 105), (7, 105), (9, 101)]) := fun w1 wp h => add_mine h 9 101 (by decide) (by decide)
  have H4 : Hid (∀ w1 wp, Mine w w1 wp 100 [(3, 105), (7, 105), (9, 101)] → Calls Try.prog 19 #[pw wp, .int .u64 105] w1 fun e w' => ∃ ao n c, e = .returned (.tuple #[.slice ao n c, .int .i64 0]) ∧ Own w' w1.heap.size (.slice ao n c) [9, 3, 7] ∧ Mine w w' wp 105 []) := fun w1 wp h => by
    have := advance_mine h 105 (by decide)
    rw [live_sort] at this
    exact this
  unfold pw at *
  go_enter Try.func9, Try.ntmps9
  go_wp2_with fail
  refine H0.out.mono ?_
  rintro e w1 ⟨wp, rfl, h1⟩
  have M1 := hide h1
  clear h1
  go_wp2_with fail
  refine (H1.out w1 wp M1.out).mono ?_
  rintro e w2 ⟨rfl, h2⟩
  have M2 := hide h2
  clear h2
  go_wp2_with fail
  refine (num_any 0 w2).mono ?_
  rintro e w2' ⟨rfl, hw⟩
  have hw2 := hw.symm
  subst hw2
  go_wp2_with fail
  refine (H2.out w2 wp M2.out).mono ?_
  rintro e w3 ⟨rfl, h3⟩
  have M3 := hide h3
  clear h3
  go_wp2_with fail
  refine (num_any 0 w3).mono ?_
  rintro e w3' ⟨rfl, hw⟩
  have hw2 := hw.symm
  subst hw2
  go_wp2_with fail
  refine (H3.out w3 wp M3.out).mono ?_
  rintro e w4 ⟨rfl, h4⟩
  have M4 := hide h4
  clear h4
  go_wp2_with fail
  refine (num_any 0 w4).mono ?_
  rintro e w4' ⟨rfl, hw⟩
  have hw2 := hw.symm
  subst hw2
  go_wp2_with fail
  refine (H4.out w4 wp M4.out).mono ?_
  rintro e w5 ⟨ao, n, c, rfl, ho, h5⟩
  obtain ⟨ao', c', e1, -, hrow⟩ := ho.read
  injection e1 with e1 e2 e3
  subst e1; subst e3
  have HNE := hide e2
  have HRow := hide hrow
  have M5 := hide h5
  clear ho h5 hrow e2
  go_wp2_with fail
  refine (num_any 0 w5).mono ?_
  rintro e w5' ⟨rfl, hw⟩
  have hw2 := hw.symm
  subst hw2
  have HR3 : Hid (Row (w5.alloc (.cells #[.int .u64 9, .int .u64 3, .int .u64 7] 22)) (some ⟨w5.heap.size, 0, none⟩) [9, 3, 7]) := row_three w5 9 3 7 22
  have HRA := hide (HRow.out.keep (below_new w5 (.cells #[.int .u64 9, .int .u64 3, .int .u64 7] 22)))
  have M6 := hide (M5.out.below (below_new w5 (.cells #[.int .u64 9, .int .u64 3, .int .u64 7] 22)))
  have HI := hide (ids_any ao (some ⟨w5.heap.size, 0, none⟩) n 3 c 3 _ _ _ HRA.out HR3.out HNE.out rfl (by have := HNE.out; simp at this; omega))
  rw [decide_eq_true rfl] at HI
  go_wp2_with fail
  refine HI.out.mono ?_
  rintro e w7 ⟨rfl, q, hq⟩
  have M7 := hide (M6.out.below (w' := w7) (by rw [hq]; exact below_drewN (Below.refl _ _) q))
  clear hq
  go_wp2_with fail
  refine (len_mine M7.out).mono ?_
  rintro e w8 ⟨rfl, hw⟩
  have hw2 := hw.symm
  subst hw2
  go_wp2_with fail
  refine (now_mine M7.out).mono ?_
  rintro e w8 ⟨rfl, hw⟩
  have hw2 := hw.symm
  subst hw2
  go_wp2_with fail
  go_ret
  exact ⟨rfl, M7.out.bel⟩
end Go.Proofs.Ytmngmkbiibhmkaa
