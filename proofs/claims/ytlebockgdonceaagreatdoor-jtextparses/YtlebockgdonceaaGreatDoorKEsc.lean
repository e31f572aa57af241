/- The contracts of the reader's numbered and escape. The contract of the reader's escape. -/
import Derived.Test.YtlebockgdonceaaGreatDoorKWord
import Derived.Test.YtlebockgdonceaaGreatDoorKMath
import Derived.LoopN
namespace Go.Proofs.YtlebockgdonceaaGreatDoor
open Go.RowKit

theorem i32_eq {a b : Int} (h : a = b) : Value.int .i32 a = .int .i32 b := by rw [h]
set_option maxHeartbeats 2000000 in
set_option maxRecDepth 100000 in
theorem numbered_any (R : Nat) (s : ByteArray) (p e q : Nat) (w : World) (h : RB w R s (p + 2) e q) (hp : p + 2 ≤ s.size) (hs : s.size ≤ 16384) :
    Calls Tryz.prog 60 #[.pointer (some ⟨R, 0, none⟩), .int .i64 (p : Int)] w fun ε w' => Rd R s e q w isRune (fun (n : Nat) v _ => n < 1114112 ∧ v = .int .i32 (n : Int)) (uniAt (sbytes s) p) ε w' := by
  have HL := hide (sbytes_length s)
  have H := hide h
  have hRl := h.lt
  clear h
  cases hf : fourAt (sbytes s) 4 (p + 2) 0 with
  | error e1 q1 =>
    have HO : Hid (uniAt (sbytes s) p = .error e1 q1) := by show _ = _; unfold uniAt; rw [hf]
    have HF := hide hf
    clear hf
    go_enter Tryz.func60, Tryz.ntmps60
    go_wp2_with fail
    refine (four_any R s (p + 2) e q _ H.out hp hs).mono ?_
    intro ε w1 h1
    rw [HF.out] at h1
    obtain ⟨⟨v, p', rfl, ⟨r, hr, rfl⟩, h2⟩, hb1⟩ := h1
    have H2 := hide h2
    have HB := hide hb1
    clear h2 hb1
    go_wp2_with fail
    go_ret2
    rw [HO.out]
    exact ⟨⟨_, _, rfl, ⟨0, by omega, rfl⟩, H2.out⟩, HB.out⟩
  | ok n q1 =>
    have hb := fourAt_bounds 4 (p + 2) 0 n q1 (by rw [HL.out]; exact hp) hf
    rw [HL.out] at hb
    obtain ⟨hb1, hb2⟩ := hb
    clear hb1
    have HF := hide hf
    by_cases hn : n < 55296 ∨ 57344 ≤ n
    · have HO : Hid (uniAt (sbytes s) p = .ok n q1) := by show _ = _; unfold uniAt; rw [hf]; simp only; rw [if_pos hn]
      clear hf
      go_enter Tryz.func60, Tryz.ntmps60
      go_wp2_with fail
      refine (four_any R s (p + 2) e q _ H.out hp hs).mono ?_
      intro ε w1 h1
      rw [HF.out] at h1
      obtain ⟨⟨v, rfl, _, hnl, rfl⟩, h2, hb3⟩ := h1
      have H2 := hide h2
      have HB := hide hb3
      clear h2 hb3
      rcases hn with hn | hn
      · have hni : (n : Int) < 55296 := by omega
        go_wp2_with fail
        go_ret2
        rw [HO.out]
        exact ⟨⟨_, rfl, ⟨n, by omega, rfl⟩, by omega, rfl⟩, H2.out, HB.out⟩
      · have hni : (57344 : Int) ≤ n := by omega
        have hni2 : ¬ (n : Int) < 55296 := by omega
        go_wp2_with fail
        go_ret2
        rw [HO.out]
        exact ⟨⟨_, rfl, ⟨n, by omega, rfl⟩, by omega, rfl⟩, H2.out, HB.out⟩
    · by_cases hn2 : 56320 ≤ n
      · have HO : Hid (uniAt (sbytes s) p = .error 43 p) := by show _ = _; unfold uniAt; rw [hf]; simp only; rw [if_neg hn, if_pos hn2]
        clear hf
        have ha : decide ((n : Int) < 55296) = false := by simp; omega
        have hb5 : decide ((57344 : Int) ≤ n) = false := by simp; omega
        have hc5 : decide ((56320 : Int) ≤ n) = true := by simp; omega
        clear hn
        go_enter Tryz.func60, Tryz.ntmps60
        go_wp2_with fail
        refine (four_any R s (p + 2) e q _ H.out hp hs).mono ?_
        intro ε w1 h1
        rw [HF.out] at h1
        obtain ⟨⟨v, rfl, _, hnl, rfl⟩, h2, hb3⟩ := h1
        have H2 := hide h2
        have HB := hide hb3
        clear h2 hb3
        go_wp2_with fail
        refine (fail_any R s q1 e q 43 p _ H2.out).mono ?_
        rintro ε w3 ⟨rfl, h3, hb4⟩
        go_wp2_with fail
        go_ret2
        rw [HO.out]
        exact ⟨⟨_, _, rfl, ⟨0, by omega, rfl⟩, h3⟩, HB.out.trans hb4⟩
      · have HO : Hid (uniAt (sbytes s) p = halfAt (sbytes s) p n q1) := by show _ = _; unfold uniAt; rw [hf]; simp only; rw [if_neg hn, if_neg hn2]
        clear hf
        have ha : decide ((n : Int) < 55296) = false := by simp; omega
        have hb5 : decide ((57344 : Int) ≤ n) = false := by simp; omega
        have hc5 : decide ((56320 : Int) ≤ n) = false := by simp; omega
        have hnn : n < 56320 ∧ 55296 ≤ n := by omega
        clear hn hn2
        go_enter Tryz.func60, Tryz.ntmps60
        go_wp2_with fail
        refine (four_any R s (p + 2) e q _ H.out hp hs).mono ?_
        intro ε w1 h1
        rw [HF.out] at h1
        obtain ⟨⟨v, rfl, _, hnl, rfl⟩, h2, hb3⟩ := h1
        have H2 := hide h2
        have HB := hide hb3
        clear h2 hb3
        go_wp2_with fail
        have H3 := hide (H2.out.keep (below_new w1 (.cells #[.int .u8 92, .int .u8 117] 5)))
        have HB3 := hide (HB.out.trans (But.alloc R w1 (.cells #[.int .u8 92, .int .u8 117] 5)))
        have hS := hide (Bl.new w1 #[.int .u8 92, .int .u8 117] 5)
        have hne : w1.heap.size ≠ R := by have := H2.out.lt; omega
        generalize hbw : w1.heap.size = b1 at *
        generalize w1.alloc (.cells #[.int .u8 92, .int .u8 117] 5) = w2 at *
        clear H2 HB hbw
        have s0 : w2.cell? ⟨b1, 0, none⟩ = some (.int .u8 92) := hS.out.cell 0
        refine wp_loop_rounds 3 ?_
        rw [rounds_succ]
        by_cases hq1 : q1 < s.size
        · by_cases hc1 : bt (sbytes s) q1 = 92
          · have HC1 := hide hc1
            go_wp2_with fail
            refine (look_some R s q1 e q _ H3.out hq1).mono ?_
            rintro ε w3 ⟨rfl, h3, hb3⟩
            rw [HC1.out]
            have H4 := hide h3
            have HB4 := hide (HB3.out.trans hb3)
            have hS4 := hide (hS.out.but hb3 hne)
            have d1 := h3.c1
            have f1 := h3.fz 1
            clear h3 hb3 s0
            go_wp2_with fail
            have H5 : Hid (RB (w3.setCell ⟨R, 1, none⟩ (.int .i64 ((q1 : Int) + 1))) R s (q1 + 1) e q) := by
              show RB _ _ _ _ _ _
              have := H4.out.move (q1 + 1)
              simpa using this
            have HB5 := hide (HB4.out.trans (But.setCell R w3 1 (.int .i64 ((q1 : Int) + 1))))
            have hS5 := hide (hS4.out.but (But.setCell R w3 1 (.int .i64 ((q1 : Int) + 1))) hne)
            generalize w3.setCell ⟨R, 1, none⟩ (.int .i64 ((q1 : Int) + 1)) = w4 at *
            clear d1 f1 H4 HB4 hS4 H3 HB3
            have s1 : w4.cell? ⟨b1, 1, none⟩ = some (.int .u8 117) := hS5.out.cell 1
            rw [rounds_succ]
            by_cases hq2 : q1 + 1 < s.size
            · by_cases hc2 : bt (sbytes s) (q1 + 1) = 117
              · have HC2 := hide hc2
                go_wp2_with fail
                refine (look_some R s (q1 + 1) e q _ H5.out hq2).mono ?_
                rintro ε w5 ⟨rfl, h5, hb6⟩
                rw [HC2.out]
                have H6 := hide h5
                have HB6 := hide (HB5.out.trans hb6)
                have d1 := h5.c1
                have f1 := h5.fz 1
                clear h5 hb6 s1 hc1 hc2
                go_wp2_with fail
                have H7 : Hid (RB (w5.setCell ⟨R, 1, none⟩ (.int .i64 ((q1 : Int) + 1 + 1))) R s (q1 + 2) e q) := by
                  show RB _ _ _ _ _ _
                  have := H6.out.move (q1 + 2)
                  simpa [Int.add_assoc] using this
                have HB7 := hide (HB6.out.trans (But.setCell R w5 1 (.int .i64 ((q1 : Int) + 1 + 1))))
                generalize w5.setCell ⟨R, 1, none⟩ (.int .i64 ((q1 : Int) + 1 + 1)) = w6 at *
                clear d1 f1 H6 HB6
                rw [rounds_succ]
                go_wp2_with fail
                have HH : Hid (halfAt (sbytes s) p n q1 = match fourAt (sbytes s) 4 (q1 + 2) 0 with
                    | .error e q => .error e q
                    | .ok m q => if 56320 ≤ m ∧ m < 57344 then .ok (65536 + 1024 * (n - 55296) + (m - 56320)) q else .error 43 p) := by
                  show _ = _
                  unfold halfAt
                  rw [HL.out, if_pos hq1, if_pos HC1.out, if_pos hq2, if_pos HC2.out]
                  rfl
                refine (four_any R s (q1 + 2) e q _ H7.out (by omega) hs).mono ?_
                intro ε w7 h7
                cases hf : fourAt (sbytes s) 4 (q1 + 2) 0 with
                | error e1 q3 =>
                  rw [hf] at h7 HH
                  obtain ⟨⟨v, p', rfl, ⟨r, hr, rfl⟩, h8⟩, hb8⟩ := h7
                  have H8 := hide h8
                  have HB8 := hide (HB7.out.trans hb8)
                  clear h8 hb8 hf
                  go_wp2_with fail
                  go_ret2
                  rw [HO.out, HH.out]
                  exact ⟨⟨.int .i32 (65536 + ((n : Int) - 55296) * 1024 + (r : Int) - 56320), _, rfl, ⟨65536 + (n - 55296) * 1024 + r - 56320, by omega, i32_eq (by omega)⟩, H8.out⟩, HB8.out⟩
                | ok m q3 =>
                  rw [hf] at h7 HH
                  obtain ⟨⟨v, rfl, _, hml, rfl⟩, h8, hb8⟩ := h7
                  have H8 := hide h8
                  have HB8 := hide (HB7.out.trans hb8)
                  clear h8 hb8 hf
                  simp only at HH
                  by_cases hm : 56320 ≤ m ∧ m < 57344
                  · rw [if_pos hm] at HH
                    have m1 : decide ((m : Int) < 56320) = false := by simp; omega
                    have m2 : decide ((57344 : Int) ≤ m) = false := by simp; omega
                    have HM := hide hm
                    have HNN := hide hnn
                    clear hm hnn
                    go_wp2_with fail
                    go_ret2
                    rw [HO.out, HH.out]
                    have h1 := HM.out
                    have h2 := HNN.out
                    exact ⟨⟨.int .i32 (65536 + ((n : Int) - 55296) * 1024 + (m : Int) - 56320), rfl, ⟨65536 + 1024 * (n - 55296) + (m - 56320), by omega, i32_eq (by omega)⟩, by omega, i32_eq (by omega)⟩, H8.out, HB8.out⟩
                  · rw [if_neg hm] at HH
                    by_cases hm1 : m < 56320
                    · have m1 : decide ((m : Int) < 56320) = true := by simp; omega
                      clear hm
                      go_wp2_with fail
                      refine (fail_any R s q3 e q 43 p _ H8.out).mono ?_
                      rintro ε w8 ⟨rfl, h9, hb9⟩
                      go_wp2_with fail
                      go_ret2
                      rw [HO.out, HH.out]
                      exact ⟨⟨_, _, rfl, ⟨0, by omega, rfl⟩, h9⟩, HB8.out.trans hb9⟩
                    · have m1 : decide ((m : Int) < 56320) = false := by simp; omega
                      have m2 : decide ((57344 : Int) ≤ m) = true := by simp; omega
                      clear hm
                      go_wp2_with fail
                      refine (fail_any R s q3 e q 43 p _ H8.out).mono ?_
                      rintro ε w8 ⟨rfl, h9, hb9⟩
                      go_wp2_with fail
                      go_ret2
                      rw [HO.out, HH.out]
                      exact ⟨⟨_, _, rfl, ⟨0, by omega, rfl⟩, h9⟩, HB8.out.trans hb9⟩
              · have HH : Hid (halfAt (sbytes s) p n q1 = .error 43 p) := by
                  show _ = _
                  unfold halfAt
                  rw [HL.out, if_pos hq1, if_pos HC1.out, if_pos hq2, if_neg hc2]
                have hx : ((bt (sbytes s) (q1 + 1) : Int) == 117) = false := by simp; omega
                have hx2 : ((bt (sbytes s) (q1 + 1) : Int) != 117) = true := by simp; omega
                go_wp2_with fail
                refine (look_some R s (q1 + 1) e q _ H5.out hq2).mono ?_
                rintro ε w5 ⟨rfl, h5, hb6⟩
                have H6 := hide h5
                have HB6 := hide (HB5.out.trans hb6)
                clear h5 hb6
                go_wp2_with fail
                refine (fail_any R s (q1 + 1) e q 43 p _ H6.out).mono ?_
                rintro ε w6 ⟨rfl, h7, hb7⟩
                go_wp2_with fail
                go_ret2
                rw [HO.out, HH.out]
                exact ⟨⟨_, _, rfl, ⟨0, by omega, rfl⟩, h7⟩, HB6.out.trans hb7⟩
            · have HH : Hid (halfAt (sbytes s) p n q1 = .error 3 s.size) := by
                show _ = _
                unfold halfAt
                rw [HL.out, if_pos hq1, if_pos HC1.out, if_neg hq2]
              have hpe : q1 + 1 = s.size := by omega
              have HPE := hide hpe
              clear hpe
              go_wp2_with fail
              refine (look_none R s (q1 + 1) e q _ H5.out HPE.out).mono ?_
              rintro ε w5 ⟨rfl, h5, hb6⟩
              go_wp2_with fail
              go_ret2
              rw [HO.out, HH.out, ← HPE.out]
              exact ⟨⟨_, _, rfl, ⟨0, by omega, rfl⟩, h5⟩, HB5.out.trans hb6⟩
          · have HH : Hid (halfAt (sbytes s) p n q1 = .error 43 p) := by
              show _ = _
              unfold halfAt
              rw [HL.out, if_pos hq1, if_neg hc1]
            have hx : ((bt (sbytes s) q1 : Int) == 92) = false := by simp; omega
            have hx2 : ((bt (sbytes s) q1 : Int) != 92) = true := by simp; omega
            go_wp2_with fail
            refine (look_some R s q1 e q _ H3.out hq1).mono ?_
            rintro ε w5 ⟨rfl, h5, hb6⟩
            have H6 := hide h5
            have HB6 := hide (HB3.out.trans hb6)
            clear h5 hb6
            go_wp2_with fail
            refine (fail_any R s q1 e q 43 p _ H6.out).mono ?_
            rintro ε w6 ⟨rfl, h7, hb7⟩
            go_wp2_with fail
            go_ret2
            rw [HO.out, HH.out]
            exact ⟨⟨_, _, rfl, ⟨0, by omega, rfl⟩, h7⟩, HB6.out.trans hb7⟩
        · have HH : Hid (halfAt (sbytes s) p n q1 = .error 3 s.size) := by
            show _ = _
            unfold halfAt
            rw [HL.out, if_neg hq1]
          have hpe : q1 = s.size := by omega
          have HPE := hide hpe
          clear hpe
          go_wp2_with fail
          refine (look_none R s q1 e q _ H3.out HPE.out).mono ?_
          rintro ε w5 ⟨rfl, h5, hb6⟩
          go_wp2_with fail
          go_ret2
          rw [HO.out, HH.out, ← HPE.out]
          exact ⟨⟨_, _, rfl, ⟨0, by omega, rfl⟩, h5⟩, HB3.out.trans hb6⟩
end Go.Proofs.YtlebockgdonceaaGreatDoor
namespace Go.Proofs.YtlebockgdonceaaGreatDoor
open Go.RowKit

def shortL : List UInt8 := [34, 92, 98, 102, 110, 114, 116]
def shortOk (c : Nat) : Bool := match shortOf c with
  | some b => decide (c ≠ 117) && decide (b < 256) && (decide (c = 47 ∧ b = 47) || (decide (c ≠ 47) && decide (0 ≤ Lib.indexByte shortL (UInt8.ofNat c)) && decide (Lib.indexByte shortL (UInt8.ofNat c) < 7) && decide (([34, 92, 8, 12, 10, 13, 9] : List Nat).getD (Lib.indexByte shortL (UInt8.ofNat c)).toNat 0 = b)))
  | none => decide (c ≠ 47) && decide (Lib.indexByte shortL (UInt8.ofNat c) = -1)
theorem short_all : (List.range 256).all shortOk = true := by decide +kernel
theorem short_some {c b : Nat} (hc : c < 256) (h : shortOf c = some b) : c ≠ 117 ∧ b < 256 ∧ ((c = 47 ∧ b = 47) ∨ (c ≠ 47 ∧ ∃ i : Nat, Lib.indexByte shortL (UInt8.ofNat c) = (i : Int) ∧ i < 7 ∧ ([34, 92, 8, 12, 10, 13, 9] : List Nat).getD i 0 = b)) := by
  have := List.all_eq_true.1 short_all c (List.mem_range.2 hc)
  simp only [shortOk, h, Bool.and_eq_true, Bool.or_eq_true, decide_eq_true_eq] at this
  obtain ⟨⟨h0, h1⟩, h2⟩ := this
  refine ⟨h0, h1, ?_⟩
  rcases h2 with h2 | ⟨⟨⟨h3, h4⟩, h5⟩, h6⟩
  · exact .inl h2
  · obtain ⟨i, hi⟩ := Int.eq_ofNat_of_zero_le h4
    rw [hi] at h5 h6
    refine .inr ⟨h3, i, hi, by omega, ?_⟩
    rw [Int.toNat_natCast] at h6
    exact h6
theorem short_none {c : Nat} (hc : c < 256) (h : shortOf c = none) : c ≠ 47 ∧ Lib.indexByte shortL (UInt8.ofNat c) = -1 := by
  have := List.all_eq_true.1 short_all c (List.mem_range.2 hc)
  simpa only [shortOk, h, Bool.and_eq_true, decide_eq_true_eq] using this
set_option maxHeartbeats 2000000 in
set_option maxRecDepth 100000 in
theorem escape_any (R : Nat) (s : ByteArray) (p e q : Nat) (w : World) (h : RB w R s p e q) (hp : p < s.size) (hs : s.size ≤ 16384) :
    Calls Tryz.prog 42 #[.pointer (some ⟨R, 0, none⟩)] w fun ε w' => Rd R s e q w isRune (fun (n : Nat) v _ => n < 1114112 ∧ v = .int .i32 (n : Int)) (escAt (sbytes s) p) ε w' := by
  have HL := hide (sbytes_length s)
  have c1 := h.c1
  have f1 := h.fz 1
  have H1 : Hid (RB (w.setCell ⟨R, 1, none⟩ (.int .i64 ((p : Int) + 1))) R s (p + 1) e q) := by
    show RB _ _ _ _ _ _
    have := h.move (p + 1)
    simpa using this
  have HB1 := hide (But.setCell R w 1 (.int .i64 ((p : Int) + 1)))
  clear h
  by_cases hp1 : p + 1 < s.size
  · have hc := byte_lt s (p + 1)
    cases hx : shortOf (bt (sbytes s) (p + 1)) with
    | some b =>
      obtain ⟨hu, hb, hx2⟩ := short_some hc hx
      have HO : Hid (escAt (sbytes s) p = .ok b (p + 2)) := by show _ = _; unfold escAt; rw [HL.out, if_pos hp1, hx]
      rcases hx2 with ⟨h47, rfl⟩ | ⟨h47, i, hi, hi7, hib⟩
      · have H47 := hide h47
        clear h47 hx hc hu hb
        go_enter Tryz.func42, Tryz.ntmps42
        go_wp2_with fail
        generalize w.setCell ⟨R, 1, none⟩ (.int .i64 ((p : Int) + 1)) = w1 at *
        refine (look_some R s (p + 1) e q _ H1.out hp1).mono ?_
        rintro ε w2 ⟨rfl, h2, hb2⟩
        rw [H47.out]
        have H2 := hide h2
        have HB2 := hide (HB1.out.trans hb2)
        have d1 := h2.c1
        have g1 := h2.fz 1
        clear h2 hb2 c1 f1 H1 HB1
        go_wp2_with fail
        refine (Any.strings_IndexByte lays137 _ _ _).mono ?_
        rintro ε w3 ⟨rfl, rfl⟩
        go_wp2_with fail
        go_ret2
        rw [HO.out]
        refine ⟨⟨_, rfl, ⟨47, by omega, rfl⟩, by omega, rfl⟩, ?_, HB2.out.trans (But.setCell _ _ _ _)⟩
        have := H2.out.move (p + 2)
        simpa [Int.add_assoc] using this
      · have HI := hide hi
        have u1 : ((bt (sbytes s) (p + 1) : Int) == 117) = false := by simp; omega
        have u2 : ((bt (sbytes s) (p + 1) : Int) == 47) = false := by simp; omega
        have hidx : ∀ w, (Instr.index 9 (.string ⟨#[34, 92, 8, 12, 10, 13, 9]⟩) (.int .i64 (i : Int))).run Tryz.prog w = .ok (.int .u8 (b : Int)) w := fun w => by
          rw [← hib]; exact str_index ⟨#[34, 92, 8, 12, 10, 13, 9]⟩ i (by exact hi7) w
        clear hx hi hib hc hu h47
        go_enter Tryz.func42, Tryz.ntmps42
        go_wp2_with fail
        generalize w.setCell ⟨R, 1, none⟩ (.int .i64 ((p : Int) + 1)) = w1 at *
        refine (look_some R s (p + 1) e q _ H1.out hp1).mono ?_
        rintro ε w2 ⟨rfl, h2, hb2⟩
        have H2 := hide h2
        have HB2 := hide (HB1.out.trans hb2)
        have d1 := h2.c1
        have g1 := h2.fz 1
        clear h2 hb2 c1 f1 H1 HB1
        go_wp2_with fail
        refine (Any.strings_IndexByte lays137 _ _ _).mono ?_
        rintro ε w3 ⟨rfl, rfl⟩
        rw [show (bt (sbytes s) (p + 1) : Int).toNat.toUInt8 = UInt8.ofNat (bt (sbytes s) (p + 1)) from rfl, show (#[34, 92, 98, 102, 110, 114, 116] : Array UInt8).toList = shortL from rfl, HI.out]
        go_wp2_with fail
        go_ret2
        rw [HO.out]
        refine ⟨⟨_, rfl, ⟨b, by omega, rfl⟩, by omega, rfl⟩, ?_, HB2.out.trans (But.setCell _ _ _ _)⟩
        have := H2.out.move (p + 2)
        simpa [Int.add_assoc] using this
    | none =>
      obtain ⟨h47, hi⟩ := short_none hc hx
      have HI := hide hi
      by_cases hu : bt (sbytes s) (p + 1) = 117
      · have HO : Hid (escAt (sbytes s) p = uniAt (sbytes s) p) := by show _ = _; unfold escAt; rw [HL.out, if_pos hp1, hx]; simp only; rw [if_pos hu]
        have HU := hide hu
        clear hx hi hc h47 hu
        go_enter Tryz.func42, Tryz.ntmps42
        go_wp2_with fail
        generalize w.setCell ⟨R, 1, none⟩ (.int .i64 ((p : Int) + 1)) = w1 at *
        refine (look_some R s (p + 1) e q _ H1.out hp1).mono ?_
        rintro ε w2 ⟨rfl, h2, hb2⟩
        rw [HU.out]
        have H2 := hide h2
        have HB2 := hide (HB1.out.trans hb2)
        have d1 := h2.c1
        have g1 := h2.fz 1
        clear h2 hb2 c1 f1 H1 HB1
        go_wp2_with fail
        refine (Any.strings_IndexByte lays137 _ _ _).mono ?_
        rintro ε w3 ⟨rfl, rfl⟩
        go_wp2_with fail
        have H3 : Hid (RB (w3.setCell ⟨R, 1, none⟩ (.int .i64 ((p : Int) + 1 + 1))) R s (p + 2) e q) := by
          show RB _ _ _ _ _ _
          have := H2.out.move (p + 2)
          simpa [Int.add_assoc] using this
        have HB3 := hide (HB2.out.trans (But.setCell R w3 1 (.int .i64 ((p : Int) + 1 + 1))))
        generalize w3.setCell ⟨R, 1, none⟩ (.int .i64 ((p : Int) + 1 + 1)) = w4 at *
        clear d1 g1 H2 HB2
        refine (numbered_any R s p e q w4 H3.out (by omega) hs).mono ?_
        intro ε w5 h5
        cases ho : uniAt (sbytes s) p with
        | ok n q1 =>
          rw [ho] at h5 HO
          obtain ⟨⟨v, rfl, _, hn, rfl⟩, h6, hb6⟩ := h5
          have H6 := hide h6
          have HB6 := hide (HB3.out.trans hb6)
          clear h6 hb6 ho
          go_wp2_with fail
          go_ret2
          rw [HO.out]
          exact ⟨⟨_, rfl, ⟨n, by omega, rfl⟩, hn, rfl⟩, H6.out, HB6.out⟩
        | error e1 q1 =>
          rw [ho] at h5 HO
          obtain ⟨⟨v, p', rfl, ⟨r, hr, rfl⟩, h6⟩, hb6⟩ := h5
          have H6 := hide h6
          have HB6 := hide (HB3.out.trans hb6)
          clear h6 hb6 ho
          go_wp2_with fail
          go_ret2
          rw [HO.out]
          exact ⟨⟨_, _, rfl, ⟨r, hr, rfl⟩, H6.out⟩, HB6.out⟩
      · have HO : Hid (escAt (sbytes s) p = .error 42 (p + 1)) := by show _ = _; unfold escAt; rw [HL.out, if_pos hp1, hx]; simp only; rw [if_neg hu]
        have u1 : ((bt (sbytes s) (p + 1) : Int) == 117) = false := by simp; omega
        have u2 : ((bt (sbytes s) (p + 1) : Int) == 47) = false := by simp; omega
        clear hx hi hc h47 hu
        go_enter Tryz.func42, Tryz.ntmps42
        go_wp2_with fail
        generalize w.setCell ⟨R, 1, none⟩ (.int .i64 ((p : Int) + 1)) = w1 at *
        refine (look_some R s (p + 1) e q _ H1.out hp1).mono ?_
        rintro ε w2 ⟨rfl, h2, hb2⟩
        have H2 := hide h2
        have HB2 := hide (HB1.out.trans hb2)
        have d1 := h2.c1
        clear h2 hb2 c1 f1 H1 HB1
        go_wp2_with fail
        refine (Any.strings_IndexByte lays137 _ _ _).mono ?_
        rintro ε w3 ⟨rfl, rfl⟩
        rw [show (bt (sbytes s) (p + 1) : Int).toNat.toUInt8 = UInt8.ofNat (bt (sbytes s) (p + 1)) from rfl, show (#[34, 92, 98, 102, 110, 114, 116] : Array UInt8).toList = shortL from rfl, HI.out]
        go_wp2_with fail
        refine (fail_any R s (p + 1) e q 42 (p + 1) _ H2.out).mono ?_
        rintro ε w4 ⟨rfl, h4, hb4⟩
        go_wp2_with fail
        go_ret2
        rw [HO.out]
        exact ⟨⟨_, _, rfl, ⟨0, by omega, rfl⟩, h4⟩, HB2.out.trans hb4⟩
  · have HO : Hid (escAt (sbytes s) p = .error 3 s.size) := by show _ = _; unfold escAt; rw [HL.out, if_neg hp1]
    have HPE : Hid (p + 1 = s.size) := by show _ = _; omega
    go_enter Tryz.func42, Tryz.ntmps42
    go_wp2_with fail
    generalize w.setCell ⟨R, 1, none⟩ (.int .i64 ((p : Int) + 1)) = w1 at *
    refine (look_none R s (p + 1) e q _ H1.out HPE.out).mono ?_
    rintro ε w2 ⟨rfl, h2, hb2⟩
    go_wp2_with fail
    go_ret2
    rw [HO.out, ← HPE.out]
    exact ⟨⟨_, _, rfl, ⟨0, by omega, rfl⟩, h2⟩, HB1.out.trans hb2⟩
end Go.Proofs.YtlebockgdonceaaGreatDoor
