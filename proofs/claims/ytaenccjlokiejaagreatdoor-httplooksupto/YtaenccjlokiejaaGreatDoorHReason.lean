/- The reasons of statuses, the program's and the document's. -/
import Derived.Test.YtaenccjlokiejaaGreatDoorHEnv
import Derived.Test.YtaenccjlokiejaaGreatDoorHPut
namespace Go.Proofs.YtaenccjlokiejaaGreatDoor
open Go.RowKit Go.Shelf

set_option maxHeartbeats 1000000 in
set_option maxRecDepth 100000 in
theorem reason_any (n : Int) (w : World) : Calls Tryz.prog 61 #[.int .i64 n] w fun e w' => e = .returned (.string (str (reasonR n))) ∧ w' = w := by
  by_cases h0 : n = 200
  · subst h0
    have HD : Hid (reasonR 200 = [79, 75]) := by show _ = _; decide
    rw [HD.out]
    go_enter Tryz.func61, Tryz.ntmps61
    go_wp2
    go_ret
    exact ⟨rfl, rfl⟩
  by_cases h1 : n = 204
  · subst h1
    have HD : Hid (reasonR 204 = [78, 111, 32, 67, 111, 110, 116, 101, 110, 116]) := by show _ = _; decide
    rw [HD.out]
    go_enter Tryz.func61, Tryz.ntmps61
    go_wp2
    go_ret
    exact ⟨rfl, rfl⟩
  by_cases h2 : n = 400
  · subst h2
    have HD : Hid (reasonR 400 = [66, 97, 100, 32, 82, 101, 113, 117, 101, 115, 116]) := by show _ = _; decide
    rw [HD.out]
    go_enter Tryz.func61, Tryz.ntmps61
    go_wp2
    go_ret
    exact ⟨rfl, rfl⟩
  by_cases h3 : n = 401
  · subst h3
    have HD : Hid (reasonR 401 = [85, 110, 97, 117, 116, 104, 111, 114, 105, 122, 101, 100]) := by show _ = _; decide
    rw [HD.out]
    go_enter Tryz.func61, Tryz.ntmps61
    go_wp2
    go_ret
    exact ⟨rfl, rfl⟩
  by_cases h4 : n = 403
  · subst h4
    have HD : Hid (reasonR 403 = [70, 111, 114, 98, 105, 100, 100, 101, 110]) := by show _ = _; decide
    rw [HD.out]
    go_enter Tryz.func61, Tryz.ntmps61
    go_wp2
    go_ret
    exact ⟨rfl, rfl⟩
  by_cases h5 : n = 404
  · subst h5
    have HD : Hid (reasonR 404 = [78, 111, 116, 32, 70, 111, 117, 110, 100]) := by show _ = _; decide
    rw [HD.out]
    go_enter Tryz.func61, Tryz.ntmps61
    go_wp2
    go_ret
    exact ⟨rfl, rfl⟩
  by_cases h6 : n = 405
  · subst h6
    have HD : Hid (reasonR 405 = [77, 101, 116, 104, 111, 100, 32, 78, 111, 116, 32, 65, 108, 108, 111, 119, 101, 100]) := by show _ = _; decide
    rw [HD.out]
    go_enter Tryz.func61, Tryz.ntmps61
    go_wp2
    go_ret
    exact ⟨rfl, rfl⟩
  by_cases h7 : n = 413
  · subst h7
    have HD : Hid (reasonR 413 = [67, 111, 110, 116, 101, 110, 116, 32, 84, 111, 111, 32, 76, 97, 114, 103, 101]) := by show _ = _; decide
    rw [HD.out]
    go_enter Tryz.func61, Tryz.ntmps61
    go_wp2
    go_ret
    exact ⟨rfl, rfl⟩
  by_cases h8 : n = 415
  · subst h8
    have HD : Hid (reasonR 415 = [85, 110, 115, 117, 112, 112, 111, 114, 116, 101, 100, 32, 77, 101, 100, 105, 97, 32, 84, 121, 112, 101]) := by show _ = _; decide
    rw [HD.out]
    go_enter Tryz.func61, Tryz.ntmps61
    go_wp2
    go_ret
    exact ⟨rfl, rfl⟩
  by_cases h9 : n = 429
  · subst h9
    have HD : Hid (reasonR 429 = [84, 111, 111, 32, 77, 97, 110, 121, 32, 82, 101, 113, 117, 101, 115, 116, 115]) := by show _ = _; decide
    rw [HD.out]
    go_enter Tryz.func61, Tryz.ntmps61
    go_wp2
    go_ret
    exact ⟨rfl, rfl⟩
  by_cases h10 : n = 500
  · subst h10
    have HD : Hid (reasonR 500 = [73, 110, 116, 101, 114, 110, 97, 108, 32, 83, 101, 114, 118, 101, 114, 32, 69, 114, 114, 111, 114]) := by show _ = _; decide
    rw [HD.out]
    go_enter Tryz.func61, Tryz.ntmps61
    go_wp2
    go_ret
    exact ⟨rfl, rfl⟩
  by_cases h11 : n = 503
  · subst h11
    have HD : Hid (reasonR 503 = [83, 101, 114, 118, 105, 99, 101, 32, 85, 110, 97, 118, 97, 105, 108, 97, 98, 108, 101]) := by show _ = _; decide
    rw [HD.out]
    go_enter Tryz.func61, Tryz.ntmps61
    go_wp2
    go_ret
    exact ⟨rfl, rfl⟩
  have HD : Hid (reasonR n = []) := by show _ = _; unfold reasonR; rw [if_neg h0, if_neg h1, if_neg h2, if_neg h3, if_neg h4, if_neg h5, if_neg h6, if_neg h7, if_neg h8, if_neg h9, if_neg h10, if_neg h11]
  rw [HD.out]
  have g0 : (n == 200) = false := by rw [beq_eq_false_iff_ne]; exact h0
  have g1 : (n == 204) = false := by rw [beq_eq_false_iff_ne]; exact h1
  have g2 : (n == 400) = false := by rw [beq_eq_false_iff_ne]; exact h2
  have g3 : (n == 401) = false := by rw [beq_eq_false_iff_ne]; exact h3
  have g4 : (n == 403) = false := by rw [beq_eq_false_iff_ne]; exact h4
  have g5 : (n == 404) = false := by rw [beq_eq_false_iff_ne]; exact h5
  have g6 : (n == 405) = false := by rw [beq_eq_false_iff_ne]; exact h6
  have g7 : (n == 413) = false := by rw [beq_eq_false_iff_ne]; exact h7
  have g8 : (n == 415) = false := by rw [beq_eq_false_iff_ne]; exact h8
  have g9 : (n == 429) = false := by rw [beq_eq_false_iff_ne]; exact h9
  have g10 : (n == 500) = false := by rw [beq_eq_false_iff_ne]; exact h10
  have g11 : (n == 503) = false := by rw [beq_eq_false_iff_ne]; exact h11
  clear h0 h1 h2 h3 h4 h5 h6 h7 h8 h9 h10 h11
  go_enter Tryz.func61, Tryz.ntmps61
  go_wp2
  go_ret
  exact ⟨rfl, rfl⟩
set_option maxHeartbeats 1000000 in
set_option maxRecDepth 100000 in
theorem rreason_any (n : Int) (w : World) : Calls Tryz.prog 36 #[.int .i64 n] w fun e w' => e = .returned (.string (str (reasonR n))) ∧ w' = w := by
  by_cases h0 : n = 200
  · subst h0
    have HD : Hid (reasonR 200 = [79, 75]) := by show _ = _; decide
    rw [HD.out]
    go_enter Tryz.func36, Tryz.ntmps36
    go_wp2
    go_ret
    exact ⟨rfl, rfl⟩
  by_cases h1 : n = 204
  · subst h1
    have HD : Hid (reasonR 204 = [78, 111, 32, 67, 111, 110, 116, 101, 110, 116]) := by show _ = _; decide
    rw [HD.out]
    go_enter Tryz.func36, Tryz.ntmps36
    go_wp2
    go_ret
    exact ⟨rfl, rfl⟩
  by_cases h2 : n = 400
  · subst h2
    have HD : Hid (reasonR 400 = [66, 97, 100, 32, 82, 101, 113, 117, 101, 115, 116]) := by show _ = _; decide
    rw [HD.out]
    go_enter Tryz.func36, Tryz.ntmps36
    go_wp2
    go_ret
    exact ⟨rfl, rfl⟩
  by_cases h3 : n = 401
  · subst h3
    have HD : Hid (reasonR 401 = [85, 110, 97, 117, 116, 104, 111, 114, 105, 122, 101, 100]) := by show _ = _; decide
    rw [HD.out]
    go_enter Tryz.func36, Tryz.ntmps36
    go_wp2
    go_ret
    exact ⟨rfl, rfl⟩
  by_cases h4 : n = 403
  · subst h4
    have HD : Hid (reasonR 403 = [70, 111, 114, 98, 105, 100, 100, 101, 110]) := by show _ = _; decide
    rw [HD.out]
    go_enter Tryz.func36, Tryz.ntmps36
    go_wp2
    go_ret
    exact ⟨rfl, rfl⟩
  by_cases h5 : n = 404
  · subst h5
    have HD : Hid (reasonR 404 = [78, 111, 116, 32, 70, 111, 117, 110, 100]) := by show _ = _; decide
    rw [HD.out]
    go_enter Tryz.func36, Tryz.ntmps36
    go_wp2
    go_ret
    exact ⟨rfl, rfl⟩
  by_cases h6 : n = 405
  · subst h6
    have HD : Hid (reasonR 405 = [77, 101, 116, 104, 111, 100, 32, 78, 111, 116, 32, 65, 108, 108, 111, 119, 101, 100]) := by show _ = _; decide
    rw [HD.out]
    go_enter Tryz.func36, Tryz.ntmps36
    go_wp2
    go_ret
    exact ⟨rfl, rfl⟩
  by_cases h7 : n = 413
  · subst h7
    have HD : Hid (reasonR 413 = [67, 111, 110, 116, 101, 110, 116, 32, 84, 111, 111, 32, 76, 97, 114, 103, 101]) := by show _ = _; decide
    rw [HD.out]
    go_enter Tryz.func36, Tryz.ntmps36
    go_wp2
    go_ret
    exact ⟨rfl, rfl⟩
  by_cases h8 : n = 415
  · subst h8
    have HD : Hid (reasonR 415 = [85, 110, 115, 117, 112, 112, 111, 114, 116, 101, 100, 32, 77, 101, 100, 105, 97, 32, 84, 121, 112, 101]) := by show _ = _; decide
    rw [HD.out]
    go_enter Tryz.func36, Tryz.ntmps36
    go_wp2
    go_ret
    exact ⟨rfl, rfl⟩
  by_cases h9 : n = 429
  · subst h9
    have HD : Hid (reasonR 429 = [84, 111, 111, 32, 77, 97, 110, 121, 32, 82, 101, 113, 117, 101, 115, 116, 115]) := by show _ = _; decide
    rw [HD.out]
    go_enter Tryz.func36, Tryz.ntmps36
    go_wp2
    go_ret
    exact ⟨rfl, rfl⟩
  by_cases h10 : n = 500
  · subst h10
    have HD : Hid (reasonR 500 = [73, 110, 116, 101, 114, 110, 97, 108, 32, 83, 101, 114, 118, 101, 114, 32, 69, 114, 114, 111, 114]) := by show _ = _; decide
    rw [HD.out]
    go_enter Tryz.func36, Tryz.ntmps36
    go_wp2
    go_ret
    exact ⟨rfl, rfl⟩
  by_cases h11 : n = 503
  · subst h11
    have HD : Hid (reasonR 503 = [83, 101, 114, 118, 105, 99, 101, 32, 85, 110, 97, 118, 97, 105, 108, 97, 98, 108, 101]) := by show _ = _; decide
    rw [HD.out]
    go_enter Tryz.func36, Tryz.ntmps36
    go_wp2
    go_ret
    exact ⟨rfl, rfl⟩
  have HD : Hid (reasonR n = []) := by show _ = _; unfold reasonR; rw [if_neg h0, if_neg h1, if_neg h2, if_neg h3, if_neg h4, if_neg h5, if_neg h6, if_neg h7, if_neg h8, if_neg h9, if_neg h10, if_neg h11]
  rw [HD.out]
  have g0 : (n == 200) = false := by rw [beq_eq_false_iff_ne]; exact h0
  have g1 : (n == 204) = false := by rw [beq_eq_false_iff_ne]; exact h1
  have g2 : (n == 400) = false := by rw [beq_eq_false_iff_ne]; exact h2
  have g3 : (n == 401) = false := by rw [beq_eq_false_iff_ne]; exact h3
  have g4 : (n == 403) = false := by rw [beq_eq_false_iff_ne]; exact h4
  have g5 : (n == 404) = false := by rw [beq_eq_false_iff_ne]; exact h5
  have g6 : (n == 405) = false := by rw [beq_eq_false_iff_ne]; exact h6
  have g7 : (n == 413) = false := by rw [beq_eq_false_iff_ne]; exact h7
  have g8 : (n == 415) = false := by rw [beq_eq_false_iff_ne]; exact h8
  have g9 : (n == 429) = false := by rw [beq_eq_false_iff_ne]; exact h9
  have g10 : (n == 500) = false := by rw [beq_eq_false_iff_ne]; exact h10
  have g11 : (n == 503) = false := by rw [beq_eq_false_iff_ne]; exact h11
  clear h0 h1 h2 h3 h4 h5 h6 h7 h8 h9 h10 h11
  go_enter Tryz.func36, Tryz.ntmps36
  go_wp2
  go_ret
  exact ⟨rfl, rfl⟩
set_option maxHeartbeats 400000 in
set_option maxRecDepth 100000 in
theorem Reason_any (n : Int) (w : World) : Calls Tryz.prog 35 #[.int .i64 n] w fun e w' => e = .returned (.string (str (reasonR n))) ∧ Below w.heap.size w w' := by
  have HR := hide (reason_any n w)
  have HC := hide (fun W => clone_any (reasonR n) W (by have := reason_len n; omega))
  generalize str (reasonR n) = s at *
  go_enter Tryz.func35, Tryz.ntmps35
  go_wp2_with fail
  refine HR.out.mono ?_
  rintro e w2 ⟨rfl, h2⟩
  have h3 := h2.symm
  subst h3
  clear h2 HR
  go_wp2_with fail
  refine (HC.out w).mono ?_
  rintro e w2 ⟨rfl, hb⟩
  have HB := hide hb
  clear hb HC
  go_wp2
  go_ret
  exact ⟨rfl, HB.out⟩
set_option maxHeartbeats 400000 in
set_option maxRecDepth 100000 in
theorem statusText_any (n : Int) (w : World) (h0 : -9223372036854775808 ≤ n) (h1 : n ≤ 9223372036854775807) (E : Env w) :
    Calls Tryz.prog 51 #[.int .i64 n] w fun e w' => e = .returned (.string (str (statusT n))) ∧ Below w.heap.size w w' := by
  have HI := hide (itoa_any n w h0 h1 E)
  have HR := hide (fun W => Reason_any n W)
  have hz1 := str_size (Lib.itoa n)
  have hz2 := str_size (reasonR n)
  have hl1 := itoa_len n h0 h1
  have hl2 := reason_len n
  have ha1 := str_app (Lib.itoa n) [32]
  have e32 : str [32] = (⟨#[32]⟩ : ByteArray) := rfl
  have hz3 : (str (Lib.itoa n ++ [32])).size ≤ 22 := by rw [str_size]; simp; omega
  have HA := hide (str_app (Lib.itoa n ++ [32]) (reasonR n))
  rw [e32] at ha1
  have HF : Hid (statusT n = Lib.itoa n ++ [32] ++ reasonR n) := rfl
  rw [HF.out]
  generalize str (Lib.itoa n ++ [32] ++ reasonR n) = r at *
  generalize str (Lib.itoa n ++ [32]) = s3 at *
  generalize str (reasonR n) = s2 at *
  generalize str (Lib.itoa n) = s1 at *
  generalize (Lib.itoa n).length = k1 at *
  generalize (reasonR n).length = k2 at *
  clear e32 HF h0 h1 E
  go_enter Tryz.func51, Tryz.ntmps51
  go_wp2_with fail
  refine HI.out.mono ?_
  rintro e w2 ⟨rfl, hb2⟩
  have HB2 := hide hb2
  clear hb2 HI
  go_wp2_with fail
  refine (HR.out w2).mono ?_
  rintro e w3 ⟨rfl, hb3⟩
  have HB3 := hide (HB2.out.trans (hb3.mono HB2.out.size))
  clear hb3 HR
  go_wp2
  rw [HA.out]
  go_ret
  exact ⟨rfl, HB3.out⟩
end Go.Proofs.YtaenccjlokiejaaGreatDoor
