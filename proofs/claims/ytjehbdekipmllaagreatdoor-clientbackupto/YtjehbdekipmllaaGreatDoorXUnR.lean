/- The contract of the document's digit: for every byte. The contract of the document's Unescape: for every text. -/
import Derived.Test.YtjehbdekipmllaaGreatDoorXBase
import Derived.Test.YtjehbdekipmllaaGreatDoorXMath
import Derived.Test.YtjehbdekipmllaaGreatDoorXUn
import Derived.Test.YtjehbdekipmllaaGreatDoorXEsc
namespace Go.Proofs.YtjehbdekipmllaaGreatDoor
open Go.RowKit

def hxI (c : Nat) : Int := match hx c with
  | some n => (n : Int)
  | none => -1
set_option maxHeartbeats 400000 in
set_option maxRecDepth 100000 in
theorem refDigit_any (c : Nat) (w : World) (hc : c < 256) : Calls Tryz.prog 126 #[.int .u8 (c : Int)] w fun e w' => e = .returned (.int .i64 (hxI c)) ∧ w' = w := by
  rcases (show (0 ≤ c ∧ c ≤ 47) ∨ (48 ≤ c ∧ c ≤ 57) ∨ (58 ≤ c ∧ c ≤ 64) ∨ (65 ≤ c ∧ c ≤ 70) ∨ (71 ≤ c ∧ c ≤ 96) ∨ (97 ≤ c ∧ c ≤ 102) ∨ (103 ≤ c ∧ c ≤ 255) by omega) with h | h | h | h | h | h | h
  · have e : hxI c = -1 := by unfold hxI hx; rw [if_neg (by omega), if_neg (by omega), if_neg (by omega)]
    rw [e]
    obtain ⟨a1, a2⟩ := h
    go_enter Tryz.func126, Tryz.ntmps126
    go_wp2
    go_ret
    exact ⟨rfl, rfl⟩
  · have e : hxI c = (c : Int) - 48 := by unfold hxI hx; rw [if_pos (by omega)]; simp; omega
    rw [e]
    obtain ⟨a1, a2⟩ := h
    go_enter Tryz.func126, Tryz.ntmps126
    go_wp2
    go_ret
    exact ⟨rfl, rfl⟩
  · have e : hxI c = -1 := by unfold hxI hx; rw [if_neg (by omega), if_neg (by omega), if_neg (by omega)]
    rw [e]
    obtain ⟨a1, a2⟩ := h
    go_enter Tryz.func126, Tryz.ntmps126
    go_wp2
    go_ret
    exact ⟨rfl, rfl⟩
  · have e : hxI c = (c : Int) - 65 + 10 := by unfold hxI hx; rw [if_neg (by omega), if_neg (by omega), if_pos (by omega)]; simp; omega
    rw [e]
    obtain ⟨a1, a2⟩ := h
    go_enter Tryz.func126, Tryz.ntmps126
    go_wp2
    go_ret
    exact ⟨rfl, rfl⟩
  · have e : hxI c = -1 := by unfold hxI hx; rw [if_neg (by omega), if_neg (by omega), if_neg (by omega)]
    rw [e]
    obtain ⟨a1, a2⟩ := h
    go_enter Tryz.func126, Tryz.ntmps126
    go_wp2
    go_ret
    exact ⟨rfl, rfl⟩
  · have e : hxI c = (c : Int) - 97 + 10 := by unfold hxI hx; rw [if_neg (by omega), if_pos (by omega)]; simp; omega
    rw [e]
    obtain ⟨a1, a2⟩ := h
    go_enter Tryz.func126, Tryz.ntmps126
    go_wp2
    go_ret
    exact ⟨rfl, rfl⟩
  · have e : hxI c = -1 := by unfold hxI hx; rw [if_neg (by omega), if_neg (by omega), if_neg (by omega)]
    rw [e]
    obtain ⟨a1, a2⟩ := h
    go_enter Tryz.func126, Tryz.ntmps126
    go_wp2
    go_ret
    exact ⟨rfl, rfl⟩
end Go.Proofs.YtjehbdekipmllaaGreatDoor
namespace Go.Proofs.YtjehbdekipmllaaGreatDoor
open Go.RowKit

theorem str_index_at (s : ByteArray) (k : Nat) (i : Int) (hi : i = (k : Int)) (hk : k < s.size) (w : World) : (Instr.index 9 (.string s) (.int .i64 i)).run Tryz.prog w = .ok (.int .u8 (((sbytes s).getD k 0 : Nat) : Int)) w := by
  subst hi; exact str_index s k hk w
theorem wrapI (n : Int) (h : -9223372036854775808 ≤ n) (h2 : n < 9223372036854775808) : IntKind.i64.wrap n = n := by rw [IntKind.wrap_i64]; omega
theorem hxI_some {c x : Nat} (h : hx c = some x) : hxI c = (x : Int) := by unfold hxI; rw [h]
theorem hxI_none {c : Nat} (h : hx c = none) : hxI c = -1 := by unfold hxI; rw [h]

set_option linter.unusedSimpArgs false in
set_option maxHeartbeats 1600000 in
set_option maxRecDepth 100000 in
theorem refUnescape_any (s : ByteArray) (w : World) (hl : s.size ≤ 140737488351232) :
    Calls Tryz.prog 106 #[.string s] w fun e w' => e = .returned (unRes (un (sbytes s) 0)) ∧ Below w.heap.size w w' := by
  obtain ⟨n, hn⟩ : ∃ n, n = s.size := ⟨_, rfl⟩
  obtain ⟨xs, HX⟩ : ∃ xs, Hid (xs = sbytes s) := ⟨_, rfl⟩
  have HN : Hid (n = xs.length) := by show _ = _; rw [hn, HX.out, sbytes_length]
  obtain ⟨U, HU⟩ : ∃ U, Hid (U = un xs 0) := ⟨_, rfl⟩
  rw [← HX.out, ← HU.out]
  rw [← hn] at hl
  have HS : Hid (n = s.size) := hn
  have hlen : (s.size : Int) = (n : Int) := by rw [hn]
  clear hn
  go_enter Tryz.func106, Tryz.ntmps106
  go_wp2
  go_loopw [5, 6] (fun v i wr => ∃ (k : Nat) (out : List Nat), (k ≤ n ∧ out.length ≤ k) ∧ i = .int .i64 k ∧ Hid (Own wr w.heap.size v out ∧ Below w.heap.size w wr) ∧ Hid (U = putL out (un (xs.drop k) k))) (fun _ i _ => n - (intOf i).toNat)
  case atStart => exact ⟨0, [], ⟨Nat.zero_le _, Nat.le_refl _⟩, rfl, ⟨own_nil _ _, Below.refl _ _⟩, by show _ = _; rw [putL_nil, List.drop_zero]; exact HU.out⟩
  case round =>
    obtain ⟨k, out, ⟨hk, hok⟩, rfl, HI, HD⟩ := hrel
    have hsz0 := HI.out.2.size
    by_cases hlt : k < n
    · have hix := str_index s k (by rw [← HS.out]; exact hlt)
      rw [← HX.out] at hix
      have hxk : xs.getD k 0 < 256 := by rw [HX.out]; exact lt_get (sbytes_lt s) k
      have HDR : Hid (xs.drop k = xs.getD k 0 :: xs.drop (k + 1)) := drop_getD (by rw [← HN.out]; exact hlt)
      generalize xs.getD k 0 = c at *
      by_cases hsn : seen c = true
      · have hnb := seen_yes hsn
        have hc33 : (33 : Int) ≤ c := by omega
        have hc126 : (c : Int) ≤ 126 := by omega
        clear hsn
        by_cases h43 : c = 43
        · subst h43
          have HD2 : Hid (U = putL (out ++ [32]) (un (xs.drop (k + 1)) (k + 1))) := by
            show _ = _
            rw [HD.out, HDR.out, un_plus, putL_put1]
          clear HD HDR
          go_wp2_with (first | (at_builtin; refine wpList_append_bytes rfl _ _ rfl w.heap.size _ out rfl (HI.out.1.alloc _) (some ⟨wr.heap.size, 0, none⟩) 1 1 [32] rfl rfl (row_one _ _) (by simp; omega) (by simp; omega) ?_) | fail)
          rintro v4 w4 hown4 hgr4
          have HI4 : Hid (Own w4 w.heap.size v4 (out ++ [32]) ∧ Below w.heap.size w w4) := ⟨hown4, (HI.out.2.alloc hsz0 _).grown hgr4 (by simp; omega) HI.out.1.ge⟩
          clear hown4 hgr4
          go_wp2
          go_roundw
          case rel => exact ⟨k + 1, out ++ [32], ⟨by omega, by simp; omega⟩, by go_num, HI4, HD2⟩
          case measure => simp [intOf]; omega
        · have hne43 : ((c : Int) == 43) = false := by rw [beq_eq_false_iff_ne]; omega
          by_cases h37 : c = 37
          · subst h37
            by_cases hsh : n ≤ k + 2
            · have hd1 : decide ((n : Int) ≤ (k : Int) + 2) = true := by simp; omega
              have HD2 : Hid (U = .error (30, k)) := by
                show _ = _
                rw [HD.out, HDR.out, un_hex_short _ (by rw [List.length_drop, ← HN.out]; omega)]; rfl
              clear HD HDR
              go_wp2
              go_ret3
              exact ⟨by rw [HD2.out]; rfl, HI.out.2⟩
            · have hd1 : decide ((n : Int) ≤ (k : Int) + 2) = false := by simp; omega
              have hi1 := str_index_at s (k + 1) ((k : Int) + 1) (by omega) (by rw [← HS.out]; omega)
              have hi2 := str_index_at s (k + 2) ((k : Int) + 2) (by omega) (by rw [← HS.out]; omega)
              rw [← HX.out] at hi1 hi2
              have ha : xs.getD (k + 1) 0 < 256 := by rw [HX.out]; exact lt_get (sbytes_lt s) _
              have hb : xs.getD (k + 2) 0 < 256 := by rw [HX.out]; exact lt_get (sbytes_lt s) _
              have HDR2 : Hid (xs.drop (k + 1) = xs.getD (k + 1) 0 :: xs.getD (k + 2) 0 :: xs.drop (k + 3)) := by
                show _ = _
                rw [drop_getD (show k + 1 < xs.length by rw [← HN.out]; omega), drop_getD (show k + 1 + 1 < xs.length by rw [← HN.out]; omega)]
              generalize xs.getD (k + 1) 0 = a at *
              generalize xs.getD (k + 2) 0 = b at *
              cases h1 : hx a with
              | none =>
                have HD2 : Hid (U = .error (30, k)) := by
                  show _ = _
                  rw [HD.out, HDR.out, HDR2.out, un_hex_bad _ _ (.inl h1)]; rfl
                have HXA : Hid (hxI a = -1) := hxI_none h1
                clear HD HDR HDR2 h1
                go_wp2_with fail
                refine (refDigit_any a _ ha).mono ?_
                rintro e w3 ⟨rfl, rfl⟩
                rw [HXA.out]
                go_wp2
                go_ret3
                exact ⟨by rw [HD2.out]; rfl, HI.out.2⟩
              | some x =>
                have hx16 := hx_lt h1
                have hxi : ((x : Int) < 0) = False := by simp
                have HXA : Hid (hxI a = (x : Int)) := hxI_some h1
                cases h2 : hx b with
                | none =>
                  have HD2 : Hid (U = .error (30, k)) := by
                    show _ = _
                    rw [HD.out, HDR.out, HDR2.out, un_hex_bad _ _ (.inr h2)]; rfl
                  have HXB : Hid (hxI b = -1) := hxI_none h2
                  clear HD HDR HDR2 h1 h2
                  go_wp2_with fail
                  refine (refDigit_any a _ ha).mono ?_
                  rintro e w3 ⟨rfl, rfl⟩
                  rw [HXA.out]
                  go_wp2_with fail
                  refine (refDigit_any b _ hb).mono ?_
                  rintro e w4 ⟨rfl, rfl⟩
                  rw [HXB.out]
                  go_wp2
                  go_ret3
                  exact ⟨by rw [HD2.out]; rfl, HI.out.2⟩
                | some y =>
                  have hy16 := hx_lt h2
                  have HXB : Hid (hxI b = (y : Int)) := hxI_some h2
                  have HD2 : Hid (U = putL (out ++ [16 * x + y]) (un (xs.drop (k + 3)) (k + 3))) := by
                    show _ = _
                    rw [HD.out, HDR.out, HDR2.out, un_hex _ _ h1 h2, putL_put1]
                  have hww : IntKind.u8.wrap (16 * (x : Int) + y) = 16 * (x : Int) + y := wraps_u8 _ (by omega) (by omega)
                  have hk1 := wrapI ((k : Int) + 1) (by omega) (by omega)
                  have hk2 := wrapI ((k : Int) + 2) (by omega) (by omega)
                  have hk3 := wrapI (16 * (x : Int)) (by omega) (by omega)
                  have hk4 := wrapI (16 * (x : Int) + y) (by omega) (by omega)
                  clear HD HDR HDR2 h1 h2
                  go_wp2_with fail
                  refine (refDigit_any a _ ha).mono ?_
                  rintro e w3 ⟨rfl, rfl⟩
                  rw [HXA.out]
                  go_wp2_with fail
                  refine (refDigit_any b _ hb).mono ?_
                  rintro e wr ⟨rfl, rfl⟩
                  rw [HXB.out]
                  go_wp2_with fail
                  refine region_any_var (by kernel_rfl) ?_
                  intro A hA
                  have hsz : A.tmps.size = 78 := by rw [hA]; rfl
                  have e0 : A.eval (.tmp 0) = .string s := by rw [hA]; rfl
                  have e5 : A.eval (.tmp 5) = u5 := by rw [hA]; rfl
                  have e6 : A.eval (.tmp 6) = .int .i64 (k : Int) := by rw [hA]; rfl
                  refine take_move (i := 0) 58 5 (u5) rfl rfl rfl (by kernel_rfl) (by kernel_rfl) (by kernel_rfl) (fun _ _ _ h => h) rfl (by simp [ev_put, hsz, sz_put, e0, e5, e6]) ?_
                  refine take_move (i := 1) 59 0 (.string s) rfl rfl rfl (by kernel_rfl) (by kernel_rfl) (by kernel_rfl) (fun _ _ _ h => h) rfl (by simp [ev_put, hsz, sz_put, e0, e5, e6]) ?_
                  refine take_move (i := 2) 60 6 (.int .i64 (k : Int)) rfl rfl rfl (by kernel_rfl) (by kernel_rfl) (by kernel_rfl) (fun _ _ _ h => h) rfl (by simp [ev_put, hsz, sz_put, e0, e5, e6]) ?_
                  refine take_run (i := 3) 61 (.int .i64 ((k : Int) + 1)) rfl rfl (by kernel_rfl) (by kernel_rfl) (by kernel_rfl) (fun _ _ _ h => h) rfl (fun w => by unfold execOp; simp [ev_put, hsz, sz_put, e0, e5, e6] <;> go_simp) ?_
                  refine take_run (i := 4) 62 (.int .u8 (a : Int)) rfl rfl (by kernel_rfl) (by kernel_rfl) (by kernel_rfl) (fun _ _ _ h => h) rfl (fun w => by unfold execOp; simp [ev_put, hsz, sz_put, e0, e5, e6] <;> go_simp) ?_
                  refine take_move (i := 7) 65 0 (.string s) rfl rfl rfl (by kernel_rfl) (by kernel_rfl) (by kernel_rfl) (fun _ _ _ h => h) rfl (by simp [ev_put, hsz, sz_put, e0, e5, e6]) ?_
                  refine take_move (i := 8) 66 6 (.int .i64 (k : Int)) rfl rfl rfl (by kernel_rfl) (by kernel_rfl) (by kernel_rfl) (fun _ _ _ h => h) rfl (by simp [ev_put, hsz, sz_put, e0, e5, e6]) ?_
                  refine take_run (i := 9) 67 (.int .i64 ((k : Int) + 2)) rfl rfl (by kernel_rfl) (by kernel_rfl) (by kernel_rfl) (fun _ _ _ h => h) rfl (fun w => by unfold execOp; simp [ev_put, hsz, sz_put, e0, e5, e6] <;> go_simp) ?_
                  refine take_run (i := 10) 68 (.int .u8 (b : Int)) rfl rfl (by kernel_rfl) (by kernel_rfl) (by kernel_rfl) (fun _ _ _ h => h) rfl (fun w => by unfold execOp; simp [ev_put, hsz, sz_put, e0, e5, e6] <;> go_simp) ?_
                  refine step_call (i := 5) 63 126 #[.int .u8 (a : Int)] rfl rfl (by kernel_rfl) rfl (by unfold execOp; simp [ev_put, hsz, sz_put, e0, e5, e6] <;> go_simp) ?_
                  refine (refDigit_any a _ ha).mono ?_
                  rintro e wx ⟨rfl, rfl⟩
                  refine ⟨_, rfl, ?_⟩
                  rw [HXA.out]
                  refine take_run (i := 6) 64 (.int .i64 (16 * (x : Int))) rfl rfl (by kernel_rfl) (by kernel_rfl) (by kernel_rfl) (fun _ _ _ h => h) rfl (fun w => by unfold execOp; simp [ev_put, hsz, sz_put, e0, e5, e6] <;> go_simp) ?_
                  refine step_call (i := 11) 69 126 #[.int .u8 (b : Int)] rfl rfl (by kernel_rfl) rfl (by unfold execOp; simp [ev_put, hsz, sz_put, e0, e5, e6] <;> go_simp) ?_
                  refine (refDigit_any b _ hb).mono ?_
                  rintro e wx ⟨rfl, rfl⟩
                  refine ⟨_, rfl, ?_⟩
                  rw [HXB.out]
                  refine take_run (i := 12) 70 (.int .i64 (16 * (x : Int) + y)) rfl rfl (by kernel_rfl) (by kernel_rfl) (by kernel_rfl) (fun _ _ _ h => h) rfl (fun w => by unfold execOp; simp [ev_put, hsz, sz_put, e0, e5, e6] <;> go_simp) ?_
                  refine take_run (i := 13) 71 (.int .u8 ((16 * x + y : Nat) : Int)) rfl rfl (by kernel_rfl) (by kernel_rfl) (by kernel_rfl) (fun _ _ _ h => h) rfl (fun w => by unfold execOp; simp [ev_put, hsz, sz_put, e0, e5, e6] <;> go_simp) ?_
                  refine step_one (i := 14) (w' := wr.drew.alloc (Obj.cells #[.int .u8 ((16 * x + y : Nat) : Int)] 5)) 72 (.slice (some ⟨wr.heap.size, 0, none⟩) 1 1) rfl rfl (by kernel_rfl) rfl (by unfold execOp; simp [ev_put, hsz, sz_put, e0, e5, e6] <;> go_simp <;> rfl) ?_
                  refine step_append (i := 15) rfl (by kernel_rfl) rfl (.tmp 58) (.tmp 72) rfl w.heap.size u5 out (by simp [ev_put, hsz, sz_put, e0, e5, e6]) (HI.out.1.keep (below_undrewN1 (below_new _ _))) (some ⟨wr.heap.size, 0, none⟩) 1 1 [16 * x + y] rfl (by simp [ev_put, hsz, sz_put, e0, e5, e6]) (row_one _ _) (by simp; omega) (by simp; omega) ?_
                  intro v1 w1 hown1 hgr1
                  refine take_run (i := 16) 5 (v1) rfl rfl (by kernel_rfl) (by kernel_rfl) (by kernel_rfl) (fun _ _ _ h => h) rfl (fun w => by unfold execOp; simp [ev_put, hsz, sz_put, e0, e5, e6] <;> go_simp) ?_
                  refine wpAny_done (by kernel_rfl) ?_ _
                  subst hA
                  simp only [put_mk, List.set_cons_succ, List.set_cons_zero]
                  have HI1 : Hid (Own w1 w.heap.size v1 (out ++ [16 * x + y]) ∧ Below w.heap.size w w1) := ⟨hown1, ((below_drewN HI.out.2 1).alloc (by simp; omega) _).grown hgr1 (by simp; omega) HI.out.1.ge⟩
                  clear hown1 hgr1
                  go_wp2
                  go_roundw
                  case rel => exact ⟨k + 3, out ++ [16 * x + y], ⟨by omega, by simp; omega⟩, by go_num, HI1, HD2⟩
                  case measure => simp [intOf]; omega
          · have hne37 : ((c : Int) == 37) = false := by rw [beq_eq_false_iff_ne]; omega
            have HD2 : Hid (U = putL (out ++ [c]) (un (xs.drop (k + 1)) (k + 1))) := by
              show _ = _
              rw [HD.out, HDR.out, un_other _ _ hnb h43 h37, putL_put1]
            clear HD HDR
            go_wp2_with (first | (at_builtin; refine wpList_append_bytes rfl _ _ rfl w.heap.size _ out rfl (HI.out.1.alloc _) (some ⟨wr.heap.size, 0, none⟩) 1 1 [c] rfl rfl (row_one _ _) (by simp; omega) (by simp; omega) ?_) | fail)
            rintro v4 w4 hown4 hgr4
            have HI4 : Hid (Own w4 w.heap.size v4 (out ++ [c]) ∧ Below w.heap.size w w4) := ⟨hown4, (HI.out.2.alloc hsz0 _).grown hgr4 (by simp; omega) HI.out.1.ge⟩
            clear hown4 hgr4
            go_wp2
            go_roundw
            case rel => exact ⟨k + 1, out ++ [c], ⟨by omega, by simp; omega⟩, by go_num, HI4, HD2⟩
            case measure => simp [intOf]; omega
      · have hsf : seen c = false := by simpa using hsn
        have HD2 : Hid (U = .error (31, k)) := by
          show _ = _
          rw [HD.out, HDR.out, un_bad _ _ (seen_no hsf)]; rfl
        have hor := seen_no hsf
        clear HD HDR hsf hsn
        by_cases h33 : c < 33
        · have hd1 : decide ((c : Int) < 33) = true := by simp; omega
          go_wp2
          go_ret3
          exact ⟨by rw [HD2.out]; rfl, HI.out.2⟩
        · have hd1 : decide ((c : Int) < 33) = false := by simp; omega
          have hd2 : decide ((126 : Int) < c) = true := by simp; omega
          go_wp2
          go_ret3
          exact ⟨by rw [HD2.out]; rfl, HI.out.2⟩
    · obtain ⟨ao1, c1, rfl, hle, hr1⟩ := HI.out.1.read
      have HD2 : Hid (U = .ok out) := by
        show _ = _
        rw [HD.out, List.drop_eq_nil_of_le (by rw [← HN.out]; omega), un_nil]
        simp [putL]
      have cv := conv_row c1 hr1
      clear hr1 HD
      go_wp2
      go_ret3
      exact ⟨by rw [HD2.out]; rfl, HI.out.2⟩
end Go.Proofs.YtjehbdekipmllaaGreatDoor
