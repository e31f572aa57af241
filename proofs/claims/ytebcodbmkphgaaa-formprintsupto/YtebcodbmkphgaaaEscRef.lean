/- The contract of the document's Escape: for every text. -/
import Derived.Test.YtebcodbmkphgaaaEscFn
import Derived.Test.YtebcodbmkphgaaaPlainRef
namespace Go.Proofs.Ytebcodbmkphgaaa
open Go.RowKit

set_option linter.unusedSimpArgs false in
set_option maxHeartbeats 1000000 in
set_option maxRecDepth 100000 in
theorem refEscape_any (s : ByteArray) (w : World) (hl : s.size ≤ 35184372088832) :
    Calls Try.prog 12 #[.string s] w fun e w' => e = .returned (.string (bstr (esc (sbytes s)))) ∧ Below w.heap.size w w' := by
  obtain ⟨n, hn⟩ : ∃ n, n = s.size := ⟨_, rfl⟩
  obtain ⟨xs, HX⟩ : ∃ xs, Hid (xs = sbytes s) := ⟨_, rfl⟩
  have HN : Hid (n = xs.length) := by show _ = _; rw [hn, HX.out, sbytes_length]
  rw [← HX.out]
  rw [← hn] at hl
  have HS : Hid (n = s.size) := hn
  have hlen : (s.size : Int) = (n : Int) := by rw [hn]
  clear hn
  go_enter Try.func12, Try.ntmps12
  go_wp2
  go_loopw [3, 5] (fun v i wr => ∃ k : Nat, k ≤ n ∧ i = .int .i64 k ∧ Hid (Own wr w.heap.size v (esc (xs.take k))) ∧ Hid (Below w.heap.size w wr)) (fun _ i _ => n - (intOf i).toNat)
  case atStart => exact ⟨0, Nat.zero_le _, rfl, own_nil _ _, Below.refl _ _⟩
  case round =>
    obtain ⟨k, hk, rfl, HO, HB⟩ := hrel
    by_cases hlt : k < n
    · have hix := str_index s k (by rw [← HS.out]; exact hlt)
      rw [← HX.out] at hix
      have hxk : xs.getD k 0 < 256 := by rw [HX.out]; exact lt_get (sbytes_lt s) k
      have HE : Hid (esc (xs.take (k + 1)) = esc (xs.take k) ++ esc1 (xs.getD k 0)) := by
        show _ = _
        rw [take_getD (by rw [← HN.out]; exact hlt), esc_snoc]
      have HLn : Hid ((esc (xs.take k)).length ≤ 3 * n) := by
        show _ ≤ _
        have := (esc_len (xs.take k)).2
        rw [List.length_take] at this
        omega
      have hs := HB.out.size
      generalize xs.getD k 0 = c at *
      by_cases hp : plainB c = true
      · have HE2 : Hid (esc1 c = [c]) := by show _ = _; unfold esc1; rw [if_pos hp]
        have HP : Hid (plainB c = true) := hp
        clear hp
        go_wp2_with fail
        refine (refPlain_any c wr hxk).mono ?_
        rintro e w' ⟨rfl, rfl⟩
        rw [HP.out]
        go_wp2_with (first | (at_builtin; refine wpList_append_bytes rfl _ _ rfl w.heap.size _ (esc (xs.take k)) rfl (HO.out.alloc _) (some ⟨w'.heap.size, 0, none⟩) 1 1 [c] rfl rfl (row_one _ _) (by have := HLn.out; simp; omega) (by simp; omega) ?_) | fail)
        rintro v1 w1 hown1 hgr1
        have HB1 : Hid (Below w.heap.size w w1) := (HB.out.alloc hs _).grown hgr1 (by simp; omega) HO.out.ge
        have HO1 : Hid (Own w1 w.heap.size v1 (esc (xs.take (k + 1)))) := by rw [HE.out, HE2.out]; exact hown1
        clear hown1 hgr1
        go_wp2
        go_roundw
        case rel => exact ⟨k + 1, by omega, by go_num, HO1, HB1⟩
        case measure => simp [intOf]; omega
      · have HP : Hid (plainB c = false) := by show _ = _; simpa using hp
        by_cases h32 : c = 32
        · subst h32
          have HE2 : Hid (esc1 32 = [43]) := by show _ = _; decide
          clear hp
          go_wp2_with fail
          refine (refPlain_any 32 wr hxk).mono ?_
          rintro e w' ⟨rfl, rfl⟩
          rw [HP.out]
          go_wp2_with (first | (at_builtin; refine wpList_append_bytes rfl _ _ rfl w.heap.size _ (esc (xs.take k)) rfl (HO.out.alloc _) (some ⟨w'.heap.size, 0, none⟩) 1 1 [43] rfl rfl (row_one _ _) (by have := HLn.out; simp; omega) (by simp; omega) ?_) | fail)
          rintro v1 w1 hown1 hgr1
          have HB1 : Hid (Below w.heap.size w w1) := (HB.out.alloc hs _).grown hgr1 (by simp; omega) HO.out.ge
          have HO1 : Hid (Own w1 w.heap.size v1 (esc (xs.take (k + 1)))) := by rw [HE.out, HE2.out]; exact hown1
          clear hown1 hgr1
          go_wp2
          go_roundw
          case rel => exact ⟨k + 1, by omega, by go_num, HO1, HB1⟩
          case measure => simp [intOf]; omega
        · have hne : ((c : Int) == 32) = false := by rw [beq_eq_false_iff_ne]; omega
          have HE2 : Hid (esc1 c = [37, hexU (c / 16), hexU (c % 16)]) := by show _ = _; unfold esc1; rw [if_neg hp, if_neg h32]
          have hw1 : IntKind.u8.wrap ((c : Int) / 16) = (c : Int) / 16 := wraps_u8 _ (by omega) (by omega)
          have hw2 : IntKind.u8.wrap ((c : Int) % 16) = (c : Int) % 16 := wraps_u8 _ (by omega) (by omega)
          have hw3 : (c : Int).tmod 16 = (c : Int) % 16 := Int.tmod_eq_emod_of_nonneg (by omega)
          have hi1 := hexU_index (c / 16) (by omega) ((c : Int) / 16) (by omega)
          have hi2 := hexU_index (c % 16) (by omega) ((c : Int) % 16) (by omega)
          generalize hexU (c / 16) = d1 at *
          generalize hexU (c % 16) = d2 at *
          clear hp
          go_wp2_with fail
          refine (refPlain_any c wr hxk).mono ?_
          rintro e w' ⟨rfl, rfl⟩
          rw [HP.out]
          go_wp2
          refine region_any_var (by kernel_rfl) ?_
          intro A hA
          have hsz : A.tmps.size = 42 := by rw [hA]; rfl
          have e3 : A.eval (.tmp 3) = u3 := by rw [hA]; rfl
          have e4 : A.eval (.tmp 4) = .string { data := #[48, 49, 50, 51, 52, 53, 54, 55, 56, 57, 65, 66, 67, 68, 69, 70] } := by rw [hA]; rfl
          have e6 : A.eval (.tmp 6) = .int .u8 (c : Int) := by rw [hA]; rfl
          refine take_move (i := 0) 16 3 u3 rfl rfl rfl (by kernel_rfl) (by kernel_rfl) (by kernel_rfl) (fun _ _ _ h => h) rfl (by simp [ev_put, hsz, sz_put, e3, e4, e6]) ?_
          refine take_move (i := 1) 17 4 (.string { data := #[48, 49, 50, 51, 52, 53, 54, 55, 56, 57, 65, 66, 67, 68, 69, 70] }) rfl rfl rfl (by kernel_rfl) (by kernel_rfl) (by kernel_rfl) (fun _ _ _ h => h) rfl (by simp [ev_put, hsz, sz_put, e3, e4, e6]) ?_
          refine take_move (i := 2) 18 6 (.int .u8 (c : Int)) rfl rfl rfl (by kernel_rfl) (by kernel_rfl) (by kernel_rfl) (fun _ _ _ h => h) rfl (by simp [ev_put, hsz, sz_put, e3, e4, e6]) ?_
          refine take_run (i := 3) 19 (.int .u8 ((c : Int) / 16)) rfl rfl (by kernel_rfl) (by kernel_rfl) (by kernel_rfl) (fun _ _ _ h => h) rfl (fun w => by unfold execOp; simp [ev_put, hsz, sz_put, e3, e4, e6] <;> go_simp) ?_
          refine take_run (i := 4) 20 (.int .u8 (d1 : Int)) rfl rfl (by kernel_rfl) (by kernel_rfl) (by kernel_rfl) (fun _ _ _ h => h) rfl (fun w => by unfold execOp; simp [ev_put, hsz, sz_put, e3, e4, e6] <;> go_simp) ?_
          refine take_move (i := 5) 21 4 (.string { data := #[48, 49, 50, 51, 52, 53, 54, 55, 56, 57, 65, 66, 67, 68, 69, 70] }) rfl rfl rfl (by kernel_rfl) (by kernel_rfl) (by kernel_rfl) (fun _ _ _ h => h) rfl (by simp [ev_put, hsz, sz_put, e3, e4, e6]) ?_
          refine take_move (i := 6) 22 6 (.int .u8 (c : Int)) rfl rfl rfl (by kernel_rfl) (by kernel_rfl) (by kernel_rfl) (fun _ _ _ h => h) rfl (by simp [ev_put, hsz, sz_put, e3, e4, e6]) ?_
          refine take_run (i := 7) 23 (.int .u8 ((c : Int) % 16)) rfl rfl (by kernel_rfl) (by kernel_rfl) (by kernel_rfl) (fun _ _ _ h => h) rfl (fun w => by unfold execOp; simp [ev_put, hsz, sz_put, e3, e4, e6] <;> go_simp) ?_
          refine take_run (i := 8) 24 (.int .u8 (d2 : Int)) rfl rfl (by kernel_rfl) (by kernel_rfl) (by kernel_rfl) (fun _ _ _ h => h) rfl (fun w => by unfold execOp; simp [ev_put, hsz, sz_put, e3, e4, e6] <;> go_simp) ?_
          refine step_one (i := 9) (w' := w'.drew.alloc (Obj.cells #[.int .u8 ((37 : Nat) : Int), .int .u8 (d1 : Int), .int .u8 (d2 : Int)] 5)) 25 (.slice (some ⟨w'.heap.size, 0, none⟩) 3 3) rfl rfl (by kernel_rfl) rfl (by unfold execOp; simp [ev_put, hsz, sz_put, e3, e4, e6] <;> go_simp <;> rfl) ?_
          refine step_append (i := 10) rfl (by kernel_rfl) rfl (.tmp 16) (.tmp 25) rfl w.heap.size u3 (esc (xs.take k)) (by simp [ev_put, hsz, sz_put, e3, e4, e6]) (HO.out.keep (below_undrewN1 (below_new _ _))) (some ⟨w'.heap.size, 0, none⟩) 3 3 [37, d1, d2] rfl (by simp [ev_put, hsz, sz_put, e3, e4, e6]) (row_three _ _ _ _) (by have := HLn.out; simp; omega) (by simp; omega) ?_
          intro v1 w1 hown1 hgr1
          refine take_run (i := 11) 3 v1 rfl rfl (by kernel_rfl) (by kernel_rfl) (by kernel_rfl) (fun _ _ _ h => h) rfl (fun w => by unfold execOp; simp [ev_put, hsz, sz_put, e3, e4, e6] <;> go_simp) ?_
          refine wpAny_done (by kernel_rfl) ?_ _
          subst hA
          simp only [put_mk, List.set_cons_succ, List.set_cons_zero]
          have HB1 : Hid (Below w.heap.size w w1) := ((below_drewN HB.out 1).alloc (by simp; omega) _).grown hgr1 (by simp; omega) HO.out.ge
          have HO1 : Hid (Own w1 w.heap.size v1 (esc (xs.take (k + 1)))) := by rw [HE.out, HE2.out]; exact hown1
          clear hown1 hgr1
          go_wp2
          go_roundw
          case rel => exact ⟨k + 1, by omega, by go_num, HO1, HB1⟩
          case measure => simp [intOf]; omega
    · obtain ⟨ao1, c1, rfl, hle, hr1⟩ := HO.out.read
      have HT : Hid (xs.take k = xs) := by show _ = _; rw [List.take_of_length_le (by rw [← HN.out]; omega)]
      rw [HT.out] at hr1 hle
      have cv := conv_row c1 hr1
      rw [HT.out]
      clear hr1
      go_wp2
      go_ret
      exact ⟨rfl, HB.out⟩
end Go.Proofs.Ytebcodbmkphgaaa
