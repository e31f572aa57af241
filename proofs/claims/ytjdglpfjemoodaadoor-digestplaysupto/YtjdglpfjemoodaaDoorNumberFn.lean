/- The contracts of digest.number and the Hash's mayBeSaved. -/
import Derived.Test.YtjdglpfjemoodaaDoorSumMath
import Derived.Test.YtjdglpfjemoodaaDoorArrEq
namespace Go.Proofs.YtjdglpfjemoodaaDoor
open Go.RowKit

/-- Eight bytes as a number, the highest first. -/
def num8 (xs : List Nat) : Nat := word4 xs * 4294967296 + word4 (xs.drop 4)
theorem word4_lt {xs : List Nat} (h : ∀ x ∈ xs, x < 256) : word4 xs < 4294967296 := be4_lt (lt_get h 0) (lt_get h 1) (lt_get h 2) (lt_get h 3)
theorem num8_lt {xs : List Nat} (h : ∀ x ∈ xs, x < 256) : num8 xs < 18446744073709551616 := by
  have h1 := word4_lt h
  have h2 := word4_lt (lt_drop h 4)
  unfold num8; omega
theorem u64_join (a b : Nat) (ha : a < 4294967296) (hb : b < 4294967296) : bits BinOp.or IntKind.u64 ((a : Int) * 4294967296) (b : Int) = ((a * 4294967296 + b : Nat) : Int) := by
  have h := u64_or_nat (a * 4294967296) b (by omega) (by omega)
  rw [show ((a * 4294967296 : Nat) : Int) = (a : Int) * 4294967296 by omega] at h
  rw [h, Nat.mul_comm a, show 4294967296 * a = 2 ^ 32 * a from rfl, ← Nat.two_pow_add_eq_or_of_lt (by omega) a]
set_option linter.unusedSimpArgs false in
set_option maxHeartbeats 1000000 in
set_option maxRecDepth 100000 in
theorem number_any (b off n cap : Nat) (xs : List Nat) (w : World) (hn : n = xs.length) (h8 : 8 ≤ n) (hnc : n ≤ cap) (hl : n ≤ 140737488351232) (hx : ∀ x ∈ xs, x < 256) (hr : Row w (some ⟨b, off, none⟩) xs) :
    Calls Tryd.prog 63 #[.slice (some ⟨b, off, none⟩) n cap] w fun e w' => e = .returned (.int .u64 ((num8 xs : Nat) : Int)) ∧ ∃ m, w' = w.drewN m := by
  have HN : Hid (n = xs.length) := hn
  have HX : Hid (∀ x ∈ xs, x < 256) := hx
  have HR : Hid (Row w (some ⟨b, off, none⟩) xs) := hr
  have HV : Hid (num8 xs = word4 xs * 4294967296 + word4 (xs.drop 4)) := rfl
  have hw1 := word4_lt hx
  have hw2 := word4_lt (lt_drop hx 4)
  have HX4 : Hid (∀ x ∈ xs.drop 4, x < 256) := lt_drop hx 4
  have HR4 : Hid (Row w (some ⟨b, off + 4, none⟩) (xs.drop 4)) := hr.dropN 4
  have HN4 : Hid (n - 4 = (xs.drop 4).length) := by show _ = _; rw [List.length_drop, ← hn]
  have hsl : ∀ W, (Instr.slice 26 (.slice (some ⟨b, off, none⟩) n cap) (some (.int .i64 4)) none none).run Tryd.prog W = .ok (.slice (some ⟨b, off + 4, none⟩) (n - 4) (cap - 4)) W := fun W => by
    rw [run_slice_l W 26 (some ⟨b, off, none⟩) n cap underBytes .i64 4 (by decide) (by omega), sizeRun]
    simp [Result.andThen, sliced, add_none, show ¬ cap = 4 by omega]
  have hor := u64_join _ _ hw1 hw2
  clear hn hx hr
  go_enter Tryd.func63, Tryd.ntmps63
  go_wp2
  refine region_any_var (by kernel_rfl) ?_
  intro A hA
  have hsz : A.tmps.size = 12 := by rw [hA]; rfl
  have e0 : A.eval (.tmp 0) = .slice (some ⟨b, off, none⟩) n cap := by rw [hA]; rfl
  refine take_move (i := 0) 3 0 (.slice (some ⟨b, off, none⟩) n cap) rfl rfl rfl (by kernel_rfl) (by kernel_rfl) (by kernel_rfl) (fun _ _ _ h => h) rfl (by simp [ev_put, hsz, sz_put, e0]) ?_
  refine take_move (i := 4) 7 0 (.slice (some ⟨b, off, none⟩) n cap) rfl rfl rfl (by kernel_rfl) (by kernel_rfl) (by kernel_rfl) (fun _ _ _ h => h) rfl (by simp [ev_put, hsz, sz_put, e0]) ?_
  refine take_run (i := 5) 8 (.slice (some ⟨b, off + 4, none⟩) (n - 4) (cap - 4)) rfl rfl (by kernel_rfl) (by kernel_rfl) (by kernel_rfl) (fun _ _ _ h => h) rfl (fun w => by unfold execOp; simp [ev_put, hsz, sz_put, e0] <;> go_simp) ?_
  refine step_call (i := 1) 4 64 #[.slice (some ⟨b, off, none⟩) n cap] rfl rfl (by kernel_rfl) rfl (by unfold execOp; simp [ev_put, hsz, sz_put, e0] <;> go_simp) ?_
  refine (word_any n cap b off xs w.drew (by rw [← HN.out]; omega) HN.out HX.out HR.out).mono ?_
  rintro e w1 ⟨rfl, m1, rfl⟩
  refine ⟨_, rfl, ?_⟩
  generalize word4 xs = a1 at *
  have hwa : IntKind.u64.wrap (a1 : Int) = (a1 : Int) := by rw [IntKind.wrap_u64]; omega
  have hwb : IntKind.u64.wrap ((a1 : Int) * 4294967296) = (a1 : Int) * 4294967296 := by rw [IntKind.wrap_u64]; omega
  refine take_run (i := 2) 5 (.int .u64 (a1 : Int)) rfl rfl (by kernel_rfl) (by kernel_rfl) (by kernel_rfl) (fun _ _ _ h => h) rfl (fun w => by unfold execOp; simp [ev_put, hsz, sz_put, e0] <;> go_simp) ?_
  refine take_run (i := 3) 6 (.int .u64 ((a1 : Int) * 4294967296)) rfl rfl (by kernel_rfl) (by kernel_rfl) (by kernel_rfl) (fun _ _ _ h => h) rfl (fun w => by unfold execOp; simp [ev_put, hsz, sz_put, e0] <;> go_simp) ?_
  refine step_call (i := 6) 9 64 #[.slice (some ⟨b, off + 4, none⟩) (n - 4) (cap - 4)] rfl rfl (by kernel_rfl) rfl (by unfold execOp; simp [ev_put, hsz, sz_put, e0] <;> go_simp) ?_
  refine (word_any (n - 4) (cap - 4) b (off + 4) (xs.drop 4) _ (by rw [← HN4.out]; omega) HN4.out HX4.out (by exact HR4.out)).mono ?_
  rintro e w2 ⟨rfl, m2, rfl⟩
  refine ⟨_, rfl, ?_⟩
  generalize word4 (xs.drop 4) = a2 at *
  have hwc : IntKind.u64.wrap (a2 : Int) = (a2 : Int) := by rw [IntKind.wrap_u64]; omega
  refine take_run (i := 7) 10 (.int .u64 (a2 : Int)) rfl rfl (by kernel_rfl) (by kernel_rfl) (by kernel_rfl) (fun _ _ _ h => h) rfl (fun w => by unfold execOp; simp [ev_put, hsz, sz_put, e0] <;> go_simp) ?_
  refine take_run (i := 8) 11 (.int .u64 ((a1 * 4294967296 + a2 : Nat) : Int)) rfl rfl (by kernel_rfl) (by kernel_rfl) (by kernel_rfl) (fun _ _ _ h => h) rfl (fun w => by unfold execOp; simp [ev_put, hsz, sz_put, e0] <;> go_simp) ?_
  refine take_run (i := 9) 2 (.int .u64 ((a1 * 4294967296 + a2 : Nat) : Int)) rfl rfl (by kernel_rfl) (by kernel_rfl) (by kernel_rfl) (fun _ _ _ h => h) rfl (fun w => by unfold execOp; simp [ev_put, hsz, sz_put, e0] <;> go_simp) ?_
  refine wpAny_done (by kernel_rfl) ?_ _
  subst hA
  simp only [put_mk, List.set_cons_succ, List.set_cons_zero]
  go_wp2
  go_ret
  exact ⟨by rw [HV.out]; simp, 1 + m1 + m2, by simp [World.drewN, World.drew] <;> omega⟩
end Go.Proofs.YtjdglpfjemoodaaDoor
/- The contract of the Hash's mayBeSaved: for every state. -/
namespace Go.Proofs.YtjdglpfjemoodaaDoor
open Go.RowKit

section
variable {P : Program} {ops : Array Oper} {Q : Exit → Act → World → Prop} {md : Region.Mode}
theorem step_load_call2 {i j : Nat} {oi oj : Oper} {fuel : Nat} {listed : Array Bool} {a : Act} {w : World} (d e : Nat) (v : Value) (f : FuncId) (args : Array Value) (hi : ops[i]? = some oi) (hd : oi.dst = some d) (hj : ops[j]? = some oj) (he : oj.dst = some e)
    (hr : Region.ready md ops listed = [i, j]) (hw : Region.wanted oi (yielded ops a.tmps) = true) (hwj : Region.wanted oj (yielded ops a.tmps) = true)
    (hv : (execOp a.eval oi).run P w = .ok (.value v) w) (hu : (execOp a.eval oj).run P w = .ok (.enter f args) w)
    (h1 : wpAny P md ops Q fuel (listed.setIfInBounds i true) (a.put (some d) v) w)
    (h2 : Calls P f args w fun x w' => ∃ u, x = .returned u ∧ wpAny P md ops Q fuel (listed.setIfInBounds j true) (a.put (some e) u) w') : wpAny P md ops Q (fuel + 1) listed a w := by
  refine wpAny_ready (rs := [i, j]) hr (by simp) (AllReady.cons hi (fun K hK => ?_) (AllReady.cons hj (fun K hK => ?_) AllReady.nil))
  · rw [if_pos hw]
    unfold Oper.wp
    rw [hv, Oper.upon_value]
    simp only [hd]
    exact hK _ _ h1
  · rw [if_pos hwj]
    unfold Oper.wp
    rw [hu, Oper.upon_enter]
    refine h2.mono ?_
    rintro x w' ⟨v, rfl, h⟩
    simp only [he]
    exact hK _ _ h
end

/-- May such a state have come about? -/
def okSaved (reg blk : List Nat) (N : Nat) : Bool := decide (N ≤ 1152921504606846976) && (blk.drop (N % 64)).all (· == 0) && (decide (64 ≤ N) || decide (reg = first8))
theorem info32 : (Tryd.prog.info? 36).map (fun i => (i.zero, i.size, i.bytes)) = some (some (.int .u32 0), 1, 4) := by kernel_rfl
theorem arr8w_eq (xs ys : List Nat) (w : World) (hx : xs.length = 8) (hy : ys.length = 8) : (Op.equalIn 10000 37 (.agg (xs.map wv).toArray) (.agg (ys.map wv).toArray)).run Tryd.prog w = .ok (decide (xs = ys)) w := by
  obtain ⟨i0, hi, _, _, _⟩ := info_parts info32
  rw [run_equalIn_array w 9999 _ _ Tryd.underlying37 hi, items32 9998 xs ys w _ (fun i h => by have := List.mem_range.1 h; omega), all_eq 8 xs ys hx hy]
theorem all_zero_true {l : List Nat} {h : Nat} (hz : ∀ j, j < l.length - h → l.getD (h + j) 0 = 0) : (l.drop h).all (· == 0) = true := by
  rw [List.all_eq_true]
  intro x hx
  obtain ⟨i, hi, rfl⟩ := List.getElem_of_mem hx
  rw [List.length_drop] at hi
  have := hz i hi
  simpa [List.getD, show h + i < l.length by omega] using this
theorem all_zero_false {l : List Nat} {h k : Nat} (hk : h + k < l.length) (hz : l.getD (h + k) 0 ≠ 0) : (l.drop h).all (· == 0) = false := by
  rw [List.all_eq_false]
  refine ⟨l.getD (h + k) 0, ?_, by simpa using hz⟩
  rw [List.mem_iff_getElem?]
  exact ⟨k, by simp [List.getElem?_drop, List.getD, hk]⟩

set_option linter.unusedSimpArgs false in
set_option maxHeartbeats 2000000 in
set_option maxRecDepth 100000 in
theorem mayBeSaved_any (g N : Nat) (reg blk : List Nat) (w : World) (hh : Hsh w g reg blk N) (hN : N < 18446744073709551616) (hb : ∀ x ∈ blk, x < 256) :
    Calls Tryd.prog 65 #[.pointer (some ⟨g, 0, none⟩)] w fun e w' => e = .returned (.bool (okSaved reg blk N)) ∧ Below w.heap.size w w' := by
  have HH : Hid (Hsh w g reg blk N) := hh
  have HX : Hid (∀ x ∈ blk, x < 256) := hb
  have HK : Hid (okSaved reg blk N = (decide (N ≤ 1152921504606846976) && (blk.drop (N % 64)).all (· == 0) && (decide (64 ≤ N) || decide (reg = first8)))) := rfl
  have c72 : w.cell? ⟨g, 72, none⟩ = some (.int .u64 (N : Int)) := hh.size
  have HRL : Hid ((Tryd.prog.info? 37).map (·.size) = some (reg.map wv).length) := by show _ = _; rw [size37]; simp [hh.2.1]
  have HBL : Hid (blk.length = 64) := hh.2.2
  clear hh hb
  generalize okSaved reg blk N = O at *
  obtain ⟨h, hhd⟩ : ∃ h, h = N % 64 := ⟨_, rfl⟩
  have h64 : h < 64 := by omega
  have HHD : Hid (h = N % 64) := hhd
  rw [← hhd] at HK
  by_cases hbig : 1152921504606846976 < N
  · obtain rfl : O = false := by rw [HK.out, decide_eq_false (by omega)]; rfl
    have hdb : decide ((1152921504606846976 : Int) < (N : Int)) = true := decide_eq_true (by omega)
    clear hhd
    go_enter Tryd.func65, Tryd.ntmps65
    go_wp2
    go_ret
    exact ⟨rfl, Below.refl _ _⟩
  · have hsl := fun W => arr_from 70 64 underArr64 g 8 h (h : Int) rfl h64 W
    have hhe : N % 64 = h := hhd.symm
    clear hhd
    go_enter Tryd.func65, Tryd.ntmps65
    go_wp2
    refine region_any_var (by kernel_rfl) ?_
    intro A hA
    have hsz : A.tmps.size = 37 := by rw [hA]; rfl
    have e0 : A.eval (.tmp 0) = .pointer (some ⟨g, 0, none⟩) := by rw [hA]; rfl
    refine take_move (i := 0) 10 0 (.pointer (some ⟨g, 0, none⟩)) rfl rfl rfl (by kernel_rfl) (by kernel_rfl) (by kernel_rfl) (fun _ _ _ h => h) rfl (by simp [ev_put, hsz, sz_put, e0]) ?_
    refine take_run (i := 1) 11 (.pointer (some ⟨g, 0, none⟩)) rfl rfl (by kernel_rfl) (by kernel_rfl) (by kernel_rfl) (fun _ _ _ h => h) rfl (fun w => by unfold execOp; simp [ev_put, hsz, sz_put, e0] <;> go_simp) ?_
    refine take_run (i := 2) 12 (.pointer (some ⟨g, 8, none⟩)) rfl rfl (by kernel_rfl) (by kernel_rfl) (by kernel_rfl) (fun _ _ _ h => h) rfl (fun w => by unfold execOp; simp [ev_put, hsz, sz_put, e0] <;> go_simp) ?_
    refine take_move (i := 3) 13 0 (.pointer (some ⟨g, 0, none⟩)) rfl rfl rfl (by kernel_rfl) (by kernel_rfl) (by kernel_rfl) (fun _ _ _ h => h) rfl (by simp [ev_put, hsz, sz_put, e0]) ?_
    refine take_run (i := 7) 17 (.int .i64 0) rfl rfl (by kernel_rfl) (by kernel_rfl) (by kernel_rfl) (fun _ _ _ h => h) rfl (fun w => by unfold execOp; simp [ev_put, hsz, sz_put, e0] <;> go_simp) ?_
    refine step_call (i := 4) 14 50 #[.pointer (some ⟨g, 0, none⟩)] rfl rfl (by kernel_rfl) rfl (by unfold execOp; simp [ev_put, hsz, sz_put, e0] <;> go_simp) ?_
    refine (held_any g N w.drew c72).mono ?_
    rintro e w1 ⟨rfl, rfl⟩
    refine ⟨_, rfl, ?_⟩
    rw [hhe]
    refine take_run (i := 5) 15 (.slice (some ⟨g, 8 + h, none⟩) (64 - h) (64 - h)) rfl rfl (by kernel_rfl) (by kernel_rfl) (by kernel_rfl) (fun _ _ _ h => h) rfl (fun w => by unfold execOp; simp [ev_put, hsz, sz_put, e0] <;> go_simp) ?_
    refine take_run (i := 6) 16 (.int .i64 ((64 - h : Nat) : Int)) rfl rfl (by kernel_rfl) (by kernel_rfl) (by kernel_rfl) (fun _ _ _ h => h) rfl (fun w => by unfold execOp; simp [ev_put, hsz, sz_put, e0] <;> go_simp) ?_
    refine wpAny_done (by kernel_rfl) ?_ _
    subst hA
    simp only [put_mk, List.set_cons_succ, List.set_cons_zero]
    clear hsz e0 hsl
    obtain ⟨d, hd⟩ : ∃ d, d = 64 - h := ⟨_, rfl⟩
    rw [← hd]
    have HD : Hid (d = 64 - h) := hd
    have hdl : d ≤ 64 := by omega
    clear hd
    go_wp2
    go_loopw [17] (fun i wr => ∃ k : Nat, k ≤ d ∧ i = .int .i64 (k : Int) ∧ Hid (∀ j, j < k → blk.getD (h + j) 0 = 0) ∧ wr = w.drew) (fun i _ => d - (intOf i).toNat)
    case atStart => exact ⟨0, Nat.zero_le _, rfl, fun j hj => by omega, rfl⟩
    case round =>
      obtain ⟨k, hk, rfl, HJ, rfl⟩ := hrel
      by_cases hlt : k < d
      · have c0 : w.drew.cell? ⟨g, 8 + h + k, none⟩ = some (.int .u8 ((blk.getD (h + k) 0 : Nat) : Int)) := by rw [Nat.add_assoc]; exact HH.out.byte (h + k) (by have := HD.out; omega)
        by_cases hz : blk.getD (h + k) 0 = 0
        · have HJN : Hid (∀ j, j < k + 1 → blk.getD (h + j) 0 = 0) := fun j hj => by
            by_cases hjk : j < k
            · exact HJ.out j hjk
            · rw [show j = k by omega]; exact hz
          rw [hz] at c0
          clear hz
          go_wp2
          go_roundw
          case rel => exact ⟨k + 1, by omega, by go_num, HJN, by first | trivial | rfl⟩
          case measure => simp [intOf]; omega
        · obtain rfl : O = false := by rw [HK.out, all_zero_false (by rw [HBL.out]; have := HD.out; omega) hz]; simp
          have hxk := lt_get HX.out (h + k)
          generalize blk.getD (h + k) 0 = x at *
          have hzi : ((x : Int) != 0) = true := by rw [bne_iff_ne]; omega
          have hzj : ((x : Int) == 0) = false := by rw [beq_eq_false_iff_ne]; omega
          go_wp2
          go_ret
          exact ⟨rfl, (Below.refl _ _).drew⟩
      · have HZ : Hid ((blk.drop h).all (· == 0) = true) := all_zero_true (fun j hj => HJ.out j (by rw [HBL.out] at hj; have := HD.out; omega))
        have HO : Hid (O = (decide (64 ≤ N) || decide (reg = first8))) := by show _ = _; rw [HK.out, HZ.out, decide_eq_true (show N ≤ 1152921504606846976 by omega)]; rfl
        clear HK HZ HJ
        go_wp2
        refine region_any_var (by kernel_rfl) ?_
        intro A hA
        have hsz : A.tmps.size = 37 := by rw [hA]; rfl
        have e0 : A.eval (.tmp 0) = .pointer (some ⟨g, 0, none⟩) := by rw [hA]; rfl
        refine take_move (i := 0) 24 0 (.pointer (some ⟨g, 0, none⟩)) rfl rfl rfl (by kernel_rfl) (by kernel_rfl) (by kernel_rfl) (fun _ _ _ h => h) rfl (by simp [ev_put, hsz, sz_put, e0]) ?_
        refine take_run (i := 1) 25 (.pointer (some ⟨g, 0, none⟩)) rfl rfl (by kernel_rfl) (by kernel_rfl) (by kernel_rfl) (fun _ _ _ h => h) rfl (fun w => by unfold execOp; simp [ev_put, hsz, sz_put, e0] <;> go_simp) ?_
        refine take_run (i := 2) 26 (.pointer (some ⟨g, 72, none⟩)) rfl rfl (by kernel_rfl) (by kernel_rfl) (by kernel_rfl) (fun _ _ _ h => h) rfl (fun w => by unfold execOp; simp [ev_put, hsz, sz_put, e0] <;> go_simp) ?_
        refine step_one (i := 3) (w' := w.drew.drew) 27 (.int .u64 (N : Int)) rfl rfl (by kernel_rfl) rfl (by unfold execOp; simp [ev_put, hsz, sz_put, e0] <;> go_simp) ?_
        by_cases hN64 : 64 ≤ N
        · obtain rfl : O = true := by rw [HO.out, decide_eq_true hN64]; rfl
          have hge : decide ((64 : Int) ≤ (N : Int)) = true := decide_eq_true (by omega)
          refine take_run (i := 4) 28 (.bool true) rfl rfl (by kernel_rfl) (by kernel_rfl) (by kernel_rfl) (fun _ _ _ h => h) rfl (fun w => by unfold execOp; simp [ev_put, hsz, sz_put, e0] <;> go_simp) ?_
          refine take_move (i := 5) 29 28 (.bool true) rfl rfl rfl (by kernel_rfl) (by kernel_rfl) (by kernel_rfl) (fun _ _ _ h => h) rfl (by simp [ev_put, hsz, sz_put, e0]) ?_
          refine take_skip (i := 6) 30 rfl rfl (by kernel_rfl) (by kernel_rfl) (by kernel_rfl) (fun _ _ _ h => h) (skips 5 29 false rfl rfl (by simp [sz_put, hsz]) (by simp [ev_put, hsz, sz_put, e0])) ?_
          refine take_skip (i := 7) 31 rfl rfl (by kernel_rfl) (by kernel_rfl) (by kernel_rfl) (fun _ _ _ h => h) (skips 5 29 false rfl rfl (by simp [sz_put, hsz]) (by simp [ev_put, hsz, sz_put, e0])) ?_
          refine take_skip (i := 8) 32 rfl rfl (by kernel_rfl) (by kernel_rfl) (by kernel_rfl) (fun _ _ _ h => h) (skips 5 29 false rfl rfl (by simp [sz_put, hsz]) (by simp [ev_put, hsz, sz_put, e0])) ?_
          refine take_skip (i := 9) 33 rfl rfl (by kernel_rfl) (by kernel_rfl) (by kernel_rfl) (fun _ _ _ h => h) (skips 5 29 false rfl rfl (by simp [sz_put, hsz]) (by simp [ev_put, hsz, sz_put, e0])) ?_
          refine take_skip (i := 10) 34 rfl rfl (by kernel_rfl) (by kernel_rfl) (by kernel_rfl) (fun _ _ _ h => h) (skips 5 29 false rfl rfl (by simp [sz_put, hsz]) (by simp [ev_put, hsz, sz_put, e0])) ?_
          refine take_skip (i := 11) 35 rfl rfl (by kernel_rfl) (by kernel_rfl) (by kernel_rfl) (fun _ _ _ h => h) (skips 5 29 false rfl rfl (by simp [sz_put, hsz]) (by simp [ev_put, hsz, sz_put, e0])) ?_
          refine take_run (i := 12) 36 (.bool true) rfl rfl (by kernel_rfl) (by kernel_rfl) (by kernel_rfl) (fun _ _ _ h => h) rfl (fun w => by unfold execOp; simp [ev_put, hsz, sz_put, e0] <;> go_simp) ?_
          refine take_run (i := 13) 2 (.bool true) rfl rfl (by kernel_rfl) (by kernel_rfl) (by kernel_rfl) (fun _ _ _ h => h) rfl (fun w => by unfold execOp; simp [ev_put, hsz, sz_put, e0] <;> go_simp) ?_
          refine wpAny_done (by kernel_rfl) ?_ _
          subst hA
          simp only [put_mk, List.set_cons_succ, List.set_cons_zero]
          go_wp2
          go_ret
          exact ⟨rfl, ((Below.refl _ _).drew).drew⟩
        · have hge : decide ((64 : Int) ≤ (N : Int)) = false := decide_eq_false (by omega)
          obtain rfl : O = decide (reg = first8) := by rw [HO.out, decide_eq_false hN64]; rfl
          have hld : ∀ W, Hsh W g reg blk N → (Instr.loadAt 37 (.pointer (some ⟨g, 0, none⟩))).run Tryd.prog W = .ok (.agg (reg.map wv).toArray) W := fun W h => run_loadAt_mid W g 0 37 (reg.map wv) _ h.reg Tryd.underlying37 rfl HRL.out
          replace hld := hide hld
          have hq : ∀ W, (Op.equalIn 10000 37 (.agg (reg.map wv).toArray) (.agg (first8.map wv).toArray)).run Tryd.prog W = .ok (decide (reg = first8)) W := fun W => arr8w_eq reg first8 W HH.out.2.1 rfl
          refine take_run (i := 4) 28 (.bool false) rfl rfl (by kernel_rfl) (by kernel_rfl) (by kernel_rfl) (fun _ _ _ h => h) rfl (fun w => by unfold execOp; simp [ev_put, hsz, sz_put, e0] <;> go_simp) ?_
          refine take_move (i := 5) 29 28 (.bool false) rfl rfl rfl (by kernel_rfl) (by kernel_rfl) (by kernel_rfl) (fun _ _ _ h => h) rfl (by simp [ev_put, hsz, sz_put, e0]) ?_
          refine take_move (i := 6) 30 0 (.pointer (some ⟨g, 0, none⟩)) rfl rfl rfl (by kernel_rfl) (by kernel_rfl) (by kernel_rfl) (fun _ _ _ h => h) (wants 5 29 false rfl rfl (by simp [sz_put, hsz]) (by simp [ev_put, hsz, sz_put, e0])) (by simp [ev_put, hsz, sz_put, e0]) ?_
          refine take_run (i := 7) 31 (.pointer (some ⟨g, 0, none⟩)) rfl rfl (by kernel_rfl) (by kernel_rfl) (by kernel_rfl) (fun _ _ _ h => h) (wants 5 29 false rfl rfl (by simp [sz_put, hsz]) (by simp [ev_put, hsz, sz_put, e0])) (fun w => by unfold execOp; simp [ev_put, hsz, sz_put, e0] <;> go_simp) ?_
          refine take_run (i := 8) 32 (.pointer (some ⟨g, 0, none⟩)) rfl rfl (by kernel_rfl) (by kernel_rfl) (by kernel_rfl) (fun _ _ _ h => h) (wants 5 29 false rfl rfl (by simp [sz_put, hsz]) (by simp [ev_put, hsz, sz_put, e0])) (fun w => by unfold execOp; simp [ev_put, hsz, sz_put, e0] <;> go_simp) ?_
          refine step_load_call2 (i := 9) (j := 10) 33 34 (.agg (reg.map wv).toArray) 44 #[] rfl rfl rfl rfl (by kernel_rfl) (wants 5 29 false rfl rfl (by simp [sz_put, hsz]) (by simp [ev_put, hsz, sz_put, e0])) (wants 5 29 false rfl rfl (by simp [sz_put, hsz]) (by simp [ev_put, hsz, sz_put, e0])) (by unfold execOp; simp [ev_put, hsz, sz_put, e0]; rw [hld.out _ (by exact HH.out)]; rfl) (by unfold execOp; simp [ev_put, hsz, sz_put, e0] <;> go_simp) ?_ ?_
          · refine step_call (i := 10) 34 44 #[] rfl rfl (by kernel_rfl) (wants 5 29 false rfl rfl (by simp [sz_put, hsz]) (by simp [ev_put, hsz, sz_put, e0])) (by unfold execOp; simp [ev_put, hsz, sz_put, e0] <;> go_simp) ?_
            refine (firstWords_any _).mono ?_
            rintro e w6 ⟨rfl, h6⟩
            replace h6 : Below w.heap.size w w6 := ⟨h6.os, h6.tape, h6.output, h6.size, h6.block⟩
            refine ⟨_, rfl, ?_⟩
            refine take_run (i := 11) 35 (.bool (decide (reg = first8))) rfl rfl (by kernel_rfl) (by kernel_rfl) (by kernel_rfl) (fun _ _ _ h => h) (wants 5 29 false rfl rfl (by simp [sz_put, hsz]) (by simp [ev_put, hsz, sz_put, e0])) (fun w => by unfold execOp; simp [ev_put, hsz, sz_put, e0] <;> go_simp) ?_
            refine take_run (i := 12) 36 (.bool (decide (reg = first8))) rfl rfl (by kernel_rfl) (by kernel_rfl) (by kernel_rfl) (fun _ _ _ h => h) rfl (fun w => by unfold execOp; simp [ev_put, hsz, sz_put, e0] <;> go_simp) ?_
            refine take_run (i := 13) 2 (.bool (decide (reg = first8))) rfl rfl (by kernel_rfl) (by kernel_rfl) (by kernel_rfl) (fun _ _ _ h => h) rfl (fun w => by unfold execOp; simp [ev_put, hsz, sz_put, e0] <;> go_simp) ?_
            refine wpAny_done (by kernel_rfl) ?_ _
            subst hA
            simp only [put_mk, List.set_cons_succ, List.set_cons_zero]
            go_wp2
            go_ret
            exact ⟨rfl, h6⟩
          · refine (firstWords_any _).mono ?_
            rintro e w6 ⟨rfl, h6⟩
            replace h6 : Below w.heap.size w w6 := ⟨h6.os, h6.tape, h6.output, h6.size, h6.block⟩
            refine ⟨_, rfl, ?_⟩
            refine step_one (i := 9) (w' := w6) 33 (.agg (reg.map wv).toArray) rfl rfl (by kernel_rfl) (wants 5 29 false rfl rfl (by simp [sz_put, hsz]) (by simp [ev_put, hsz, sz_put, e0])) (by unfold execOp; simp [ev_put, hsz, sz_put, e0]; rw [hld.out _ (HH.out.keep h6)]; rfl) ?_
            refine take_run (i := 11) 35 (.bool (decide (reg = first8))) rfl rfl (by kernel_rfl) (by kernel_rfl) (by kernel_rfl) (fun _ _ _ h => h) (wants 5 29 false rfl rfl (by simp [sz_put, hsz]) (by simp [ev_put, hsz, sz_put, e0])) (fun w => by unfold execOp; simp [ev_put, hsz, sz_put, e0] <;> go_simp) ?_
            refine take_run (i := 12) 36 (.bool (decide (reg = first8))) rfl rfl (by kernel_rfl) (by kernel_rfl) (by kernel_rfl) (fun _ _ _ h => h) rfl (fun w => by unfold execOp; simp [ev_put, hsz, sz_put, e0] <;> go_simp) ?_
            refine take_run (i := 13) 2 (.bool (decide (reg = first8))) rfl rfl (by kernel_rfl) (by kernel_rfl) (by kernel_rfl) (fun _ _ _ h => h) rfl (fun w => by unfold execOp; simp [ev_put, hsz, sz_put, e0] <;> go_simp) ?_
            refine wpAny_done (by kernel_rfl) ?_ _
            subst hA
            simp only [put_mk, List.set_cons_succ, List.set_cons_zero]
            go_wp2
            go_ret
            exact ⟨rfl, h6⟩
end Go.Proofs.YtjdglpfjemoodaaDoor
