/- The contracts of digest.number and the Hash's mayBeSaved. -/
import Derived.Test.YtjdglpfjemoodaaDoorSumTop
import Derived.Test.YtjdglpfjemoodaaDoorArrEq
namespace Go.Proofs.YtjdglpfjemoodaaDoor
open Go.RowKit

/-- Eight bytes as a number, the highest first. -/
def num8 (xs : List Nat) : Nat := word4 xs * 4294967296 + word4 (xs.drop 4)
theorem word4_lt {xs : List Nat} (h : ∀ x ∈ xs, x < 256) : word4 xs < 4294967296 := be4_lt (lt_get h 0) (lt_get h 1) (lt_get h 2) (lt_get h 3)
theorem num8_lt {xs : List Nat} (h : ∀ x ∈ xs, x < 256) : num8 xs < 18446744073709551616 := by
  have h1 := word4_lt h
  have h2 := word4_lt (lt_drop h 4)
  unfold num8; omega
theorem u64_join (a b : Nat) (ha : a < 4294967296) (hb : b < 4294967296) : bits BinOp.or IntKind.u64 ((a : Int) * 4294967296) (b : Int) = ((a * 4294967296 + b : Nat) : Int) := by
  have h := u64_or_nat (a * 4294967296) b (by omega) (by omega)
  rw [show ((a * 4294967296 : Nat) : Int) = (a : Int) * 4294967296 by omega] at h
  rw [h, Nat.mul_comm a, show 4294967296 * a = 2 ^ 32 * a from rfl, ← Nat.two_pow_add_eq_or_of_lt (by omega) a]
set_option linter.unusedSimpArgs false in
set_option maxHeartbeats 1000000 in
set_option maxRecDepth 100000 in
theorem number_any (b off n cap : Nat) (xs : List Nat) (w : World) (hn : n = xs.length) (h8 : 8 ≤ n) (hnc : n ≤ cap) (hl : n ≤ 140737488351232) (hx : ∀ x ∈ xs, x < 256) (hr : Row w (some ⟨b, off, none⟩) xs) :
    Calls Tryd.prog 63 #[.slice (some ⟨b, off, none⟩) n cap] w fun e w' => e = .returned (.int .u64 ((num8 xs : Nat) : Int)) ∧ ∃ m, w' = w.drewN m := by
  have HN : Hid (n = xs.length) := hn
  have HX : Hid (∀ x ∈ xs, x < 256) := hx
  have HR : Hid (Row w (some ⟨b, off, none⟩) xs) := hr
  have HV : Hid (num8 xs = word4 xs * 4294967296 + word4 (xs.drop 4)) := rfl
  have hw1 := word4_lt hx
  have hw2 := word4_lt (lt_drop hx 4)
  have HX4 : Hid (∀ x ∈ xs.drop 4, x < 256) := lt_drop hx 4
  have HR4 : Hid (Row w (some ⟨b, off + 4, none⟩) (xs.drop 4)) := hr.dropN 4
  have HN4 : Hid (n - 4 = (xs.drop 4).length) := by show _ = _; rw [List.length_drop, ← hn]
  have hsl : ∀ W, (Instr.slice 26 (.slice (some ⟨b, off, none⟩) n cap) (some (.int .i64 4)) none none).run Tryd.prog W = .ok (.slice (some ⟨b, off + 4, none⟩) (n - 4) (cap - 4)) W := fun W => by
    rw [run_slice_l W 26 (some ⟨b, off, none⟩) n cap underBytes .i64 4 (by decide) (by omega), sizeRun]
    simp [Result.andThen, sliced, add_none, show ¬ cap = 4 by omega]
  have hor := u64_join _ _ hw1 hw2
  clear hn hx hr
  go_enter Tryd.func63, Tryd.ntmps63
  go_wp2
  refine region_any_var (by kernel_rfl) ?_
  intro A hA
  have hsz : A.tmps.size = 12 := by rw [hA]; rfl
  have e0 : A.eval (.tmp 0) = .slice (some ⟨b, off, none⟩) n cap := by rw [hA]; rfl
  refine take_move (i := 0) 3 0 (.slice (some ⟨b, off, none⟩) n cap) rfl rfl rfl (by kernel_rfl) (by kernel_rfl) (by kernel_rfl) (fun _ _ _ h => h) rfl (by simp [ev_put, hsz, sz_put, e0]) ?_
  refine take_move (i := 4) 7 0 (.slice (some ⟨b, off, none⟩) n cap) rfl rfl rfl (by kernel_rfl) (by kernel_rfl) (by kernel_rfl) (fun _ _ _ h => h) rfl (by simp [ev_put, hsz, sz_put, e0]) ?_
  refine take_run (i := 5) 8 (.slice (some ⟨b, off + 4, none⟩) (n - 4) (cap - 4)) rfl rfl (by kernel_rfl) (by kernel_rfl) (by kernel_rfl) (fun _ _ _ h => h) rfl (fun w => by unfold execOp; simp [ev_put, hsz, sz_put, e0] <;> go_simp) ?_
  refine step_call (i := 1) 4 64 #[.slice (some ⟨b, off, none⟩) n cap] rfl rfl (by kernel_rfl) rfl (by unfold execOp; simp [ev_put, hsz, sz_put, e0] <;> go_simp) ?_
  refine (word_any n cap b off xs w.drew (by rw [← HN.out]; omega) HN.out HX.out HR.out).mono ?_
  rintro e w1 ⟨rfl, m1, rfl⟩
  refine ⟨_, rfl, ?_⟩
  generalize word4 xs = a1 at *
  have hwa : IntKind.u64.wrap (a1 : Int) = (a1 : Int) := by rw [IntKind.wrap_u64]; omega
  have hwb : IntKind.u64.wrap ((a1 : Int) * 4294967296) = (a1 : Int) * 4294967296 := by rw [IntKind.wrap_u64]; omega
  refine take_run (i := 2) 5 (.int .u64 (a1 : Int)) rfl rfl (by kernel_rfl) (by kernel_rfl) (by kernel_rfl) (fun _ _ _ h => h) rfl (fun w => by unfold execOp; simp [ev_put, hsz, sz_put, e0] <;> go_simp) ?_
  refine take_run (i := 3) 6 (.int .u64 ((a1 : Int) * 4294967296)) rfl rfl (by kernel_rfl) (by kernel_rfl) (by kernel_rfl) (fun _ _ _ h => h) rfl (fun w => by unfold execOp; simp [ev_put, hsz, sz_put, e0] <;> go_simp) ?_
  refine step_call (i := 6) 9 64 #[.slice (some ⟨b, off + 4, none⟩) (n - 4) (cap - 4)] rfl rfl (by kernel_rfl) rfl (by unfold execOp; simp [ev_put, hsz, sz_put, e0] <;> go_simp) ?_
  refine (word_any (n - 4) (cap - 4) b (off + 4) (xs.drop 4) _ (by rw [← HN4.out]; omega) HN4.out HX4.out (by exact HR4.out)).mono ?_
  rintro e w2 ⟨rfl, m2, rfl⟩
  refine ⟨_, rfl, ?_⟩
  generalize word4 (xs.drop 4) = a2 at *
  have hwc : IntKind.u64.wrap (a2 : Int) = (a2 : Int) := by rw [IntKind.wrap_u64]; omega
  refine take_run (i := 7) 10 (.int .u64 (a2 : Int)) rfl rfl (by kernel_rfl) (by kernel_rfl) (by kernel_rfl) (fun _ _ _ h => h) rfl (fun w => by unfold execOp; simp [ev_put, hsz, sz_put, e0] <;> go_simp) ?_
  refine take_run (i := 8) 11 (.int .u64 ((a1 * 4294967296 + a2 : Nat) : Int)) rfl rfl (by kernel_rfl) (by kernel_rfl) (by kernel_rfl) (fun _ _ _ h => h) rfl (fun w => by unfold execOp; simp [ev_put, hsz, sz_put, e0] <;> go_simp) ?_
  refine take_run (i := 9) 2 (.int .u64 ((a1 * 4294967296 + a2 : Nat) : Int)) rfl rfl (by kernel_rfl) (by kernel_rfl) (by kernel_rfl) (fun _ _ _ h => h) rfl (fun w => by unfold execOp; simp [ev_put, hsz, sz_put, e0] <;> go_simp) ?_
  refine wpAny_done (by kernel_rfl) ?_ _
  subst hA
  simp only [put_mk, List.set_cons_succ, List.set_cons_zero]
  go_wp2
  go_ret
  exact ⟨by rw [HV.out]; simp, 1 + m1 + m2, by simp [World.drewN, World.drew] <;> omega⟩
end Go.Proofs.YtjdglpfjemoodaaDoor
