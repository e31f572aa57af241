/- The contracts of the laws' ours: for every list of pairs. -/
import Derived.Test.YtebcodbmkphgaaaHeldPairs
import Derived.Test.YtebcodbmkphgaaaRPair
namespace Go.Proofs.Ytebcodbmkphgaaa
open Go.RowKit

set_option linter.unusedSimpArgs false in
set_option maxHeartbeats 1000000 in
set_option maxRecDepth 100000 in
theorem ours_any (n c : Nat) (ao : Option Addr) (l : List Two) (w : World) (hn : n = l.length) (hl : n ≤ 4398046511104) (hr : PRow w ao l) :
    Calls Try.prog 6 #[.slice ao n c] w fun e w' => ∃ v, e = .returned v ∧ Hid (POwn 42 w' w.heap.size v l ∧ Below w.heap.size w w') := by
  have HN : Hid (n = l.length) := hn
  have HR : Hid (PRow w ao l) := hr
  obtain ⟨i0, hi, hz0, hz1, hz2⟩ := info_parts infoRPair
  clear hn hr
  go_enter Try.func6, Try.ntmps6
  go_wp2
  go_loopw [3, 4] (fun v i wr => ∃ k : Nat, k ≤ n ∧ i = .int .i64 k ∧ Hid (POwn 42 wr w.heap.size v (l.take k)) ∧ Hid (Below w.heap.size w wr)) (fun _ i _ => n - (intOf i).toNat)
  case atStart => exact ⟨0, Nat.zero_le _, rfl, pown_nil _ _ _, Below.refl _ _⟩
  case round =>
    obtain ⟨k, hk, rfl, HO, HB⟩ := hrel
    have hs := HB.out.size
    by_cases hlt : k < n
    · obtain ⟨b, off, rfl⟩ := HR.out.form (by rw [← HN.out]; omega)
      obtain ⟨q, hq⟩ : ∃ q, l[k]? = some q := ⟨_, List.getElem?_eq_getElem (by rw [← HN.out]; exact hlt)⟩
      have HT : Hid (l.take (k + 1) = l.take k ++ [q]) := by show _ = _; rw [List.take_add_one, hq]; rfl
      obtain ⟨x, HXq⟩ : ∃ x, Hid (x = bstr q.1) := ⟨_, rfl⟩
      obtain ⟨y, HYq⟩ : ∃ y, Hid (y = bstr q.2) := ⟨_, rfl⟩
      have HQ : Hid (x = bstr q.1 ∧ y = bstr q.2) := ⟨HXq.out, HYq.out⟩
      have HCW : Hid (∀ W, Below w.heap.size w W → W.cell? ⟨b, off + k * 2, none⟩ = some (.string x) ∧ W.cell? ⟨b, off + k * 2 + 1, none⟩ = some (.string y)) := fun W hW => by
        have h := (HR.out.keep hW).cell hq
        rw [Nat.mul_comm 2 k, ← HXq.out, ← HYq.out] at h
        exact h
      have HC : Hid (wr.cell? ⟨b, off + k * 2, none⟩ = some (.string x) ∧ wr.cell? ⟨b, off + k * 2 + 1, none⟩ = some (.string y)) := HCW.out wr HB.out
      clear hq HXq HYq
      go_wp2
      refine region_held_var (fun W => W.cell? ⟨b, off + k * 2, none⟩ = some (.string x) ∧ W.cell? ⟨b, off + k * 2 + 1, none⟩ = some (.string y)) (by kernel_rfl) ?_
      intro A hA
      have hsz : A.tmps.size = 26 := by rw [hA]; rfl
      have e0 : A.eval (.tmp 0) = .slice (some ⟨b, off, none⟩) n c := by rw [hA]; rfl
      have e3 : A.eval (.tmp 3) = u3 := by rw [hA]; rfl
      have e4 : A.eval (.tmp 4) = .int .i64 (k : Int) := by rw [hA]; rfl
      have HS : wr.drew.cell? ⟨b, off + k * 2, none⟩ = some (.string x) ∧ wr.drew.cell? ⟨b, off + k * 2 + 1, none⟩ = some (.string y) := ⟨HC.out.1, HC.out.2⟩
      refine heldMove (i := 0) 11 3 (u3) rfl rfl rfl (by kernel_rfl) (by kernel_rfl) (by kernel_rfl) (fun _ _ _ h => h) rfl (by simp [ev_put, hsz, sz_put, e0, e3, e4]) HS ?_
      refine heldMove (i := 1) 12 0 (.slice (some ⟨b, off, none⟩) n c) rfl rfl rfl (by kernel_rfl) (by kernel_rfl) (by kernel_rfl) (fun _ _ _ h => h) rfl (by simp [ev_put, hsz, sz_put, e0, e3, e4]) HS ?_
      refine heldMove (i := 2) 13 4 (.int .i64 (k : Int)) rfl rfl rfl (by kernel_rfl) (by kernel_rfl) (by kernel_rfl) (fun _ _ _ h => h) rfl (by simp [ev_put, hsz, sz_put, e0, e3, e4]) HS ?_
      refine heldRun (i := 3) 14 (.pointer (some ⟨b, off + k * 2, none⟩)) rfl rfl (by kernel_rfl) (by kernel_rfl) (by kernel_rfl) (fun _ _ _ h => h) rfl (fun w hSw => by obtain ⟨s1, s2⟩ := hSw; unfold execOp; simp [ev_put, hsz, sz_put, e0, e3, e4] <;> go_simp) HS ?_
      refine heldRun (i := 4) 15 (.pointer (some ⟨b, off + k * 2, none⟩)) rfl rfl (by kernel_rfl) (by kernel_rfl) (by kernel_rfl) (fun _ _ _ h => h) rfl (fun w hSw => by obtain ⟨s1, s2⟩ := hSw; unfold execOp; simp [ev_put, hsz, sz_put, e0, e3, e4] <;> go_simp) HS ?_
      refine heldRun (i := 5) 16 (.string x) rfl rfl (by kernel_rfl) (by kernel_rfl) (by kernel_rfl) (fun _ _ _ h => h) rfl (fun w hSw => by obtain ⟨s1, s2⟩ := hSw; unfold execOp; simp [ev_put, hsz, sz_put, e0, e3, e4] <;> go_simp) HS ?_
      refine heldMove (i := 6) 17 0 (.slice (some ⟨b, off, none⟩) n c) rfl rfl rfl (by kernel_rfl) (by kernel_rfl) (by kernel_rfl) (fun _ _ _ h => h) rfl (by simp [ev_put, hsz, sz_put, e0, e3, e4]) HS ?_
      refine heldMove (i := 7) 18 4 (.int .i64 (k : Int)) rfl rfl rfl (by kernel_rfl) (by kernel_rfl) (by kernel_rfl) (fun _ _ _ h => h) rfl (by simp [ev_put, hsz, sz_put, e0, e3, e4]) HS ?_
      refine heldRun (i := 8) 19 (.pointer (some ⟨b, off + k * 2, none⟩)) rfl rfl (by kernel_rfl) (by kernel_rfl) (by kernel_rfl) (fun _ _ _ h => h) rfl (fun w hSw => by obtain ⟨s1, s2⟩ := hSw; unfold execOp; simp [ev_put, hsz, sz_put, e0, e3, e4] <;> go_simp) HS ?_
      refine heldRun (i := 9) 20 (.pointer (some ⟨b, off + k * 2 + 1, none⟩)) rfl rfl (by kernel_rfl) (by kernel_rfl) (by kernel_rfl) (fun _ _ _ h => h) rfl (fun w hSw => by obtain ⟨s1, s2⟩ := hSw; unfold execOp; simp [ev_put, hsz, sz_put, e0, e3, e4] <;> go_simp) HS ?_
      refine heldRun (i := 10) 21 (.string y) rfl rfl (by kernel_rfl) (by kernel_rfl) (by kernel_rfl) (fun _ _ _ h => h) rfl (fun w hSw => by obtain ⟨s1, s2⟩ := hSw; unfold execOp; simp [ev_put, hsz, sz_put, e0, e3, e4] <;> go_simp) HS ?_
      refine heldRun (i := 11) 22 (.agg #[.string x, .string y]) rfl rfl (by kernel_rfl) (by kernel_rfl) (by kernel_rfl) (fun _ _ _ h => h) rfl (fun w hSw => by obtain ⟨s1, s2⟩ := hSw; unfold execOp; simp [ev_put, hsz, sz_put, e0, e3, e4] <;> go_simp) HS ?_
      have HS2 : (wr.drew.alloc (Obj.cells #[.string x, .string y] 42)).cell? ⟨b, off + k * 2, none⟩ = some (.string x) ∧ (wr.drew.alloc (Obj.cells #[.string x, .string y] 42)).cell? ⟨b, off + k * 2 + 1, none⟩ = some (.string y) := ⟨cell_kept HC.out.1 (below_undrewN1 (below_new _ _)), cell_kept HC.out.2 (below_undrewN1 (below_new _ _))⟩
      refine heldOne (i := 12) (w' := wr.drew.alloc (Obj.cells #[.string x, .string y] 42)) 23 (.slice (some ⟨wr.heap.size, 0, none⟩) 1 1) rfl rfl (by kernel_rfl) rfl (by unfold execOp; simp [ev_put, hsz, sz_put, e0, e3, e4] <;> go_simp <;> rfl) HS2 ?_
      refine heldAppend2 (i := 13) 24 rfl rfl (by kernel_rfl) rfl (.tmp 11) (.tmp 23) rfl Try.underlying25 hi hz0 hz1 hz2 w.heap.size u3 (l.take k) q (by simp [ev_put, hsz, sz_put, e0, e3, e4]) (HO.out.keep (below_undrewN1 (below_new _ _))) ⟨wr.heap.size, 0, none⟩ (by simp [ev_put, hsz, sz_put, e0, e3, e4]) (by rw [← HQ.out.1, ← HQ.out.2]; exact two_new _ _ (by simp) _ _ _) (by rw [List.length_take, Nat.min_eq_left (by rw [← HN.out]; omega)]; omega) (by simp; omega) ?_
      intro v1 w1 hown1 hgr1
      have HB1 : Hid (Below w.heap.size w w1) := ((below_drewN HB.out 1).alloc (by simp; omega) _).grown hgr1 (by simp; omega) HO.out.ge
      have HS1 : w1.cell? ⟨b, off + k * 2, none⟩ = some (.string x) ∧ w1.cell? ⟨b, off + k * 2 + 1, none⟩ = some (.string y) := HCW.out w1 HB1.out
      refine ⟨HS1, ?_⟩
      refine heldRun (i := 14) 3 (v1) rfl rfl (by kernel_rfl) (by kernel_rfl) (by kernel_rfl) (fun _ _ _ h => h) rfl (fun w hSw => by obtain ⟨s1, s2⟩ := hSw; unfold execOp; simp [ev_put, hsz, sz_put, e0, e3, e4] <;> go_simp) HS1 ?_
      refine wpAnyH_done (by kernel_rfl) ?_ _
      subst hA
      simp only [put_mk, List.set_cons_succ, List.set_cons_zero]
      have HO1 : Hid (POwn 42 w1 w.heap.size v1 (l.take (k + 1))) := by rw [HT.out]; exact hown1
      clear hown1 hgr1
      go_wp2
      go_roundw
      case rel => exact ⟨k + 1, by omega, by go_num, HO1, HB1⟩
      case measure => simp [intOf]; omega
    · have HT : Hid (l.take k = l) := by show _ = _; rw [List.take_of_length_le (by rw [← HN.out]; omega)]
      rw [HT.out] at HO
      go_wp2
      go_ret
      exact ⟨_, rfl, HO.out, HB.out⟩
end Go.Proofs.Ytebcodbmkphgaaa
