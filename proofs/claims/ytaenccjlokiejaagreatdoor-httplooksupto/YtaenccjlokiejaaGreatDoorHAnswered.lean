/- A response in the law's own form. -/
import Derived.Test.YtaenccjlokiejaaGreatDoorHAskedP
namespace Go.Proofs.YtaenccjlokiejaaGreatDoor
open Go.RowKit Go.Shelf

set_option maxHeartbeats 2000000 in
set_option maxRecDepth 100000 in
theorem answered_any (i : Int) (fs : List Fl) (b : U) (ao : Option Addr) (k c : Nat) (w : World) (hk : k = fs.length) (hkk : k * 32 ≤ 140737488355328) (hr : FRow w ao fs) :
    Calls Tryz.prog 26 #[sAgg i b ao k c] w fun e w' => ∃ so cap, e = .returned (.agg #[.int .i64 i, .slice so k cap, .string (str b)]) ∧ FOwn 86 w' w.heap.size (.slice so k cap) fs ∧ Below w.heap.size w w' := by
  have HO := hide (fun W a => ours_any ao fs k c W hk hkk a)
  have HR := hide hr
  have HK := hide hk
  unfold sAgg
  generalize str b = sb at *
  have HX : Hid (Q3 39 ((w.alloc (.cells #[.int .i64 i, .slice ao k c, .string sb] 39)).alloc (.cells #[.int .i64 0, .slice none 0 0, .string { data := #[] }] 43)) w.heap.size (.int .i64 i) (.slice ao k c) (.string sb)) := up_at _ (new_at _ _ _ rfl)
  have HY : Hid (Q3 43 ((w.alloc (.cells #[.int .i64 i, .slice ao k c, .string sb] 39)).alloc (.cells #[.int .i64 0, .slice none 0 0, .string { data := #[] }] 43)) (w.heap.size + 1) (.int .i64 0) (.slice none 0 0) (.string { data := #[] })) := new_at _ _ _ (by simp)
  have HB0 : Hid (Below w.heap.size w ((w.alloc (.cells #[.int .i64 i, .slice ao k c, .string sb] 39)).alloc (.cells #[.int .i64 0, .slice none 0 0, .string { data := #[] }] 43))) := (below_new _ _).alloc (by simp) _
  have HZ : Hid (((w.alloc (.cells #[.int .i64 i, .slice ao k c, .string sb] 39)).alloc (.cells #[.int .i64 0, .slice none 0 0, .string { data := #[] }] 43)).heap.size = w.heap.size + 2) := by show _ = _; simp
  clear hk hr hkk
  go_enter Tryz.func26, Tryz.ntmps26
  go_upto_region 1 with fail
  generalize (w.alloc (.cells #[.int .i64 i, .slice ao k c, .string sb] 39)).alloc (.cells #[.int .i64 0, .slice none 0 0, .string { data := #[] }] 43) = w0 at *
  generalize hA : w.heap.size = A at *
  obtain ⟨x0, x1, x2⟩ := HX.out.cells
  obtain ⟨v0, v1, v2⟩ := HY.out.cells
  have HFIN : Hid (∀ w2 v, FOwn 86 w2 w0.heap.size v fs → Below w0.heap.size w0 w2 → Q3 43 (put3 w2 (A + 1) (.int .i64 i) v (.string sb)) (A + 1) (.int .i64 i) v (.string sb) ∧ FOwn 86 (put3 w2 (A + 1) (.int .i64 i) v (.string sb)) A v fs ∧ Below A w (put3 w2 (A + 1) (.int .i64 i) v (.string sb))) := by
    intro w2 v h1 h2
    have hz := HZ.out
    refine ⟨(HY.out.keep h2).put _ _ _, (h1.put3 _ (by omega) _ _ _).lower (by omega), ?_⟩
    unfold put3
    exact (((HB0.out.trans (h2.mono (by omega))).setCell (by show _ ≤ _; simp) _).setCell (by show _ ≤ _; simp) _).setCell (by show _ ≤ _; simp) _
  unfold put3 at HFIN
  have hne1 : ¬ A + 1 = A := by omega
  have hne2 : ¬ A = A + 1 := by omega
  go_region_held3 (fun W => W.cell? ⟨A, 0, none⟩ = some (.int .i64 i) ∧ W.cell? ⟨A, 1, none⟩ = some (.slice ao k c) ∧ W.cell? ⟨A, 2, none⟩ = some (.string sb)) (go_keep) (first
    | (go_at_call 28
       refine (HO.out _ (HR.out.keep (hA ▸ below_drewN HB0.out 1))).mono ?_
       rintro e w2 ⟨v, rfl, h1, h2⟩
       have HB2 := hide (below_undrewN1 h2)
       have HF2 : Hid (FOwn 86 w2 w0.heap.size v fs) := h1
       clear h1 h2
       obtain ⟨so, cap, rfl, -, -, -⟩ := HF2.out.shape
       rw [← HK.out] at HF2 ⊢
       obtain ⟨z0, z1, z2⟩ := (HX.out.keep HB2.out).cells
       have HY2 := hide (HY.out.keep HB2.out)
       obtain ⟨u0, u1, u2⟩ := HY2.out.cells
       have f0 := HY2.out.frozen 0
       have f1 := HY2.out.frozen 1
       have f2 := HY2.out.frozen 2
       have HPP := hide (HFIN.out w2 _ HF2.out HB2.out)))
  obtain ⟨p0, p1, p2⟩ := HPP.out.1.cells
  clear x0 x1 x2 v0 v1 v2 z0 z1 z2 HFIN
  go_wp2
  refine bodyPost_ret (v := .agg #[.int .i64 i, .slice so k cap, .string sb]) (by simp [results, Tryz.results26, go_sem, p0, p1, p2]) rfl (by rw [hA]; exact ⟨_, _, rfl, HPP.out.2.1, HPP.out.2.2⟩)
end Go.Proofs.YtaenccjlokiejaaGreatDoor
