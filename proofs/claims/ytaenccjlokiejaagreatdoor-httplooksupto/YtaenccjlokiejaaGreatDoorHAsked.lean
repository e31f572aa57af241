/- A request in the law's own form. -/
import Derived.Test.YtaenccjlokiejaaGreatDoorHAskedP
namespace Go.Proofs.YtaenccjlokiejaaGreatDoor
open Go.RowKit Go.Shelf

set_option maxHeartbeats 2000000 in
set_option maxRecDepth 100000 in
theorem asked_any (q : Rq) (ao : Option Addr) (k c : Nat) (w : World) (hk : k = q.fs.length) (hkk : k * 32 ≤ 140737488355328) (hr : FRow w ao q.fs) :
    Calls Tryz.prog 24 #[qAgg q ao k c] w fun e w' => ∃ so cap, e = .returned (.agg #[.string (str q.m), .string (str q.t), .slice so k cap, .string (str q.b)]) ∧ FOwn 86 w' w.heap.size (.slice so k cap) q.fs ∧ Below w.heap.size w w' := by
  have HO := hide (fun W a => ours_any ao q.fs k c W hk hkk a)
  have HR := hide hr
  have HK := hide hk
  unfold qAgg
  obtain ⟨m, t, fs, b⟩ := q
  simp only at HO HR HK ⊢
  generalize str m = sm at *
  generalize str t = st at *
  generalize str b = sb at *
  have HX : Hid (Q4 27 ((w.alloc (.cells #[.string sm, .string st, .slice ao k c, .string sb] 27)).alloc (.cells #[.string { data := #[] }, .string { data := #[] }, .slice none 0 0, .string { data := #[] }] 32)) w.heap.size (.string sm) (.string st) (.slice ao k c) (.string sb)) := up_at _ (new_at _ _ _ rfl)
  have HY : Hid (Q4 32 ((w.alloc (.cells #[.string sm, .string st, .slice ao k c, .string sb] 27)).alloc (.cells #[.string { data := #[] }, .string { data := #[] }, .slice none 0 0, .string { data := #[] }] 32)) (w.heap.size + 1) (.string { data := #[] }) (.string { data := #[] }) (.slice none 0 0) (.string { data := #[] })) := new_at _ _ _ (by simp)
  have HB0 : Hid (Below w.heap.size w ((w.alloc (.cells #[.string sm, .string st, .slice ao k c, .string sb] 27)).alloc (.cells #[.string { data := #[] }, .string { data := #[] }, .slice none 0 0, .string { data := #[] }] 32))) := (below_new _ _).alloc (by simp) _
  have HZ : Hid (((w.alloc (.cells #[.string sm, .string st, .slice ao k c, .string sb] 27)).alloc (.cells #[.string { data := #[] }, .string { data := #[] }, .slice none 0 0, .string { data := #[] }] 32)).heap.size = w.heap.size + 2) := by show _ = _; simp
  clear hk hr hkk
  go_enter Tryz.func24, Tryz.ntmps24
  go_upto_region 1 with fail
  generalize (w.alloc (.cells #[.string sm, .string st, .slice ao k c, .string sb] 27)).alloc (.cells #[.string { data := #[] }, .string { data := #[] }, .slice none 0 0, .string { data := #[] }] 32) = w0 at *
  generalize hA : w.heap.size = A at *
  obtain ⟨x0, x1, x2, x3⟩ := HX.out.cells
  obtain ⟨v0, v1, v2, v3⟩ := HY.out.cells
  have HFIN : Hid (∀ w2 v, FOwn 86 w2 w0.heap.size v fs → Below w0.heap.size w0 w2 → Q4 32 (put4 w2 (A + 1) (.string sm) (.string st) v (.string sb)) (A + 1) (.string sm) (.string st) v (.string sb) ∧ FOwn 86 (put4 w2 (A + 1) (.string sm) (.string st) v (.string sb)) A v fs ∧ Below A w (put4 w2 (A + 1) (.string sm) (.string st) v (.string sb))) := by
    intro w2 v h1 h2
    have hz := HZ.out
    exact ⟨(HY.out.keep h2).put _ _ _ _, (h1.put4 _ (by omega) _ _ _ _).lower (by omega), put4_below (HB0.out.trans (h2.mono (by omega))) (by omega) _ _ _ _⟩
  unfold put4 at HFIN
  have hne1 : ¬ A + 1 = A := by omega
  have hne2 : ¬ A = A + 1 := by omega
  go_region_held3 (fun W => W.cell? ⟨A, 0, none⟩ = some (.string sm) ∧ W.cell? ⟨A, 1, none⟩ = some (.string st) ∧ W.cell? ⟨A, 2, none⟩ = some (.slice ao k c) ∧ W.cell? ⟨A, 3, none⟩ = some (.string sb)) (go_keep) (first
    | (go_at_call 28
       refine (HO.out _ (HR.out.keep (hA ▸ below_drewN HB0.out 1))).mono ?_
       rintro e w2 ⟨v, rfl, h1, h2⟩
       have HB2 := hide (below_undrewN1 h2)
       have HF2 : Hid (FOwn 86 w2 w0.heap.size v fs) := h1
       clear h1 h2
       obtain ⟨so, cap, rfl, -, -, -⟩ := HF2.out.shape
       rw [← HK.out] at HF2 ⊢
       obtain ⟨z0, z1, z2, z3⟩ := (HX.out.keep HB2.out).cells
       have HY2 := hide (HY.out.keep HB2.out)
       obtain ⟨u0, u1, u2, u3⟩ := HY2.out.cells
       have f0 := HY2.out.frozen 0
       have f1 := HY2.out.frozen 1
       have f2 := HY2.out.frozen 2
       have f3 := HY2.out.frozen 3
       have HPP := hide (HFIN.out w2 _ HF2.out HB2.out)))
  obtain ⟨p0, p1, p2, p3⟩ := HPP.out.1.cells
  clear x0 x1 x2 x3 v0 v1 v2 v3 z0 z1 z2 z3 HFIN
  go_wp2
  refine bodyPost_ret (v := .agg #[.string sm, .string st, .slice so k cap, .string sb]) (by simp [results, Tryz.results24, go_sem, p0, p1, p2, p3]) rfl (by rw [hA]; exact ⟨_, _, rfl, HPP.out.2.1, HPP.out.2.2⟩)
end Go.Proofs.YtaenccjlokiejaaGreatDoor
