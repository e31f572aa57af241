/- The contracts of the reference's Write and Save. -/
import Derived.Test.YtjdglpfjemoodaaDoorRefHash
import Derived.Test.YtjdglpfjemoodaaDoorPieceMath
namespace Go.Proofs.YtjdglpfjemoodaaDoor
open Go.RowKit

theorem row_setRow {w : World} {ao : Option Addr} {xs : List Nat} {g : Nat} {cs : Array Value} (h : Row w ao xs) (hne : ∀ a, ao = some a → a.block ≠ g) : Row (w.setRow g cs) ao xs := by
  rcases h with h | ⟨b, off, rfl, hc⟩
  · exact .inl h
  · refine .inr ⟨b, off, rfl, fun i hi => ?_⟩
    rw [World.cell?_of_block (setRow_other w g b cs (hne ⟨b, off, none⟩ rfl))]
    exact hc i hi

set_option maxHeartbeats 2000000 in
set_option maxRecDepth 100000 in
theorem refWrite_any (n cap past m c : Nat) (ao po : Option Addr) (r xs ys : List Nat) (w : World) (hr : r.length = 8) (hn : n = xs.length) (hm : m = ys.length) (hl : n + m ≤ 70368744177664) (hx : Row w ao xs) (hy : Row w po ys) :
    Calls Tryd.prog 46 #[.agg (rhash r past (.slice ao n cap)).toArray, .slice po m c] w fun e w' => ∃ ao' c', e = .returned (.agg (rhash r past (.slice ao' (n + m) c')).toArray) ∧ Hid (Row w' ao' (xs ++ ys) ∧ n + m ≤ c' ∧ Below w.heap.size w w' ∧ ∀ a, ao' = some a → w.heap.size ≤ a.block) := by
  have HN : Hid (n = xs.length) := hn
  have HM : Hid (m = ys.length) := hm
  have HX : Hid (Row w ao xs) := hx
  have HY : Hid (Row w po ys) := hy
  have HRL : Hid (r.length = 8) := hr
  have hz := zeroRrun
  have HC1 : Hid ((Tryd.prog.info? 37).map (·.size) = some (r.map wv).length) := by show _ = _; rw [size37]; simp [hr]
  obtain ⟨wa, hwa⟩ : ∃ x, x = (w.alloc (Obj.cells (rhash r past (.slice ao n cap)).toArray 40)).alloc (Obj.cells (rhash (List.replicate 8 0) 0 (.slice none 0 0)).toArray 40) := ⟨_, rfl⟩
  have G0 : Hid (Bl wa w.heap.size (rhash r past (.slice ao n cap)) 40) := by rw [hwa]; exact (Bl.new w _ _).alloc _
  have G1 : Hid (Bl wa (w.heap.size + 1) (rhash (List.replicate 8 0) 0 (.slice none 0 0)) 40) := by
    rw [hwa]
    have := Bl.new (w.alloc (Obj.cells (rhash r past (.slice ao n cap)).toArray 40)) (rhash (List.replicate 8 0) 0 (.slice none 0 0)).toArray 40
    rw [World.size_alloc] at this
    exact this
  have HBA : Hid (Below w.heap.size w wa) := by rw [hwa]; exact ((Below.refl _ _).alloc (Nat.le_refl _) _).alloc (by simp) _
  have hsa : w.heap.size + 2 ≤ wa.heap.size := G1.out.lt
  have ca9 : ∀ o, (wa.alloc o).cell? ⟨w.heap.size, 9, none⟩ = some (.slice ao n cap) := fun o => cell_kept (rhash9 G0.out hr) (below_new wa o)
  have hwa2 : wa = (w.alloc (Obj.cells (rhash r past (.slice ao n cap)).toArray 40)).alloc (Obj.cells (rhash [0, 0, 0, 0, 0, 0, 0, 0] 0 (.slice none 0 0)).toArray 40) := hwa
  clear hr hn hm hx hy hwa
  go_enter Tryd.func46, Tryd.ntmps46
  go_upto_region 1 with fail
  rw [← hwa2]
  clear hwa2
  go_wp2_with (first | (at_builtin; refine wpList_append_bytes rfl _ _ rfl (w.heap.size + 2) _ [] rfl (own_new wa (w.heap.size + 2) [] hsa (Nat.zero_le _)) ao _ cap xs HN.out rfl ((HX.out.keep HBA.out).keep (below_new wa _)) (by simp; rw [← HN.out]; omega) (by simp; omega) ?_) | fail)
  rintro v1 w1 hown1 hgr1
  have HB1 : Hid (Below (w.heap.size + 2) wa w1) := ((Below.refl _ _).alloc hsa _).grown hgr1 (by simp; omega) (fun k hk => by simp [Value.ownBlock] at hk; omega)
  have HO1 : Hid (Own w1 (w.heap.size + 2) v1 xs) := hown1
  have hs1 := HB1.out.size
  have HW1 : Hid (Below w.heap.size w w1) := HBA.out.trans (HB1.out.mono (by omega))
  clear hown1 hgr1 ca9
  go_wp2_with (first | (at_builtin; refine wpList_append_bytes rfl _ _ rfl (w.heap.size + 2) _ xs rfl HO1.out po _ c ys HM.out rfl (HY.out.keep HW1.out) (by rw [← HN.out, ← HM.out]; omega) (by omega) ?_) | fail)
  rintro v2 w2 hown2 hgr2
  have HB2 : Hid (Below (w.heap.size + 2) wa w2) := HB1.out.grown hgr2 (by omega) HO1.out.ge
  obtain ⟨a2, c2, hv2, hc2, hr2⟩ := hown2.read
  have HL : Hid ((xs ++ ys).length = n + m) := by show _ = _; rw [List.length_append, ← HN.out, ← HM.out]
  rw [HL.out] at hv2 hc2
  subst hv2
  have HR2 : Hid (Row w2 a2 (xs ++ ys)) := hr2
  have HF2 : Hid (∀ a, a2 = some a → w.heap.size + 2 ≤ a.block) := fun a ha => by
    subst ha
    rcases hown2.2 with ⟨e, _⟩ | ⟨gg, cap', cur, e, hb, _⟩
    · cases e
    · simp only [Value.slice.injEq, Option.some.injEq] at e; rw [e.1]; exact hb
  have HW2 : Hid (Below w.heap.size w w2) := HBA.out.trans (HB2.out.mono (by omega))
  have G2 : Hid (Bl w2 w.heap.size (rhash r past (.slice ao n cap)) 40) := G0.out.below HB2.out (by omega)
  have Z2 : Hid (Bl w2 (w.heap.size + 1) (rhash (List.replicate 8 0) 0 (.slice none 0 0)) 40) := G1.out.below HB2.out (by omega)
  have c8 : w2.cell? ⟨w.heap.size, 8, none⟩ = some (.int .u64 (past : Int)) := rhash8 G2.out HRL.out
  have HC : Hid ((Tryd.prog.info? 40).map (·.size) = some (rhash r past (.slice a2 (n + m) c2)).toArray.size) := rhash_size _ _ _ HRL.out
  clear hown2 hgr2 hr2 HO1 HB1 HW1 G0 G1
  obtain ⟨r0, r1, r2, r3, r4, r5, r6, r7, hr8⟩ := list_of8 HRL.out
  replace hr8 := hide hr8
  go_wp2_with (first
    | (refine wpList_load_mid rfl 37 _ rfl w.heap.size 0 rfl (r.map wv) _ (rhashR G2.out) Tryd.underlying37 rfl HC1.out ?_)
    | (refine wpList_build_eq rfl 40 _ rfl (rhash r past (.slice a2 (n + m) c2)).toArray (by rw [hr8.out]; kernel_rfl) ?_)
    | (refine wpList_store_row rfl 40 _ _ rfl (w.heap.size + 1) (rhash r past (.slice a2 (n + m) c2)).toArray rfl rfl 40 (rhash (List.replicate 8 0) 0 (.slice none 0 0)).toArray Z2.out HC.out (by simp [rhash, HRL.out]) (all_oneCell_toArray (rhash_one _ _ _ rfl)) ?_)
    | fail)
  refine bodyPost_ret (results_cell_row rfl _ _ (w.heap.size + 1) 40 (rhash r past (.slice a2 (n + m) c2)).toArray (0, 0) _ rfl (Z2.out.setRow _) Tryd.underlying40 rfl HC.out) rfl ⟨a2, c2, rfl, ?_, hc2, below_setRow HW2.out (by omega) _, fun a ha => by have := HF2.out a ha; omega⟩
  exact row_setRow HR2.out (fun a ha => by have := HF2.out a ha; omega)
end Go.Proofs.YtjdglpfjemoodaaDoor
