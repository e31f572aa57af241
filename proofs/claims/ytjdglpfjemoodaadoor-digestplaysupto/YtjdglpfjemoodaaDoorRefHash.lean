/- The contracts of the laws' slot and of the reference's New, Size, Write and Save. -/
import Derived.Test.YtjdglpfjemoodaaDoorRefTotal
import Derived.Test.YtjdglpfjemoodaaDoorCopyFn
namespace Go.Proofs.YtjdglpfjemoodaaDoor
open Go.RowKit

/-- Which of the four. -/
def slotOf (i : Int) : Nat := (i % 4).toNat
theorem slotOf_lt (i : Int) : slotOf i < 4 := by unfold slotOf; omega
theorem slot_eq (i : Int) : (i.tmod 4 + 4).tmod 4 = ((slotOf i : Nat) : Int) := by
  unfold slotOf
  rcases Int.le_total 0 i with h | h
  · rw [Int.tmod_eq_emod_of_nonneg h, Int.tmod_eq_emod_of_nonneg (by omega)]; omega
  · have e : i.tmod 4 = -((-i) % 4) := by
      have : i = -(-i) := by omega
      rw [this, Int.neg_tmod, Int.tmod_eq_emod_of_nonneg (by omega)]
      omega
    rw [e, Int.tmod_eq_emod_of_nonneg (by omega)]
    omega
set_option maxRecDepth 100000 in
theorem slot_any (i : Int) (w : World) (h1 : -9223372036854775808 ≤ i) (h2 : i ≤ 9223372036854775807) : Calls Tryd.prog 45 #[.int .i64 i] w fun e w' => e = .returned (.int .i64 ((slotOf i : Nat) : Int)) ∧ w' = w := by
  have hq := slot_eq i
  have hb := slotOf_lt i
  have hb1 : -3 ≤ i.tmod 4 ∧ i.tmod 4 ≤ 3 := by
    rcases Int.le_total 0 i with h | h
    · rw [Int.tmod_eq_emod_of_nonneg h]; omega
    · have e : i.tmod 4 = -((-i) % 4) := by
        have : i = -(-i) := by omega
        rw [this, Int.neg_tmod, Int.tmod_eq_emod_of_nonneg (by omega)]
        omega
      rw [e]; omega
  obtain ⟨hb1, hb2⟩ := hb1
  have hw1 : IntKind.i64.wrap (i.tmod 4) = i.tmod 4 := by rw [IntKind.wrap_i64]; omega
  have hw2 : IntKind.i64.wrap (i.tmod 4 + 4) = i.tmod 4 + 4 := by rw [IntKind.wrap_i64]; omega
  have hw3 : IntKind.i64.wrap ((slotOf i : Nat) : Int) = ((slotOf i : Nat) : Int) := by rw [IntKind.wrap_i64]; omega
  generalize slotOf i = s at *
  go_enter Tryd.func45, Tryd.ntmps45
  go_wp2
  go_ret
  exact ⟨by first | rfl | simp [hq], rfl⟩

theorem zeroR : (Tryd.prog.info? 40).map (·.zero) = some (some (.agg (rhash (List.replicate 8 0) 0 (.slice none 0 0)).toArray)) := by kernel_rfl
theorem zeroRrun (w : World) : (zeroValue 40).run Tryd.prog w = .ok (.agg (rhash (List.replicate 8 0) 0 (.slice none 0 0)).toArray) w := by
  have h := zeroR
  cases hi : Tryd.prog.info? 40 with
  | none => rw [hi] at h; simp at h
  | some i =>
    rw [hi] at h
    simp only [Option.map_some, Option.some.injEq] at h
    simp [zeroValue, typeInfo, hi, h]
theorem rhash_size (r : List Nat) (past : Nat) (v : Value) (hr : r.length = 8) : (Tryd.prog.info? 40).map (·.size) = some (rhash r past v).toArray.size := by rw [size40]; simp [rhash, hr]
theorem rhash_one (r : List Nat) (past : Nat) (v : Value) (hv : v.oneCell' = true) : ∀ u ∈ rhash r past v, u.oneCell' = true := by
  intro u hu
  unfold rhash at hu
  rcases List.mem_append.1 hu with hu | hu
  · exact wv_one _ u hu
  · simp only [List.mem_cons, List.not_mem_nil, or_false] at hu
    rcases hu with rfl | rfl
    · rfl
    · exact hv
set_option maxHeartbeats 1000000 in
set_option maxRecDepth 100000 in
theorem refNew_any (w : World) : Calls Tryd.prog 18 #[] w fun e w' => e = .returned (.agg (rhash first8 0 (.slice none 0 0)).toArray) ∧ Below w.heap.size w w' := by
  have hz := zeroRrun
  have HC : Hid ((Tryd.prog.info? 40).map (·.size) = some (rhash first8 0 (.slice none 0 0)).toArray.size) := rhash_size _ _ _ rfl
  go_enter Tryd.func18, Tryd.ntmps18
  go_wp2_with fail
  refine (begin_any _).mono ?_
  rintro e w1 ⟨rfl, h1⟩
  have HZ1 : Hid (Bl w1 w.heap.size (rhash (List.replicate 8 0) 0 (.slice none 0 0)) 40) := (Bl.new w _ _).keep h1
  have HB1 : Hid (Below w.heap.size w w1) := (below_new w _).trans (h1.mono (by simp))
  clear h1
  go_wp2_with (first
    | (refine wpList_build_eq rfl 40 _ rfl (rhash first8 0 (.slice none 0 0)).toArray (by kernel_rfl) ?_)
    | (refine wpList_store_row rfl 40 _ _ rfl w.heap.size (rhash first8 0 (.slice none 0 0)).toArray rfl rfl 40 (rhash (List.replicate 8 0) 0 (.slice none 0 0)).toArray HZ1.out HC.out rfl (all_oneCell_toArray (rhash_one _ _ _ rfl)) ?_)
    | fail)
  refine bodyPost_ret (results_cell_row rfl _ _ w.heap.size 40 (rhash first8 0 (.slice none 0 0)).toArray (0, 0) _ rfl (HZ1.out.setRow _) Tryd.underlying40 rfl HC.out) rfl ⟨rfl, below_setRow HB1.out (Nat.le_refl _) _⟩
theorem rhash8 {w : World} {g past : Nat} {r : List Nat} {v : Value} {t : TypeId} (h : Bl w g (rhash r past v) t) (hr : r.length = 8) : w.cell? ⟨g, 8, none⟩ = some (.int .u64 (past : Int)) := by
  rw [h.cell]; unfold rhash; rw [List.getElem?_append_right (by simp [hr])]; simp [hr]
theorem rhash9 {w : World} {g past : Nat} {r : List Nat} {v : Value} {t : TypeId} (h : Bl w g (rhash r past v) t) (hr : r.length = 8) : w.cell? ⟨g, 9, none⟩ = some v := by
  rw [h.cell]; unfold rhash; rw [List.getElem?_append_right (by simp [hr])]; simp [hr]
theorem rhashR {w : World} {g past : Nat} {r : List Nat} {v : Value} {t : TypeId} (h : Bl w g (rhash r past v) t) : w.rangeAt g 0 (r.map wv) := Bl.range (pre := []) h
set_option maxHeartbeats 1000000 in
set_option maxRecDepth 100000 in
theorem refSize_any (n cap past : Nat) (ao : Option Addr) (r : List Nat) (w : World) (hr : r.length = 8) (hp : past + n < 9223372036854775808) :
    Calls Tryd.prog 23 #[.agg (rhash r past (.slice ao n cap)).toArray] w fun e w' => e = .returned (.int .i64 ((past + n : Nat) : Int)) ∧ Below w.heap.size w w' := by
  obtain ⟨wa, hwa⟩ : ∃ x, x = w.alloc (Obj.cells (rhash r past (.slice ao n cap)).toArray 40) := ⟨_, rfl⟩
  have G0 : Hid (Bl wa w.heap.size (rhash r past (.slice ao n cap)) 40) := by rw [hwa]; exact Bl.new w _ _
  have HB : Hid (Below w.heap.size w wa) := by rw [hwa]; exact below_new w _
  have c8 : wa.cell? ⟨w.heap.size, 8, none⟩ = some (.int .u64 (past : Int)) := rhash8 G0.out hr
  have c9 : wa.cell? ⟨w.heap.size, 9, none⟩ = some (.slice ao n cap) := rhash9 G0.out hr
  go_enter Tryd.func23, Tryd.ntmps23
  go_upto_region 1 with fail
  rw [← hwa]
  clear hwa
  go_wp2
  go_ret
  exact ⟨by simp, HB.out⟩
end Go.Proofs.YtjdglpfjemoodaaDoor
