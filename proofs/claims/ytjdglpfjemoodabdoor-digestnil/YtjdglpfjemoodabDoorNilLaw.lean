/- What a nil Hash answers; the walk of the law DigestNil: it returns true and turns nothing old, in every world that holds the table of roots. -/
import Derived.Test.YtjdglpfjemoodabDoorLive2
import Derived.Test.YtjdglpfjemoodabDoorArrEq
namespace Go.Proofs.YtjdglpfjemoodabDoor
open Go.RowKit

set_option maxRecDepth 100000 in
theorem writeNil_any (v : Value) (w : World) : Calls Tryd.prog 18 #[.pointer none, v] w fun e w' => e = .returned (.tuple #[]) ∧ w' = w := by
  go_enter Tryd.func18, Tryd.ntmps18
  go_wp2
  go_returns
  exact ⟨rfl, rfl⟩
set_option maxRecDepth 100000 in
theorem sizeNil_any (w : World) : Calls Tryd.prog 26 #[.pointer none] w fun e w' => e = .returned (.int .i64 0) ∧ w' = w := by
  go_enter Tryd.func26, Tryd.ntmps26
  go_wp2
  go_ret
  exact ⟨rfl, rfl⟩
set_option maxRecDepth 100000 in
theorem copyNil_any (w : World) : Calls Tryd.prog 19 #[.pointer none] w fun e w' => e = .returned (.pointer none) ∧ w' = w := by
  go_enter Tryd.func19, Tryd.ntmps19
  go_wp2
  go_ret
  exact ⟨rfl, rfl⟩
set_option maxRecDepth 100000 in
theorem saveNil_any (w : World) : Calls Tryd.prog 23 #[.pointer none] w fun e w' => e = .returned (.slice none 0 0) ∧ w' = w := by
  go_enter Tryd.func23, Tryd.ntmps23
  go_wp2
  go_ret
  exact ⟨rfl, rfl⟩
set_option maxHeartbeats 400000 in
set_option maxRecDepth 100000 in
theorem sumNil_any (w : World) : Calls Tryd.prog 24 #[.pointer none] w fun e w' => e = .returned (.agg ((List.replicate 32 0).map bv).toArray) ∧ Below w.heap.size w w' := by
  have HZ : Hid (Bl (w.alloc (Obj.cells ((List.replicate 32 0).map bv).toArray 24)) w.heap.size ((List.replicate 32 0).map bv) 24) := Bl.new w _ _
  go_enter Tryd.func24, Tryd.ntmps24
  go_wp2_with (first
    | (refine wpList_build_eq rfl 24 _ rfl ((List.replicate 32 0).map bv).toArray (by kernel_rfl) ?_)
    | (refine wpList_store_row rfl 24 _ _ rfl w.heap.size ((List.replicate 32 0).map bv).toArray rfl rfl 24 ((List.replicate 32 0).map bv).toArray HZ.out (by rw [size24]; rfl) rfl (all_oneCell_toArray (bv_one _)) ?_)
    | fail)
  refine bodyPost_ret (results_cell_row rfl _ _ w.heap.size 24 ((List.replicate 32 0).map bv).toArray (0, 0) _ rfl (HZ.out.setRow _) Tryd.underlying24 rfl (by rw [size24]; rfl)) rfl ⟨rfl, below_setRow (below_new w _) (Nat.le_refl _) _⟩

set_option maxHeartbeats 800000 in
set_option maxRecDepth 100000 in
theorem digestNil_walk (w : World) (hT : Roots w 0) : Calls Tryd.prog 6 #[] w fun e w' => e = .returned (.bool true) ∧ Below w.heap.size w w' := by
  have HT : Hid (Roots w 0) := hT
  clear hT
  have kc := fun (w : World) (C : Array Value) (n c : Nat) => Lib.run_convert_bytes_const (P := Tryd.prog) w 22 5 C n c Tryd.underlying22 Tryd.underlying5
  go_enter Tryd.func6, Tryd.ntmps6
  go_wp2_with fail
  refine (writeNil_any _ _).mono ?_
  rintro e w1 ⟨rfl, hw1⟩
  have HB1 : Hid (Below w.heap.size w w1) := by rw [hw1]; exact below_mark w _ _ _
  have hs1 := HB1.out.size
  clear hw1
  go_wp2_with fail
  refine (live_true w1 (HT.out.keep HB1.out)).mono ?_
  rintro e w2 ⟨rfl, h2⟩
  have HB2 : Hid (Below w.heap.size w w2) := HB1.out.trans (h2.mono hs1)
  have hs2 := HB2.out.size
  clear h2
  go_wp2_with fail
  refine (sumNil_any w2).mono ?_
  rintro e w3 ⟨rfl, h3⟩
  have HB3 : Hid (Below w.heap.size w w3) := HB2.out.trans (h3.mono hs2)
  clear h3
  have hq0 : (Op.equalIn 10000 24 (.agg ((List.replicate 32 0).map bv).toArray) (.agg ((List.replicate 32 0).map bv).toArray)).run Tryd.prog w3 = .ok true w3 := by
    rw [arr32_eq _ _ w3 (by simp) (by simp)]; simp
  have hq : (Op.equalIn 10000 24 (.agg ((List.replicate 32 0).map bv).toArray) (.agg #[.int .u8 0, .int .u8 0, .int .u8 0, .int .u8 0, .int .u8 0, .int .u8 0, .int .u8 0, .int .u8 0, .int .u8 0, .int .u8 0, .int .u8 0, .int .u8 0, .int .u8 0, .int .u8 0, .int .u8 0, .int .u8 0, .int .u8 0, .int .u8 0, .int .u8 0, .int .u8 0, .int .u8 0, .int .u8 0, .int .u8 0, .int .u8 0, .int .u8 0, .int .u8 0, .int .u8 0, .int .u8 0, .int .u8 0, .int .u8 0, .int .u8 0, .int .u8 0])).run Tryd.prog w3 = .ok true w3 := hq0
  clear hq0
  generalize ((List.replicate 32 0).map bv).toArray = Z at *
  go_wp2_with (first
    | (go_at_call 26; refine (sizeNil_any _).mono ?_; rintro e w' ⟨rfl, rfl⟩)
    | (go_at_call 19; refine (copyNil_any _).mono ?_; rintro e w' ⟨rfl, rfl⟩)
    | (go_at_call 23; refine (saveNil_any _).mono ?_; rintro e w' ⟨rfl, rfl⟩)
    | fail)
  go_ret
  exact ⟨rfl, HB3.out⟩
end Go.Proofs.YtjdglpfjemoodabDoor
