/- The calls on a nil wheel. -/
import Derived.Laws.EntriesVeiled
import Derived.Laws.Rows
import Derived.Test.YtkebdfegpbnpaabVIter
namespace Go.Proofs.Ytkebdfegpbnpaab
open Go.RowKit Go.Maps

def eachF (Bk : Nat) : Value := .func (.func 31) #[] #[.pointer (some ⟨Bk, 0, none⟩)]
set_option maxRecDepth 100000 in
theorem addNil_any (id a : Int) (w : World) : Calls Try.prog 9 #[.pointer none, .int .u64 id, .int .u64 a] w fun e w' => e = .returned (.int .i64 0) ∧ w' = w := by
  go_enter Try.func9, Try.ntmps9
  go_wp2
  go_ret
  exact ⟨rfl, rfl⟩
set_option maxRecDepth 100000 in
theorem removeNil_any (id : Int) (w : World) : Calls Try.prog 11 #[.pointer none, .int .u64 id] w fun e w' => e = .returned (.int .i64 0) ∧ w' = w := by
  go_enter Try.func11, Try.ntmps11
  go_wp2
  go_ret
  exact ⟨rfl, rfl⟩
set_option maxRecDepth 100000 in
theorem atNil_any (id : Int) (w : World) : Calls Try.prog 18 #[.pointer none, .int .u64 id] w fun e w' => e = .returned (.tuple #[.int .u64 0, .bool false]) ∧ w' = w := by
  go_enter Try.func18, Try.ntmps18
  go_wp2
  go_ret2
  exact ⟨rfl, rfl⟩
set_option maxRecDepth 100000 in
theorem advanceNil_any (a : Int) (w : World) : Calls Try.prog 15 #[.pointer none, .int .u64 a] w fun e w' => e = .returned (.tuple #[.slice none 0 0, .int .i64 0]) ∧ w' = w := by
  go_enter Try.func15, Try.ntmps15
  go_wp2
  go_ret2
  exact ⟨rfl, rfl⟩
set_option maxRecDepth 100000 in
theorem nextNil_any (w : World) : Calls Try.prog 19 #[.pointer none] w fun e w' => e = .returned (.tuple #[.int .u64 0, .bool false]) ∧ w' = w := by
  go_enter Try.func19, Try.ntmps19
  go_wp2
  go_ret2
  exact ⟨rfl, rfl⟩
set_option maxRecDepth 100000 in
theorem nowNil_any (w : World) : Calls Try.prog 21 #[.pointer none] w fun e w' => e = .returned (.int .u64 0) ∧ w' = w := by
  go_enter Try.func21, Try.ntmps21
  go_wp2
  go_ret
  exact ⟨rfl, rfl⟩
set_option maxRecDepth 100000 in
theorem lenNil_any (w : World) : Calls Try.prog 22 #[.pointer none] w fun e w' => e = .returned (.int .i64 0) ∧ w' = w := by
  go_enter Try.func22, Try.ntmps22
  go_wp2
  go_ret
  exact ⟨rfl, rfl⟩
set_option maxRecDepth 100000 in
theorem eachNil_any (w : World) : Calls Try.prog 20 #[.pointer none] w fun e w' => e = .returned (eachF w.heap.size) ∧ w' = w.alloc (.cells #[.slice none 0 0] 66) := by
  go_enter Try.func20, Try.ntmps20
  go_wp2
  go_ret
  exact ⟨rfl, rfl⟩
set_option maxRecDepth 100000 in
theorem spreadNil_any (w : World) : Calls Try.prog 14 #[.pointer none] w fun e w' => e = .returned (.agg #[.int .i64 0, .int .i64 0, .int .i64 0, .int .i64 0, .int .i64 0]) ∧ Below w.heap.size w w' := by
  go_enter Try.func14, Try.ntmps14
  go_wp2
  refine bodyPost_ret (results_cell_row rfl _ _ w.heap.size 40 #[.int .i64 0, .int .i64 0, .int .i64 0, .int .i64 0, .int .i64 0] (0, 0) _ rfl ((Bl.new w _ _).alloc _) Try.underlying40 rfl (by kernel_rfl)) rfl ⟨rfl, (below_new w _).trans ((below_new _ _).mono (by simp))⟩
theorem func_ne (Bk : Nat) (W : World) : (binOp BinOp.eql 50 (eachF Bk) .nilFunc).run Try.prog W = .ok (.bool false) W := by
  unfold eachF
  simp [binOp, go_sem]
  unfold Op.equal Op.maxDepth Op.equalIn
  simp [run_underlying Try.underlying50, go_sem, Result.andThen]
end Go.Proofs.Ytkebdfegpbnpaab
