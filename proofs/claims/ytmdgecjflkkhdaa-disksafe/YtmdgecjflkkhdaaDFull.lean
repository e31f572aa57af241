/- The contracts of full and begins. -/
import Derived.Test.YtmdgecjflkkhdaaDCrash
namespace Go.Proofs.Ytmdgecjflkkhdaa
open Go.RowKit Go.Maps

set_option maxHeartbeats 2000000 in
set_option maxRecDepth 100000 in
theorem full_any (n : Nat) (w : World) (hn : n * 8 ≤ 140737488355328) :
    Calls Try.prog 25 #[.int .i64 (n : Int)] w fun e w' => ∃ vao m, (∃ cap, e = .returned (.slice vao m cap)) ∧ IRow w' vao (List.replicate n 1099511627776) ∧ m = n ∧ Below w.heap.size w w' := by
  obtain ⟨B, hB⟩ : ∃ B, B = w.heap.size := ⟨_, rfl⟩
  rw [← hB]
  have HB := hide hB
  have HN := hide hn
  obtain ⟨G, hG⟩ : ∃ G : Int, G = 1099511627776 := ⟨_, rfl⟩
  have HG := hide hG
  rw [← hG]
  clear hB hn hG
  go_enter Try.func25, Try.ntmps25
  go_wp2_with fail
  go_loopw [3, 4] (fun v i wr => ∃ q : Nat, q ≤ n ∧ i = .int .i64 (q : Int) ∧ Hid (IOwn wr v (List.replicate q G)) ∧ Hid (∀ g, v.ownBlock = some g → B ≤ g) ∧ Hid (Below B w wr)) (fun _ i _ => n - (intOf i).toNat)
  case atStart => exact ⟨0, Nat.zero_le _, rfl, World.ownsRow_nil _ _ _ _, fun g hg => by simp [Value.ownBlock] at hg, Below.refl _ _⟩
  case round =>
    obtain ⟨q, hq, rfl, HI, HV, HBF⟩ := hrel
    obtain ⟨vao, vcap, hv⟩ := ownsRow_slice HI.out
    rw [List.length_replicate] at hv
    subst hv
    have HS5 : Hid (B ≤ wr.heap.size) := by have := HBF.out.size; have := HB.out; show _ ≤ _; omega
    by_cases hqn : q < n
    · have hqi : (q : Int) < (n : Int) := by omega
      have hqb : (q : Int) + 1 ≤ 4611686018427387904 := by have := HN.out; omega
      have HR : Hid (IRow (wr.alloc (.cells #[.int .i64 G] 3)) (some ⟨wr.heap.size, 0, none⟩) [G]) := irow_one wr G
      have HIA : Hid (IOwn (wr.alloc (.cells #[.int .i64 G] 3)) (.slice vao q vcap) (List.replicate q G)) := World.ownsRow.alloc HI.out _
      have HQ : Hid ((q + 1) * 8 ≤ 140737488355328) := by have := HN.out; show _ ≤ _; omega
      rw [HG.out] at HR HIA
      have HREP : Hid (List.replicate q (1099511627776 : Int) ++ [1099511627776] = List.replicate (q + 1) G) := by show _ = _; rw [HG.out, List.replicate_succ']
      go_wp2_with (first | (at_builtin; refine wpList_append_ints_at rfl _ _ rfl (.slice vao q vcap) (List.replicate q 1099511627776) rfl HIA.out (some ⟨wr.heap.size, 0, none⟩) 1 1 [1099511627776] rfl rfl HR.out (by have := HQ.out; rw [List.length_replicate]; exact this) ?_; intro uao un ucap w3 h3 g3 l3; have H3 := hide h3; have G3 := hide g3; have L3 := hide l3; clear h3 g3 l3) | fail)
      have HF3 : Hid (IOwn w3 (.slice uao un ucap) (List.replicate (q + 1) G)) := by rw [← HREP.out]; exact H3.out
      have HV3 : Hid (∀ g, (Value.slice uao un ucap).ownBlock = some g → B ≤ g) := fun g hg => by
        rcases L3.out with e | e
        · rw [e] at hg; exact HV.out g hg
        · rw [e] at hg; injection hg with hg; rw [← hg]; have := HS5.out; simp; omega
      have HB3 : Hid (Below B w w3) := (HBF.out.trans ((below_new wr (.cells #[.int .i64 1099511627776] 3)).mono HS5.out)).grown G3.out (by have := HS5.out; have := HB.out; simp; omega) (fun j hj => HV.out j hj)
      clear H3 G3 L3 HR HIA HREP
      go_roundw
      case rel => exact ⟨q + 1, by omega, by simp, HF3, HV3, HB3⟩
      case measure => simp [intOf]; omega
    · have hqi : ¬ (q : Int) < (n : Int) := by omega
      obtain rfl : q = n := by omega
      go_wp2_with fail
      go_ret
      exact ⟨vao, q, ⟨vcap, rfl⟩, HI.out.row, rfl, HBF.out⟩
theorem slice_row {w : World} {ao : Option Addr} {ys : List Nat} {cap : Nat} (hr : Row w ao ys) (hc : ys.length ≤ cap) (hz : ao = none → cap = 0) (m : Nat) (hm : m ≤ ys.length) : ∃ ao' cap', (∀ W, (Instr.slice 36 (.slice ao ys.length cap) none (some (.int .i64 (m : Int))) none).run Try.prog W = .ok (.slice ao' m cap') W) ∧ Row w ao' (ys.take m) := by
  cases ao with
  | none =>
    have hy : ys = [] := by
      rcases hr with e | ⟨b, off, e, _⟩
      · exact e
      · cases e
    subst hy
    have h0 := hz rfl
    subst h0
    obtain rfl : m = 0 := by simpa using hm
    exact ⟨none, 0, slice_to_nil, .inl (by simp)⟩
  | some a =>
    rcases hr with rfl | ⟨b, off, e, hh⟩
    · obtain rfl : m = 0 := by simpa using hm
      refine ⟨some a, cap, fun W => ?_, .inl (by simp)⟩
      rw [run_slice_h W 36 (some a) _ cap underBytes .i64 ((0 : Nat) : Int) (by omega) (by omega), sizeRun]
      simp [Result.andThen, sliced]
      intro _
      unfold Addr.add
      split <;> simp_all
    · injection e with e
      subst e
      exact ⟨some ⟨b, off, none⟩, cap, slice_to b off _ cap m _ rfl (by omega), Row.takeN (.inr ⟨b, off, rfl, hh⟩) m⟩
set_option maxHeartbeats 2000000 in
set_option maxRecDepth 100000 in
theorem begins_true (aao bao : Option Addr) (ac bc : Nat) (xs ys : List Nat) (w : World) (ha : Row w aao xs) (hb : Row w bao ys) (hbc : ys.length ≤ bc) (hbz : bao = none → bc = 0) (hle : xs.length ≤ ys.length) (he : ys.take xs.length = xs) :
    Calls Try.prog 26 #[.slice aao xs.length ac, .slice bao ys.length bc] w fun e w' => e = .returned (.bool true) ∧ ∃ m, w' = w.drewN m := by
  obtain ⟨ao', cap', hsl, hrow⟩ := slice_row hb hbc hbz xs.length hle
  rw [he] at hrow
  have cv1 := conv_row (w := w.drew) ac (ha.drewN 1)
  have cv2 := conv_row (w := w.drew) cap' (hrow.drewN 1)
  have hli : (xs.length : Int) ≤ (ys.length : Int) := by omega
  generalize bstr xs = s at *
  generalize hxl : xs.length = xl at *
  generalize hyl : ys.length = yl at *
  clear ha hb hbc hbz hle he hrow hxl hyl
  go_enter Try.func26, Try.ntmps26
  go_wp2_with fail
  go_region_held (fun _ => True) (trivial) (fail)
  all_goals (try go_wp2_with fail)
  all_goals go_ret
  all_goals exact ⟨rfl, 1, rfl⟩
end Go.Proofs.Ytmdgecjflkkhdaa
