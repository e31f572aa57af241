/- The contract of operate. -/
import Derived.Test.YticbfcognnofbaaDOper
import Derived.Deep.RegionHeldLaw
import Derived.Deep.RegionLaw
namespace Go.Proofs.Yticbfcognnofbaa
open Go.RowKit Go.Maps

theorem eq_nil_ptr_at (d : Nat) (w : World) : (Op.equalIn (d + 1) 89 (.pointer none) (.pointer none)).run Try.prog w = .ok true w := by
  simp [Op.equalIn, run_underlying Try.underlying89]
theorem eq_nil_ptr (w : World) : (Op.equalIn 9999 89 (.pointer none) (.pointer none)).run Try.prog w = .ok true w := eq_nil_ptr_at 9998 w
def zeroCh : Ch := ⟨[], [], 0⟩
set_option maxHeartbeats 1000000 in
set_option maxRecDepth 100000 in
theorem operate_full (dp nx : Nat) (S : DS) (L : Lay) (c : Ch) (w : World) (h : Rep w dp S L nx) (ho : 1048576 ≤ S.ops) (hs : S.ops ≤ 9223372036854775807) :
    Calls Try.prog 55 #[pf dp, .agg (chCells L.bs c).toArray] w fun e w' => e = .returned (.int .i64 5) ∧ Rep w' dp S L nx ∧ Fr [] w w' := by
  have H1 := hide (h.below (below_new w (.cells (chCells L.bs c).toArray 94)))
  have HF1 := hide (Fr.alloc [] w (.cells (chCells L.bs c).toArray 94))
  clear h
  rw [show (chCells L.bs c).toArray = #[.string (str c.fr), .string (str c.tn), if c.tn = [] then .pointer none else pf (L.bs.getD c.fl 0)] from rfl] at *
  generalize (if c.tn = [] then Value.pointer none else pf (L.bs.getD c.fl 0)) = pv at *
  obtain ⟨c0, c1, c2, c3, c4, c5, c6, c7⟩ := H1.out.c
  have q : decide ((1048576 : Int) ≤ (S.ops : Int)) = true := decide_eq_true (by omega)
  clear ho hs
  unfold pf
  go_enter Try.func55, Try.ntmps55
  go_wp2
  go_ret
  exact ⟨rfl, H1.out, HF1.out⟩
set_option maxHeartbeats 1000000 in
set_option maxRecDepth 100000 in
theorem operate_dies (dp nx : Nat) (S : DS) (L : Lay) (c : Ch) (w : World) (h : Rep w dp S L nx) (ho : S.ops < 1048576) (ha : S.armed = 1) :
    Calls Try.prog 55 #[pf dp, .agg (chCells L.bs c).toArray] w fun e w' => e = .returned (.int .i64 51) ∧ Rep w' dp { S with armed := 0, dead := true } L nx ∧ Fr [dp] w w' := by
  have H1 := hide (h.below (below_new w (.cells (chCells L.bs c).toArray 94)))
  have HF1 := hide (Fr.alloc [dp] w (.cells (chCells L.bs c).toArray 94))
  clear h
  rw [show (chCells L.bs c).toArray = #[.string (str c.fr), .string (str c.tn), if c.tn = [] then .pointer none else pf (L.bs.getD c.fl 0)] from rfl] at *
  generalize (if c.tn = [] then Value.pointer none else pf (L.bs.getD c.fl 0)) = pv at *
  obtain ⟨c0, c1, c2, c3, c4, c5, c6, c7⟩ := H1.out.c
  have HC := hide (fails_any dp nx S L _ H1.out (by omega))
  rw [ha] at HC
  rw [show decide (1 = 1) = true from rfl] at HC
  have HA := hide ha
  have q : decide ((1048576 : Int) ≤ (S.ops : Int)) = false := decide_eq_false (by omega)
  clear ha c6 ho
  unfold pf at *
  go_enter Try.func55, Try.ntmps55
  go_wp2_with (go_at_call 75; refine HC.out.mono ?_; rintro e w2 ⟨rfl, hr2, hf2⟩; have H2 := hide hr2; have HF2 := hide (HF1.out.trans hf2 (fun x hx => .inl hx)); clear hr2 hf2)
  go_ret
  exact ⟨rfl, H2.out, HF2.out⟩
/-- What stands when an operation goes on, ahead of its change. -/
def went (S : DS) : DS := { S with armed := S.armed - 1, ops := S.ops + 1, dead := false }
set_option maxHeartbeats 1000000 in
set_option maxRecDepth 100000 in
theorem operate_none (dp nx : Nat) (S : DS) (L : Lay) (w : World) (h : Rep w dp S L nx) (ho : S.ops < 1048576) (ha : S.armed ≠ 1) (ham : S.armed ≤ 9223372036854775807) :
    Calls Try.prog 55 #[pf dp, .agg (chCells L.bs zeroCh).toArray] w fun e w' => e = .returned (.int .i64 0) ∧ Rep w' dp (went S) L nx ∧ Fr [dp] w w' := by
  rw [show (chCells L.bs zeroCh).toArray = #[.string { data := #[] }, .string { data := #[] }, .pointer none] from rfl]
  have H1 := hide (h.below (below_new w (.cells #[.string { data := #[] }, .string { data := #[] }, .pointer none] 94)))
  have HF1 := hide (Fr.alloc [dp] w (.cells #[.string { data := #[] }, .string { data := #[] }, .pointer none] 94))
  have HB := hide (Bl.new w #[.string { data := #[] }, .string { data := #[] }, .pointer none] 94)
  obtain ⟨N, hN⟩ : ∃ N, N = w.heap.size := ⟨_, rfl⟩
  have HNE : Hid (N ∉ [dp]) := by have := h.lt dp ((L.mem dp dp).2 (.inl rfl)); show ¬ _; simp; omega
  have HC := hide (fails_any dp nx S L _ H1.out ham)
  rw [show decide (S.armed = 1) = false by simpa using ha] at HC
  have HW : Hid (∀ w2, Rep w2 dp { S with dead := false, armed := S.armed - 1 } L nx → Rep (w2.setCell ⟨dp, 5, none⟩ (.int .i64 ((S.ops : Int) + 1))) dp (went S) L nx) := fun w2 h2 => by
    rw [show ((S.ops : Int) + 1) = ((S.ops + 1 : Nat) : Int) by omega]
    exact h2.setBox (S' := went S) (nx' := nx) 5 _ rfl rfl rfl rfl rfl
  have HT := hide (by omega : (S.ops : Int) + 1 ≤ 9223372036854775807)
  have q : decide ((1048576 : Int) ≤ (S.ops : Int)) = false := decide_eq_false (by omega)
  have q2 : wrap64 ((S.ops : Int) + 1) = (S.ops : Int) + 1 := by unfold wrap64; omega
  have q3 := eq_nil_ptr
  clear h ha ham ho
  unfold pf at *
  go_enter Try.func55, Try.ntmps55
  go_upto_region 1 with fail
  rw [← hN] at HB ⊢
  clear hN
  generalize w.alloc (.cells #[.string { data := #[] }, .string { data := #[] }, .pointer none] 94) = u at *
  obtain ⟨c0, c1, c2, c3, c4, c5, c6, c7⟩ := H1.out.c
  generalize S.ops = M at *
  go_wp2_with (go_at_call 75; refine HC.out.mono ?_; rintro e w2 ⟨rfl, hr2, hf2⟩; have H2 := hide hr2; have HF2 := hide (HF1.out.trans hf2 (fun x hx => .inl hx)); obtain ⟨b0, b1, b2⟩ := (Fr.bl HB.out hf2 HNE.out).three; obtain ⟨d0, d1, d2, d3, d4, d5, d6, d7⟩ := H2.out.c; have f5 := H2.out.box.frozen 5; simp only at d0 d1 d2 d3 d4 d5 d6 d7; clear hr2 hf2)
  go_ret
  exact ⟨rfl, HW.out w2 H2.out, HF2.out.trans (Fr.setCell [dp] w2 dp 5 _ (by simp)) (fun x hx => .inl hx)⟩
end Go.Proofs.Yticbfcognnofbaa
