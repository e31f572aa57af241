/- More steps of a region that draws its order: an operation that comes up alone, two that come up together, a store. -/
import Derived.Test.YtlhgjicichjbgaaGreatDoorSteps
namespace Go.Proofs.YtlhgjicichjbgaaGreatDoor
open Go.RowKit

section
variable {P : Program} {ops : Array Oper} {Q : Exit → Act → World → Prop} {md : Region.Mode}
theorem step_one {i : Nat} {oi : Oper} {fuel : Nat} {listed : Array Bool} {a : Act} {w w' : World} (d : Nat) (v : Value) (hi : ops[i]? = some oi) (hd : oi.dst = some d)
    (hr : Region.ready md ops listed = [i]) (hw : Region.wanted oi (yielded ops a.tmps) = true) (hv : (execOp a.eval oi).run P w = .ok (.value v) w')
    (h : wpAny P md ops Q fuel (listed.setIfInBounds i true) (a.put (some d) v) w') : wpAny P md ops Q (fuel + 1) listed a w := by
  refine wpAny_ready (rs := [i]) hr (by simp) (AllReady.cons hi (fun K hK => ?_) AllReady.nil)
  rw [if_pos hw]
  unfold Oper.wp
  rw [hv, Oper.upon_value]
  simp only [hd]
  exact hK _ _ h
theorem step_two {i j : Nat} {oi oj : Oper} {fuel : Nat} {listed : Array Bool} {a : Act} {w : World} (d e : Nat) (v u : Value) (hi : ops[i]? = some oi) (hd : oi.dst = some d) (hj : ops[j]? = some oj) (he : oj.dst = some e)
    (hr : Region.ready md ops listed = [i, j]) (hw : Region.wanted oi (yielded ops a.tmps) = true) (hwj : Region.wanted oj (yielded ops a.tmps) = true)
    (hv : (execOp a.eval oi).run P w = .ok (.value v) w) (hu : (execOp a.eval oj).run P w = .ok (.value u) w)
    (h1 : wpAny P md ops Q fuel (listed.setIfInBounds i true) (a.put (some d) v) w) (h2 : wpAny P md ops Q fuel (listed.setIfInBounds j true) (a.put (some e) u) w) : wpAny P md ops Q (fuel + 1) listed a w := by
  refine wpAny_ready (rs := [i, j]) hr (by simp) (AllReady.cons hi (fun K hK => ?_) (AllReady.cons hj (fun K hK => ?_) AllReady.nil))
  · rw [if_pos hw]
    unfold Oper.wp
    rw [hv, Oper.upon_value]
    simp only [hd]
    exact hK _ _ h1
  · rw [if_pos hwj]
    unfold Oper.wp
    rw [hu, Oper.upon_value]
    simp only [he]
    exact hK _ _ h2
theorem step_store {i : Nat} {oi : Oper} {fuel : Nat} {listed : Array Bool} {a : Act} {w w' : World} (hi : ops[i]? = some oi) (hd : oi.dst = none)
    (hr : Region.ready md ops listed = [i]) (hw : Region.wanted oi (yielded ops a.tmps) = true) (hv : (execOp a.eval oi).run P w = .ok .skip w')
    (h : wpAny P md ops Q fuel (listed.setIfInBounds i true) a w') : wpAny P md ops Q (fuel + 1) listed a w := by
  refine wpAny_ready (rs := [i]) hr (by simp) (AllReady.cons hi (fun K hK => ?_) AllReady.nil)
  rw [if_pos hw]
  unfold Oper.wp
  rw [hv, Oper.upon_skip]
  simp only [hd]
  exact hK _ _ h
end
end Go.Proofs.YtlhgjicichjbgaaGreatDoor
