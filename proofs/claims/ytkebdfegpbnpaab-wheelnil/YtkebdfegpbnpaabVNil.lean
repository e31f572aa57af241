/- WheelNil, walked. -/
import Derived.Test.YtkebdfegpbnpaabVNilF
import Derived.Test.YtkebdfegpbnpaabVArr
namespace Go.Proofs.Ytkebdfegpbnpaab
open Go.RowKit Go.Shelf Go.Maps

attribute [local go_sem] Oper.semAt_some

set_option maxHeartbeats 3200000 in
set_option maxRecDepth 100000 in
theorem wheelNil_in (id a : Nat) (w : World) :
    CallsIn Fence.wide 9 Try.prog 5 #[.int .u64 (id : Int), .int .u64 (a : Int)] w fun e w' => e = .returned (.bool true) ∧ Below w.heap.size w w' := by
  refine callsIn_of_wp_marks Try.func5 rfl trivial ?_ rfl
  simp only [Try.ntmps5, List.size_toArray, List.length_cons, List.length_nil, Nat.reduceAdd, Nat.reduceSub, Array.replicate_succ, Array.replicate_zero, List.push_toArray, List.append_toArray, List.nil_append, List.cons_append]
  gi_wp2_with fail
  refine ⟨trivial, (callsIn_wide.2 (advanceNil_any (a : Int) w)).mono ?_⟩
  rintro e w1 ⟨rfl, hw⟩
  have h := hw.symm
  subst h
  gi_wp2_with fail
  refine ⟨trivial, (callsIn_wide.2 (atNil_any (id : Int) w)).mono ?_⟩
  rintro e w1 ⟨rfl, hw⟩
  have h := hw.symm
  subst h
  gi_wp2_with fail
  refine ⟨trivial, (callsIn_wide.2 (nextNil_any w)).mono ?_⟩
  rintro e w1 ⟨rfl, hw⟩
  have h := hw.symm
  subst h
  gi_wp2_with fail
  refine ⟨trivial, (callsIn_wide.2 (eachNil_any w)).mono ?_⟩
  rintro e w1 ⟨rfl, hw⟩
  have HB1 := hide (Bl.new w #[.slice none 0 0] 66)
  have HBW := hide (below_new w (.cells #[.slice none 0 0] 66))
  rw [← hw] at HB1 HBW
  generalize hN : w.heap.size = N at *
  have hlt := HB1.out.lt
  clear hw
  have hfn := func_ne N
  unfold eachF at hfn ⊢
  gi_wp2_with fail
  have HN0 := hide (Bl.new w1 #[.int .i64 0] 3)
  have HB2 := hide (HB1.out.alloc (.cells #[.int .i64 0] 3))
  have HBW2 := hide (HBW.out.trans ((below_new w1 (.cells #[.int .i64 0] 3)).mono (Nat.le_of_lt hlt)))
  have hsz : (w1.alloc (.cells #[.int .i64 0] 3)).heap.size = w1.heap.size + 1 := by simp
  generalize hbN : w1.heap.size = bN at *
  generalize w1.alloc (.cells #[.int .i64 0] 3) = W0 at *
  have HLT := hide hlt
  clear HB1 HBW hfn hlt
  refine range_outer (A1 := ?A) (ko := none) (ds := []) (kc := 0) (Bk := N) (by simp) rfl rfl
    (fun _ W => Bl W N [.slice none 0 0] 66 ∧ Bl W bN [.int .i64 0] 3 ∧ Below N w W) (fun _ _ _ => False)
    (fun _ W W' h hb => ⟨h.1.below hb (by have := HLT.out; omega), h.2.1.below hb (by omega), h.2.2.trans (hb.mono (by have := HLT.out; omega))⟩) (fun _ _ _ _ h _ => h.elim)
    (fun _ W h => ⟨h.1.cell 0, .inl rfl⟩) ⟨HB2.out, HN0.out, HBW2.out⟩ ?hassign ?hbody ?hdone ?hstop
  case hassign =>
    intro l x W1 K hK
    gi_wp2
    exact hK
  case hbody =>
    intro i x W hx
    simp at hx
  case hstop => exact fun _ _ _ _ h => h.elim
  case hdone =>
    rintro W ⟨h1, h2, h3⟩ hs hD
    have HD := hide hD
    have H3 := hide h3
    have c0 : W.cell? ⟨bN, 0, none⟩ = some (.int .i64 0) := h2.cell 0
    clear h1 hD h3
    have hE : ∀ V : World, (Op.equalIn 10000 40 (.agg #[.int .i64 0, .int .i64 0, .int .i64 0, .int .i64 0, .int .i64 0]) (.agg #[.int .i64 0, .int .i64 0, .int .i64 0, .int .i64 0, .int .i64 0])).run Try.prog V = .ok true V := fun V => arr5_eq [0, 0, 0, 0, 0] [0, 0, 0, 0, 0] V rfl rfl
    gi_wp2_with fail
    refine ⟨trivial, (callsIn_wide.2 (addNil_any (id : Int) (a : Int) W)).mono ?_⟩
    rintro e w2 ⟨rfl, hw⟩
    have h := hw.symm
    subst h
    gi_wp2_with fail
    refine ⟨trivial, (callsIn_wide.2 (num_any 0 W)).mono ?_⟩
    rintro e w2 ⟨rfl, hw⟩
    have h := hw.symm
    subst h
    gi_wp2_with fail
    refine ⟨trivial, (callsIn_wide.2 (removeNil_any (id : Int) W)).mono ?_⟩
    rintro e w2 ⟨rfl, hw⟩
    have h := hw.symm
    subst h
    gi_wp2_with fail
    refine ⟨trivial, (callsIn_wide.2 (num_any 0 W)).mono ?_⟩
    rintro e w2 ⟨rfl, hw⟩
    have h := hw.symm
    subst h
    gi_wp2_with fail
    refine ⟨trivial, (callsIn_wide.2 (num_any 0 W)).mono ?_⟩
    rintro e w2 ⟨rfl, hw⟩
    have h := hw.symm
    subst h
    gi_wp2_with fail
    refine ⟨trivial, (callsIn_wide.2 (nowNil_any W)).mono ?_⟩
    rintro e w2 ⟨rfl, hw⟩
    have h := hw.symm
    subst h
    gi_wp2_with fail
    refine ⟨trivial, (callsIn_wide.2 (lenNil_any W)).mono ?_⟩
    rintro e w2 ⟨rfl, hw⟩
    have h := hw.symm
    subst h
    gi_wp2_with fail
    refine ⟨trivial, (callsIn_wide.2 (spreadNil_any W)).mono ?_⟩
    rintro e w2 ⟨rfl, hb2⟩
    have c1 := cell_kept c0 hb2
    have HB3 := hide hb2
    clear hb2 c0
    gi_wp2_with fail
    refine ⟨trivial, (callsIn_wide.2 (live_true w2)).mono ?_⟩
    rintro e w3 ⟨rfl, hb3⟩
    have HD3 : Hid (w3.heap[bN + 1]? = some (.deferred (some []))) := by
      show _ = _
      rw [← hsz]
      exact (hb3.block _ (by have := HB3.out.size; omega)).trans ((HB3.out.block _ (by omega)).trans HD.out)
    have HF : Hid (Below N w (w3.putObj (bN + 1) (.deferred none))) := by
      have h1 := H3.out.size
      have h2 := HB3.out.size
      have h3 := HLT.out
      exact ((H3.out.trans (HB3.out.mono (by omega))).trans (hb3.mono (by omega))).trans (putObj_below _ _ (by omega))
    clear hb3 c1
    gi_wp2
    refine ⟨by simp, .inl ⟨_, _, rfl, run_takeDeferred HD3.out, ?_⟩⟩
    refine ⟨.bool true, ?_, rfl, by rw [hN]; exact HF.out⟩
    simp [results, Try.results5, go_sem]
theorem wheelNil_walk (id a : Nat) (w : World) : Calls Try.prog 5 #[.int .u64 (id : Int), .int .u64 (a : Int)] w fun e w' => e = .returned (.bool true) ∧ Below w.heap.size w w' := callsIn_wide.1 (wheelNil_in id a w)
end Go.Proofs.Ytkebdfegpbnpaab
