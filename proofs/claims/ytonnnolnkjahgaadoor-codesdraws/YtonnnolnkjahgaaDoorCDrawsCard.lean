/- CodesDraws answers true for every row of bytes and every list of acts: every call on a source, in every order, answers as the document says; what is handed in is neither kept nor changed; the table of letters reads as the program's own text lays it. -/
import Derived.Test.YtonnnolnkjahgaaDoorDoor9
import Derived.Test.YtonnnolnkjahgaaDoorCOpen
import Derived.Test.YtonnnolnkjahgaaDoorCDraws
namespace Go.Proofs.YtonnnolnkjahgaaDoor
open Go.ChangeShapes Go.WideShapes Go.ChangeAt Go.RowKit
open Go.ChangeMaps (open_string shut_string)

theorem codesDraws_contract (H : Type) (enc : TypeId × Value → H) (W : World) (base : Nat) (args : Array Value) (ds gs : List (DataW H)) (before : List MemPlace)
    (hval : ∀ (j : Nat) t v, Tryd.f4.params[j]? = some t → args[j]? = some v → Value.okWide Tryd.prog W .any base t v)
    (hW : DataW.Whole enc Tryd.prog Tryd.f4.params.toList Rows.codesDrawsSpec.vars false W args.toList ds gs before) (hL : laidMetH Tryd.prog Rows.codesDrawsRow.laid W) (hsz : (DataW.weightsEach Tryd.prog (Tryd.f4.params.toList ++ (OpenSpec.ofChange Rows.codesDrawsSpec).bare.plain.varTypes Tryd.prog) (ds ++ gs)).all (fun x => decide (x ≤ reachBytes)) = true) :
    Calls Tryd.prog 4 args W fun e W' => ∃ v, e = .returned v ∧ Rows.codesDrawsSpec.post enc Tryd.prog Tryd.f4 false true false false W args v W' := by
  have hW' := hW
  obtain ⟨p, q, hA0, hV, rfl, hfz, hnd⟩ := hW
  have hA : DataW.TrodAll enc Tryd.prog W 0 (fun _ => true) true Tryd.f4.params.toList args.toList ds p := hA0
  rw [Tryd.params4] at hA hval hsz
  obtain ⟨v0, vs0, d0, ds0, p0, q0, hargs, rfl, rfl, h0, r0⟩ := trodAll_cons hA
  obtain ⟨v1, vs1, d1, ds1, p1, q1, rfl, rfl, rfl, h1, r1⟩ := trodAll_cons r0
  obtain ⟨rfl, rfl, rfl⟩ := trodAll_nil r1
  obtain rfl : args = #[v0, v1] := by cases args; simp_all
  obtain ⟨rfl, rfl⟩ := trodVars_none hV
  have k0 := h0
  obtain ⟨a0, x0, c0, rfl, cap0, row0, b0, lt0, bulk0, form0⟩ := open_bytes (hval 0 25 v0 rfl rfl) h0
  have reach0 := bytes_reach hsz (j := 0) rfl rfl form0
  have k1 := h1
  have wt1 : Wt 26 d1 := wt_param hsz (j := 1) rfl rfl
  obtain ⟨aao1, l1, ac1, rfl, asee1, lt1, wf1⟩ := open_acts (hval 1 26 v1 rfl rfl) h1
  obtain ⟨al1, aok1⟩ := wf1 wt1
  clear hA0
  refine (codesDraws_walk _ c0 _ ac1 a0 aao1 x0 l1 W (lets_of hL) rfl reach0 row0 b0 rfl al1 asee1 aok1).mono fun e W' ⟨he, bel⟩ => ?_
  subst he
  exact ⟨_, rfl, _, _, _, [], _, [], hW', trodAll_mk1 (shut_bool Tryd.underlying4 _), (trodAll_cons_mk (Below.trod laidOut (by kernel_rfl) (of_decide_eq_true (by kernel_rfl)) k0 bel lt0) (trodAll_cons_mk (Below.trod laidOut (by kernel_rfl) (of_decide_eq_true (by kernel_rfl)) k1 bel lt1) trodAll_mk0)), rfl, bel.frame _, fun h => by cases h⟩

theorem codesDraws_met (os : Os) : laidMet Tryd.prog Rows.codesDrawsRow.laid (({ World.holding Tryd.prog os ⟨#[], #[], []⟩ with heap := (World.holding Tryd.prog os ⟨#[], #[], []⟩).heap.modify 0 fun | Obj.cells _ t frozen => Obj.cells #[Value.int .u8 66, Value.int .u8 67, Value.int .u8 68, Value.int .u8 70, Value.int .u8 71, Value.int .u8 72, Value.int .u8 74, Value.int .u8 75, Value.int .u8 76, Value.int .u8 77, Value.int .u8 78, Value.int .u8 80, Value.int .u8 81, Value.int .u8 82, Value.int .u8 83, Value.int .u8 84, Value.int .u8 86, Value.int .u8 87, Value.int .u8 88, Value.int .u8 90] t frozen | o => o }).forCall (fun _ _ => 0) ⟨#[], #[.slice none 0 0, .slice none 0 0], []⟩).memory :=
  laidMet_of_run' 8 (by kernel_rfl) (by kernel_rfl)
theorem codesDraws_reads (os : Os) {H : Type} (enc : TypeId × Value → H) : ∃ places, DataW.whole enc Tryd.prog (({ World.holding Tryd.prog os ⟨#[], #[], []⟩ with heap := (World.holding Tryd.prog os ⟨#[], #[], []⟩).heap.modify 0 fun | Obj.cells _ t frozen => Obj.cells #[Value.int .u8 66, Value.int .u8 67, Value.int .u8 68, Value.int .u8 70, Value.int .u8 71, Value.int .u8 72, Value.int .u8 74, Value.int .u8 75, Value.int .u8 76, Value.int .u8 77, Value.int .u8 78, Value.int .u8 80, Value.int .u8 81, Value.int .u8 82, Value.int .u8 83, Value.int .u8 84, Value.int .u8 86, Value.int .u8 87, Value.int .u8 88, Value.int .u8 90] t frozen | o => o }).forCall (fun _ _ => 0) ⟨#[], #[.slice none 0 0, .slice none 0 0], []⟩).memory Tryd.f4.params.toList Rows.codesDrawsSpec.vars false #[Value.slice none 0 0, .slice none 0 0].toList 8 = some ([.nil, .nil], [], places) :=
  ⟨[], by kernel_rfl⟩

set_option maxRecDepth 100000 in
theorem codesDraws_lifted (os : Os) (started : os.Started) (H : Type) (enc : TypeId × Value → H) (F : Stop.Interp) :
    ReturnsInHanded {} Tryd.checked os 4 .any ((OpenSpec.ofChange Rows.codesDrawsSpec).preRow enc Tryd.prog Tryd.f4 Rows.codesDrawsRow.domain false Rows.codesDrawsRow.laid) (((OpenSpec.ofChange Rows.codesDrawsSpec).at F).post enc Tryd.prog Tryd.f4 false true false false) := by
  obtain ⟨places, hx⟩ := codesDraws_reads os enc
  refine returnsInHanded_of_row (C := Tryd.checked) (s := (OpenSpec.ofChange Rows.codesDrawsSpec)) ownKnobs started (by kernel_rfl) Tryd.func4
    (witness_row_at (enc := enc) (C := Tryd.checked) false ({ World.holding Tryd.prog os ⟨#[], #[], []⟩ with heap := (World.holding Tryd.prog os ⟨#[], #[], []⟩).heap.modify 0 fun | Obj.cells _ t frozen => Obj.cells #[Value.int .u8 66, Value.int .u8 67, Value.int .u8 68, Value.int .u8 70, Value.int .u8 71, Value.int .u8 72, Value.int .u8 74, Value.int .u8 75, Value.int .u8 76, Value.int .u8 77, Value.int .u8 78, Value.int .u8 80, Value.int .u8 81, Value.int .u8 82, Value.int .u8 83, Value.int .u8 84, Value.int .u8 86, Value.int .u8 87, Value.int .u8 88, Value.int .u8 90] t frozen | o => o }) #[.slice none 0 0, .slice none 0 0] rfl (by kernel_rfl) (by kernel_rfl) (by kernel_rfl)
      (OpenSpec.preRow_of_cond 8 hx (by kernel_rfl) (fun k hk => by cases hk) (by kernel_rfl) (codesDraws_met os))) ?_
  intro W base args ds gs before hval hW _ _ hsz hL _ _
  exact codesDraws_contract H enc W base args ds gs before hval hW hL hsz

theorem codesDraws_said : Rows.CodesDrawsSaid :=
  OpenClaim.holds_of_cond 4 Tryd.f4 rfl rfl rfl rfl rfl rfl rfl ⟨rfl, rfl, rfl, rfl, rfl⟩ rfl rfl rfl rfl rfl (by kernel_rfl) Tryd.func4 (by kernel_rfl)
    (of_decide_eq_true (by kernel_rfl)) (by unfold Func.isWrapper; first | (rw [if_pos (by decide +kernel)]; kernel_rfl) | (rw [if_neg (by decide +kernel)]; exact ⟨rfl, rfl⟩))
    (fun os started H enc _ F => by rw [OpenClaim.pre_eq_preRow]; exact codesDraws_lifted os started H enc F)

theorem codesDraws_plain (f : FuncId) (fn : Func) (hf : Tryd.pinned.checked.prog.funcNamed "wicket/wicketlaw09.CodesDraws" = some f) (hfn : Tryd.pinned.checked.prog.funcs[f]? = some fn) :
    false = Tryd.pinned.checked.prog.looks [] ∧ ∀ (j : Nat) t, fn.params[j]? = some t → Tryd.pinned.checked.prog.wantsStandIn t = false := by
  obtain rfl : f = 4 := Option.some.inj ((show Tryd.prog.funcNamed "wicket/wicketlaw09.CodesDraws" = some 4 by kernel_rfl).symm.trans hf) |>.symm
  obtain rfl : fn = Tryd.f4 := (Option.some.inj (Tryd.func4.symm.trans hfn)).symm
  refine ⟨by kernel_rfl, fun j t ht => ?_⟩
  rw [Tryd.params4] at ht
  have hm := Array.mem_of_getElem? ht
  simp at hm
  rcases hm with rfl | rfl
  · exact (show Tryd.prog.wantsStandIn 25 = false by kernel_rfl)
  · exact (show Tryd.prog.wantsStandIn 26 = false by kernel_rfl)

theorem codesDraws_card : Rows.CodesDrawsCardSaid :=
  Claim7.holds_tied_plain_at .later [] _ _ _ _ codesDraws_said (fun _ h => by cases h) (by kernel_rfl) (fun _ h => by cases h) codesDraws_row_tie rfl ⟨rfl, rfl⟩ (by kernel_rfl) rfl codesDraws_plain (by kernel_rfl)
#print axioms codesDraws_card
end Go.Proofs.YtonnnolnkjahgaaDoor
