/- CodesPieces answers true for every two rows of bytes and every list of acts: a source that is fed in pieces answers as one that is fed at once; and it leaves its arguments as they were; the table of letters reads as the program's own text lays it. -/
import Derived.Test.YtonnnolnkjahgabDoorDoor9
import Derived.Test.YtonnnolnkjahgabDoorCOpen
import Derived.Test.YtonnnolnkjahgabDoorCPieces
namespace Go.Proofs.YtonnnolnkjahgabDoor
open Go.ChangeShapes Go.WideShapes Go.ChangeAt Go.RowKit
open Go.ChangeMaps (open_string shut_string)

theorem codesPieces_contract (H : Type) (enc : TypeId × Value → H) (W : World) (base : Nat) (args : Array Value) (ds gs : List (DataW H)) (before : List MemPlace)
    (hval : ∀ (j : Nat) t v, Tryd.f3.params[j]? = some t → args[j]? = some v → Value.okWide Tryd.prog W .any base t v)
    (hW : DataW.Whole enc Tryd.prog Tryd.f3.params.toList Rows.codesPiecesSpec.vars false W args.toList ds gs before) (hL : laidMetH Tryd.prog Rows.codesPiecesRow.laid W) (hsz : (DataW.weightsEach Tryd.prog (Tryd.f3.params.toList ++ (OpenSpec.ofChange Rows.codesPiecesSpec).bare.plain.varTypes Tryd.prog) (ds ++ gs)).all (fun x => decide (x ≤ reachBytes)) = true) :
    Calls Tryd.prog 3 args W fun e W' => ∃ v, e = .returned v ∧ Rows.codesPiecesSpec.post enc Tryd.prog Tryd.f3 false true false false W args v W' := by
  have hW' := hW
  obtain ⟨p, q, hA0, hV, rfl, hfz, hnd⟩ := hW
  have hA : DataW.TrodAll enc Tryd.prog W 0 (fun _ => true) true Tryd.f3.params.toList args.toList ds p := hA0
  rw [Tryd.params3] at hA hval hsz
  obtain ⟨v0, vs0, d0, ds0, p0, q0, hargs, rfl, rfl, h0, r0⟩ := trodAll_cons hA
  obtain ⟨v1, vs1, d1, ds1, p1, q1, rfl, rfl, rfl, h1, r1⟩ := trodAll_cons r0
  obtain ⟨v2, vs2, d2, ds2, p2, q2, rfl, rfl, rfl, h2, r2⟩ := trodAll_cons r1
  obtain ⟨rfl, rfl, rfl⟩ := trodAll_nil r2
  obtain rfl : args = #[v0, v1, v2] := by cases args; simp_all
  obtain ⟨rfl, rfl⟩ := trodVars_none hV
  have k0 := h0
  obtain ⟨a0, x0, c0, rfl, cap0, row0, b0, lt0, bulk0, form0⟩ := open_bytes (hval 0 22 v0 rfl rfl) h0
  have reach0 := bytes_reach hsz (j := 0) rfl rfl form0
  have k1 := h1
  obtain ⟨a1, x1, c1, rfl, cap1, row1, b1, lt1, bulk1, form1⟩ := open_bytes (hval 1 22 v1 rfl rfl) h1
  have reach1 := bytes_reach hsz (j := 1) rfl rfl form1
  have k2 := h2
  have wt2 : Wt 23 d2 := wt_param hsz (j := 2) rfl rfl
  obtain ⟨aao2, l2, ac2, rfl, asee2, lt2, wf2⟩ := open_acts (hval 2 23 v2 rfl rfl) h2
  obtain ⟨al2, aok2⟩ := wf2 wt2
  clear hA0
  refine (codesPieces_walk _ c0 _ c1 _ ac2 a0 a1 aao2 x0 x1 l2 W (lets_of hL) rfl cap0 reach0 row0 b0 rfl cap1 reach1 row1 b1 rfl al2 asee2 aok2).mono fun e W' ⟨he, bel⟩ => ?_
  subst he
  exact ⟨_, rfl, _, _, _, [], _, [], hW', trodAll_mk1 (shut_bool Tryd.underlying4 _), (trodAll_cons_mk (Below.trod laidOut (by kernel_rfl) (of_decide_eq_true (by kernel_rfl)) k0 bel lt0) (trodAll_cons_mk (Below.trod laidOut (by kernel_rfl) (of_decide_eq_true (by kernel_rfl)) k1 bel lt1) (trodAll_cons_mk (Below.trod laidOut (by kernel_rfl) (of_decide_eq_true (by kernel_rfl)) k2 bel lt2) trodAll_mk0))), rfl, bel.frame _, fun h => by cases h⟩

theorem codesPieces_met (os : Os) : laidMet Tryd.prog Rows.codesPiecesRow.laid (({ World.holding Tryd.prog os ⟨#[], #[], []⟩ with heap := (World.holding Tryd.prog os ⟨#[], #[], []⟩).heap.modify 0 fun | Obj.cells _ t frozen => Obj.cells #[Value.int .u8 66, Value.int .u8 67, Value.int .u8 68, Value.int .u8 70, Value.int .u8 71, Value.int .u8 72, Value.int .u8 74, Value.int .u8 75, Value.int .u8 76, Value.int .u8 77, Value.int .u8 78, Value.int .u8 80, Value.int .u8 81, Value.int .u8 82, Value.int .u8 83, Value.int .u8 84, Value.int .u8 86, Value.int .u8 87, Value.int .u8 88, Value.int .u8 90] t frozen | o => o }).forCall (fun _ _ => 0) ⟨#[], #[.slice none 0 0, .slice none 0 0, .slice none 0 0], []⟩).memory :=
  laidMet_of_run' 8 (by kernel_rfl) (by kernel_rfl)
theorem codesPieces_reads (os : Os) {H : Type} (enc : TypeId × Value → H) : ∃ places, DataW.whole enc Tryd.prog (({ World.holding Tryd.prog os ⟨#[], #[], []⟩ with heap := (World.holding Tryd.prog os ⟨#[], #[], []⟩).heap.modify 0 fun | Obj.cells _ t frozen => Obj.cells #[Value.int .u8 66, Value.int .u8 67, Value.int .u8 68, Value.int .u8 70, Value.int .u8 71, Value.int .u8 72, Value.int .u8 74, Value.int .u8 75, Value.int .u8 76, Value.int .u8 77, Value.int .u8 78, Value.int .u8 80, Value.int .u8 81, Value.int .u8 82, Value.int .u8 83, Value.int .u8 84, Value.int .u8 86, Value.int .u8 87, Value.int .u8 88, Value.int .u8 90] t frozen | o => o }).forCall (fun _ _ => 0) ⟨#[], #[.slice none 0 0, .slice none 0 0, .slice none 0 0], []⟩).memory Tryd.f3.params.toList Rows.codesPiecesSpec.vars false #[Value.slice none 0 0, .slice none 0 0, .slice none 0 0].toList 8 = some ([.nil, .nil, .nil], [], places) :=
  ⟨[], by kernel_rfl⟩

set_option maxRecDepth 100000 in
theorem codesPieces_lifted (os : Os) (started : os.Started) (H : Type) (enc : TypeId × Value → H) (F : Stop.Interp) :
    ReturnsInHanded {} Tryd.checked os 3 .any ((OpenSpec.ofChange Rows.codesPiecesSpec).preRow enc Tryd.prog Tryd.f3 Rows.codesPiecesRow.domain false Rows.codesPiecesRow.laid) (((OpenSpec.ofChange Rows.codesPiecesSpec).at F).post enc Tryd.prog Tryd.f3 false true false false) := by
  obtain ⟨places, hx⟩ := codesPieces_reads os enc
  refine returnsInHanded_of_row (C := Tryd.checked) (s := (OpenSpec.ofChange Rows.codesPiecesSpec)) ownKnobs started (by kernel_rfl) Tryd.func3
    (witness_row_at (enc := enc) (C := Tryd.checked) false ({ World.holding Tryd.prog os ⟨#[], #[], []⟩ with heap := (World.holding Tryd.prog os ⟨#[], #[], []⟩).heap.modify 0 fun | Obj.cells _ t frozen => Obj.cells #[Value.int .u8 66, Value.int .u8 67, Value.int .u8 68, Value.int .u8 70, Value.int .u8 71, Value.int .u8 72, Value.int .u8 74, Value.int .u8 75, Value.int .u8 76, Value.int .u8 77, Value.int .u8 78, Value.int .u8 80, Value.int .u8 81, Value.int .u8 82, Value.int .u8 83, Value.int .u8 84, Value.int .u8 86, Value.int .u8 87, Value.int .u8 88, Value.int .u8 90] t frozen | o => o }) #[.slice none 0 0, .slice none 0 0, .slice none 0 0] rfl (by kernel_rfl) (by kernel_rfl) (by kernel_rfl)
      (OpenSpec.preRow_of_cond 8 hx (by kernel_rfl) (fun k hk => by cases hk) (by kernel_rfl) (codesPieces_met os))) ?_
  intro W base args ds gs before hval hW _ _ hsz hL _ _
  exact codesPieces_contract H enc W base args ds gs before hval hW hL hsz

theorem codesPieces_said : Rows.CodesPiecesSaid :=
  OpenClaim.holds_of_cond 3 Tryd.f3 rfl rfl rfl rfl rfl rfl rfl ⟨rfl, rfl, rfl, rfl, rfl⟩ rfl rfl rfl rfl rfl (by kernel_rfl) Tryd.func3 (by kernel_rfl)
    (of_decide_eq_true (by kernel_rfl)) (by unfold Func.isWrapper; first | (rw [if_pos (by decide +kernel)]; kernel_rfl) | (rw [if_neg (by decide +kernel)]; exact ⟨rfl, rfl⟩))
    (fun os started H enc _ F => by rw [OpenClaim.pre_eq_preRow]; exact codesPieces_lifted os started H enc F)

theorem codesPieces_plain (f : FuncId) (fn : Func) (hf : Tryd.pinned.checked.prog.funcNamed "wicket/wicketlaw09.CodesPieces" = some f) (hfn : Tryd.pinned.checked.prog.funcs[f]? = some fn) :
    false = Tryd.pinned.checked.prog.looks [] ∧ ∀ (j : Nat) t, fn.params[j]? = some t → Tryd.pinned.checked.prog.wantsStandIn t = false := by
  obtain rfl : f = 3 := Option.some.inj ((show Tryd.prog.funcNamed "wicket/wicketlaw09.CodesPieces" = some 3 by kernel_rfl).symm.trans hf) |>.symm
  obtain rfl : fn = Tryd.f3 := (Option.some.inj (Tryd.func3.symm.trans hfn)).symm
  refine ⟨by kernel_rfl, fun j t ht => ?_⟩
  rw [Tryd.params3] at ht
  have hm := Array.mem_of_getElem? ht
  simp at hm
  rcases hm with rfl | rfl
  · exact (show Tryd.prog.wantsStandIn 22 = false by kernel_rfl)
  · exact (show Tryd.prog.wantsStandIn 23 = false by kernel_rfl)

theorem codesPieces_card : Rows.CodesPiecesCardSaid :=
  Claim7.holds_tied_plain_at .later [] _ _ _ _ codesPieces_said (fun _ h => by cases h) (by kernel_rfl) (fun _ h => by cases h) codesPieces_row_tie rfl ⟨rfl, rfl⟩ (by kernel_rfl) rfl codesPieces_plain (by kernel_rfl)
#print axioms codesPieces_card
end Go.Proofs.YtonnnolnkjahgabDoor
