/- WheelSteps, walked. -/
import Derived.Test.YtmngmkbiibhmkaaGDuo
import Derived.Test.YtmngmkbiibhmkaaGAsk
import Derived.Test.YtmngmkbiibhmkaaVOpen
namespace Go.Proofs.Ytmngmkbiibhmkaa
open Go.RowKit Go.Shelf Go.Maps

set_option maxHeartbeats 8000000 in
set_option maxRecDepth 100000 in
theorem wheelSteps_walk (now : Nat) (aao : Option Addr) (n ac : Nat) (l : List Ac) (w : World) (hn : now < 18446744073709551616) (hs : ASee w aao l) (hl : n = l.length) (hb : n ≤ 140737488351232) (hk : AOk l) :
    Calls Try.prog 4 #[.agg #[.int .u64 (now : Int), .slice aao n ac]] w fun e w' => e = .returned (.bool true) ∧ Below w.heap.size w w' := by
  have HB0 := hide (Bl.new w #[.int .u64 (now : Int), .slice aao n ac] 25)
  have HBW := hide (below_new w (.cells #[.int .u64 (now : Int), .slice aao n ac] 25))
  have HS := hide (hs.keep HBW.out)
  have HL := hide hl
  have HK := hide hk
  have HNEW : Hid (∀ W, Calls Try.prog 7 #[.int .u64 (now : Int)] W fun e w' => ∃ wp, e = .returned (pw wp) ∧ MineG W w' wp now [] []) := hide fun W => new_g now W [] hn (fun g hg => by cases hg)
  have HREF : Hid (∀ W, Calls Try.prog 8 #[.int .u64 (now : Int)] W fun e w' => ∃ rp, e = .returned (pw rp) ∧ RefAt w' rp now (.slice none 0 0) [] ∧ W.heap.size ≤ rp ∧ Below W.heap.size W w') := hide fun W => rnew_any now W
  have HCH : Hid (∀ (u W : World) (wp rp nw : Nat) (L : List Tm) (k : Int) (id a : Nat), Duo u W wp rp nw nw L L [] → id < 18446744073709551616 → a < 18446744073709551616 → Calls Try.prog 10 #[pw wp, pw rp, .agg #[.int .i64 k, .int .u64 (id : Int), .int .u64 (a : Int)]] W fun e w' => e = .returned (.bool true) ∧ Hid (∃ now' L', Duo u w' wp rp now' now' L' L' [])) := hide fun u W wp rp nw L k id a h1 h2 h3 => changes_any wp rp nw L k id a u W h1 h2 h3
  have HWH : Hid (∀ (u W : World) (wp rp nw : Nat) (L : List Tm), Duo u W wp rp nw nw L L [] → Calls Try.prog 12 #[pw wp, pw rp] W fun e w' => e = .returned (.bool true) ∧ Below W.heap.size W w') := hide fun u W wp rp nw L h => whole_any wp rp nw L [] u W h
  unfold pw at HNEW HREF HCH HWH
  clear hs hn hl hk
  go_enter Try.func4, Try.ntmps4
  go_upto_region 1 with fail
  generalize hNN : w.heap.size = N at *
  generalize w.alloc (.cells #[.int .u64 (now : Int), .slice aao n ac] 25) = w1 at *
  have HBC : Hid (∀ W, Below w1.heap.size w1 W → W.cell? ⟨N, 0, none⟩ = some (.int .u64 (now : Int)) ∧ W.cell? ⟨N, 1, none⟩ = some (.slice aao n ac)) := hide fun W hW => ⟨(HB0.out.keep hW).cell 0, (HB0.out.keep hW).cell 1⟩
  obtain ⟨b0, b1⟩ := HBC.out w1 (Below.refl _ _)
  have HNN := hide hNN
  clear HB0 hNN
  go_upto_region 5 with (first
    | (go_at_call 7; refine (HNEW.out w1).mono ?_; rintro e w2 ⟨wp, rfl, hm⟩; have M2 := hide hm; clear b0 b1; obtain ⟨b0, b1⟩ := HBC.out w2 hm.bel; clear hm)
    | (go_at_call 8; refine (HREF.out w2).mono ?_; rintro e w3 ⟨rp, rfl, hr1, hr2, hr3⟩; have D3 := hide (Duo.start M2.out hr1 hr2 hr3); clear hr1 hr2 hr3 b0 b1 M2)
    | (go_at_call 9; refine (live_true w3).mono ?_; rintro e w4 ⟨rfl, hb4⟩; have D4 := hide (D3.out.below hb4); clear hb4 D3))
  obtain ⟨b0, b1⟩ := HBC.out w4 D4.out.bel
  go_wp2_with fail
  go_loopw [5] (fun v5 wr => ∃ i : Nat, i ≤ n ∧ v5 = .int .i64 (i : Int) ∧ Hid (∃ nw L, Duo w1 wr wp rp nw nw L L [])) (fun v5 _ => n - (intOf v5).toNat)
  case atStart => exact ⟨0, by omega, rfl, now, [], D4.out⟩
  case round =>
    clear D4 b0 b1
    obtain ⟨i, hi, rfl, HI⟩ := hrel
    obtain ⟨nw, L, hI⟩ := HI.out
    have D0 := hide hI
    obtain ⟨d0, d1⟩ := HBC.out wr hI.bel
    clear HI hI
    by_cases hin : i < n
    · have hil : (i : Int) < (n : Int) := by omega
      obtain ⟨x, hx⟩ : ∃ x, l[i]? = some x := ⟨_, List.getElem?_eq_getElem (by have := HL.out; omega)⟩
      obtain ⟨b, off, e0, -⟩ := HS.out.at hx
      subst e0
      have HXC : Hid (∀ W, Below w1.heap.size w1 W → W.cell? ⟨b, off + i * 3, none⟩ = some (.int .i64 x.k) ∧ W.cell? ⟨b, off + i * 3 + 1, none⟩ = some (.int .u64 (x.id : Int)) ∧ W.cell? ⟨b, off + i * 3 + 2, none⟩ = some (.int .u64 (x.a : Int))) := hide fun W hW => by
        obtain ⟨b', off', e, h⟩ := (HS.out.keep hW).at hx
        cases e
        exact h
      have HX := hide (HK.out x (List.mem_of_getElem? hx))
      obtain ⟨k, id, a⟩ := x
      simp only at HXC HX
      obtain ⟨f0, f1, f2⟩ := HXC.out wr D0.out.bel
      clear hx
      go_wp2_with (first
        | (go_at_call 10; refine (HCH.out w1 wr wp rp nw L k id a D0.out HX.out.1 HX.out.2).mono ?_; rintro e w5 ⟨rfl, HD5⟩; obtain ⟨nw5, L5, hd5⟩ := HD5.out; have D5 := hide hd5; clear d0 d1 f0 f1 f2; obtain ⟨d0, d1⟩ := HBC.out w5 hd5.bel; obtain ⟨f0, f1, f2⟩ := HXC.out w5 hd5.bel; clear hd5 HD5)
        | (go_at_call 12; refine (HWH.out w1 w5 wp rp nw5 L5 D5.out).mono ?_; rintro e w6 ⟨rfl, hb6⟩; have D6 := hide (D5.out.below hb6); clear hb6))
      go_roundw
      case rel => exact ⟨i + 1, by omega, by simp, nw5, L5, D6.out⟩
      case measure => simp [intOf]; omega
    · have hil : ¬ (i : Int) < (n : Int) := by omega
      have hbw := HBW.out
      rw [← HNN.out] at hbw
      have HBX : Hid (Below w.heap.size w wr) := hide (hbw.trans (D0.out.bel.mono hbw.size))
      clear hbw
      go_wp2_with fail
      go_ret
      exact ⟨rfl, HBX.out⟩
end Go.Proofs.Ytmngmkbiibhmkaa
/- WheelSteps answers true for every story: behind every call everything that can be asked is told as the document's wheel tells it; and it leaves its argument as it was. -/
namespace Go.Proofs.Ytmngmkbiibhmkaa
open Go.ChangeShapes Go.WideShapes Go.ChangeAt Go.RowKit
open Go.ChangeMaps (open_string shut_string)

set_option maxRecDepth 100000 in
theorem wheelSteps_contract (H : Type) (enc : TypeId × Value → H) (W : World) (base : Nat) (args : Array Value) (ds gs : List (DataW H)) (before : List MemPlace)
    (hval : ∀ (j : Nat) t v, Try.f4.params[j]? = some t → args[j]? = some v → Value.okWide Try.prog W .any base t v)
    (hW : DataW.Whole enc Try.prog Try.f4.params.toList Rows.wheelStepsSpec.vars false W args.toList ds gs before) (hsz : (DataW.weightsEach Try.prog (Try.f4.params.toList ++ Rows.wheelStepsSpec.plain.varTypes Try.prog) (ds ++ gs)).all (fun x => decide (x ≤ reachBytes)) = true) :
    Calls Try.prog 4 args W fun e W' => ∃ v, e = .returned v ∧ Rows.wheelStepsSpec.post enc Try.prog Try.f4 false true false false W args v W' := by
  have hW' := hW
  obtain ⟨p, q, hA0, hV, rfl, hfz, hnd⟩ := hW
  have hA : DataW.TrodAll enc Try.prog W 0 (fun _ => true) true Try.f4.params.toList args.toList ds p := hA0
  rw [Try.params4] at hA hval hsz
  obtain ⟨v0, vs0, d0, ds0, p0, q0, hargs, rfl, rfl, h0, r0⟩ := trodAll_cons hA
  obtain ⟨rfl, rfl, rfl⟩ := trodAll_nil r0
  obtain rfl : args = #[v0] := by cases args; simp_all
  obtain ⟨rfl, rfl⟩ := trodVars_none hV
  have k0 := h0
  have wt0 : Wt 25 d0 := wt_param hsz (j := 0) rfl rfl
  obtain ⟨now0, aao0, l0, ac0, rfl, hn0, asee0, aok0, lt0, wf0⟩ := open_story (hval 0 25 v0 rfl rfl) h0
  have al0 := wf0 wt0
  clear hA0
  refine (wheelSteps_walk now0 aao0 l0.length ac0 l0 W hn0 asee0 rfl (by omega) aok0).mono fun e W' ⟨he, bel⟩ => ?_
  subst he
  exact ⟨_, rfl, _, _, _, [], _, [], hW', trodAll_mk1 (shut_bool Try.underlying4 _), (trodAll_cons_mk (Below.trod laidOut (by kernel_rfl) (of_decide_eq_true (by kernel_rfl)) k0 bel lt0) trodAll_mk0), rfl, bel.frame _, fun h => by cases h⟩

set_option maxRecDepth 100000 in
theorem wheelSteps_lifted (os : Os) (started : os.Started) (H : Type) (enc : TypeId × Value → H) :
    ReturnsInHanded {} Try.checked os 4 .any (Rows.wheelStepsSpec.pre6 enc Try.prog Try.f4 Rows.wheelStepsRow.domain false) (Rows.wheelStepsSpec.post enc Try.prog Try.f4 false true false false) := by
  refine returnsInHanded_of_change_sized (C := Try.checked) ownKnobs started (by kernel_rfl) Try.func4
    (ChangeSpec.witness6 (enc := enc) (C := Try.checked) false ⟨#[], #[.agg #[.int .u64 0, .slice none 0 0]], []⟩ 8 (by kernel_rfl) (by kernel_rfl) (by kernel_rfl) (by kernel_rfl)) ?_
  intro W base args ds gs before hval hW _ hsz _
  exact wheelSteps_contract H enc W base args ds gs before hval hW hsz

theorem wheelSteps_holds : Rows.WheelStepsSaid :=
  OpenClaim.holds_of_wide 4 Try.f4 rfl rfl rfl rfl rfl rfl rfl ⟨rfl, rfl, rfl, rfl, rfl⟩ rfl rfl rfl rfl rfl (by kernel_rfl) Try.func4 (by kernel_rfl)
    (of_decide_eq_true (by kernel_rfl)) (by unfold Func.isWrapper; first | (rw [if_pos (by decide +kernel)]; kernel_rfl) | (rw [if_neg (by decide +kernel)]; exact ⟨rfl, rfl⟩))
    (fun os started H enc _ => wheelSteps_lifted os started H enc)
#print axioms wheelSteps_holds
end Go.Proofs.Ytmngmkbiibhmkaa
