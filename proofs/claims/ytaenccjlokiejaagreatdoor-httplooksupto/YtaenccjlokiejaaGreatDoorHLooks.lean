/- The law HttpLooks. -/
import Derived.Test.YtaenccjlokiejaaGreatDoorHLooksG
import Derived.Test.YtaenccjlokiejaaGreatDoorHSame
import Derived.Test.YtaenccjlokiejaaGreatDoorHReason
import Derived.Test.YtaenccjlokiejaaGreatDoorHBack
namespace Go.Proofs.YtaenccjlokiejaaGreatDoor
open Go.RowKit Go.Shelf

set_option maxHeartbeats 4000000 in
set_option maxRecDepth 100000 in
theorem httpLooks_walk (ao : Option Addr) (fs : List Fl) (n c : Nat) (nm vl : U) (st : Int) (w : World) (hn : n = fs.length) (hnl : n * 32 ≤ 140737488355328) (hr : FRow w ao fs) (hz : ∀ q ∈ fs, q.1.length ≤ 140737488355328 ∧ q.2.length ≤ 140737488355328) (hzn : nm.length ≤ 140737488355328) (hv : vl.length ≤ 4294967280) (E : Env w) :
    Calls Tryz.prog 7 #[.slice ao n c, .string (str nm), .string (str vl), .int .i64 st] w fun e w' => e = .returned (.bool true) ∧ Below w.heap.size w w' := by
  obtain ⟨i0, hi, hz0, hz1, hz2⟩ := infoPairF
  have HF := hide (fun so c W a => httpField_any nm so fs n c W hn (by omega) a hz hzn)
  have HG := hide (fun so c W a => refFind_any nm so fs n c W hn (by omega) a (fun q hq => (hz q hq).1) hzn)
  have HO := hide (fun W a => ours_any ao fs n c W hn hnl a)
  have HS := hide (fun so so2 c c2 W a b => fields_same so so2 fs n c c2 W hn (by omega) a b)
  have HP1 := hide (fun W EE => httpSplit_any vl W (by omega) EE)
  have HP2 := hide (fun W => refSplit_any vl W (by omega))
  have HM1 := hide (fun W EE => httpMedia_any vl W (by omega) EE)
  have HM2 := hide (fun W => refMedia_any vl W (by omega))
  have HL := hide (fun W EE => live_any W EE)
  have HR := hide hr
  have HE := hide E
  have HN := hide hn
  have HNL := hide hnl
  have HB0 := hide (below_new w (.cells #[] 78))
  have HO0 := hide (fown_new 78 w w.heap.size (Nat.le_refl _))
  have HAL : Hid (([] : List Fl).length + fs.length = n) := by show _ = _; rw [hn]; simp
  generalize str nm = sn at *
  generalize str vl = sv at *
  generalize str (findR nm fs).1 = a1 at *
  generalize (findR nm fs).2.1 = a2 at *
  generalize (findR nm fs).2.2 = a3 at *
  generalize str (preC 63 vl) = p1 at *
  generalize str (posC 63 vl) = p2 at *
  generalize str (lows (Lib.trimS (preC 59 vl) [32, 9])) = m1 at *
  clear hr hz hzn hv E hn hnl
  go_enter Tryz.func7, Tryz.ntmps7
  go_wp2_with (first | (at_builtin; refine wpList_append_fs rfl _ _ rfl Tryz.underlying25 hi hz0 hz1 hz2 w.heap.size _ [] fs rfl HO0.out ao n c HN.out rfl (HR.out.keep HB0.out) (by rw [HAL.out]; exact HNL.out) (by simp) ?_; intro v' w1 h1 h2; have HB1 := hide (below_fgrown HB0.out (Nat.le_refl _) HO0.out h2); obtain ⟨fo, fc, rfl, -, -, -⟩ := FOwn.shape h1; have HFO := hide h1; clear h1 h2; rw [List.nil_append, ← HN.out] at HFO ⊢) | fail)
  have HF2 := hide (HF.out fo fc w1 (FOwn.row HFO.out))
  clear HF
  go_wp2_with fail
  refine HF2.out.mono ?_
  rintro e w2 ⟨rfl, hb2⟩
  have HB2 := hide (HB1.out.trans (hb2.mono HB1.out.size))
  have HFO2 := hide (HFO.out.keep hb2)
  have HO2 := hide (HO.out w2 (HR.out.keep HB2.out))
  clear hb2 HF2 HFO
  go_wp2_with fail
  refine HO2.out.mono ?_
  rintro e w3 ⟨v3, rfl, ho3, hb3⟩
  obtain ⟨oo, oc, rfl, -, -, -⟩ := FOwn.shape ho3
  have HB3 := hide (HB2.out.trans (hb3.mono HB2.out.size))
  have HFO3 := hide (HFO2.out.keep hb3)
  rw [← HN.out] at ho3 ⊢
  have HG3 := hide (HG.out oo oc w3 (FOwn.row ho3))
  clear hb3 HO2 HFO2 ho3 HG
  go_wp2_with fail
  refine HG3.out.mono ?_
  rintro e w4 ⟨rfl, hb4⟩
  have HB4 := hide (HB3.out.trans (hb4.mono HB3.out.size))
  have HFO4 := hide (HFO3.out.keep hb4)
  have HO4 := hide (HO.out w4 (HR.out.keep HB4.out))
  clear hb4 HG3 HFO3 HO
  go_wp2_with (first | (go_at_call 12; refine num_go _ _ _ ?_) | fail)
  refine HO4.out.mono ?_
  rintro e w5 ⟨v5, rfl, ho5, hb5⟩
  obtain ⟨oo2, oc2, rfl, -, -, -⟩ := FOwn.shape ho5
  have HB5 := hide (HB4.out.trans (hb5.mono HB4.out.size))
  have HFO5 := hide (HFO4.out.keep hb5)
  rw [← HN.out] at ho5 ⊢
  have HS5 := hide (HS.out fo oo2 fc oc2 w5 (FOwn.row HFO5.out) (FOwn.row ho5))
  clear hb5 HO4 HFO4 ho5 HS
  go_wp2_with fail
  refine HS5.out.mono ?_
  rintro e w6 ⟨rfl, hb6⟩
  have HB6 := hide (HB5.out.trans (hb6.mono HB5.out.size))
  have HP6 := hide (HP1.out w6 (HE.out.keep HB6.out))
  clear hb6 HS5 HFO5 HP1
  go_wp2_with fail
  refine HP6.out.mono ?_
  rintro e w7 ⟨rfl, hb7⟩
  have HB7 := hide (HB6.out.trans (hb7.mono HB6.out.size))
  clear hb7 HP6
  go_wp2_with fail
  refine (HP2.out w7).mono ?_
  rintro e w8 ⟨rfl, hb8⟩
  have HB8 := hide (HB7.out.trans (hb8.mono HB7.out.size))
  have HM8 := hide (HM1.out w8 (HE.out.keep HB8.out))
  clear hb8 HP2 HM1
  go_wp2_with fail
  refine HM8.out.mono ?_
  rintro e w9 ⟨rfl, hb9⟩
  have HB9 := hide (HB8.out.trans (hb9.mono HB8.out.size))
  clear hb9 HM8
  go_wp2_with fail
  refine (HM2.out w9).mono ?_
  rintro e w10 ⟨rfl, hb10⟩
  have HB10 := hide (HB9.out.trans (hb10.mono HB9.out.size))
  clear hb10 HM2
  go_wp2_with fail
  refine (Reason_any st w10).mono ?_
  rintro e w11 ⟨rfl, hb11⟩
  have HB11 := hide (HB10.out.trans (hb11.mono HB10.out.size))
  clear hb11
  go_wp2_with fail
  refine (rreason_any st w11).mono ?_
  rintro e w12 ⟨rfl, hw12⟩
  rw [hw12]
  have HL12 := hide (HL.out w11 (HE.out.keep HB11.out))
  clear hw12 HL
  go_wp2_with fail
  refine HL12.out.mono ?_
  rintro e w13 ⟨rfl, hb13⟩
  have HB13 := hide (HB11.out.trans (hb13.mono HB11.out.size))
  clear hb13 HL12
  go_wp2_with fail
  go_ret
  exact ⟨rfl, HB13.out⟩
end Go.Proofs.YtaenccjlokiejaaGreatDoor
