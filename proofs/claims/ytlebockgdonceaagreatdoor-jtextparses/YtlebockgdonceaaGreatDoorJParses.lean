/- The walk of the law JtextParses: every text: true, and nothing old turns. -/
import Derived.Test.YtlebockgdonceaaGreatDoorRPr
import Derived.Test.YtlebockgdonceaaGreatDoorRChar
import Derived.Test.YtlebockgdonceaaGreatDoorKLive
import Derived.Test.YtlebockgdonceaaGreatDoorREqual
namespace Go.Proofs.YtlebockgdonceaaGreatDoor
open Go.RowKit

theorem ch_facts (s : ByteArray) (hs : s.size ≤ 16384) : ChFacts s := by
  refine ⟨fun q W hq => (rchar_any s q W (by omega) hq).mono fun e w' h => ?_, fun q r t h => (escAt_code h).1⟩
  obtain ⟨rfl, hb⟩ := h
  refine ⟨?_, hb⟩
  cases chr ((sbytes s).drop q) with
  | ok m => rfl
  | error b => cases b <;> rfl
theorem parse_fit (s : By) : JFit (parse s).1 := by
  obtain ⟨j, e, q, h⟩ : ∃ j e q, parse s = (j, e, q) := ⟨_, _, _, rfl⟩
  rw [h]
  by_cases he : e = 0
  · subst he
    exact (parse_sound h).1
  · have hj : j = J.zero := by
      unfold parse at h
      split at h
      · cases h; rfl
      · split at h
        · cases h; rfl
        · split at h
          · cases h; rfl
          · cases h; exact absurd rfl he
    rw [hj]
    show JFit (.mk 0 [] [] [])
    rw [JFit_mk]
    simp
    try trivial
set_option maxHeartbeats 2000000 in
set_option maxRecDepth 100000 in
theorem jtextParses_walk (s : ByteArray) (w : World) (hs : s.size ≤ 9223372036854775807) (hT : Tabs w) (hZ : ZT w) (hz : 6 ≤ w.heap.size) :
    Calls Tryz.prog 3 #[.string s] w fun e w' => e = .returned (.bool true) ∧ Below w.heap.size w w' := by
  have HP1 := hide (parse_any s w hT (by omega) hs)
  have HP2 := hide (fun W => rparse_any s W (ch_facts s) hs)
  have HT := hide hT
  have HZ := hide hZ
  have HZN := hide hz
  have HF := hide (parse_fit (sbytes s))
  obtain ⟨j, er, pl, hO⟩ : ∃ j er pl, parse (sbytes s) = (j, er, pl) := ⟨_, _, _, rfl⟩
  rw [hO] at HP1 HP2 HF
  simp only at HP1 HP2 HF
  have ev : ∀ v : JV, v.val = .agg #[.int .i64 v.k, .string v.t, .slice v.an v.ln v.cn, .slice v.ai v.li v.ci] := fun _ => rfl
  clear hT hZ hO hz
  go_enter Tryz.func3, Tryz.ntmps3
  go_wp2_with fail
  refine HP1.out.mono ?_
  rintro ε w1 ⟨x, rfl, hr1, hb1⟩
  rw [ev x]
  have hj1 := Jb.new w1 x.k x.t (.slice x.an x.ln x.cn) (.slice x.ai x.li x.ci)
  have ha1 := below_new w1 (.cells #[.int .i64 x.k, .string x.t, .slice x.an x.ln x.cn, .slice x.ai x.li x.ci] 25)
  have HR1 := hide hr1
  have HB1 := hide hb1
  clear hr1 hb1
  go_upto_region 2 with fail
  generalize w1.alloc (.cells #[.int .i64 x.k, .string x.t, .slice x.an x.ln x.cn, .slice x.ai x.li x.ci] 25) = w2 at *
  have HJ1 := hide hj1
  have HA1 := hide ha1
  clear hj1 ha1
  go_wp2_with fail
  refine (HP2.out w2).mono ?_
  rintro ε w3 ⟨y, rfl, hr3, hb3⟩
  rw [ev y]
  have hj3 := Jb.new w3 y.k y.t (.slice y.an y.ln y.cn) (.slice y.ai y.li y.ci)
  have ha3 := below_new w3 (.cells #[.int .i64 y.k, .string y.t, .slice y.an y.ln y.cn, .slice y.ai y.li y.ci] 25)
  have HR3 := hide hr3
  have HB3 := hide hb3
  clear hr3 hb3
  go_upto_region 3 with fail
  generalize w3.alloc (.cells #[.int .i64 y.k, .string y.t, .slice y.an y.ln y.cn, .slice y.ai y.li y.ci] 25) = w4 at *
  have HJ3 := hide hj3
  have HA3 := hide ha3
  clear hj3 ha3
  have s1 := HB1.out.size
  have s2 := HA1.out.size
  have s3 := HB3.out.size
  have s4 := HA3.out.size
  have HB13 : Hid (Below w1.heap.size w1 w3) := HA1.out.trans (HB3.out.mono s2)
  have HB14 : Hid (Below w1.heap.size w1 w4) := HB13.out.trans (HA3.out.mono (by omega))
  have HB4 : Hid (Below w.heap.size w w4) := HB1.out.trans (HB14.out.mono s1)
  have HLV := live_true w4 (HT.out.keep HB4.out) (HZ.out.keep HB4.out) (by have := HZN.out; omega)
  clear s1 s2 s3 s4
  go_wp2_with fail
  refine HLV.mono ?_
  rintro e w5 ⟨rfl, hb5⟩
  have HB5 := hide hb5
  have s1 := HB1.out.size
  have s2 := HA1.out.size
  have s3 := HB3.out.size
  have s4 := HA3.out.size
  have s5 := hb5.size
  have l1 := HJ1.out.lt
  have l3 := HJ3.out.lt
  have hV1 : Jb w5 w1.heap.size x.k x.t (.slice x.an x.ln x.cn) (.slice x.ai x.li x.ci) := ((HJ1.out.keep HB3.out).keep HA3.out).keep hb5
  have hV3 : Jb w5 w3.heap.size y.k y.t (.slice y.an y.ln y.cn) (.slice y.ai y.li y.ci) := HJ3.out.keep hb5
  have c0 := hV1.c0
  have c1 := hV1.c1
  have c2 := hV1.c2
  have c3 := hV1.c3
  have d0 := hV3.c0
  have d1 := hV3.c1
  have d2 := hV3.c2
  have d3 := hV3.c3
  have hS1 : JSee w5 w5.heap.size j x := JRep.see _ _ _ (JRep.stay _ _ _ HR1.out (fun b hb => (hb5.block b (by have := hb.2; omega)).trans (HB14.out.block b hb.2))) (fun b hb => by have := hb.2; omega)
  have hS3 : JSee w5 w5.heap.size j y := JRep.see _ _ _ (JRep.stay _ _ _ HR3.out (fun b hb => (hb5.block b (by have := hb.2; omega)).trans (HA3.out.block b hb.2))) (fun b hb => by have := hb.2; omega)
  have HE := hide (equal_any j j x y w5.heap.size w5 hS1 hS3 HF.out (Nat.le_refl _))
  rw [ev x, ev y] at HE
  have HBE : Hid (Below w.heap.size w w5) := HB4.out.trans (hb5.mono (by omega))
  clear hV1 hV3 hS1 hS3 hb5 HLV s1 s2 s3 s4 l1 l3
  go_wp2_with (go_at_call 7; refine (num_any _ _).mono ?_; rintro e wx ⟨rfl, hwx⟩; have hwy := hwx.symm; subst hwy; clear hwx)
  refine HE.out.mono ?_
  rintro e w6 ⟨q, rfl, hq, hb6⟩
  obtain rfl : q = true := hq.2 (by first | exact rfl | trivial)
  have HB6 : Hid (Below w.heap.size w w6) := HBE.out.trans (hb6.mono HBE.out.size)
  clear hq hb6
  go_wp2_with fail
  go_ret
  exact ⟨rfl, HB6.out⟩
end Go.Proofs.YtlebockgdonceaaGreatDoor
