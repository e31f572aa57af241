/- The walk of the law JtextSames: every two Jsons: true, and nothing old turns. -/
import Derived.Deep.RegionHeld3
import Derived.Test.YtiaedngnofablaaGreatDoorRSame
import Derived.Test.YtiaedngnofablaaGreatDoorRSym
import Derived.Test.YtiaedngnofablaaGreatDoorRValid
import Derived.Test.YtiaedngnofablaaGreatDoorKForm
import Derived.Test.YtiaedngnofablaaGreatDoorKSteps
import Derived.Test.YtiaedngnofablaaGreatDoorKTwo
namespace Go.Proofs.YtiaedngnofablaaGreatDoor
open Go.RowKit

set_option maxHeartbeats 8000000 in
set_option maxRecDepth 100000 in
theorem jtextSames_walk (j1 j2 : J) (x1 x2 : JV) (B : Nat) (w : World) (hx : JSee w B j1 x1) (hy : JSee w B j2 x2) (hf : JFit j1) (hf' : JFit j2) (hB : B ≤ w.heap.size) (hT : Tabs w) (hZ : ZT w) (hz : 7 ≤ w.heap.size) :
    Calls Tryz.prog 5 #[x1.val, x2.val] w fun e w' => e = .returned (.bool true) ∧ Below w.heap.size w w' := by
  have ev : ∀ v : JV, v.val = .agg #[.int .i64 v.k, .string v.t, .slice v.an v.ln v.cn, .slice v.ai v.li v.ci] := fun _ => rfl
  have HU : Hid (Below w.heap.size w ((w.alloc (.cells #[.int .i64 x1.k, .string x1.t, .slice x1.an x1.ln x1.cn, .slice x1.ai x1.li x1.ci] 25)).alloc (.cells #[.int .i64 x2.k, .string x2.t, .slice x2.an x2.ln x2.cn, .slice x2.ai x2.li x2.ci] 25))) := ((Below.refl _ _).alloc (Nat.le_refl _) _).alloc (by simp) _
  obtain ⟨N, hN⟩ : ∃ N, N = w.heap.size := ⟨_, rfl⟩
  have HJ1 : Hid (Jb ((w.alloc (.cells #[.int .i64 x1.k, .string x1.t, .slice x1.an x1.ln x1.cn, .slice x1.ai x1.li x1.ci] 25)).alloc (.cells #[.int .i64 x2.k, .string x2.t, .slice x2.an x2.ln x2.cn, .slice x2.ai x2.li x2.ci] 25)) N x1.k x1.t (.slice x1.an x1.ln x1.cn) (.slice x1.ai x1.li x1.ci)) := by
    rw [hN]; exact Bl.alloc (Jb.new w x1.k x1.t (.slice x1.an x1.ln x1.cn) (.slice x1.ai x1.li x1.ci)) _
  have HJ2 : Hid (Jb ((w.alloc (.cells #[.int .i64 x1.k, .string x1.t, .slice x1.an x1.ln x1.cn, .slice x1.ai x1.li x1.ci] 25)).alloc (.cells #[.int .i64 x2.k, .string x2.t, .slice x2.an x2.ln x2.cn, .slice x2.ai x2.li x2.ci] 25)) (N + 1) x2.k x2.t (.slice x2.an x2.ln x2.cn) (.slice x2.ai x2.li x2.ci)) := by
    have := Jb.new (w.alloc (.cells #[.int .i64 x1.k, .string x1.t, .slice x1.an x1.ln x1.cn, .slice x1.ai x1.li x1.ci] 25)) x2.k x2.t (.slice x2.an x2.ln x2.cn) (.slice x2.ai x2.li x2.ci)
    rw [show (w.alloc (.cells #[.int .i64 x1.k, .string x1.t, .slice x1.an x1.ln x1.cn, .slice x1.ai x1.li x1.ci] 25)).heap.size = N + 1 by rw [hN]; simp] at this
    exact this
  have HX : Hid (∀ W, Below w.heap.size w W → JSee W B j1 x1) := fun W hW => JSee.stay _ _ hx (fun k hk => hW.block k (by omega))
  have HY : Hid (∀ W, Below w.heap.size w W → JSee W B j2 x2) := fun W hW => JSee.stay _ _ hy (fun k hk => hW.block k (by omega))
  have HBw : Hid (∀ W, Below w.heap.size w W → B ≤ W.heap.size) := fun W hW => by have := hW.size; omega
  have HT : Hid (∀ W, Below w.heap.size w W → Tabs W ∧ ZT W ∧ 7 ≤ W.heap.size) := fun W hW => ⟨hT.keep hW, ZT.keep hZ hW, by have := hW.size; omega⟩
  have HF := hide hf
  have HF' := hide hf'
  rw [ev x1, ev x2]
  clear hx hy hf hf' hB hT hZ hz
  go_enter Tryz.func5, Tryz.ntmps5
  go_upto_region 1 with fail
  rw [← hN]
  clear hN
  generalize (w.alloc (.cells #[.int .i64 x1.k, .string x1.t, .slice x1.an x1.ln x1.cn, .slice x1.ai x1.li x1.ci] 25)).alloc (.cells #[.int .i64 x2.k, .string x2.t, .slice x2.an x2.ln x2.cn, .slice x2.ai x2.li x2.ci] 25) = u at *
  have p0 := HJ1.out.c0
  have p1 := HJ1.out.c1
  have p2 := HJ1.out.c2
  have p3 := HJ1.out.c3
  have HC1 := hide (large_any j1 x1 B u (HX.out u HU.out) HF.out (HBw.out u HU.out))
  rw [ev x1] at HC1
  go_wp2_with fail
  refine HC1.out.mono ?_
  rintro ε w2 ⟨q1, rfl, hq1, hb2⟩
  have HB2 := hide (below_up HU.out hb2)
  have HK1 := hide (HJ1.out.keep hb2)
  have HK2 := hide (HJ2.out.keep hb2)
  have HQ1 := hide hq1
  clear hq1 hb2 HC1 HJ1 HJ2 p0 p1 p2 p3
  cases q1 with
  | true =>
    go_wp2_with fail
    go_ret
    exact ⟨rfl, HB2.out⟩
  | false =>
    have p0 := HK2.out.c0
    have p1 := HK2.out.c1
    have p2 := HK2.out.c2
    have p3 := HK2.out.c3
    have HC2 := hide (large_any j2 x2 B w2 (HY.out w2 HB2.out) HF'.out (HBw.out w2 HB2.out))
    rw [ev x2] at HC2
    go_wp2_with fail
    refine HC2.out.mono ?_
    rintro ε w3 ⟨q2, rfl, hq2, hb3⟩
    have HB3 := hide (below_up HB2.out hb3)
    have HL1 := hide (HK1.out.keep hb3)
    have HL2 := hide (HK2.out.keep hb3)
    have HQ2 := hide hq2
    clear hq2 hb3 HC2 HK1 HK2 p0 p1 p2 p3
    cases q2 with
    | true =>
      go_wp2_with fail
      go_ret
      exact ⟨rfl, HB3.out⟩
    | false =>
      have HS1 := hide (HQ1.out (by first | exact rfl | trivial))
      have HS2 := hide (HQ2.out (by first | exact rfl | trivial))
      clear HQ1 HQ2
      have a0 := HL1.out.c0
      have a1 := HL1.out.c1
      have a2 := HL1.out.c2
      have a3 := HL1.out.c3
      have b0 := HL2.out.c0
      have b1 := HL2.out.c1
      have b2 := HL2.out.c2
      have b3 := HL2.out.c3
      have HTW1 : Hid (∀ W, Below w3.heap.size w3 W → Calls Tryz.prog 15 #[.agg #[.int .i64 x1.k, .string x1.t, .slice x1.an x1.ln x1.cn, .slice x1.ai x1.li x1.ci]] W fun e w' => ∃ y : JV, e = .returned y.val ∧ JRep w' j1 y (fun b => W.heap.size ≤ b ∧ b < w'.heap.size) ∧ Below W.heap.size W w') := fun W hW => twin_any j1 x1 B W (HX.out W (below_up HB3.out hW)) HF.out HS1.out (HBw.out W (below_up HB3.out hW))
      have HTW2 : Hid (∀ W, Below w3.heap.size w3 W → Calls Tryz.prog 15 #[.agg #[.int .i64 x2.k, .string x2.t, .slice x2.an x2.ln x2.cn, .slice x2.ai x2.li x2.ci]] W fun e w' => ∃ y : JV, e = .returned y.val ∧ JRep w' j2 y (fun b => W.heap.size ≤ b ∧ b < w'.heap.size) ∧ Below W.heap.size W w') := fun W hW => twin_any j2 x2 B W (HY.out W (below_up HB3.out hW)) HF'.out HS2.out (HBw.out W (below_up HB3.out hW))
      go_upto_region 3 with fail
      go_cut [5, 6] (fun c5 c6 wx => ∃ b5 b6 : Nat, c5 = .pointer (some ⟨b5, 0, none⟩) ∧ c6 = .pointer (some ⟨b6, 0, none⟩) ∧ Hid (TwoBox w3 j1 j2 wx b5 b6))
      case first =>
        have HS0 : Below w3.heap.size w3 w3.drew := below_drewN (Below.refl _ _) 1
        have HLD1 : ∀ W, Below w3.heap.size w3 W → W.cell? ⟨N, 0, none⟩ = some (.int .i64 x1.k) ∧ W.cell? ⟨N, 1, none⟩ = some (.string x1.t) ∧ W.cell? ⟨N, 2, none⟩ = some (.slice x1.an x1.ln x1.cn) ∧ W.cell? ⟨N, 3, none⟩ = some (.slice x1.ai x1.li x1.ci) := fun W hW => ⟨(HL1.out.keep hW).c0, (HL1.out.keep hW).c1, (HL1.out.keep hW).c2, (HL1.out.keep hW).c3⟩
        have HLD2 : ∀ W, Below w3.heap.size w3 W → W.cell? ⟨N + 1, 0, none⟩ = some (.int .i64 x2.k) ∧ W.cell? ⟨N + 1, 1, none⟩ = some (.string x2.t) ∧ W.cell? ⟨N + 1, 2, none⟩ = some (.slice x2.an x2.ln x2.cn) ∧ W.cell? ⟨N + 1, 3, none⟩ = some (.slice x2.ai x2.li x2.ci) := fun W hW => ⟨(HL2.out.keep hW).c0, (HL2.out.keep hW).c1, (HL2.out.keep hW).c2, (HL2.out.keep hW).c3⟩
        have HGN : GN w3 j1 j2 0 false false w3.drew x1 x1 0 0 0 0 0 0 := ⟨HS0, (fun h => by omega), (fun h => by omega), (fun h => by cases h), (fun h => by cases h), (fun h => by cases h)⟩
        have T1 := HTW1.out
        have T2 := HTW2.out
        refine wp_region_held (S := fun W => Below w3.heap.size w3 W) (by kernel_rfl) ?_
        refine heldRun (i := 0) 13 (.agg #[.int .i64 x1.k, .string x1.t, .slice x1.an x1.ln x1.cn, .slice x1.ai x1.li x1.ci]) rfl rfl (by kernel_rfl) (by kernel_rfl) (by kernel_rfl) (fun _ _ _ h => h) rfl (fun W hSw => by obtain ⟨k0, k1, k2, k3⟩ := HLD1 W hSw; unfold execOp; simp <;> go_simp) HS0 ?_
        refine heldRun (i := 2) 15 (.agg #[.int .i64 x2.k, .string x2.t, .slice x2.an x2.ln x2.cn, .slice x2.ai x2.li x2.ci]) rfl rfl (by kernel_rfl) (by kernel_rfl) (by kernel_rfl) (fun _ _ _ h => h) rfl (fun W hSw => by obtain ⟨k0, k1, k2, k3⟩ := HLD2 W hSw; unfold execOp; simp [put_mk] <;> go_simp) HS0 ?_
        refine fresh_none (d1 := 14) (d2 := 16) (v1 := 5) (v2 := 6) (AF := (fun v5 v6 u1 u2 => Act.mk #[.agg #[.int .i64 x1.k, .string x1.t, .slice x1.an x1.ln x1.cn, .slice x1.ai x1.li x1.ci], .agg #[.int .i64 x2.k, .string x2.t, .slice x2.an x2.ln x2.cn, .slice x2.ai x2.li x2.ci], .pointer (some ⟨N, 0, none⟩), .pointer (some ⟨N + 1, 0, none⟩), .bool false, v5, v6, .agg #[.int .i64 x1.k, .string x1.t, .slice x1.an x1.ln x1.cn, .slice x1.ai x1.li x1.ci], .bool false, .bool false, .agg #[.int .i64 x2.k, .string x2.t, .slice x2.an x2.ln x2.cn, .slice x2.ai x2.li x2.ci], .bool false, .bool false, .agg #[.int .i64 x1.k, .string x1.t, .slice x1.an x1.ln x1.cn, .slice x1.ai x1.li x1.ci], u1, .agg #[.int .i64 x2.k, .string x2.t, .slice x2.an x2.ln x2.cn, .slice x2.ai x2.li x2.ci], u2, undef, undef, undef, undef, undef, undef, undef, undef, undef, undef, undef, undef, undef, undef, undef, undef, undef, undef, undef, undef, undef, undef, undef, undef, undef, undef, undef, undef, undef, undef, undef, undef, undef, undef, undef, undef] [])) T1 T2 ?hE ?hQ 2 false false w3.drew x1 x1 0 0 0 0 0 0 undef undef undef undef rfl (fun h => by cases h) (fun h => by cases h) HGN
        case hQ =>
          intro b5 b6 u1 u2 W hTB
          have HTB := hide hTB
          clear hTB
          dsimp only
          go_wp2_with fail
          go_meet
          case rel => exact ⟨b5, b6, rfl, rfl, HTB⟩
        case hE =>
          refine ⟨⟨_, rfl, rfl, rfl, ?c1⟩, ⟨_, rfl, rfl, rfl, ?c2⟩, ⟨_, rfl, rfl, rfl, ?a1⟩, ⟨_, rfl, rfl, rfl, ?a2⟩, ⟨_, rfl, rfl, rfl, ?s1⟩, ⟨_, rfl, rfl, rfl, ?s2⟩, fun _ _ _ _ _ => rfl, fun _ _ _ _ _ => rfl, fun _ _ _ _ _ => rfl, fun _ _ _ _ _ => rfl, fun p5 p6 => by cases p5 <;> cases p6 <;> kernel_rfl, fun p5 p6 => by cases p5 <;> cases p6 <;> kernel_rfl, fun p5 p6 h => by cases p5 <;> cases p6 <;> first | (exfalso; revert h; decide) | kernel_rfl, by kernel_rfl, by kernel_rfl, by kernel_rfl⟩
          case c1 => intro v5 v6 u1 u2 W; unfold execOp; simp <;> go_simp
          case c2 => intro v5 v6 u1 u2 W; unfold execOp; simp <;> go_simp
          case a1 => intro v5 v6 u1 u2 W; unfold execOp; simp <;> go_simp
          case a2 => intro v5 v6 u1 u2 W; unfold execOp; simp <;> go_simp
          case s1 =>
            intro b v6 y u2 W hz
            obtain ⟨⟨k0, k1, k2, k3⟩, f0, f1, f2, f3⟩ : (W.cell? ⟨b, 0, none⟩ = some (.int .i64 0) ∧ W.cell? ⟨b, 1, none⟩ = some (.string ⟨#[]⟩) ∧ W.cell? ⟨b, 2, none⟩ = some (.slice none 0 0) ∧ W.cell? ⟨b, 3, none⟩ = some (.slice none 0 0)) ∧ (W.frozen? ⟨b, 0, none⟩ = false ∧ W.frozen? ⟨b, 1, none⟩ = false ∧ W.frozen? ⟨b, 2, none⟩ = false ∧ W.frozen? ⟨b, 3, none⟩ = false) := ⟨⟨hz.c0, hz.c1, hz.c2, hz.c3⟩, hz.fz 0, hz.fz 1, hz.fz 2, hz.fz 3⟩
            unfold execOp putJ
            rw [show y.val = .agg #[.int .i64 y.k, .string y.t, .slice y.an y.ln y.cn, .slice y.ai y.li y.ci] from rfl]
            simp <;> go_simp
          case s2 =>
            intro b v5 y u1 W hz
            obtain ⟨⟨k0, k1, k2, k3⟩, f0, f1, f2, f3⟩ : (W.cell? ⟨b, 0, none⟩ = some (.int .i64 0) ∧ W.cell? ⟨b, 1, none⟩ = some (.string ⟨#[]⟩) ∧ W.cell? ⟨b, 2, none⟩ = some (.slice none 0 0) ∧ W.cell? ⟨b, 3, none⟩ = some (.slice none 0 0)) ∧ (W.frozen? ⟨b, 0, none⟩ = false ∧ W.frozen? ⟨b, 1, none⟩ = false ∧ W.frozen? ⟨b, 2, none⟩ = false ∧ W.frozen? ⟨b, 3, none⟩ = false) := ⟨⟨hz.c0, hz.c1, hz.c2, hz.c3⟩, hz.fz 0, hz.fz 1, hz.fz 2, hz.fz 3⟩
            unfold execOp putJ
            rw [show y.val = .agg #[.int .i64 y.k, .string y.t, .slice y.an y.ln y.cn, .slice y.ai y.li y.ci] from rfl]
            simp <;> go_simp
      case rest =>
        obtain ⟨b5, b6, rfl, rfl, HTB⟩ := hcut
        obtain ⟨y1, y2, -, hj5, hj6, hs1, hs2, hb⟩ := HTB.out
        have HBC : Hid (Below w.heap.size w wc) := hide (below_up HB3.out hb)
        have HCE : Hid (∀ W, Below wc.heap.size wc W → W.cell? ⟨N, 0, none⟩ = some (.int .i64 x1.k) ∧ W.cell? ⟨N, 1, none⟩ = some (.string x1.t) ∧ W.cell? ⟨N, 2, none⟩ = some (.slice x1.an x1.ln x1.cn) ∧ W.cell? ⟨N, 3, none⟩ = some (.slice x1.ai x1.li x1.ci) ∧ W.cell? ⟨N + 1, 0, none⟩ = some (.int .i64 x2.k) ∧ W.cell? ⟨N + 1, 1, none⟩ = some (.string x2.t) ∧ W.cell? ⟨N + 1, 2, none⟩ = some (.slice x2.an x2.ln x2.cn) ∧ W.cell? ⟨N + 1, 3, none⟩ = some (.slice x2.ai x2.li x2.ci) ∧ W.cell? ⟨b5, 0, none⟩ = some (.int .i64 y1.k) ∧ W.cell? ⟨b5, 1, none⟩ = some (.string y1.t) ∧ W.cell? ⟨b5, 2, none⟩ = some (.slice y1.an y1.ln y1.cn) ∧ W.cell? ⟨b5, 3, none⟩ = some (.slice y1.ai y1.li y1.ci) ∧ W.cell? ⟨b6, 0, none⟩ = some (.int .i64 y2.k) ∧ W.cell? ⟨b6, 1, none⟩ = some (.string y2.t) ∧ W.cell? ⟨b6, 2, none⟩ = some (.slice y2.an y2.ln y2.cn) ∧ W.cell? ⟨b6, 3, none⟩ = some (.slice y2.ai y2.li y2.ci)) := hide fun W hW => by
          have m1 := (HL1.out.keep hb).keep hW
          have m2 := (HL2.out.keep hb).keep hW
          have m5 := hj5.keep hW
          have m6 := hj6.keep hW
          exact ⟨m1.c0, m1.c1, m1.c2, m1.c3, m2.c0, m2.c1, m2.c2, m2.c3, m5.c0, m5.c1, m5.c2, m5.c3, m6.c0, m6.c1, m6.c2, m6.c3⟩
        have HU1 : Hid (∀ W, Below wc.heap.size wc W → JSee W W.heap.size j1 y1 ∧ JSee W W.heap.size j2 y2 ∧ JSee W W.heap.size j1 x1 ∧ JSee W W.heap.size j2 x2) := hide fun W hW => ⟨(jsee_up hW.size).1 _ _ (JSee.stay _ _ hs1 (fun k hk => hW.block k hk)), (jsee_up hW.size).1 _ _ (JSee.stay _ _ hs2 (fun k hk => hW.block k hk)), (jsee_up (HBw.out W (below_up HBC.out hW))).1 _ _ (HX.out W (below_up HBC.out hW)), (jsee_up (HBw.out W (below_up HBC.out hW))).1 _ _ (HY.out W (below_up HBC.out hW))⟩
        obtain ⟨q0, hq0⟩ : ∃ q0 : Bool, (q0 = true ↔ (VOk j1 0 ∧ VOk j2 0 ∧ Says j1 j2)) := by
          by_cases h : VOk j1 0 ∧ VOk j2 0 ∧ Says j1 j2
          · exact ⟨true, fun _ => h, fun _ => rfl⟩
          · exact ⟨false, fun e => (by cases e), fun e => absurd e h⟩
        obtain ⟨q1, hq1⟩ : ∃ q1 : Bool, (q1 = true ↔ VOk j1 0) := by
          by_cases h : VOk j1 0
          · exact ⟨true, fun _ => h, fun _ => rfl⟩
          · exact ⟨false, fun e => (by cases e), fun e => absurd e h⟩
        have HSA : Hid (∀ W, Below wc.heap.size wc W → Calls Tryz.prog 20 #[.agg #[.int .i64 y1.k, .string y1.t, .slice y1.an y1.ln y1.cn, .slice y1.ai y1.li y1.ci], .agg #[.int .i64 y2.k, .string y2.t, .slice y2.an y2.ln y2.cn, .slice y2.ai y2.li y2.ci]] W fun e w' => e = .returned (.bool q0) ∧ Below W.heap.size W w') := hide fun W hW => (same_any j1 j2 y1 y2 W.heap.size W (HU1.out W hW).1 (HU1.out W hW).2.1 HF.out HF'.out (Nat.le_refl _) (HT.out W (below_up HBC.out hW)).1).mono fun e w' ⟨q, he, hq, hb⟩ => ⟨by rw [he, show q = q0 from Bool.eq_iff_iff.2 (hq.trans hq0.symm)], hb⟩
        have HSB : Hid (∀ W, Below wc.heap.size wc W → Calls Tryz.prog 21 #[.agg #[.int .i64 x1.k, .string x1.t, .slice x1.an x1.ln x1.cn, .slice x1.ai x1.li x1.ci], .agg #[.int .i64 x2.k, .string x2.t, .slice x2.an x2.ln x2.cn, .slice x2.ai x2.li x2.ci]] W fun e w' => e = .returned (.bool q0) ∧ Below W.heap.size W w') := hide fun W hW => (rsame_any j1 j2 x1 x2 W.heap.size W (HU1.out W hW).2.2.1 (HU1.out W hW).2.2.2 HF.out HF'.out (Nat.le_refl _)).mono fun e w' ⟨q, he, hq, hb⟩ => ⟨by rw [he, show q = q0 from Bool.eq_iff_iff.2 (hq.trans hq0.symm)], hb⟩
        have HSC : Hid (∀ W, Below wc.heap.size wc W → Calls Tryz.prog 20 #[.agg #[.int .i64 y2.k, .string y2.t, .slice y2.an y2.ln y2.cn, .slice y2.ai y2.li y2.ci], .agg #[.int .i64 y1.k, .string y1.t, .slice y1.an y1.ln y1.cn, .slice y1.ai y1.li y1.ci]] W fun e w' => e = .returned (.bool q0) ∧ Below W.heap.size W w') := hide fun W hW => (same_any j2 j1 y2 y1 W.heap.size W (HU1.out W hW).2.1 (HU1.out W hW).1 HF'.out HF.out (Nat.le_refl _) (HT.out W (below_up HBC.out hW)).1).mono fun e w' ⟨q, he, hq, hb⟩ => ⟨by rw [he, show q = q0 from Bool.eq_iff_iff.2 ((hq.trans (same_turned j1 j2)).trans hq0.symm)], hb⟩
        have HSD : Hid (∀ W (z : JV), Below wc.heap.size wc W → JSee W W.heap.size j1 z → Calls Tryz.prog 20 #[.agg #[.int .i64 y1.k, .string y1.t, .slice y1.an y1.ln y1.cn, .slice y1.ai y1.li y1.ci], .agg #[.int .i64 z.k, .string z.t, .slice z.an z.ln z.cn, .slice z.ai z.li z.ci]] W fun e w' => e = .returned (.bool q1) ∧ Below W.heap.size W w') := hide fun W z hW hz => (same_any j1 j1 y1 z W.heap.size W (HU1.out W hW).1 hz HF.out HF.out (Nat.le_refl _) (HT.out W (below_up HBC.out hW)).1).mono fun e w' ⟨q, he, hq, hb⟩ => ⟨by rw [he, show q = q1 from Bool.eq_iff_iff.2 ((hq.trans ⟨fun h => h.1, fun h => ⟨h, h, says_refl j1 0 h⟩⟩).trans hq1.symm)], hb⟩
        have HVA : Hid (∀ W, Below wc.heap.size wc W → Calls Tryz.prog 22 #[.agg #[.int .i64 x1.k, .string x1.t, .slice x1.an x1.ln x1.cn, .slice x1.ai x1.li x1.ci], .int .i64 0] W fun e w' => e = .returned (.bool q1) ∧ Below W.heap.size W w') := hide fun W hW => (rvalid_any j1 x1 W.heap.size 0 W (HU1.out W hW).2.2.1 HF.out (Nat.le_refl _) (by omega) (by omega)).mono fun e w' ⟨q, he, hq, hb⟩ => ⟨by rw [he, show q = q1 from Bool.eq_iff_iff.2 (hq.trans hq1.symm)], hb⟩
        have HTW : Hid (∀ W, Below wc.heap.size wc W → Calls Tryz.prog 15 #[.agg #[.int .i64 x1.k, .string x1.t, .slice x1.an x1.ln x1.cn, .slice x1.ai x1.li x1.ci]] W fun e w' => ∃ y : JV, e = .returned y.val ∧ JSee w' w'.heap.size j1 y ∧ Below W.heap.size W w') := hide fun W hW => (HTW1.out W (hb.trans (hW.mono hb.size))).mono fun e w' ⟨y, he, hr, hb⟩ => ⟨y, he, JRep.see _ _ _ hr (fun b hb => hb.2), hb⟩
        have HE1 : Hid (∀ W, Below wc.heap.size wc W → Calls Tryz.prog 13 #[.agg #[.int .i64 y1.k, .string y1.t, .slice y1.an y1.ln y1.cn, .slice y1.ai y1.li y1.ci], .agg #[.int .i64 x1.k, .string x1.t, .slice x1.an x1.ln x1.cn, .slice x1.ai x1.li x1.ci]] W fun e w' => e = .returned (.bool true) ∧ Below W.heap.size W w') := hide fun W hW => (equal_any j1 j1 y1 x1 W.heap.size W (HU1.out W hW).1 (HU1.out W hW).2.2.1 HF.out (Nat.le_refl _)).mono fun e w' ⟨q, he, hq, hb⟩ => ⟨by rw [he, hq.2 rfl], hb⟩
        have HE2 : Hid (∀ W, Below wc.heap.size wc W → Calls Tryz.prog 13 #[.agg #[.int .i64 y2.k, .string y2.t, .slice y2.an y2.ln y2.cn, .slice y2.ai y2.li y2.ci], .agg #[.int .i64 x2.k, .string x2.t, .slice x2.an x2.ln x2.cn, .slice x2.ai x2.li x2.ci]] W fun e w' => e = .returned (.bool true) ∧ Below W.heap.size W w') := hide fun W hW => (equal_any j2 j2 y2 x2 W.heap.size W (HU1.out W hW).2.1 (HU1.out W hW).2.2.2 HF'.out (Nat.le_refl _)).mono fun e w' ⟨q, he, hq, hb⟩ => ⟨by rw [he, hq.2 rfl], hb⟩
        have HLV : Hid (∀ W, Below wc.heap.size wc W → Calls Tryz.prog 11 #[] W fun e w' => e = .returned (.bool true) ∧ Below W.heap.size W w') := hide fun W hW => live_true W (HT.out W (below_up HBC.out hW)).1 (HT.out W (below_up HBC.out hW)).2.1 (HT.out W (below_up HBC.out hW)).2.2
        have hqq : (q0 != q0) = false := by simp
        have hqq2 : (q0 == q0) = true := by simp
        have hrr : (q1 != q1) = false := by simp
        have hrr2 : (q1 == q1) = true := by simp
        obtain ⟨k0, k1, k2, k3, k4, k5, k6, k7, k8, k9, k10, k11, k12, k13, k14, k15⟩ := HCE.out wc (Below.refl _ _)
        have B0 : Hid (Below wc.heap.size wc (wc.drewN 1)) := hide (below_drewN (Below.refl _ _) 1)
        clear hj5 hj6 hs1 hs2 hb HTB hq0 hq1 HTW1 HTW2 HL1 HL2 HX HY HU1 HF HF' a0 a1 a2 a3 b0 b1 b2 b3 HS1 HS2 HBw HT HU HB2 HB3
        have tokA : True := trivial
        have tokB : True := trivial
        have tokD : True := trivial
        go_upto_region 4 with fail
        go_region_held3 (fun W => W.cell? ⟨N, 0, none⟩ = some (.int .i64 x1.k) ∧ W.cell? ⟨N, 1, none⟩ = some (.string x1.t) ∧ W.cell? ⟨N, 2, none⟩ = some (.slice x1.an x1.ln x1.cn) ∧ W.cell? ⟨N, 3, none⟩ = some (.slice x1.ai x1.li x1.ci) ∧ W.cell? ⟨N + 1, 0, none⟩ = some (.int .i64 x2.k) ∧ W.cell? ⟨N + 1, 1, none⟩ = some (.string x2.t) ∧ W.cell? ⟨N + 1, 2, none⟩ = some (.slice x2.an x2.ln x2.cn) ∧ W.cell? ⟨N + 1, 3, none⟩ = some (.slice x2.ai x2.li x2.ci) ∧ W.cell? ⟨b5, 0, none⟩ = some (.int .i64 y1.k) ∧ W.cell? ⟨b5, 1, none⟩ = some (.string y1.t) ∧ W.cell? ⟨b5, 2, none⟩ = some (.slice y1.an y1.ln y1.cn) ∧ W.cell? ⟨b5, 3, none⟩ = some (.slice y1.ai y1.li y1.ci) ∧ W.cell? ⟨b6, 0, none⟩ = some (.int .i64 y2.k) ∧ W.cell? ⟨b6, 1, none⟩ = some (.string y2.t) ∧ W.cell? ⟨b6, 2, none⟩ = some (.slice y2.an y2.ln y2.cn) ∧ W.cell? ⟨b6, 3, none⟩ = some (.slice y2.ai y2.li y2.ci)) (go_keep) (first
          | (go_at_call 20; have _t := tokA; refine (HSA.out _ B0.out).mono ?_; rintro ε w4 ⟨rfl, hb4⟩; have B4 := hide (B0.out.trans (hb4.mono B0.out.size)); clear k0 k1 k2 k3 k4 k5 k6 k7 k8 k9 k10 k11 k12 k13 k14 k15; obtain ⟨k0, k1, k2, k3, k4, k5, k6, k7, k8, k9, k10, k11, k12, k13, k14, k15⟩ := HCE.out w4 B4.out; clear hb4 tokA)
          | (go_at_call 21; have _t := tokD; refine (HSB.out w4 B4.out).mono ?_; rintro ε w5 ⟨rfl, hb5⟩; have B5 := hide (B4.out.trans (hb5.mono B4.out.size)); clear k0 k1 k2 k3 k4 k5 k6 k7 k8 k9 k10 k11 k12 k13 k14 k15; obtain ⟨k0, k1, k2, k3, k4, k5, k6, k7, k8, k9, k10, k11, k12, k13, k14, k15⟩ := HCE.out w5 B5.out; clear hb5 tokD)
          | (go_at_call 20; have _t := tokB; refine (HSC.out w5 B5.out).mono ?_; rintro ε w6 ⟨rfl, hb6⟩; have B6 := hide (B5.out.trans (hb6.mono B5.out.size)); clear k0 k1 k2 k3 k4 k5 k6 k7 k8 k9 k10 k11 k12 k13 k14 k15; obtain ⟨k0, k1, k2, k3, k4, k5, k6, k7, k8, k9, k10, k11, k12, k13, k14, k15⟩ := HCE.out w6 B6.out; clear hb6 tokB)
          | (go_at_call 21; refine (HSB.out w6 B6.out).mono ?_; rintro ε w7 ⟨rfl, hb7⟩; have B7 := hide (B6.out.trans (hb7.mono B6.out.size)); clear k0 k1 k2 k3 k4 k5 k6 k7 k8 k9 k10 k11 k12 k13 k14 k15; obtain ⟨k0, k1, k2, k3, k4, k5, k6, k7, k8, k9, k10, k11, k12, k13, k14, k15⟩ := HCE.out w7 B7.out; clear hb7)
          | (go_at_call 15; refine (HTW.out w7 B7.out).mono ?_; rintro ε w8 ⟨z, rfl, hz, hb8⟩; rw [ev z]; have HZ := hide hz; have B8 := hide (B7.out.trans (hb8.mono B7.out.size)); clear k0 k1 k2 k3 k4 k5 k6 k7 k8 k9 k10 k11 k12 k13 k14 k15; obtain ⟨k0, k1, k2, k3, k4, k5, k6, k7, k8, k9, k10, k11, k12, k13, k14, k15⟩ := HCE.out w8 B8.out; clear hb8 hz)
          | (go_at_call 20; refine (HSD.out w8 z B8.out HZ.out).mono ?_; rintro ε w9 ⟨rfl, hb9⟩; have B9 := hide (B8.out.trans (hb9.mono B8.out.size)); clear k0 k1 k2 k3 k4 k5 k6 k7 k8 k9 k10 k11 k12 k13 k14 k15; obtain ⟨k0, k1, k2, k3, k4, k5, k6, k7, k8, k9, k10, k11, k12, k13, k14, k15⟩ := HCE.out w9 B9.out; clear hb9)
          | (go_at_call 22; refine (HVA.out w9 B9.out).mono ?_; rintro ε w10 ⟨rfl, hb10⟩; have B10 := hide (B9.out.trans (hb10.mono B9.out.size)); clear k0 k1 k2 k3 k4 k5 k6 k7 k8 k9 k10 k11 k12 k13 k14 k15; obtain ⟨k0, k1, k2, k3, k4, k5, k6, k7, k8, k9, k10, k11, k12, k13, k14, k15⟩ := HCE.out w10 B10.out; clear hb10))
        all_goals
          have tokE : True := trivial
          go_wp2_with (first
            | (go_at_call 11; refine (HLV.out w10 B10.out).mono ?_; rintro ε w11 ⟨rfl, hb11⟩; have B11 := hide (B10.out.trans (hb11.mono B10.out.size)); clear k0 k1 k2 k3 k4 k5 k6 k7 k8 k9 k10 k11 k12 k13 k14 k15; obtain ⟨k0, k1, k2, k3, k4, k5, k6, k7, k8, k9, k10, k11, k12, k13, k14, k15⟩ := HCE.out w11 B11.out; clear hb11)
            | (go_at_call 13; have _t := tokE; refine (HE1.out w11 B11.out).mono ?_; rintro ε w12 ⟨rfl, hb12⟩; have B12 := hide (B11.out.trans (hb12.mono B11.out.size)); clear k0 k1 k2 k3 k4 k5 k6 k7 k8 k9 k10 k11 k12 k13 k14 k15; obtain ⟨k0, k1, k2, k3, k4, k5, k6, k7, k8, k9, k10, k11, k12, k13, k14, k15⟩ := HCE.out w12 B12.out; clear hb12 tokE)
            | (go_at_call 13; refine (HE2.out w12 B12.out).mono ?_; rintro ε w13 ⟨rfl, hb13⟩; have B13 := hide (below_up HBC.out (B12.out.trans (hb13.mono B12.out.size))); clear hb13))
          go_ret
          exact ⟨rfl, B13.out⟩
end Go.Proofs.YtiaedngnofablaaGreatDoor
