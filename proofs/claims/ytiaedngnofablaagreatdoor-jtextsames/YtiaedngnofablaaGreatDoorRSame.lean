/- The contract of the document's Same. -/
import Derived.Test.YtiaedngnofablaaGreatDoorRSays
namespace Go.Proofs.YtiaedngnofablaaGreatDoor
open Go.RowKit

set_option maxHeartbeats 2000000 in
set_option maxRecDepth 100000 in
theorem rsame_any (j1 j2 : J) (x y : JV) (B : Nat) (w : World) (hx : JSee w B j1 x) (hy : JSee w B j2 y) (hf : JFit j1) (hf' : JFit j2) (hB : B ≤ w.heap.size) :
    Calls Tryz.prog 21 #[x.val, y.val] w fun e w' => ∃ q : Bool, e = .returned (.bool q) ∧ (q = true ↔ (VOk j1 0 ∧ VOk j2 0 ∧ Says j1 j2)) ∧ Below w.heap.size w w' := by
  have HU : Hid (Below w.heap.size w ((w.alloc (.cells #[.int .i64 x.k, .string x.t, .slice x.an x.ln x.cn, .slice x.ai x.li x.ci] 25)).alloc (.cells #[.int .i64 y.k, .string y.t, .slice y.an y.ln y.cn, .slice y.ai y.li y.ci] 25))) := ((Below.refl _ _).alloc (Nat.le_refl _) _).alloc (by simp) _
  obtain ⟨N, hN⟩ : ∃ N, N = w.heap.size := ⟨_, rfl⟩
  have HJ1 : Hid (Jb ((w.alloc (.cells #[.int .i64 x.k, .string x.t, .slice x.an x.ln x.cn, .slice x.ai x.li x.ci] 25)).alloc (.cells #[.int .i64 y.k, .string y.t, .slice y.an y.ln y.cn, .slice y.ai y.li y.ci] 25)) N x.k x.t (.slice x.an x.ln x.cn) (.slice x.ai x.li x.ci)) := by
    rw [hN]; exact (Jb.new w x.k x.t (.slice x.an x.ln x.cn) (.slice x.ai x.li x.ci)).alloc _
  have HJ2 : Hid (Jb ((w.alloc (.cells #[.int .i64 x.k, .string x.t, .slice x.an x.ln x.cn, .slice x.ai x.li x.ci] 25)).alloc (.cells #[.int .i64 y.k, .string y.t, .slice y.an y.ln y.cn, .slice y.ai y.li y.ci] 25)) (N + 1) y.k y.t (.slice y.an y.ln y.cn) (.slice y.ai y.li y.ci)) := by
    have := Jb.new (w.alloc (.cells #[.int .i64 x.k, .string x.t, .slice x.an x.ln x.cn, .slice x.ai x.li x.ci] 25)) y.k y.t (.slice y.an y.ln y.cn) (.slice y.ai y.li y.ci)
    rw [show (w.alloc (.cells #[.int .i64 x.k, .string x.t, .slice x.an x.ln x.cn, .slice x.ai x.li x.ci] 25)).heap.size = N + 1 by rw [hN]; simp] at this
    exact this
  have HX : Hid (∀ W, Below w.heap.size w W → JSee W B j1 x) := fun W hW => JSee.stay _ _ hx (fun k hk => hW.block k (by omega))
  have HY : Hid (∀ W, Below w.heap.size w W → JSee W B j2 y) := fun W hW => JSee.stay _ _ hy (fun k hk => hW.block k (by omega))
  have HBw : Hid (∀ W, Below w.heap.size w W → B ≤ W.heap.size) := fun W hW => by have := hW.size; omega
  have HF := hide hf
  have HF' := hide hf'
  suffices HSU : ∀ PP : Ending → World → Prop, (∀ q w', (q = true ↔ (VOk j1 0 ∧ VOk j2 0 ∧ Says j1 j2)) → Below w.heap.size w w' → PP (.returned (.bool q)) w') → Calls Tryz.prog 21 #[x.val, y.val] w fun ε w' => True ∧ PP ε w' from (HSU _ (fun q w' h1 h2 => ⟨q, rfl, h1, h2⟩)).mono fun _ _ h => h.2
  intro PP hPP
  have HPP := hide hPP
  have ev : ∀ v : JV, v.val = .agg #[.int .i64 v.k, .string v.t, .slice v.an v.ln v.cn, .slice v.ai v.li v.ci] := fun _ => rfl
  rw [ev x, ev y]
  clear hPP hx hy hf hf' hB
  go_enter Tryz.func21, Tryz.ntmps21
  go_upto_region 1 with fail
  rw [← hN]
  clear hN
  generalize (w.alloc (.cells #[.int .i64 x.k, .string x.t, .slice x.an x.ln x.cn, .slice x.ai x.li x.ci] 25)).alloc (.cells #[.int .i64 y.k, .string y.t, .slice y.an y.ln y.cn, .slice y.ai y.li y.ci] 25) = u at *
  have p0 := HJ1.out.c0
  have p1 := HJ1.out.c1
  have p2 := HJ1.out.c2
  have p3 := HJ1.out.c3
  have HC1 := hide (rvalid_any j1 x B 0 u (HX.out u HU.out) HF.out (HBw.out u HU.out) (by decide) (by decide))
  rw [ev x] at HC1
  go_wp2_with fail
  refine HC1.out.mono ?_
  rintro ε w2 ⟨q1, rfl, hq1, hb2⟩
  have HB2 := hide (below_up HU.out hb2)
  have HK1 := hide (HJ1.out.keep hb2)
  have HK2 := hide (HJ2.out.keep hb2)
  have HQ1 := hide hq1
  clear hq1 hb2 HC1 HJ1 HJ2 p0 p1 p2 p3
  cases q1 with
  | false =>
    have HE := hide (HPP.out false w2 (iff_no (fun h => by have := HQ1.out.2 h.1; cases this)) HB2.out)
    go_wp2_with fail
    first | (go_ret; exact ⟨trivial, HE.out⟩) | exact HE.out
  | true =>
    have q0 := HK2.out.c0
    have q1 := HK2.out.c1
    have q2 := HK2.out.c2
    have q3 := HK2.out.c3
    have HC2 := hide (rvalid_any j2 y B 0 w2 (HY.out w2 HB2.out) HF'.out (HBw.out w2 HB2.out) (by decide) (by decide))
    rw [ev y] at HC2
    go_wp2_with fail
    refine HC2.out.mono ?_
    rintro ε w3 ⟨r1, rfl, hr1, hb3⟩
    have HB3 := hide (below_up HB2.out hb3)
    have HL1 := hide (HK1.out.keep hb3)
    have HL2 := hide (HK2.out.keep hb3)
    have HR1 := hide hr1
    clear hr1 hb3 HC2 HK1 HK2 q0 q1 q2 q3
    cases r1 with
    | false =>
      have HE := hide (HPP.out false w3 (iff_no (fun h => by have := HR1.out.2 h.2.1; cases this)) HB3.out)
      go_wp2_with fail
      first | (go_ret; exact ⟨trivial, HE.out⟩) | exact HE.out
    | true =>
      have a0 := HL1.out.c0
      have a1 := HL1.out.c1
      have a2 := HL1.out.c2
      have a3 := HL1.out.c3
      have b0 := HL2.out.c0
      have b1 := HL2.out.c1
      have b2 := HL2.out.c2
      have b3 := HL2.out.c3
      have HC3 := hide (rsays_any j1 j2 x y B 0 w3 (HX.out w3 HB3.out) (HY.out w3 HB3.out) HF.out HF'.out (HQ1.out.1 (by first | exact rfl | trivial)) (HR1.out.1 (by first | exact rfl | trivial)) (HBw.out w3 HB3.out))
      rw [ev x, ev y] at HC3
      go_wp2_with fail
      refine HC3.out.mono ?_
      rintro ε w4 ⟨s1, rfl, hs1, hb4⟩
      have HE := hide (HPP.out s1 w4 (hs1.trans ⟨fun h => ⟨HQ1.out.1 (by first | exact rfl | trivial), HR1.out.1 (by first | exact rfl | trivial), h⟩, fun h => h.2.2⟩) (below_up HB3.out hb4))
      clear hs1 hb4
      go_wp2_with fail
      first | (go_ret; exact ⟨trivial, HE.out⟩) | exact HE.out
end Go.Proofs.YtiaedngnofablaaGreatDoor
