/- The contract of the program's Get. -/
import Derived.Test.YtiaedngnofablaaGreatDoorRGet
import Derived.Test.YtiaedngnofablaaGreatDoorJCopied
namespace Go.Proofs.YtiaedngnofablaaGreatDoor
open Go.RowKit

/-- What Get of the program answers: a copy in new memory. -/
def GotIs (w w' : World) (is : List J) (o : Option Nat) (e : Ending) : Prop :=
  match o with
  | none => e = .returned (.tuple #[zeroV.val, .bool false])
  | some i => ∃ y j L, w.heap.size ≤ L ∧ is[i]? = some j ∧ JRep w' j y (fun b => L ≤ b ∧ b < w'.heap.size) ∧ e = .returned (.tuple #[y.val, .bool true])
set_option maxHeartbeats 4000000 in
set_option maxRecDepth 100000 in
theorem jget_any (k : Int) (t : By) (ns : List By) (is : List J) (x : JV) (B : Nat) (nm : By) (w : World) (hx : JSee w B (.mk k t ns is) x) (hf : JTight (.mk k t ns is)) (hsm : JSmall (.mk k t ns is)) (hB : B ≤ w.heap.size) (hnm : ∀ c ∈ nm, c < 256) :
    Calls Tryz.prog 23 #[x.val, .string (bstr nm)] w fun e w' => GotIs w w' is (getAt k ns is.length nm) e ∧ Below w.heap.size w w' := by
  rw [JSee_mk] at hx
  obtain ⟨a1, a2, a3, a4, an, vs, ai, ajs⟩ := hx
  rw [JTight_mk, jtights_iff] at hf
  obtain ⟨f1, f2, f3, f4, f5⟩ := hf
  rw [JSmall_mk, jsmalls_iff] at hsm
  obtain ⟨m1, m2, m3⟩ := hsm
  have HF5 := hide f5
  have HM3 := hide m3
  obtain ⟨N, hN⟩ : ∃ N, N = w.heap.size := ⟨_, rfl⟩
  have HU : Hid (Below w.heap.size w ((w.alloc (.cells #[.int .i64 x.k, .string x.t, .slice x.an x.ln x.cn, .slice x.ai x.li x.ci] 25)).alloc (.cells #[.int .i64 0, .string ⟨#[]⟩, .slice none 0 0, .slice none 0 0] 25))) := ((Below.refl _ _).alloc (Nat.le_refl _) _).alloc (by simp) _
  have HJ1 : Hid (Jb ((w.alloc (.cells #[.int .i64 x.k, .string x.t, .slice x.an x.ln x.cn, .slice x.ai x.li x.ci] 25)).alloc (.cells #[.int .i64 0, .string ⟨#[]⟩, .slice none 0 0, .slice none 0 0] 25)) N x.k x.t (.slice x.an x.ln x.cn) (.slice x.ai x.li x.ci)) := by
    rw [hN]; exact (Jb.new w x.k x.t (.slice x.an x.ln x.cn) (.slice x.ai x.li x.ci)).alloc _
  have HJ2 : Hid (Jb ((w.alloc (.cells #[.int .i64 x.k, .string x.t, .slice x.an x.ln x.cn, .slice x.ai x.li x.ci] 25)).alloc (.cells #[.int .i64 0, .string ⟨#[]⟩, .slice none 0 0, .slice none 0 0] 25)) (N + 1) 0 ⟨#[]⟩ (.slice none 0 0) (.slice none 0 0)) := by
    have := Jb.new (w.alloc (.cells #[.int .i64 x.k, .string x.t, .slice x.an x.ln x.cn, .slice x.ai x.li x.ci] 25)) 0 ⟨#[]⟩ (.slice none 0 0) (.slice none 0 0)
    rw [show (w.alloc (.cells #[.int .i64 x.k, .string x.t, .slice x.an x.ln x.cn, .slice x.ai x.li x.ci] 25)).heap.size = N + 1 by rw [hN]; simp] at this
    exact this
  have HLI : Hid (x.li = is.length) := by show _ = _; rw [ai.1]; exact (JSees.get is vs ajs).1
  have HLN : Hid (x.ln = ns.length) := an.1
  obtain ⟨R, hR⟩ : ∃ R, R = getAt k ns is.length nm := ⟨_, rfl⟩
  rw [← hR]
  have HRR := hide hR
  have HAN := hide an
  have HAI := hide ai
  have HAJ := hide ajs
  have HA4 := hide a4
  have HBw := hide hB
  have HKK := hide a1
  have HNM := hide hnm
  have HNW := hide hN
  rw [show x.val = .agg #[.int .i64 x.k, .string x.t, .slice x.an x.ln x.cn, .slice x.ai x.li x.ci] from rfl]
  obtain ⟨sn, HSN⟩ : ∃ sn, Hid (sn = bstr nm) := ⟨_, rfl⟩
  rw [← HSN.out]
  clear a1 a2 a3 a4 an ai ajs f1 f2 f5 m3 hB hnm hR
  go_enter Tryz.func23, Tryz.ntmps23
  go_upto_region 1 with fail
  rw [← hN]
  clear hN
  generalize (w.alloc (.cells #[.int .i64 x.k, .string x.t, .slice x.an x.ln x.cn, .slice x.ai x.li x.ci] 25)).alloc (.cells #[.int .i64 0, .string ⟨#[]⟩, .slice none 0 0, .slice none 0 0] 25) = u at *
  have p0 := HJ1.out.c0
  have p2 := HJ1.out.c2
  have p3 := HJ1.out.c3
  have j0 := HJ2.out.c0
  have j1 := HJ2.out.c1
  have j2 := HJ2.out.c2
  have j3 := HJ2.out.c3
  have z0 := HJ2.out.fz 0
  have z1 := HJ2.out.fz 1
  have z2 := HJ2.out.fz 2
  have z3 := HJ2.out.fz 3
  have HPUT : Hid (∀ y : JV, Below w.heap.size w (put4 u (N + 1) 0 y)) := fun y => by
    have hbp := put4_but u (N + 1) 0 y
    exact HU.out.trans ⟨hbp.os, hbp.tape, hbp.output, hbp.size, fun k hk => hbp.block k (by have := HU.out.size; omega) (by have := HNW.out; omega)⟩
  by_cases hk : k = 6
  · have hkb : (x.k != 6) = false := by rw [HKK.out, hk]; rfl
    have HR2 : Hid (R = findN ns nm (min ns.length is.length) 0) := by show _ = _; rw [HRR.out]; unfold getAt; rw [if_pos hk]
    clear HRR
    go_wp2_with fail
    go_loopw [18] (fun v6 wr => ∃ i : Nat, i ≤ min ns.length is.length ∧ v6 = .int .i64 (i : Int) ∧ Hid (R = findN ns nm (min ns.length is.length - i) i) ∧ wr = u) (fun v6 _ => min ns.length is.length - (intOf v6).toNat)
    case atStart => exact ⟨0, Nat.zero_le _, rfl, HR2, rfl⟩
    case round =>
      clear HR2
      obtain ⟨i, hi, rfl, HR2, hw⟩ := hrel
      have hw' := hw.symm
      subst hw'
      by_cases hin : i < min ns.length is.length
      · have hil : (i : Int) < (x.li : Int) := by have := HLI.out; omega
        have hnl : (i : Int) < (x.ln : Int) := by have := HLN.out; omega
        have hmn : (i : Int) < min (x.ln : Int) (x.li : Int) := by omega
        have hi1 : i < ns.length := by omega
        have hi2 : i < is.length := by omega
        obtain ⟨v1, hv1, hw1⟩ := (JSees.get is vs HAJ.out).2 i is[i] (List.getElem?_eq_getElem hi2)
        obtain ⟨g1, o1, e1, hg1, hc1⟩ : ∃ g off, x.ai = some ⟨g, off, none⟩ ∧ g < B ∧ ∀ i v, vs[i]? = some v → ∀ j u, v.cells[j]? = some u → w.cell? ⟨g, off + (4 * i + j), none⟩ = some u := by
          rcases HAI.out.2 with e | e
          · rw [e] at hv1; simp at hv1
          · exact e
        obtain ⟨g2, o2, e2, hg2, hc2⟩ : ∃ g off, x.an = some ⟨g, off, none⟩ ∧ g < B ∧ ∀ i nm, ns[i]? = some nm → w.cell? ⟨g, off + i, none⟩ = some (.string (bstr nm)) := by
          rcases HAN.out.2 with e | e
          · rw [e] at hi1; simp at hi1
          · exact e
        have k0 : u.cell? ⟨g1, o1 + i * 4, none⟩ = some (.int .i64 v1.k) := by have := cell_kept (hc1 i v1 hv1 0 _ rfl) HU.out; rw [show o1 + (4 * i + 0) = o1 + i * 4 by omega] at this; exact this
        have k1 : u.cell? ⟨g1, o1 + i * 4 + 1, none⟩ = some (.string v1.t) := by have := cell_kept (hc1 i v1 hv1 1 _ rfl) HU.out; rw [show o1 + (4 * i + 1) = o1 + i * 4 + 1 by omega] at this; exact this
        have k2 : u.cell? ⟨g1, o1 + i * 4 + 2, none⟩ = some (.slice v1.an v1.ln v1.cn) := by have := cell_kept (hc1 i v1 hv1 2 _ rfl) HU.out; rw [show o1 + (4 * i + 2) = o1 + i * 4 + 2 by omega] at this; exact this
        have k3 : u.cell? ⟨g1, o1 + i * 4 + 3, none⟩ = some (.slice v1.ai v1.li v1.ci) := by have := cell_kept (hc1 i v1 hv1 3 _ rfl) HU.out; rw [show o1 + (4 * i + 3) = o1 + i * 4 + 3 by omega] at this; exact this
        have k4 : u.cell? ⟨g2, o2 + i, none⟩ = some (.string (bstr ns[i])) := cell_kept (hc2 i ns[i] (List.getElem?_eq_getElem hi1)) HU.out
        rw [e1] at p3
        rw [e2] at p2
        obtain ⟨sm, HSM⟩ : ∃ sm : ByteArray, Hid (sm = bstr ns[i]) := ⟨bstr ns[i], hide rfl⟩
        rw [← HSM.out] at k4
        have HEQ : Hid ((sm.toList == sn.toList) = decide (ns[i] = nm)) := by
          show _ = _
          rw [HSM.out, HSN.out]
          exact bstr_beq (HA4.out _ (List.getElem_mem hi1)) HNM.out
        have HST : Hid (R = if ns[i]? = some nm then some i else findN ns nm (min ns.length is.length - (i + 1)) (i + 1)) := by
          show _ = _
          rw [HR2.out, show min ns.length is.length - i = (min ns.length is.length - (i + 1)) + 1 by omega]
          rfl
        have hg1N : g1 < N := by have := HBw.out; have := HNW.out; omega
        have hg2N : g2 < N := by have := HBw.out; have := HNW.out; omega
        have hgn1 : g1 ≠ N + 1 := by omega
        have hgn2 : N + 1 ≠ g1 := by omega
        by_cases hsame : ns[i] = nm
        · have q0 : (sm.toList == sn.toList) = true := by rw [HEQ.out]; exact decide_eq_true hsame
          have q1 : sm.toList = sn.toList := by rw [beq_iff_eq] at q0; exact q0
          have HC := hide (copied_any is[i] v1 B u (JSee.stay _ _ hw1 (fun k hk => HU.out.block k (by have := HBw.out; omega))) (HF5.out _ (List.getElem_mem hi2)) (HM3.out _ (List.getElem_mem hi2)) (by have := HBw.out; have := HU.out.size; omega))
          rw [show v1.val = .agg #[.int .i64 v1.k, .string v1.t, .slice v1.an v1.ln v1.cn, .slice v1.ai v1.li v1.ci] from rfl] at HC
          have HRI : Hid (R = some i) := by show _ = _; rw [HST.out, List.getElem?_eq_getElem hi1, if_pos (by rw [hsame])]
          have HIS : Hid (is[i]? = some is[i]) := List.getElem?_eq_getElem hi2
          clear HPUT HST HR2 HEQ hw1 hv1 hc1 hc2 e1 e2 hsame
          go_wp2_with fail
          refine HC.out.mono ?_
          rintro ε w2 ⟨y, rfl, hr, hb5⟩
          have hj2 := HJ2.out.keep hb5
          have j0 := hj2.c0
          have j1 := hj2.c1
          have j2 := hj2.c2
          have j3 := hj2.c3
          have z0 := hj2.fz 0
          have z1 := hj2.fz 1
          have z2 := hj2.fz 2
          have z3 := hj2.fz 3
          have hbp := put4_but w2 (N + 1) 0 y
          have huz : N + 2 ≤ u.heap.size := by have := Bl.lt HJ2.out; omega
          have HA : Hid (GotIs w (put4 w2 (N + 1) 0 y) is R (.returned (.tuple #[.agg #[.int .i64 y.k, .string y.t, .slice y.an y.ln y.cn, .slice y.ai y.li y.ci], .bool true]))) := by
            show GotIs _ _ _ _ _
            rw [HRI.out]
            refine ⟨y, is[i], u.heap.size, HU.out.size, HIS.out, ?_, rfl⟩
            rw [put4_size]
            exact JRep.stay _ _ _ hr (fun b hb => hbp.block b hb.2 (by omega))
          have HFIN : Hid (Below w.heap.size w (put4 w2 (N + 1) 0 y)) := (below_up HU.out hb5).trans ⟨hbp.os, hbp.tape, hbp.output, hbp.size, fun k hk => hbp.block k (by have := hb5.size; have := HNW.out; omega) (by have := HNW.out; omega)⟩
          simp only [put4, Nat.zero_add] at HFIN HA
          rw [show y.val = .agg #[.int .i64 y.k, .string y.t, .slice y.an y.ln y.cn, .slice y.ai y.li y.ci] from rfl]
          clear hj2 hr hb5 hbp HC
          go_wp2_with fail
          refine bodyPost_ret (v := .tuple #[.agg #[.int .i64 y.k, .string y.t, .slice y.an y.ln y.cn, .slice y.ai y.li y.ci], .bool true]) (by simp [results, Tryz.results23, go_sem, j0, j1, j2, j3]) rfl ?_
          exact ⟨HA.out, HFIN.out⟩
        · have q0 : (sm.toList == sn.toList) = false := by rw [HEQ.out]; exact decide_eq_false hsame
          have q1 : ¬ sm.toList = sn.toList := by rw [beq_eq_false_iff_ne] at q0; exact q0
          have HR3 : Hid (R = findN ns nm (min ns.length is.length - (i + 1)) (i + 1)) := by
            show _ = _
            rw [HST.out, List.getElem?_eq_getElem hi1, if_neg (fun h => hsame (Option.some.inj h))]
          clear HPUT HST HR2 HEQ hw1 hv1 hc1 hc2 e1 e2 hsame
          go_wp2_with fail
          go_roundw
          case rel => exact ⟨i + 1, by omega, by simp, HR3, trivial⟩
          case measure => simp [intOf]; omega
      · have HN2 : Hid (R = none) := by show _ = _; rw [HR2.out, show min ns.length is.length - i = 0 by omega]; rfl
        have HFIN := hide (HPUT.out zeroV)
        simp only [put4, zeroV, Nat.zero_add] at HFIN
        clear HPUT HR2
        have hmn : ¬ (i : Int) < min (x.ln : Int) (x.li : Int) := by have := HLN.out; have := HLI.out; omega
        go_wp2_with fail
        refine bodyPost_ret (v := .tuple #[zeroV.val, .bool false]) (by simp [results, Tryz.results23, go_sem, j0, j1, j2, j3]; rfl) rfl ?_
        exact ⟨by rw [HN2.out]; rfl, HFIN.out⟩
  · have hkb : (x.k != 6) = true := by rw [HKK.out, bne_iff_ne]; exact hk
    have HR2 : Hid (R = none) := by show _ = _; rw [HRR.out]; unfold getAt; rw [if_neg hk]
    have HFIN := hide (HPUT.out zeroV)
    simp only [put4, zeroV, Nat.zero_add] at HFIN
    clear HRR HPUT
    go_wp2_with fail
    refine bodyPost_ret (v := .tuple #[zeroV.val, .bool false]) (by simp [results, Tryz.results23, go_sem, j0, j1, j2, j3]; rfl) rfl ?_
    exact ⟨by rw [HR2.out]; rfl, HFIN.out⟩
end Go.Proofs.YtiaedngnofablaaGreatDoor
