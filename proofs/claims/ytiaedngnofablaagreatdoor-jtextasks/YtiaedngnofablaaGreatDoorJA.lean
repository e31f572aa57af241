/- The walk of the law JtextAsks: every Json and every name: true, and nothing old turns. -/
import Derived.Test.YtiaedngnofablaaGreatDoorJGet
import Derived.Test.YtiaedngnofablaaGreatDoorJI
import Derived.Test.YtiaedngnofablaaGreatDoorKForm
import Derived.Test.YtiaedngnofablaaGreatDoorDoor4
import Derived.Test.YtiaedngnofablaaGreatDoorShelfN
import Derived.Stop.LaidErr
namespace Go.Proofs.YtiaedngnofablaaGreatDoor
open Go.RowKit

def zeroJ : J := .mk 0 [] [] []
theorem zero_see (w : World) (B : Nat) : JSee w B zeroJ zeroV := by
  unfold zeroJ
  rw [JSee_mk]
  exact ⟨rfl, rfl, (fun x hx => by cases hx), (fun n hn => by cases hn), ⟨rfl, .inl rfl⟩, [], ⟨rfl, .inl rfl⟩, by rw [JSees_nil]⟩
/-- The Json that Get answers. -/
def resJ (is : List J) (o : Option Nat) : J := match o with | none => zeroJ | some i => is.getD i zeroJ
theorem got_see {w w' : World} {is : List J} {R : Option Nat} {e : Ending} (h : GotIs w w' is R e) : ∃ y : JV, e = .returned (.tuple #[y.val, .bool R.isSome]) ∧ JSee w' w'.heap.size (resJ is R) y := by
  cases R with
  | none => exact ⟨zeroV, h, zero_see _ _⟩
  | some i =>
    obtain ⟨y, j, L, _, hi, hr, he⟩ := h
    refine ⟨y, he, ?_⟩
    have e2 : resJ is (some i) = j := by show is.getD i zeroJ = j; rw [List.getD_eq_getElem?_getD, hi]; rfl
    rw [e2]
    exact JRep.see _ _ _ hr (fun b hb => hb.2)
theorem get_see {w : World} {B : Nat} {is : List J} {R : Option Nat} {e : Ending} (h : GetIs w B is R e) : ∃ y : JV, e = .returned (.tuple #[y.val, .bool R.isSome]) ∧ JSee w B (resJ is R) y := by
  cases R with
  | none => exact ⟨zeroV, h, zero_see _ _⟩
  | some i =>
    obtain ⟨y, j, hi, hs, he⟩ := h
    refine ⟨y, he, ?_⟩
    have e2 : resJ is (some i) = j := by show is.getD i zeroJ = j; rw [List.getD_eq_getElem?_getD, hi]; rfl
    rw [e2]
    exact hs
theorem res_fit {is : List J} (h : ∀ j ∈ is, JFit j) (R : Option Nat) : JFit (resJ is R) := by
  have z : JFit zeroJ := by unfold zeroJ; rw [JFit_mk, JFits_nil]; exact ⟨by simp, (fun n hn => by cases hn), by simp, by simp, trivial⟩
  cases R with
  | none => exact z
  | some i =>
    unfold resJ
    simp only [List.getD_eq_getElem?_getD]
    cases hi : is[i]? with
    | none => exact z
    | some j => exact h j (List.mem_of_getElem? hi)
set_option maxHeartbeats 8000000 in
set_option maxRecDepth 100000 in
theorem jtextAsks_walk (j : J) (x : JV) (nm : By) (B : Nat) (w : World) (hx : JSee w B j x) (hf : JTight j) (hB : B ≤ w.heap.size) (hT : Tabs w) (hZ : ZT w) (hz : 7 ≤ w.heap.size) (hnm : ∀ c ∈ nm, c < 256)
    (ev1 ev2 : Value) (hv1 : w.cell? ⟨laysC174_ren.g 16, 0, none⟩ = some ev1) (he1 : ev1 = .nilIface ∨ ∃ te pe, ev1 = .iface te pe) (hv2 : w.cell? ⟨laysPu14_ren.g 1, 0, none⟩ = some ev2) (he2 : ev2 = .nilIface ∨ ∃ te pe, ev2 = .iface te pe) :
    Calls Tryz.prog 6 #[x.val, .string (bstr nm)] w fun e w' => e = .returned (.bool true) ∧ Below w.heap.size w w' := by
  obtain ⟨k, t, ns, is⟩ := j
  have ev : ∀ v : JV, v.val = .agg #[.int .i64 v.k, .string v.t, .slice v.an v.ln v.cn, .slice v.ai v.li v.ci] := fun _ => rfl
  have hfit := JTight.fit _ hf
  have HU := hide (below_new w (.cells #[.int .i64 x.k, .string x.t, .slice x.an x.ln x.cn, .slice x.ai x.li x.ci] 25))
  obtain ⟨N, hN⟩ : ∃ N, N = w.heap.size := ⟨_, rfl⟩
  have HJ := hide (Jb.new w x.k x.t (.slice x.an x.ln x.cn) (.slice x.ai x.li x.ci))
  have HX : Hid (∀ W, Below w.heap.size w W → JSee W B (.mk k t ns is) x) := fun W hW => JSee.stay _ _ hx (fun k hk => hW.block k (by omega))
  have HBw : Hid (∀ W, Below w.heap.size w W → B ≤ W.heap.size) := fun W hW => by have := hW.size; omega
  have HT : Hid (∀ W, Below w.heap.size w W → Tabs W ∧ ZT W ∧ 7 ≤ W.heap.size) := fun W hW => ⟨hT.keep hW, ZT.keep hZ hW, by have := hW.size; omega⟩
  have hxx := hx
  rw [JSee_mk] at hxx
  obtain ⟨a1, a2, a3, _⟩ := hxx
  have hff := hf
  rw [JTight_mk] at hff
  have hts : (bstr t).size ≤ 281474976710656 := by rw [bstr_size]; omega
  have HII : Hid (∀ (y : JV) (W : World), y.k = k → y.t = bstr t → Below w.heap.size w W → Calls Tryz.prog 25 #[.agg #[.int .i64 y.k, .string y.t, .slice y.an y.ln y.cn, .slice y.ai y.li y.ci]] W fun e w' => e = .returned (iVal (iOf k (sbytes (bstr t)))) ∧ Below W.heap.size W w') := fun y W h1 h2 hW => by
    have := jint_any y W (by rw [h2]; exact hts) ev1 (cell_kept hv1 hW) he1
    rw [h1, h2] at this
    rw [ev] at this
    rw [h1, h2] at this
    rw [h1, h2]
    exact this
  have HUI : Hid (∀ (y : JV) (W : World), y.k = k → y.t = bstr t → Below w.heap.size w W → Calls Tryz.prog 27 #[.agg #[.int .i64 y.k, .string y.t, .slice y.an y.ln y.cn, .slice y.ai y.li y.ci]] W fun e w' => e = .returned (uVal (uOf k (sbytes (bstr t)))) ∧ Below W.heap.size W w') := fun y W h1 h2 hW => by
    have := juint_any y W (by rw [h2]; exact hts) ev2 (cell_kept hv2 hW) he2
    rw [h1, h2] at this
    rw [ev] at this
    rw [h1, h2] at this
    rw [h1, h2]
    exact this
  have HRI : Hid (∀ W : World, Calls Tryz.prog 26 #[.agg #[.int .i64 x.k, .string x.t, .slice x.an x.ln x.cn, .slice x.ai x.li x.ci]] W fun e w' => e = .returned (iVal (iOf k (sbytes (bstr t)))) ∧ Below W.heap.size W w') := fun W => by
    have := rint_any x W (by rw [a2]; omega)
    rw [a1, a2] at this
    rw [ev] at this
    rw [a1, a2] at this
    rw [a1, a2]
    exact this
  have HRU : Hid (∀ W : World, Calls Tryz.prog 28 #[.agg #[.int .i64 x.k, .string x.t, .slice x.an x.ln x.cn, .slice x.ai x.li x.ci]] W fun e w' => e = .returned (uVal (uOf k (sbytes (bstr t)))) ∧ Below W.heap.size W w') := fun W => by
    have := ruint_any x W (by rw [a2]; omega)
    rw [a1, a2] at this
    rw [ev] at this
    rw [a1, a2] at this
    rw [a1, a2]
    exact this
  have HF := hide hf
  have HFI := hide hfit
  have HNM := hide hnm
  obtain ⟨io, HIO⟩ : ∃ io, Hid (io = iOf k (sbytes (bstr t))) := ⟨_, hide rfl⟩
  obtain ⟨uo, HUO⟩ : ∃ uo, Hid (uo = uOf k (sbytes (bstr t))) := ⟨_, hide rfl⟩
  rw [← HIO.out] at HII HRI
  rw [← HUO.out] at HUI HRU
  simp only [iVal] at HII HRI
  simp only [uVal] at HUI HRU
  obtain ⟨iv, HIV⟩ : ∃ iv, Hid (iv = io.getD 0) := ⟨_, hide rfl⟩
  obtain ⟨ib, HIB⟩ : ∃ ib, Hid (ib = io.isSome) := ⟨_, hide rfl⟩
  obtain ⟨uv, HUV⟩ : ∃ uv : Nat, Hid (uv = uo.getD 0) := ⟨_, hide rfl⟩
  obtain ⟨ub, HUB⟩ : ∃ ub, Hid (ub = uo.isSome) := ⟨_, hide rfl⟩
  rw [← HIV.out, ← HIB.out] at HII HRI
  rw [← HUV.out, ← HUB.out] at HUI HRU
  rw [ev x]
  clear hx hf hB hT hZ hz hnm hv1 he1 hv2 he2 a1 a2 a3 hff hts hfit
  go_enter Tryz.func6, Tryz.ntmps6
  go_upto_region 1 with fail
  rw [← hN] at HJ ⊢
  clear hN
  generalize w.alloc (.cells #[.int .i64 x.k, .string x.t, .slice x.an x.ln x.cn, .slice x.ai x.li x.ci] 25) = u at *
  have p0 := HJ.out.c0
  have p1 := HJ.out.c1
  have p2 := HJ.out.c2
  have p3 := HJ.out.c3
  have HC1 := hide (large_any (.mk k t ns is) x B u (HX.out u HU.out) HFI.out (HBw.out u HU.out))
  rw [ev x] at HC1
  go_wp2_with fail
  refine HC1.out.mono ?_
  rintro ε w2 ⟨q1, rfl, hq1, hb2⟩
  have HB2 := hide (below_up HU.out hb2)
  have HK1 := hide (HJ.out.keep hb2)
  have HQ1 := hide hq1
  clear hq1 hb2 HC1 HJ p0 p1 p2 p3
  cases q1 with
  | true =>
    go_wp2_with fail
    go_ret
    exact ⟨rfl, HB2.out⟩
  | false =>
    have HSM := hide (HQ1.out (by first | exact rfl | trivial))
    clear HQ1
    have HTW : Hid (∀ W, Below w.heap.size w W → Calls Tryz.prog 15 #[.agg #[.int .i64 x.k, .string x.t, .slice x.an x.ln x.cn, .slice x.ai x.li x.ci]] W fun e w' => ∃ y : JV, e = .returned y.val ∧ JRep w' (.mk k t ns is) y (fun b => W.heap.size ≤ b ∧ b < w'.heap.size) ∧ Below W.heap.size W w') := fun W hW => twin_any _ x B W (HX.out W hW) HFI.out HSM.out (HBw.out W hW)
    have p0 := HK1.out.c0
    have p1 := HK1.out.c1
    have p2 := HK1.out.c2
    have p3 := HK1.out.c3
    go_wp2_with fail
    refine (HTW.out _ HB2.out).mono ?_
    rintro ε w3 ⟨y1, rfl, hr1, hb3⟩
    have HB3 := hide (below_up HB2.out hb3)
    have HK2 := hide (HK1.out.keep hb3)
    have HG := hide (jget_any k t ns is y1 w3.heap.size nm w3 (JRep.see _ _ _ hr1 (fun b hb => hb.2)) HF.out HSM.out (Nat.le_refl _) HNM.out)
    rw [ev y1] at HG ⊢
    clear hr1 hb3 HK1 p0 p1 p2 p3
    go_wp2_with fail
    refine HG.out.mono ?_
    rintro ε w4 ⟨hgot, hb4⟩
    obtain ⟨y2, rfl, hs2⟩ := got_see hgot
    have HB4 := hide (below_up HB3.out hb4)
    have HK3 := hide (HK2.out.keep hb4)
    have HS2 := hide hs2
    clear hgot hb4 hs2 HG HK2
    rw [ev y2]
    have HA5 := hide (below_new w4 (.cells #[.int .i64 y2.k, .string y2.t, .slice y2.an y2.ln y2.cn, .slice y2.ai y2.li y2.ci] 25))
    have HJ5 := hide (Jb.new w4 y2.k y2.t (.slice y2.an y2.ln y2.cn) (.slice y2.ai y2.li y2.ci))
    have HK4 := hide (HK3.out.keep HA5.out)
    have HB5 := hide (below_up HB4.out HA5.out)
    have HS3 := hide (JSee.stay (w' := w4.alloc (.cells #[.int .i64 y2.k, .string y2.t, .slice y2.an y2.ln y2.cn, .slice y2.ai y2.li y2.ci] 25)) _ _ HS2.out (fun k hk => HA5.out.block k hk))
    obtain ⟨M5, hM5⟩ : ∃ M, M = w4.heap.size := ⟨_, rfl⟩
    have hM5z : M5 ≤ (w4.alloc (.cells #[.int .i64 y2.k, .string y2.t, .slice y2.an y2.ln y2.cn, .slice y2.ai y2.li y2.ci] 25)).heap.size := by rw [hM5]; exact HA5.out.size
    rw [← hM5] at HJ5 HS3
    have p0 := HK4.out.c0
    have p1 := HK4.out.c1
    have p2 := HK4.out.c2
    have p3 := HK4.out.c3
    clear HK3 HS2
    go_wp2_with fail
    rw [← hM5]
    clear hM5 HA5
    generalize w4.alloc (.cells #[.int .i64 y2.k, .string y2.t, .slice y2.an y2.ln y2.cn, .slice y2.ai y2.li y2.ci] 25) = w5 at *
    refine (rget_any k t ns is x B nm w5 (HX.out w5 HB5.out) HFI.out (HBw.out w5 HB5.out) HNM.out).mono ?_
    rintro ε w6 ⟨hget, hb6⟩
    obtain ⟨y3, rfl, hs3⟩ := get_see hget
    have HB6 := hide (below_up HB5.out hb6)
    have HK5 := hide (HK4.out.keep hb6)
    have HJ6 := hide (HJ5.out.keep hb6)
    have hz6 := hb6.size
    have hz5 := HBw.out w5 HB5.out
    have HS5 := hide (JSee.stay (w' := w6) _ _ HS3.out (fun k hk => hb6.block k (by omega)))
    have HS6 := hide (JSee.stay (w' := w6) _ _ hs3 (fun k hk => hb6.block k (by omega)))
    clear hget hb6 hs3 HK4 HJ5 HS3 p0 p1 p2 p3
    rw [ev y3]
    have HA7 := hide (below_new w6 (.cells #[.int .i64 y3.k, .string y3.t, .slice y3.an y3.ln y3.cn, .slice y3.ai y3.li y3.ci] 25))
    have HJ7 := hide (Jb.new w6 y3.k y3.t (.slice y3.an y3.ln y3.cn) (.slice y3.ai y3.li y3.ci))
    have HK7 := hide (HK5.out.keep HA7.out)
    have HL7 := hide (HJ6.out.keep HA7.out)
    have HB7 := hide (below_up HB6.out HA7.out)
    have hz7 : w6.heap.size ≤ (w6.alloc (.cells #[.int .i64 y3.k, .string y3.t, .slice y3.an y3.ln y3.cn, .slice y3.ai y3.li y3.ci] 25)).heap.size := HA7.out.size
    have HS7 := hide (JSee.stay (w' := w6.alloc (.cells #[.int .i64 y3.k, .string y3.t, .slice y3.an y3.ln y3.cn, .slice y3.ai y3.li y3.ci] 25)) _ _ HS5.out (fun k hk => HA7.out.block k (by omega)))
    have HS8 := hide (JSee.stay (w' := w6.alloc (.cells #[.int .i64 y3.k, .string y3.t, .slice y3.an y3.ln y3.cn, .slice y3.ai y3.li y3.ci] 25)) _ _ HS6.out (fun k hk => HA7.out.block k (by omega)))
    obtain ⟨M7, hM7⟩ : ∃ M, M = w6.heap.size := ⟨_, rfl⟩
    rw [← hM7] at HJ7
    have p0 := HK7.out.c0
    have p1 := HK7.out.c1
    have p2 := HK7.out.c2
    have p3 := HK7.out.c3
    clear HK5 HJ6 HS5 HS6
    go_wp2_with fail
    rw [← hM7]
    clear hM7 HA7
    generalize w6.alloc (.cells #[.int .i64 y3.k, .string y3.t, .slice y3.an y3.ln y3.cn, .slice y3.ai y3.li y3.ci] 25) = w7 at *
    refine (HTW.out w7 HB7.out).mono ?_
    rintro ε w8 ⟨y4, rfl, hr4, hb8⟩
    rw [JRep_mk] at hr4
    have h4k := hr4.1
    have h4t := hr4.2.1
    have HB8 := hide (below_up HB7.out hb8)
    have HC8 := hide (HII.out y4 w8 h4k h4t HB8.out)
    rw [ev y4]
    clear hr4 p0 p1 p2 p3
    have HM8 := hide hb8
    clear hb8 h4k h4t
    go_wp2_with fail
    refine HC8.out.mono ?_
    rintro ε w9 ⟨rfl, hb9⟩
    have HB9 := hide (below_up HB8.out hb9)
    have HM9 := hide (below_up HM8.out hb9)
    have HK9 := hide (HK7.out.keep HM9.out)
    clear hb9 HC8 HM8
    have p0 := HK9.out.c0
    have p1 := HK9.out.c1
    have p2 := HK9.out.c2
    have p3 := HK9.out.c3
    go_wp2_with fail
    refine (HRI.out w9).mono ?_
    rintro ε w10 ⟨rfl, hb10⟩
    have HB10 := hide (below_up HB9.out hb10)
    have HM10 := hide (below_up HM9.out hb10)
    have HK10 := hide (HK7.out.keep HM10.out)
    clear hb10 HM9 HK9 p0 p1 p2 p3
    have p0 := HK10.out.c0
    have p1 := HK10.out.c1
    have p2 := HK10.out.c2
    have p3 := HK10.out.c3
    go_wp2_with fail
    refine (HTW.out w10 HB10.out).mono ?_
    rintro ε w11 ⟨y5, rfl, hr5, hb11⟩
    rw [JRep_mk] at hr5
    have h5k := hr5.1
    have h5t := hr5.2.1
    have HB11 := hide (below_up HB10.out hb11)
    have HM11 := hide (below_up HM10.out hb11)
    have HC11 := hide (HUI.out y5 w11 h5k h5t HB11.out)
    rw [ev y5]
    clear hr5 hb11 h5k h5t HM10 HK10 p0 p1 p2 p3
    go_wp2_with fail
    refine HC11.out.mono ?_
    rintro ε w12 ⟨rfl, hb12⟩
    have HB12 := hide (below_up HB11.out hb12)
    have HM12 := hide (below_up HM11.out hb12)
    have HK12 := hide (HK7.out.keep HM12.out)
    clear hb12 HC11 HM11
    have p0 := HK12.out.c0
    have p1 := HK12.out.c1
    have p2 := HK12.out.c2
    have p3 := HK12.out.c3
    go_wp2_with fail
    refine (HRU.out w12).mono ?_
    rintro ε w13 ⟨rfl, hb13⟩
    have HB13 := hide (below_up HB12.out hb13)
    have HM13 := hide (below_up HM12.out hb13)
    clear hb13 HM12 HK12 p0 p1 p2 p3
    go_wp2_with fail
    refine (live_true w13 (HT.out w13 HB13.out).1 (HT.out w13 HB13.out).2.1 (HT.out w13 HB13.out).2.2).mono ?_
    rintro ε w14 ⟨rfl, hb14⟩
    have HB14 := hide (below_up HB13.out hb14)
    have HM14 := hide (below_up HM13.out hb14)
    have HE5 := hide (HL7.out.keep HM14.out)
    have HE7 := hide (HJ7.out.keep HM14.out)
    have hz14 := HM14.out.size
    have HQ2 := hide ((jsee_up (by omega : M5 ≤ w7.heap.size)).1 _ _ HS7.out)
    have HQ3 := hide ((jsee_up (by omega : B ≤ w7.heap.size)).1 _ _ HS8.out)
    have HEQ := hide (equal_any (resJ is (getAt k ns is.length nm)) (resJ is (getAt k ns is.length nm)) y2 y3 w7.heap.size w14 (JSee.stay _ _ HQ2.out (fun k hk => HM14.out.block k hk)) (JSee.stay _ _ HQ3.out (fun k hk => HM14.out.block k hk)) (res_fit (fun j hj => JTight.fit j ((jtights_iff is).1 (by have := HF.out; rw [JTight_mk] at this; exact this.2.2.2.2) j hj)) _) hz14)
    rw [ev y2, ev y3] at HEQ
    have r0 := HE5.out.c0
    have r1 := HE5.out.c1
    have r2 := HE5.out.c2
    have r3 := HE5.out.c3
    have t0 := HE7.out.c0
    have t1 := HE7.out.c1
    have t2 := HE7.out.c2
    have t3 := HE7.out.c3
    clear hb14
    go_wp2_with fail
    refine HEQ.out.mono ?_
    rintro ε w15 ⟨q, rfl, hq, hb15⟩
    have hqt : q = true := hq.2 (by first | exact trivial | exact rfl)
    subst hqt
    have HB15 := hide (below_up HB14.out hb15)
    clear hq hb15
    go_wp2_with fail
    go_ret
    exact ⟨rfl, HB15.out⟩
end Go.Proofs.YtiaedngnofablaaGreatDoor
/- The sentinel of strconv, as the program's text lays it. -/
namespace Go.Proofs.YtiaedngnofablaaGreatDoor
open Go.ChangeShapes Go.WideShapes Go.ChangeAt Go.RowKit

theorem star_name : "*" ++ "errors.errorString" = "*errors.errorString" := by decide
theorem row_err (u : TypeId) (h : Tryz.prog.typeName? 3 u = some "*errors.errorString") : u = 188 :=
  typeName_ptr_named (nm := "errors.errorString") (by rw [star_name]; kernel_rfl) (by kernel_rfl) (by decide) u (by rw [star_name]; exact h)
theorem range_of {W : World} {r : List (String × DataW Unit)} (h : laidMet Tryz.prog (("strconv.ErrRange", Rows.laid_strconv_ErrRange) :: r) W) : ∃ ev, W.cell? ⟨3, 0, none⟩ = some ev ∧ (ev = .nilIface ∨ ∃ te pe, ev = .iface te pe) := by
  have hg : Tryz.prog.globalNamed "strconv.ErrRange" = some 3 := by kernel_rfl
  obtain ⟨a0, s0, hv0, _, _, _⟩ := laid_sentinel h hg (by kernel_rfl) Tryz.underlying76 row_err Tryz.underlying188 Tryz.underlying190 rfl rfl Tryz.underlying9 (by kernel_rfl) (by kernel_rfl)
  refine ⟨.iface 188 (.pointer (some a0)), ?_, .inr ⟨_, _, rfl⟩⟩
  have h0 := World.var?_cell hg hv0 0
  simpa using h0
theorem range_g : laysC174_ren.g 16 = 3 ∧ laysPu14_ren.g 1 = 3 := by decide
end Go.Proofs.YtiaedngnofablaaGreatDoor
/- The law JtextAsks at what a row hands over. -/
namespace Go.Proofs.YtiaedngnofablaaGreatDoor
open Go.RowKit

theorem jtextAsks_walk2 (j : J) (x : JV) (s : ByteArray) (B : Nat) (w : World) (hx : JSee w B j x) (hf : JTight j) (hB : B ≤ w.heap.size) (hT : Tabs w) (hZ : ZT w) (hz : 7 ≤ w.heap.size) (hr : ∃ ev, w.cell? ⟨3, 0, none⟩ = some ev ∧ (ev = .nilIface ∨ ∃ te pe, ev = .iface te pe)) :
    Calls Tryz.prog 6 #[x.val, .string s] w fun e w' => e = .returned (.bool true) ∧ Below w.heap.size w w' := by
  obtain ⟨ev, h1, h2⟩ := hr
  have h := jtextAsks_walk j x (sbytes s) B w hx hf hB hT hZ hz (sbytes_lt s) ev ev (by rw [range_g.1]; exact h1) h2 (by rw [range_g.2]; exact h1) h2
  rw [bstr_sbytes] at h
  exact h
end Go.Proofs.YtiaedngnofablaaGreatDoor
