/- The law HttpBack. -/
import Derived.Test.YtaenccjlokiejaaGreatDoorHAsked
import Derived.Test.YtaenccjlokiejaaGreatDoorHAnswered
import Derived.Test.YtaenccjlokiejaaGreatDoorHWhole
namespace Go.Proofs.YtaenccjlokiejaaGreatDoor
open Go.RowKit Go.Shelf

theorem wAns_cases2 (r : Except Nat U) : ∃ s : ByteArray, ∃ x : Nat, wAns r = .tuple #[.string s, .int .i64 (x : Int)] ∧ ((∃ T, r = .ok T ∧ s = str T ∧ x = 0) ∨ (∃ e, r = .error e ∧ s = { data := #[] } ∧ x = e)) := by
  cases r with
  | ok T => exact ⟨str T, 0, rfl, .inl ⟨T, rfl, rfl, rfl⟩⟩
  | error e => exact ⟨{ data := #[] }, e, rfl, .inr ⟨e, rfl, rfl, rfl⟩⟩
theorem ans_guard {r : Except Nat U} {s : ByteArray} {x : Nat} (h : (∃ T, r = .ok T ∧ s = str T ∧ x = 0) ∨ (∃ e, r = .error e ∧ s = { data := #[] } ∧ x = e)) : x = 0 ∨ (x ≠ 0 ∧ s = { data := #[] }) := by
  rcases h with ⟨T, _, _, h⟩ | ⟨e, _, h1, h2⟩
  · exact .inl h
  · by_cases h0 : x = 0
    · exact .inl h0
    · exact .inr ⟨h0, h1⟩
theorem FOwn.row {t : TypeId} {w : World} {B : Nat} {ao : Option Addr} {n cap : Nat} {l : List Fl} (h : FOwn t w B (.slice ao n cap) l) : FRow w ao l := by
  obtain ⟨ao', cap', hv, _, hr, _⟩ := h.shape
  cases hv
  exact hr
set_option maxHeartbeats 4000000 in
set_option maxRecDepth 100000 in
theorem httpBack_walk (q : Rq) (ao : Option Addr) (k c1 : Nat) (n2 : Int) (fs2 : List Fl) (b2 : U) (ao2 : Option Addr) (k2 c2 : Nat) (w : World)
    (hk : k = q.fs.length) (hr : FRow w ao q.fs) (hm : q.m.length ≤ 9223372036854775807) (ht : q.t.length ≤ 9223372036854775807) (hb : q.b.length ≤ 4611686018427387904) (hz : FZ q.fs) (hkk : k * 32 ≤ 140737488355328)
    (hk2 : k2 = fs2.length) (hr2 : FRow w ao2 fs2) (hn0 : -9223372036854775808 ≤ n2) (hn1 : n2 ≤ 9223372036854775807) (hbb2 : b2.length ≤ 4611686018427387904) (hz2 : FZ fs2) (hkk2 : k2 * 32 ≤ 140737488355328) (E : Env w)
    (hzz : ∀ f ∈ q.fs, f.1.length ≤ 140737488355328 ∧ True) (hzz2 : ∀ f ∈ fs2, f.1.length ≤ 140737488355328 ∧ True) :
    Calls Tryz.prog 8 #[qAgg q ao k c1, sAgg n2 b2 ao2 k2 c2] w fun e w' => e = .returned (.bool true) ∧ Below w.heap.size w w' := by
  have HP := hide (fun W hrr EE => printRequest_any q ao k c1 W hk hrr hm ht hb hz (by omega) EE)
  have HP' := hide (fun W hrr EE => printResponse_any n2 fs2 b2 ao2 k2 c2 W hk2 hrr hn0 hn1 hbb2 hz2 (by omega) EE)
  have HL := hide (fun W EE => live_any W EE)
  have HR := hide hr
  have HR2 := hide hr2
  have HE := hide E
  have HK1 := hide hk
  have HK2 := hide hk2
  have HKB1 := hide hkk
  have HKB2 := hide hkk2
  have HZ1 := hide hzz
  have HZ2 := hide hzz2
  unfold qAgg at HP
  unfold sAgg at HP'
  unfold qAgg sAgg
  clear hk hr hm ht hb hz hkk hk2 hr2 hn0 hn1 hbb2 hz2 hkk2 E hzz hzz2
  have HX : Hid (Q4 27 ((w.alloc (.cells #[.string (str q.m), .string (str q.t), .slice ao k c1, .string (str q.b)] 27)).alloc (.cells #[.int .i64 n2, .slice ao2 k2 c2, .string (str b2)] 39)) w.heap.size (.string (str q.m)) (.string (str q.t)) (.slice ao k c1) (.string (str q.b))) := up_at _ (new_at _ _ _ rfl)
  have HY : Hid (Q3 39 ((w.alloc (.cells #[.string (str q.m), .string (str q.t), .slice ao k c1, .string (str q.b)] 27)).alloc (.cells #[.int .i64 n2, .slice ao2 k2 c2, .string (str b2)] 39)) (w.heap.size + 1) (.int .i64 n2) (.slice ao2 k2 c2) (.string (str b2))) := new_at _ _ _ (by simp)
  have HB0 : Hid (Two w ((w.alloc (.cells #[.string (str q.m), .string (str q.t), .slice ao k c1, .string (str q.b)] 27)).alloc (.cells #[.int .i64 n2, .slice ao2 k2 c2, .string (str b2)] 39)) ((w.alloc (.cells #[.string (str q.m), .string (str q.t), .slice ao k c1, .string (str q.b)] 27)).alloc (.cells #[.int .i64 n2, .slice ao2 k2 c2, .string (str b2)] 39))) := ⟨(below_new _ _).alloc (by simp) _, Below.refl _ _⟩
  go_enter Tryz.func8, Tryz.ntmps8
  go_upto_region 1 with fail
  generalize ((w.alloc (.cells #[.string (str q.m), .string (str q.t), .slice ao k c1, .string (str q.b)] 27)).alloc (.cells #[.int .i64 n2, .slice ao2 k2 c2, .string (str b2)] 39)) = w0 at *
  obtain ⟨x0, x1, x2, x3⟩ := HX.out.cells
  have HP1 := hide (HP.out w0 (HR.out.keep HB0.out.a) (HE.out.keep HB0.out.a))
  obtain ⟨s1, e1, hs1, hcase⟩ := wAns_cases2 (printReqR q)
  rw [hs1] at HP1
  have HC1 := hide hcase
  clear hs1 hcase HP
  go_wp2_with fail
  refine HP1.out.mono ?_
  rintro e w1 ⟨rfl, hb1⟩
  have HB1 := hide (HB0.out.trans hb1)
  clear hb1 HP1 x0 x1 x2 x3
  obtain ⟨y0, y1, y2⟩ := (HY.out.keep HB1.out.b).cells
  have HP2 := hide (HP'.out w1 (HR2.out.keep HB1.out.a) (HE.out.keep HB1.out.a))
  obtain ⟨s2, e2, hs2, hcase2⟩ := wAns_cases2 (printRespR n2 fs2 b2)
  rw [hs2] at HP2
  have HC2 := hide hcase2
  clear hs2 hcase2 HP'
  go_wp2_with fail
  refine HP2.out.mono ?_
  rintro e w2 ⟨rfl, hb2⟩
  have HB2 := hide (HB1.out.trans hb2)
  clear hb2 HP2 y0 y1 y2
  go_upto_region 3 with fail
  go_cut [46] from 17 (fun t w' => t = .bool false ∧ Two w w0 w')
  case first =>
    have g1 := ans_guard HC1.out
    have g2 := ans_guard HC2.out
    have HL2 := hide (HL.out w2 (HE.out.keep HB2.out.a))
    clear HC1 HC2
    go_wp2_with fail
    refine HL2.out.mono ?_
    rintro e w3 ⟨rfl, hb3⟩
    have HB3 := hide (HB2.out.trans hb3)
    clear hb3 HL2
    rcases g1 with rfl | ⟨g1, rfl⟩
    · rcases g2 with rfl | ⟨g2, rfl⟩
      · go_wp2_with (first | (go_at_call 12; refine num_go _ _ _ ?_) | fail)
        go_meet
        case rel => exact ⟨rfl, HB3.out⟩
      · have hx2 : ((e2 : Int) != 0) = true := by rw [bne_iff_ne]; omega
        go_wp2_with (first | (go_at_call 12; refine num_go _ _ _ ?_) | fail)
        go_meet
        case rel => exact ⟨rfl, HB3.out⟩
    · have hx1 : ((e1 : Int) != 0) = true := by rw [bne_iff_ne]; omega
      rcases g2 with rfl | ⟨g2, rfl⟩
      · go_wp2_with (first | (go_at_call 12; refine num_go _ _ _ ?_) | fail)
        go_meet
        case rel => exact ⟨rfl, HB3.out⟩
      · have hx2 : ((e2 : Int) != 0) = true := by rw [bne_iff_ne]; omega
        go_wp2_with (first | (go_at_call 12; refine num_go _ _ _ ?_) | fail)
        go_meet
        case rel => exact ⟨rfl, HB3.out⟩
  case rest =>
  obtain ⟨rfl, hb3⟩ := hcut
  have HB3 := hide hb3
  generalize wc = wc3 at *
  clear hb3 HB2 HB1 HL
  go_upto_if 49 with (first | (go_at_call 12; refine num_go _ _ _ ?_) | fail)
  go_cut [] from 9 (fun w' => Two w w0 w')
  case first =>
    obtain ⟨S, hr, rfl, rfl⟩ | ⟨x, hr, -, hxe⟩ := HC1.out
    · clear HC1
      obtain ⟨hpp, hSl, hSn⟩ := print_parse hr
      have h0 := pReqO hpp wc3 (by omega) (HE.out.keep HB3.out.a)
      dsimp only at h0
      rw [List.length_map] at h0
      have HQ := hide h0
      have HXA := hide (HX.out.keep HB3.out.b)
      clear hr hpp hSl hSn h0 
      go_wp2_with fail
      refine HQ.out.mono ?_
      rintro e wa ⟨pa, pc, rfl, hoa, -, hba⟩
      have HBa := hide (HB3.out.trans hba)
      have HXa := hide (HXA.out.keep hba)
      have HQ9 : Hid (Q4 27 (wa.alloc (.cells #[.string (str q.m), .string (str q.t), .slice pa q.fs.length pc, .string (str q.b)] 27)) wa.heap.size (.string (str q.m)) (.string (str q.t)) (.slice pa q.fs.length pc) (.string (str q.b))) := new_at _ _ _ rfl
      have HBb := hide (HBa.out.alloc (.cells #[.string (str q.m), .string (str q.t), .slice pa q.fs.length pc, .string (str q.b)] 27))
      have HPR := hide ((FOwn.row hoa).keep (below_new wa (.cells #[.string (str q.m), .string (str q.t), .slice pa q.fs.length pc, .string (str q.b)] 27)))
      clear hba HQ HXA hoa
      go_upto_region 7 with fail
      have HXb := hide (HXa.out.keep (below_new wa (.cells #[.string (str q.m), .string (str q.t), .slice pa q.fs.length pc, .string (str q.b)] 27)))
      clear HXa
      generalize hb9 : wa.heap.size = b9 at *
      generalize wa.alloc (.cells #[.string (str q.m), .string (str q.t), .slice pa q.fs.length pc, .string (str q.b)] 27) = wb at *
      obtain ⟨x0, x1, x2, x3⟩ := HXb.out.cells
      have HAS := hide (asked_any q ao k c1 wb HK1.out (by have := HKB1.out; omega) (HR.out.keep HBb.out.a))
      go_wp2_with fail
      refine HAS.out.mono ?_
      rintro e wc ⟨so, sc, rfl, hoc, hbc⟩
      have HBc := hide (HBb.out.trans hbc)
      have HQ9c := hide (HQ9.out.keep hbc)
      have HPRc := hide (HPR.out.keep hbc)
      have HQ12 : Hid (Q4 32 (wc.alloc (.cells #[.string (str q.m), .string (str q.t), .slice so k sc, .string (str q.b)] 32)) wc.heap.size (.string (str q.m)) (.string (str q.t)) (.slice so k sc) (.string (str q.b))) := new_at _ _ _ rfl
      have HBd := hide (HBc.out.alloc (.cells #[.string (str q.m), .string (str q.t), .slice so k sc, .string (str q.b)] 32))
      have HWD := hide (below_new wc (.cells #[.string (str q.m), .string (str q.t), .slice so k sc, .string (str q.b)] 32))
      have HSRd := hide ((FOwn.row hoc).keep (below_new wc (.cells #[.string (str q.m), .string (str q.t), .slice so k sc, .string (str q.b)] 32)))
      have HSZ : Hid (b9 < wc.heap.size ∧ w.heap.size ≤ wc.heap.size ∧ w0.heap.size ≤ wc.heap.size ∧ (wc.alloc (.cells #[.string (str q.m), .string (str q.t), .slice so k sc, .string (str q.b)] 32)).heap.size = wc.heap.size + 1) := by
        have h1 := HBb.out.a.size
        have h2 := hbc.size
        have h3 := (Array.getElem?_eq_some_iff.1 (show wb.heap[b9]? = _ from HQ9.out)).1
        exact ⟨by omega, HBc.out.a.size, HBc.out.b.size, by simp⟩
      clear hbc hoc HAS HXb HQ9 HPR x0 x1 x2 x3
      go_upto_region 8 with fail
      generalize hb12 : wc.heap.size = b12 at *
      generalize wc.alloc (.cells #[.string (str q.m), .string (str q.t), .slice so k sc, .string (str q.b)] 32) = wd at *
      obtain ⟨z0, z1, z2, z3⟩ := HQ12.out.cells
      have HSM := hide (smallF_any so q.fs k sc wd HK1.out (by have := HKB1.out; omega) HSRd.out (fun f hf => by have := (HZ1.out f hf).1; omega))
      go_wp2_with fail
      refine HSM.out.mono ?_
      rintro e we ⟨v, rfl, hoe, hbe⟩
      obtain ⟨vo, vc, rfl, -, -, -⟩ := FOwn.shape hoe
      rw [List.length_map] at hoe ⊢
      have HQ12e := hide (HQ12.out.keep hbe)
      have fz := HQ12e.out.frozen 2
      have HQ12f := hide (HQ12e.out.set2 (.slice vo q.fs.length vc))
      have HFRf : Hid (FRow (we.setCell ⟨b12, 2, none⟩ (.slice vo q.fs.length vc)) vo (q.fs.map lowF)) := FOwn.row (FOwn.setOther hoe b12 2 (by have := HSZ.out.2.2.2; omega) (.slice vo q.fs.length vc))
      have HBK : Hid (Below wc.heap.size wc (we.setCell ⟨b12, 2, none⟩ (.slice vo q.fs.length vc))) := by rw [hb12]; exact HWD.out.trans ((show Below b12 wd we from hbe.mono (by have := HSZ.out.2.2.2; omega)).setCell (Nat.le_refl _) _)
      have HQ9f : Hid (Q4 27 (we.setCell ⟨b12, 2, none⟩ (.slice vo q.fs.length vc)) b9 (.string (str q.m)) (.string (str q.t)) (.slice pa q.fs.length pc) (.string (str q.b))) := HQ9c.out.keep HBK.out
      have HPRf : Hid (FRow (we.setCell ⟨b12, 2, none⟩ (.slice vo q.fs.length vc)) pa (q.fs.map lowF)) := HPRc.out.keep HBK.out
      have HBf : Hid (Two w w0 (we.setCell ⟨b12, 2, none⟩ (.slice vo q.fs.length vc))) := ⟨(HBd.out.trans hbe).a.setCell (by show _ ≤ b12; have := HSZ.out.2.1; omega) _, (HBd.out.trans hbe).b.setCell (by show _ ≤ b12; have := HSZ.out.2.2.1; omega) _⟩
      have HSME := hide (fun W a b => request_same q.m q.t q.b (q.fs.map lowF) pa vo q.fs.length pc vc W (List.length_map _).symm (by have := HKB1.out; have := HK1.out; omega) a b)
      obtain ⟨u0, u1, u2, u3⟩ := HQ12e.out.cells
      clear hbe hoe HSM HQ12 HQ12e HQ9c HPRc HSRd HBK HWD z0 z1 z2 z3
      have HSMF := hide (HSME.out _ HPRf.out HFRf.out)
      go_upto_region 9 with fail
      obtain ⟨r0, r1, r2, r3⟩ := HQ9f.out.cells
      obtain ⟨t0, t1, t2, t3⟩ := HQ12f.out.cells
      generalize we.setCell ⟨b12, 2, none⟩ (.slice vo q.fs.length vc) = wf at *
      clear u0 u1 u2 u3 fz
      go_wp2_with (first | (go_at_call 12; refine num_go _ _ _ ?_) | fail)
      refine HSMF.out.mono ?_
      rintro e wg ⟨rfl, hbg⟩
      have HBg := hide (HBf.out.trans hbg)
      clear hbg
      go_wp2_with (first | (go_at_call 12; refine num_go _ _ _ ?_) | fail)
      go_meet
      case rel => exact HBg.out
    · clear HC1
      have hx0 : x ≠ 0 := printReq_ne hr
      rw [← hxe] at hx0
      have hxn : ((e1 : Int) == 0) = false := by rw [beq_eq_false_iff_ne]; omega
      clear hr hx0 hxe
      go_wp2_with fail
      go_meet
      case rel => exact HB3.out
  case rest =>
  have HB5 := hide hcut
  generalize wc = wc5 at *
  clear hcut HB3 HC1
  go_upto_if 77 with (first | (go_at_call 12; refine num_go _ _ _ ?_) | fail)
  go_cut [] from 13 (fun w' => Two w w0 w')
  case first =>
    obtain ⟨S, hr, rfl, rfl⟩ | ⟨x, hr, -, hxe⟩ := HC2.out
    · clear HC2
      obtain ⟨hpp, hSl, hSn, hn100, hn599⟩ := print_parseS hr
      have h0 := parseResponseO hpp wc5 (by omega) (HE.out.keep HB5.out.a)
      dsimp only at h0
      rw [List.length_map] at h0
      have hnn : ((n2.toNat : Nat) : Int) = n2 := by omega
      rw [hnn] at h0
      have HQ := hide h0
      have HXA := hide (HY.out.keep HB5.out.b)
      clear hr hpp hSl hSn h0 hnn hn100 hn599
      go_wp2_with fail
      refine HQ.out.mono ?_
      rintro e wa ⟨pa, pc, rfl, hoa, -, hba⟩
      have HBa := hide (HB5.out.trans hba)
      have HXa := hide (HXA.out.keep hba)
      have HQ9 : Hid (Q3 39 (wa.alloc (.cells #[.int .i64 n2, .slice pa fs2.length pc, .string (str b2)] 39)) wa.heap.size (.int .i64 n2) (.slice pa fs2.length pc) (.string (str b2))) := new_at _ _ _ rfl
      have HBb := hide (HBa.out.alloc (.cells #[.int .i64 n2, .slice pa fs2.length pc, .string (str b2)] 39))
      have HPR := hide ((FOwn.row hoa).keep (below_new wa (.cells #[.int .i64 n2, .slice pa fs2.length pc, .string (str b2)] 39)))
      clear hba HQ HXA hoa
      go_upto_region 13 with fail
      have HXb := hide (HXa.out.keep (below_new wa (.cells #[.int .i64 n2, .slice pa fs2.length pc, .string (str b2)] 39)))
      clear HXa
      generalize hb9 : wa.heap.size = b9 at *
      generalize wa.alloc (.cells #[.int .i64 n2, .slice pa fs2.length pc, .string (str b2)] 39) = wb at *
      obtain ⟨x0, x1, x2⟩ := HXb.out.cells
      have HAS := hide (answered_any n2 fs2 b2 ao2 k2 c2 wb HK2.out (by have := HKB2.out; omega) (HR2.out.keep HBb.out.a))
      go_wp2_with fail
      refine HAS.out.mono ?_
      rintro e wc ⟨so, sc, rfl, hoc, hbc⟩
      have HBc := hide (HBb.out.trans hbc)
      have HQ9c := hide (HQ9.out.keep hbc)
      have HPRc := hide (HPR.out.keep hbc)
      have HQ12 : Hid (Q3 43 (wc.alloc (.cells #[.int .i64 n2, .slice so k2 sc, .string (str b2)] 43)) wc.heap.size (.int .i64 n2) (.slice so k2 sc) (.string (str b2))) := new_at _ _ _ rfl
      have HBd := hide (HBc.out.alloc (.cells #[.int .i64 n2, .slice so k2 sc, .string (str b2)] 43))
      have HWD := hide (below_new wc (.cells #[.int .i64 n2, .slice so k2 sc, .string (str b2)] 43))
      have HSRd := hide ((FOwn.row hoc).keep (below_new wc (.cells #[.int .i64 n2, .slice so k2 sc, .string (str b2)] 43)))
      have HSZ : Hid (b9 < wc.heap.size ∧ w.heap.size ≤ wc.heap.size ∧ w0.heap.size ≤ wc.heap.size ∧ (wc.alloc (.cells #[.int .i64 n2, .slice so k2 sc, .string (str b2)] 43)).heap.size = wc.heap.size + 1) := by
        have h1 := HBb.out.a.size
        have h2 := hbc.size
        have h3 := (Array.getElem?_eq_some_iff.1 (show wb.heap[b9]? = _ from HQ9.out)).1
        exact ⟨by omega, HBc.out.a.size, HBc.out.b.size, by simp⟩
      clear hbc hoc HAS HXb HQ9 HPR x0 x1 x2
      go_upto_region 14 with fail
      generalize hb12 : wc.heap.size = b12 at *
      generalize wc.alloc (.cells #[.int .i64 n2, .slice so k2 sc, .string (str b2)] 43) = wd at *
      obtain ⟨z0, z1, z2⟩ := HQ12.out.cells
      have HSM := hide (smallF_any so fs2 k2 sc wd HK2.out (by have := HKB2.out; omega) HSRd.out (fun f hf => by have := (HZ2.out f hf).1; omega))
      go_wp2_with fail
      refine HSM.out.mono ?_
      rintro e we ⟨v, rfl, hoe, hbe⟩
      obtain ⟨vo, vc, rfl, -, -, -⟩ := FOwn.shape hoe
      rw [List.length_map] at hoe ⊢
      have HQ12e := hide (HQ12.out.keep hbe)
      have fz := HQ12e.out.frozen 1
      have HQ12f := hide (HQ12e.out.set1 (.slice vo fs2.length vc))
      have HFRf : Hid (FRow (we.setCell ⟨b12, 1, none⟩ (.slice vo fs2.length vc)) vo (fs2.map lowF)) := FOwn.row (FOwn.setOther hoe b12 1 (by have := HSZ.out.2.2.2; omega) (.slice vo fs2.length vc))
      have HBK : Hid (Below wc.heap.size wc (we.setCell ⟨b12, 1, none⟩ (.slice vo fs2.length vc))) := by rw [hb12]; exact HWD.out.trans ((show Below b12 wd we from hbe.mono (by have := HSZ.out.2.2.2; omega)).setCell (Nat.le_refl _) _)
      have HQ9f : Hid (Q3 39 (we.setCell ⟨b12, 1, none⟩ (.slice vo fs2.length vc)) b9 (.int .i64 n2) (.slice pa fs2.length pc) (.string (str b2))) := HQ9c.out.keep HBK.out
      have HPRf : Hid (FRow (we.setCell ⟨b12, 1, none⟩ (.slice vo fs2.length vc)) pa (fs2.map lowF)) := HPRc.out.keep HBK.out
      have HBf : Hid (Two w w0 (we.setCell ⟨b12, 1, none⟩ (.slice vo fs2.length vc))) := ⟨(HBd.out.trans hbe).a.setCell (by show _ ≤ b12; have := HSZ.out.2.1; omega) _, (HBd.out.trans hbe).b.setCell (by show _ ≤ b12; have := HSZ.out.2.2.1; omega) _⟩
      have HSME := hide (fun W a b => response_same n2 b2 (fs2.map lowF) pa vo fs2.length pc vc W (List.length_map _).symm (by have := HKB2.out; have := HK2.out; omega) a b)
      obtain ⟨u0, u1, u2⟩ := HQ12e.out.cells
      clear hbe hoe HSM HQ12 HQ12e HQ9c HPRc HSRd HBK HWD z0 z1 z2
      have HSMF := hide (HSME.out _ HPRf.out HFRf.out)
      go_upto_region 15 with fail
      obtain ⟨r0, r1, r2⟩ := HQ9f.out.cells
      obtain ⟨t0, t1, t2⟩ := HQ12f.out.cells
      generalize we.setCell ⟨b12, 1, none⟩ (.slice vo fs2.length vc) = wf at *
      clear u0 u1 u2 fz
      go_wp2_with (first | (go_at_call 12; refine num_go _ _ _ ?_) | fail)
      refine HSMF.out.mono ?_
      rintro e wg ⟨rfl, hbg⟩
      have HBg := hide (HBf.out.trans hbg)
      clear hbg
      go_wp2_with (first | (go_at_call 12; refine num_go _ _ _ ?_) | fail)
      go_meet
      case rel => exact HBg.out
    · clear HC2
      have hx0 : x ≠ 0 := printResp_ne hr
      rw [← hxe] at hx0
      have hxn : ((e2 : Int) == 0) = false := by rw [beq_eq_false_iff_ne]; omega
      clear hr hx0 hxe
      go_wp2_with fail
      go_meet
      case rel => exact HB5.out
  case rest =>
  go_wp2_with fail
  go_ret
  exact ⟨rfl, hcut.a⟩
end Go.Proofs.YtaenccjlokiejaaGreatDoor
