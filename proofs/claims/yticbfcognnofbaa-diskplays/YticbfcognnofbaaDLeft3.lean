/- The walk of Left: what a power failure leaves. -/
import Derived.Test.YticbfcognnofbaaDLeft2
namespace Go.Proofs.Yticbfcognnofbaa
open Go.RowKit Go.Maps

set_option maxHeartbeats 4000000 in
set_option maxRecDepth 100000 in
theorem disk_left (dp nx : Nat) (S : DS) (L : Lay) (dir : Int) (ao : Option Addr) (tn tc : Nat) (ts : List Int) (w : World) (h : Rep w dp S L nx) (hO : Ok S) (ht : IRow w ao ts) (htn : tn = ts.length) (htl : tn ≤ 4611686018427387904) :
    Calls Try.prog 22 #[pf dp, .agg #[.int .i64 dir, .slice ao tn tc]] w fun e w' => ∃ v, e = .returned v ∧ (∃ us, FOwn w' w.heap.size v (left S dir ts) us) ∧ Below w.heap.size w w' := by
  have HC := hide (Bl.new w #[.int .i64 dir, .slice ao tn tc] 39)
  have HU := hide (below_new w (.cells #[.int .i64 dir, .slice ao tn tc] 39))
  have HR := hide (h.below HU.out)
  have HT := hide (ht.keep HU.out)
  obtain ⟨N, hN⟩ : ∃ N, N = w.heap.size := ⟨_, rfl⟩
  obtain ⟨kao, kcap, hkv, hksh, hkc⟩ := kept_shape h.kept
  have HKV := hide hkv
  have HKS := hide hksh
  have HTN := hide htn
  have HTW := hide ht
  obtain ⟨l, hl⟩ : ∃ l, l = left S dir ts := ⟨_, rfl⟩
  rw [← hl]
  have HLDEF := hide hl
  obtain ⟨pk, hpk⟩ : ∃ pk, pk = part dir S.chg.length := ⟨_, rfl⟩
  have hpl : pk ≤ S.chg.length := by rw [hpk]; exact Nat.min_le_right _ _
  have hcl : S.chg.length ≤ 1048576 := by have := hO.clen; have := hO.ops; omega
  have hsl := slice_chg kao S.chg.length kcap pk hksh hpl hkc
  have HWI : Hid (∀ W, Calls Try.prog 58 #[.int .i64 dir, .int .i64 (S.chg.length : Int)] W fun e w' => e = .returned (.int .i64 (pk : Int)) ∧ w' = W) := fun W => by rw [hpk]; exact within_any dir S.chg.length W (by omega)
  have HPK := hide hpk
  have HPL := hide hpl
  obtain ⟨kn, hkn⟩ : ∃ n, n = S.chg.length := ⟨_, rfl⟩
  rw [← hkn] at HWI hsl HKV HKS hkc
  have HKN := hide hkn
  unfold pf
  clear h ht hkv hksh htn hpk hpl hkn hl
  go_enter Try.func22, Try.ntmps22
  go_upto_region 1 with fail
  rw [← hN] at HC ⊢
  have HNW := hide hN
  clear hN
  generalize w.alloc (.cells #[.int .i64 dir, .slice ao tn tc] 39) = u at *
  obtain ⟨c0, c1, c2, c3, c4, c5, c6, c7⟩ := HR.out.c
  have HMC := hide (mapClone_any L.sf L.bs S.safe u HR.out.safe)
  go_wp2_with (first | (go_at_call 57; refine HMC.out.mono ?_; rintro e w2 ⟨rfl, hd2, hb2⟩; have HD2 := hide hd2; have HB2 := hide hb2; have HR2 := hide (HR.out.below hb2); have HC2 := hide (HC.out.keep hb2); obtain ⟨e0, e1, e2, e3, e4, e5, e6, e7⟩ := HR2.out.c; have n0 : w2.cell? ⟨N, 0, none⟩ = some (.int .i64 dir) := HC2.out.cell 0; have n1 : w2.cell? ⟨N, 1, none⟩ = some (.slice ao tn tc) := HC2.out.cell 1; rw [HKV.out] at e2; clear hd2 hb2))
  have HT2 := hide (HT.out.keep HB2.out)
  have HMG : Hid (w.heap.size < u.heap.size ∧ u.heap.size < w2.heap.size) := by have h1 := HU.out.size; have h2 := HD2.out.lt; have h3 := HC.out.lt; have h4 := HNW.out; exact ⟨by omega, h2⟩
  have HB02 : Hid (Below w.heap.size w w2) := HU.out.trans (HB2.out.mono HU.out.size)
  obtain ⟨m, hm⟩ : ∃ m, m = u.heap.size := ⟨_, rfl⟩
  have HLT : Hid (∀ b ∈ L.blocks dp, b < m) := by rw [hm]; exact HR.out.lt
  have HNM : Hid (N < m) := by have := HC.out.lt; show _ < _; omega
  rw [← hm] at HD2 HMG ⊢
  clear hm c0 c1 c2 c3 c4 c5 c6 c7 HMC HB2 HR HC HT
  go_region_held (fun W => W.cell? ⟨dp, 2, none⟩ = some (.slice kao kn kcap) ∧ W.cell? ⟨N, 0, none⟩ = some (.int .i64 dir)) (go_keep) (first | (go_at_call 58; refine (HWI.out _).mono ?_; rintro e w3 ⟨rfl, hw3⟩; subst hw3))
  go_wp2_with fail
  have HKR := hide HR2.out.kept
  rw [HKV.out, ← HKN.out] at HKR
  have HBL := hide HR2.out.blen
  have HKB : Hid (∀ b, (Value.slice kao kn kcap).ownBlock = some b → b < m) := fun b hb => HLT.out b ((L.mem dp b).2 (.inr (.inr (.inr (.inl (mem_vb.2 (by rw [HKV.out]; exact hb)))))))
  clear e0 e1 e2 e3 e4 e5 e6 e7 n0 n1 hsl
  have HOK := hide hO
  clear hO
  have hpkb : (pk : Int) + 1 ≤ 4611686018427387904 := by have := HPL.out; omega
  have hpc : pk ≤ kcap := by have := HPL.out; have := HKN.out; omega
  go_loopw [32] (fun i wr => ∃ k : Nat, k ≤ pk ∧ i = .int .i64 (k : Int) ∧ Hid (DirAt wr m L.bs (chds S.safe (S.chg.take k))) ∧ Hid (Below m w2 wr)) (fun i _ => pk - (intOf i).toNat)
  case atStart => exact ⟨0, Nat.zero_le _, rfl, HD2.out.same rfl, below_drewN (Below.refl _ _) 1⟩
  case round =>
    obtain ⟨k, hk, rfl, HD, HF⟩ := hrel
    by_cases hlt : k < pk
    · obtain ⟨c, hc⟩ : ∃ c, S.chg[k]? = some c := ⟨_, List.getElem?_eq_getElem (by have := HPL.out; omega)⟩
      obtain ⟨g, rfl⟩ : ∃ g, kao = some ⟨g, 0, none⟩ := by
        rcases HKS.out with ⟨_, e, _⟩ | e
        · have := HPL.out; have := HKN.out; omega
        · exact e
      have hrow : wr.ownsRow 0 94 3 (.slice (some ⟨g, 0, none⟩) kn kcap) kn (S.chg.flatMap (chCells L.bs)) := owns_same HKR.out fun b hb => HF.out.block b (HKB.out b hb)
      obtain ⟨k0, k1, k2⟩ := kept_cells hrow hc
      obtain ⟨po, hpv⟩ : ∃ po, (if c.tn = [] then Value.pointer none else pf (L.bs.getD c.fl 0)) = Value.pointer po := by
        by_cases e : c.tn = []
        · exact ⟨none, by rw [if_pos e]⟩
        · exact ⟨_, by rw [if_neg e]; rfl⟩
      rw [hpv] at k2
      have HCC := HOK.out.cok c (List.mem_of_getElem? hc)
      have HDO := hide (fun W hW => doneOn_any c L.bs m (chds S.safe (S.chg.take k)) W hW HCC.fr HCC.tn (fun e => by rw [HBL.out]; exact HCC.num e) (by have := (HOK.out.hist k).len; omega))
      rw [← chds_take hc, show (chCells L.bs c).toArray = #[.string (str c.fr), .string (str c.tn), .pointer po] by rw [← hpv]; rfl] at HDO
      have hkn : (k : Int) < (pk : Int) := by omega
      clear hrow hc hpv HCC
      generalize str c.fr = sfr at *
      generalize str c.tn = stn at *
      go_upto_region 7 with fail
      have HDN := hide (HD.out.alloc (.cells #[.string sfr, .string stn, .pointer po] 94))
      have HFN := hide (HF.out.trans ((below_new wr (.cells #[.string sfr, .string stn, .pointer po] 94)).mono (by have := HD.out.lt; omega)))
      have HV := hide (Bl.new wr #[.string sfr, .string stn, .pointer po] 94)
      obtain ⟨M, hM⟩ : ∃ M, M = wr.heap.size := ⟨_, rfl⟩
      rw [← hM] at HV ⊢
      clear k0 k1 k2 hM HD HF
      generalize wr.alloc (.cells #[.string sfr, .string stn, .pointer po] 94) = wv at *
      obtain ⟨v0, v1, v2⟩ := HV.out.three
      have HC7 := hide (HDO.out wv HDN.out)
      go_wp2_with (first | (go_at_call 56; refine HC7.out.mono ?_; rintro e w3 ⟨rfl, hd3, hf3⟩; have HD3 := hide hd3; have HF3 := hide (HFN.out.trans (hf3.below m (by have := HDN.out.lt; omega) (fun x hx => by rw [List.mem_singleton.1 hx]; exact Nat.le_refl _))); clear hd3 hf3 v0 v1 v2))
      go_roundw
      case rel => exact ⟨k + 1, by omega, by simp, HD3, HF3⟩
      case measure => simp [intOf]; omega
    · have hkn : ¬ (k : Int) < (pk : Int) := by omega
      obtain rfl : k = pk := by omega
      have HD5 := HD
      have HOD := HOK.out.hist k
      have HRI := hide (rising_any m L.bs (chds S.safe (S.chg.take k)) wr HD.out HOD.rising (by have := HOD.len; omega))
      have HODH := hide HOD
      clear HOD
      obtain ⟨D, hD⟩ : ∃ D, D = chds S.safe (S.chg.take k) := ⟨_, rfl⟩
      have HDD := hide hD
      rw [← hD] at HRI HD HODH
      clear hD
      go_wp2_with (first | (go_at_call 52; refine HRI.out.mono ?_; rintro e w5 ⟨lv, rfl, h5, g5, b5⟩; obtain ⟨lao, lcap, rfl⟩ := ownsRow_slice h5; have H5 := hide h5; have B5 := hide b5; clear h5 g5 b5))
      have HB25 : Hid (Below m w2 w5) := HF.out.trans (B5.out.mono (by have := HD.out.lt; omega))
      have HBW5 : Hid (Below w.heap.size w w5) := HB02.out.trans (HB25.out.mono (by have := HMG.out.1; omega))
      have HR5 : Hid (Rep w5 dp S L nx) := HR2.out.keep HB25.out.size (fun b hb => HB25.out.block b (HLT.out b hb))
      have HD5' : Hid (DirAt w5 m L.bs D) := HD.out.same (B5.out.block m HD.out.lt)
      have HT5 := hide (HTW.out.keep HBW5.out)
      have HC5 : Hid (Bl w5 N [.int .i64 dir, .slice ao tn tc] 39) := HC2.out.below HB25.out HNM.out
      obtain ⟨B1, hB1⟩ : ∃ B1, B1 = w5.heap.size := ⟨_, rfl⟩
      have HB1 := hide hB1
      have HL : Hid (l = D.map fun p => (p.1, leftF (flAt S.files p.2) (tailOf ts p.2))) := by show _ = _; rw [HLDEF.out, HDD.out]; unfold left; rw [← HPK.out]
      have HLL : Hid (l.length = D.length) := by show _ = _; rw [HL.out, List.length_map]
      obtain ⟨n, hn⟩ : ∃ n, n = D.length := ⟨_, rfl⟩
      have hn64 : n ≤ 64 := by rw [hn]; exact HODH.out.len
      have HN := hide hn
      have e1 : (D.map (·.1)).length = n := by rw [List.length_map, hn]
      rw [e1] at H5
      rw [← hn] at HLL ⊢
      clear hn e1 hB1 hkn hpkb hpc hlt HRI HDD HD HF HD5 HKR HR2 HB25 HC2 HT2 HWI
      go_loopw [8, 43] (fun v i wr => ∃ (q : Nat) (us : List Value), q ≤ n ∧ i = .int .i64 (q : Int) ∧ Hid (FOwn wr B1 v (l.take q) us) ∧ Hid (Below B1 w5 wr)) (fun _ i _ => n - (intOf i).toNat)
      case atStart => exact ⟨0, [], Nat.zero_le _, rfl, by rw [List.take_zero]; exact fown_nil _ _, Below.refl _ _⟩
      case round =>
        obtain ⟨q, us, hq, rfl, HFO, HBF⟩ := hrel
        have hltk : (l.take q).length = q := by rw [List.length_take]; have := HLL.out; omega
        obtain ⟨vao, vcap, hv⟩ := ownsRow_slice HFO.out.row
        rw [hltk] at hv
        subst hv
        have HS5 : Hid (B1 ≤ wr.heap.size) := by have := HBF.out.size; have := HB1.out; show _ ≤ _; omega
        by_cases hqn : q < n
        · obtain ⟨p, hp⟩ : ∃ p, D[q]? = some p := ⟨_, List.getElem?_eq_getElem (by rw [← HN.out]; exact hqn)⟩
          have hpm := List.mem_of_getElem? hp
          have hlq : l[q]? = some (p.1, leftF (flAt S.files p.2) (tailOf ts p.2)) := by rw [HL.out, List.getElem?_map, hp]; rfl
          obtain ⟨lg, rfl⟩ : ∃ g, lao = some ⟨g, 0, none⟩ := by
            rcases H5.out.2 with ⟨e, e2⟩ | ⟨g, cap', cur, e, _⟩
            · rw [List.length_map] at e2; have := HN.out; omega
            · injection e with e _ _; exact ⟨g, e⟩
          have hc0 : wr.cell? ⟨lg, q, none⟩ = some (.string (str p.1)) := by
            have h1 := H5.out.at (k := q) (nm := p.1) (by rw [List.getElem?_map, hp]; rfl)
            rw [HBF.out.cell (p := ⟨lg, q, none⟩) (by have h2 : lg < w5.heap.size := World.block_lt_of_cell? w5 _ h1; have := HB1.out; show lg < B1; omega)]
            exact h1
          have hcapl : n ≤ lcap := by
            rcases H5.out.2 with ⟨e, _⟩ | ⟨g', cap', cur, e, _, _, h3, _⟩
            · cases e
            · injection e with _ e2 e3; rw [List.length_map] at h3; have := HN.out; omega
          obtain ⟨fb, fao, fcap, f1, f2, f3, f4, f5, f6⟩ := HR5.out.at (HODH.out.num p hpm)
          have hnl := (isNm_ne (HODH.out.name p hpm)).2
          have HLK : Hid (∀ W, Below wr.heap.size wr W → (Instr.lookup 84 (.map (some m)) (.string (str p.1)) false).run Try.prog W = .ok (.pointer (some ⟨fb, 0, none⟩)) W) := fun W hW => by
            have hD : DirAt W m L.bs D := HD5'.out.same ((hW.block m (by have := HD5'.out.lt; have := HBF.out.size; omega)).trans (HBF.out.block m (by have := HD5'.out.lt; have := HB1.out; omega)))
            have := hD.look (nm := p.1) (by unfold maxLen; omega)
            rw [this, dget_of HODH.out.rising (show (p.1, p.2) ∈ D from hpm)]
            show _ = _
            rw [← f2]
            rfl
          have HTL : Hid (∀ W, Below wr.heap.size wr W → W.cell? ⟨N, 1, none⟩ = some (.slice ao tn tc)) := fun W hW => by
            have h1 : w5.cell? ⟨N, 1, none⟩ = some (.slice ao tn tc) := HC5.out.cell 1
            have h2 := HC5.out.lt
            have h3 := HBF.out.size
            have h4 := HB1.out
            rw [hW.cell (p := ⟨N, 1, none⟩) (by show N < _; omega), HBF.out.cell (p := ⟨N, 1, none⟩) (by show N < B1; omega)]
            exact h1
          have HLF : Hid (∀ W, Below wr.heap.size wr W → Calls Try.prog 59 #[.pointer (some ⟨fb, 0, none⟩), .slice ao tn tc] W fun e w' => ∃ uao un ucap, e = .returned (.slice uao un ucap) ∧ Own w' 0 (.slice uao un ucap) (leftF (flAt S.files p.2) (tailOf ts p.2)) ∧ (∀ g, (Value.slice uao un ucap).ownBlock = some g → wr.heap.size ≤ g) ∧ Below W.heap.size W w') := fun W hW => by
            have hBW : Below B1 w5 W := HBF.out.trans (hW.mono HS5.out)
            have h4 : Bl W fb _ _ := f4.below hBW (by rw [HB1.out]; exact f4.lt)
            have h5 : Own W 0 _ _ := owns_same f5 fun b hb => hBW.block b (by rw [HB1.out]; exact (World.ownsRow.lt f5 b hb).2)
            have h6 : IRow W ao ts := HT5.out.keep (by rw [← HB1.out]; exact hBW)
            have := left_any fb p.2 (flAt S.files p.2) _ ao tc ts W h4 h5 (Fok.at HOK.out.file p.2) h6 (by rw [← HTN.out]; exact htl)
            rw [← HTN.out] at this
            refine this.mono fun e w' ⟨u, h1, h2, h3, h4⟩ => ?_
            obtain ⟨uao, un, ucap, rfl⟩ := own_shape h2
            exact ⟨uao, un, ucap, h1, h2, fun g hg => Nat.le_trans hW.size (h3 g hg), h4⟩
          have HCL : Hid (∀ W, Calls Try.prog 53 #[.string (str p.1)] W fun e w' => e = .returned (.string (str p.1)) ∧ Below W.heap.size W w') := fun W => clone_any (str p.1) W (by rw [str_size]; omega)
          have HSTEP : Hid (∀ (W w' : World) (uao : Option Addr) (un ucap : Nat) (ao9 : Option Addr) (cap9 : Nat) (o : Obj), Below wr.heap.size wr W → Own W 0 (.slice uao un ucap) (leftF (flAt S.files p.2) (tailOf ts p.2)) → (∀ g, (Value.slice uao un ucap).ownBlock = some g → wr.heap.size ≤ g) → w'.ownsRow B1 54 2 (.slice ao9 (q + 1) cap9) (q + 1) (fcells (l.take q) us ++ [.string (str p.1), .slice uao un ucap]) → (W.alloc o).grownBy w' (Value.slice vao q vcap).ownBlock → (Value.ownBlock (.slice ao9 (q + 1) cap9) = (Value.slice vao q vcap).ownBlock ∨ Value.ownBlock (.slice ao9 (q + 1) cap9) = some (W.alloc o).heap.size) → FOwn w' B1 (.slice ao9 (q + 1) cap9) (l.take (q + 1)) (us ++ [.slice uao un ucap]) ∧ Below B1 w5 w') := fun W w' uao un ucap ao9 cap9 o g1 g2 g3 g4 g5 g6 => by
            have := fown_step (x := (p.1, leftF (flAt S.files p.2) (tailOf ts p.2))) HFO.out HS5.out g1 g2 g3 (by rw [hltk]; exact g4) g5 (by rw [hltk]; exact g6)
            rw [hltk] at this
            rw [List.take_add_one, hlq]
            exact ⟨this.1, HBF.out.trans this.2⟩
          have HROW := hide HFO.out.row
          rw [hltk] at HROW
          have hqi : (q : Int) < (n : Int) := by omega
          have hqb : (q : Int) + 1 ≤ 4611686018427387904 := by omega
          have lk := HLK.out wr.drew (below_drewN (Below.refl _ _) 1)
          have tl := HTL.out wr.drew (below_drewN (Below.refl _ _) 1)
          have HCUR : Hid (Below wr.heap.size wr wr.drew) := below_drewN (Below.refl _ _) 1
          generalize str p.1 = s at *
          clear hp hpm hlq f1 f2 f3 f4 f5 f6 hnl hltk HFO
          go_upto_region 13 with fail
          go_region_law (first
            | (refine law_call rfl 49 rfl 53 #[.string s] (by unfold execOp; simp; go_simp) (HCL.out _) ?_; rintro ε wa ⟨rfl, hb⟩; refine ⟨_, rfl, ?_⟩; have hcur := HCUR.out.trans (hb.mono HCUR.out.size); clear HCUR; have HCUR := hide hcur; have lka := HLK.out wa hcur; have tla := HTL.out wa hcur; first | (have hou := HOU.out.keep hb; clear HOU; have HOU := hide hou; clear hou hcur hb) | (clear hcur hb))
            | (refine law_call rfl 55 rfl 59 #[.pointer (some ⟨fb, 0, none⟩), .slice ao tn tc] (by unfold execOp; simp; go_simp) (HLF.out _ HCUR.out) ?_; rintro ε wb ⟨uao, un, ucap, rfl, hou, hng, hb⟩; refine ⟨_, rfl, ?_⟩; have hcur := HCUR.out.trans (hb.mono HCUR.out.size); clear HCUR; have HCUR := hide hcur; have HOU := hide hou; have HNG := hide hng; clear hou hng hcur hb)
            | (refine law_appF rfl (.tmp 47) (.tmp 57) rfl B1 (.slice vao q vcap) q (fcells (l.take q) us) [.string s, .slice uao un ucap] rfl (World.ownsRow.alloc (owns_same HROW.out fun g hg => HCUR.out.block g (World.ownsRow.lt HROW.out g hg).2) _) _ rfl (Bl.new _ _ _) rfl (by intro x hx; simp only [List.mem_cons, List.not_mem_nil, or_false] at hx; rcases hx with rfl | rfl <;> rfl) (by omega) (by have := HCUR.out.size; have := HS5.out; simp; omega) ?_; intro ao9 cap9 w9 hn9 hg9 ho9; have HFI := hide (HSTEP.out _ w9 uao un ucap ao9 cap9 _ HCUR.out HOU.out HNG.out hn9 hg9 ho9); clear hn9 hg9 ho9))
          all_goals
            clear HLK HTL HLF HCL HSTEP HROW HOU HNG HCUR lk tl lka tla
            go_wp2_with fail
            go_roundw
            case rel => exact ⟨q + 1, us ++ [.slice uao un ucap], by omega, by simp, hide HFI.out.1, hide HFI.out.2⟩
            case measure => simp [intOf]; omega
        · have hqi : ¬ (q : Int) < (n : Int) := by omega
          have hte : l.take q = l := List.take_of_length_le (by have := HLL.out; omega)
          rw [hte] at HFO
          have HFI : Hid ((∃ us, FOwn wr w.heap.size (.slice vao q vcap) l us) ∧ Below w.heap.size w wr) := ⟨⟨us, HFO.out.lower (by have := HBW5.out.size; have := HB1.out; omega)⟩, HBW5.out.trans (HBF.out.mono (by have := HBW5.out.size; have := HB1.out; omega))⟩
          clear hte hltk
          go_wp2_with fail
          go_ret
          exact ⟨_, rfl, HFI.out⟩
end Go.Proofs.Yticbfcognnofbaa
