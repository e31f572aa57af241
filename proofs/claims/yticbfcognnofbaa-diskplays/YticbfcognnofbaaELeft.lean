/- The contract of the document's Left. -/
import Derived.Test.YticbfcognnofbaaEOpA
import Derived.Test.YticbfcognnofbaaDOurs
namespace Go.Proofs.Yticbfcognnofbaa
open Go.RowKit Go.Maps

theorem ROwn.lower {w : World} {B B' : Nat} {v : Value} {l : List (Nm × List Nat)} {us : List Value} (h : ROwn w B v l us) (hb : B' ≤ B) : ROwn w B' v l us :=
  ⟨h.len, owns_lower h.row hb, h.own, fun i u g h1 h2 => ⟨Nat.le_trans hb (h.new i u g h1 h2).1, (h.new i u g h1 h2).2⟩⟩
theorem below_up2 {u v w : World} (h : Below u.heap.size u v) (k : Below v.heap.size v w) : Below u.heap.size u w := h.trans (k.mono h.size)
/-- What a power failure leaves of a file, as the document says it. -/
def leftE (f : Fl) (ts : List Int) (i : Nat) : Nat := if i < ts.length then part (tailOf ts i) (f.bys.length - f.syn) else 0
theorem leftE_eq (f : Fl) (ts : List Int) (i : Nat) : leftF f (tailOf ts i) = f.bys.take (f.syn + leftE f ts i) := by
  unfold leftE
  split
  · rfl
  · rw [leftF_tail (by omega), Nat.add_zero]
theorem leftE_le (f : Fl) (ts : List Int) (i : Nat) (h : f.syn ≤ f.bys.length) : f.syn + leftE f ts i ≤ f.bys.length := by
  unfold leftE part
  split <;> omega
set_option maxHeartbeats 8000000 in
set_option maxRecDepth 100000 in
theorem eleft_free (rp : Nat) (S : DS) (L : RL) (dir : Int) (ao : Option Addr) (tn tc : Nat) (ts : List Int) (w : World) (h : RRep w rp S L) (hO : Ok S) (ht : IRow w ao ts) (htn : tn = ts.length) (htl : tn ≤ 4611686018427387904) :
    Calls Try.prog 40 #[pf rp, .int .i64 dir, .slice ao tn tc] w fun e w' => ∃ vao m cap, e = .returned (.slice vao m cap) ∧ (∃ us, ROwn w' w.heap.size (.slice vao m cap) (left S dir ts) us) ∧ m = (left S dir ts).length ∧ Below w.heap.size w w' := by
  obtain ⟨c0, c1, c2, c3, c4, c5, c6, c7⟩ := h.c
  obtain ⟨cao, ccap, hcv⟩ := ownsRow_slice h.chg
  rw [hcv] at c4
  have H := hide h
  have HO := hide hO
  have HT := hide ht
  have HTN := hide htn
  have HTL := hide htl
  have hcl : S.chg.length ≤ 1048576 := by have := hO.clen; have := hO.ops; omega
  have HCL := hide hcl
  have HP := hide (epart_any dir S.chg.length w (by omega))
  obtain ⟨m0, hm0⟩ : ∃ m, m = part dir S.chg.length := ⟨_, rfl⟩
  have hm0l : m0 ≤ S.chg.length := by rw [hm0]; exact Nat.min_le_right _ _
  have HM0 := hide hm0
  have HM0L := hide hm0l
  rw [← hm0] at HP
  have HCG : Hid (∀ k c, S.chg[k]? = some c → ∃ g, cao = some ⟨g, 0, none⟩ ∧ w.cell? ⟨g, k * 3, none⟩ = some (.string (str c.fr)) ∧ w.cell? ⟨g, k * 3 + 1, none⟩ = some (.string (str c.tn)) ∧ w.cell? ⟨g, k * 3 + 2, none⟩ = some (.int .i64 (c.fl : Int)) ∧ S.chg.length ≤ ccap) := fun k c hc => by
    obtain ⟨g, cap, e, k1, k2, k3, k4⟩ := h.change hc
    rw [hcv] at e
    injection e with e1 _ e2
    exact ⟨g, e1, k1, k2, k3, by rw [e2]; exact k4⟩
  obtain ⟨W0, hW0⟩ : ∃ W0, W0 = w.heap.size := ⟨_, rfl⟩
  have HW := hide hW0
  rw [← hW0]
  have HSV := hide h.safe
  obtain ⟨sao, scap, hsv⟩ := ownsRow_slice h.safe
  rw [hsv] at c3 HSV
  unfold pf
  obtain ⟨LL, hLL⟩ : ∃ LL, LL = left S dir ts := ⟨_, rfl⟩
  have HLL := hide hLL
  rw [← hLL]
  clear h hO ht htn htl hcv hcl hm0 hm0l hW0 hsv c0 c1 c2 c5 c6 c7 hLL
  go_enter Try.func40, Try.ntmps40
  go_wp2_with (first | (go_at_call 68; refine HP.out.mono ?_; rintro e w2 ⟨rfl, hw⟩; have hw2 := hw.symm; subst hw2; clear hw) | fail)
  go_loopw [7, 9] (fun v i wr => ∃ k : Nat, k ≤ m0 ∧ i = .int .i64 (k : Int) ∧ Hid (EOwn wr 0 v (chds S.safe (S.chg.take k))) ∧ Hid (Below W0 w wr)) (fun _ i _ => m0 - (intOf i).toNat)
  case atStart => exact ⟨0, Nat.zero_le _, rfl, HSV, Below.refl _ _⟩
  case round =>
    obtain ⟨k, hk, rfl, HV, HB⟩ := hrel
    obtain ⟨vao, vcap, hv⟩ := ownsRow_slice HV.out
    subst hv
    have hbw : Below w.heap.size w wr := by rw [← HW.out]; exact HB.out
    have d4 := cell_kept c4 hbw
    by_cases hlt : k < m0
    · have hki : (k : Int) < (m0 : Int) := by omega
      have hkc : k < S.chg.length := by have := HM0L.out; omega
      obtain ⟨c, hc⟩ : ∃ c, S.chg[k]? = some c := ⟨_, List.getElem?_eq_getElem hkc⟩
      obtain ⟨g, rfl, x1, x2, x3, x4⟩ := HCG.out k c hc
      have y1 := cell_kept x1 hbw
      have y2 := cell_kept x2 hbw
      have y3 := cell_kept x3 hbw
      have hdk := HO.out.hist k
      have HCH := hide (echanged_any _ (chds S.safe (S.chg.take k)) 0 c wr HV.out (by have := hdk.len; omega) (fun p hp => (isNm_ne (hdk.name p hp)).1))
      have HNX : Hid (chd c (chds S.safe (S.chg.take k)) = chds S.safe (S.chg.take (k + 1))) := by show _ = _; rw [List.take_add_one, hc]; simp [chds]
      rw [HNX.out] at HCH
      have hkc2 : (k : Int) < (S.chg.length : Int) := by omega
      have hkb : (k : Int) + 1 ≤ 4611686018427387904 := by have := HCL.out; omega
      generalize S.chg.length = cl at *
      generalize str c.fr = s1 at *
      generalize str c.tn = s2 at *
      clear hdk hbw x1 x2 x3 hc HNX
      go_wp2_with (first | (go_at_call 69; refine HCH.out.mono ?_; rintro e w3 ⟨u3, rfl, h3, -, b3⟩; have H3 := hide h3; have B3 := hide (HB.out.trans (b3.mono (by have := HB.out.size; have := HW.out; omega))); clear h3 b3) | fail)
      go_roundw
      case rel => exact ⟨k + 1, by omega, by simp, H3, B3⟩
      case measure => simp [intOf]; omega
    · have hki : ¬ (k : Int) < (m0 : Int) := by omega
      obtain rfl : k = m0 := by omega
      have HDK := hide (HO.out.hist k)
      have HLF : Hid (LL = (chds S.safe (S.chg.take k)).map fun p => (p.1, leftF (flAt S.files p.2) (tailOf ts p.2))) := by show _ = _; rw [HLL.out]; unfold left; rw [← HM0.out]
      have HR2 := hide (H.out.below hbw)
      have HT2 := hide (HT.out.keep hbw)
      generalize chds S.safe (S.chg.take k) = D at *
      obtain ⟨n, hn⟩ : ∃ n, n = D.length := ⟨_, rfl⟩
      have HN := hide hn
      have HNL : Hid (n = LL.length) := by show _ = _; rw [HLF.out, List.length_map]; exact hn
      have HD64 : Hid (n ≤ 64) := by rw [hn]; exact HDK.out.len
      rw [← hn] at HV ⊢
      obtain ⟨W2, hW2⟩ : ∃ W2, W2 = wr.heap.size := ⟨_, rfl⟩
      have HW2 := hide hW2
      have HW02 : Hid (W0 ≤ W2) := by have := HB.out.size; have := HW.out; show _ ≤ _; omega
      clear hn hW2 hbw HCG HP HSV c3 c4 d4 H HT hki hlt hk
      generalize wr = w2 at *
      go_wp2_with fail
      go_loopw [10, 11] (fun v i wq => ∃ (q : Nat) (us : List Value), q ≤ n ∧ i = .int .i64 (q : Int) ∧ Hid (ROwn wq W2 v (LL.take q) us) ∧ Hid (Below W2 w2 wq)) (fun _ i _ => n - (intOf i).toNat)
      case atStart => exact ⟨0, [], Nat.zero_le _, rfl, by rw [List.take_zero]; exact rown_nil _ _, Below.refl _ _⟩
      case round =>
        obtain ⟨q, us, hq, rfl, HFO, HBF⟩ := hrel
        have hltk : (LL.take q).length = q := by rw [List.length_take]; have := HNL.out; omega
        obtain ⟨oao, ocap, hv⟩ := ownsRow_slice HFO.out.row
        rw [hltk] at hv
        subst hv
        by_cases hqn : q < n
        · obtain ⟨⟨pn, pi⟩, hp⟩ : ∃ p, D[q]? = some p := ⟨_, List.getElem?_eq_getElem (by rw [← HN.out]; exact hqn)⟩
          have hpi : pi < S.files.length := HDK.out.num _ (List.mem_of_getElem? hp)
          obtain ⟨gl, rfl, x1, x2, -, hlcap⟩ := HV.out.at hp
          obtain ⟨gf, cf, bo, bc, e3, hcf, hus, y1, y2, y3, y4⟩ := HR2.out.file hpi
          have hbq : Below w2.heap.size w2 wr := by rw [← HW2.out]; exact HBF.out
          have z1 := cell_kept x1 hbq
          have z2 := cell_kept x2 hbq
          have z3 := cell_kept y1 hbq
          have z4 := cell_kept y2 hbq
          have z5 : wr.cell? ⟨rp, 1, none⟩ = some (.slice (some ⟨gf, 0, none⟩) S.files.length cf) := by rw [← e3]; exact cell_kept HR2.out.c.2.1 hbq
          have hfo := Fok.at HO.out.file pi
          have HLX : Hid (LL[q]? = some (pn, (flAt S.files pi).bys.take ((flAt S.files pi).syn + leftE (flAt S.files pi) ts pi))) := by show _ = _; rw [HLF.out, List.getElem?_map, hp, Option.map_some, leftE_eq]
          have hle := leftE_le (flAt S.files pi) ts pi hfo.syn
          -- the file's bytes, cut
          have HSL : Hid (∃ ao' cap', (∀ W, (Instr.slice 36 (.slice bo (flAt S.files pi).bys.length bc) none (some (.int .i64 (((flAt S.files pi).syn + leftE (flAt S.files pi) ts pi : Nat) : Int))) none).run Try.prog W = .ok (.slice ao' ((flAt S.files pi).syn + leftE (flAt S.files pi) ts pi) cap') W) ∧ Row w2 ao' ((flAt S.files pi).bys.take ((flAt S.files pi).syn + leftE (flAt S.files pi) ts pi))) := by
            have e1 : S.files[pi]? = some (flAt S.files pi) := by simp [flAt, List.getD, hpi]
            rcases own_dec (HR2.out.byte pi _ _ hus e1) with ⟨ea, eb⟩ | ⟨g, cap, ea, hle2, hr⟩
            · have e0 : (flAt S.files pi).syn + leftE (flAt S.files pi) ts pi = 0 := by rw [eb] at hle; simpa using hle
              injection ea with ea1 ea2 ea3
              refine ⟨none, 0, ?_, .inl (by rw [eb]; simp)⟩
              rw [e0, ea1, ea2, ea3]
              exact slice_to_nil
            · injection ea with ea1 _ ea3
              subst ea1; subst ea3
              exact ⟨some ⟨g, 0, none⟩, bc, slice_to g 0 _ bc _ _ rfl (by omega), hr.takeN _⟩
          obtain ⟨fao, fcap, hsl, hrow⟩ := HSL.out
          have HFW := hide (hrow.keep hbq)
          have HLEN : Hid ((flAt S.files pi).syn + leftE (flAt S.files pi) ts pi = ((flAt S.files pi).bys.take ((flAt S.files pi).syn + leftE (flAt S.files pi) ts pi)).length) := by show _ = _; rw [List.length_take]; omega
          have HPT : Hid (∀ m, pi < ts.length → Calls Try.prog 68 #[.int .i64 (tailOf ts pi), .int .i64 (((flAt S.files pi).bys.length - (flAt S.files pi).syn : Nat) : Int)] m fun e w' => e = .returned (.int .i64 ((leftE (flAt S.files pi) ts pi : Nat) : Int)) ∧ w' = m) := fun m hlt => by
            have := epart_any (tailOf ts pi) ((flAt S.files pi).bys.length - (flAt S.files pi).syn) m (by have := hfo.len; omega)
            rw [show leftE (flAt S.files pi) ts pi = part (tailOf ts pi) ((flAt S.files pi).bys.length - (flAt S.files pi).syn) by unfold leftE; rw [if_pos hlt]]
            exact this
          have HTC : Hid (pi < ts.length → ∃ tb toff, ao = some ⟨tb, toff, none⟩ ∧ wr.cell? ⟨tb, toff + pi, none⟩ = some (.int .i64 (tailOf ts pi))) := fun hlt => by
            rcases HT2.out with e | ⟨tb, toff, e, hc⟩
            · rw [e] at hlt; simp at hlt
            · exact ⟨tb, toff, e, cell_kept (hc pi hlt) hbq⟩
          have HZ : Hid (¬ pi < ts.length → leftE (flAt S.files pi) ts pi = 0) := fun hlt => by unfold leftE; rw [if_neg hlt]
          have hbl4 := hfo.len
          have hsy := hfo.syn
          have hsub : IntKind.i64.wrap ((((flAt S.files pi).bys.length : Nat) : Int) - (((flAt S.files pi).syn : Nat) : Int)) = (((flAt S.files pi).bys.length - (flAt S.files pi).syn : Nat) : Int) := by rw [IntKind.wrap_i64]; omega
          have hsub2 : wrap64 ((((flAt S.files pi).bys.length : Nat) : Int) - (((flAt S.files pi).syn : Nat) : Int)) = (((flAt S.files pi).bys.length - (flAt S.files pi).syn : Nat) : Int) := by unfold wrap64; omega
          obtain ⟨sl, hsle⟩ : ∃ sl, sl = (flAt S.files pi).syn + leftE (flAt S.files pi) ts pi := ⟨_, rfl⟩
          have hadd : (((flAt S.files pi).syn : Nat) : Int) + ((leftE (flAt S.files pi) ts pi : Nat) : Int) = (sl : Int) := by omega
          have haddb : (((flAt S.files pi).syn : Nat) : Int) + ((leftE (flAt S.files pi) ts pi : Nat) : Int) ≤ 4611686018427387904 := by omega
          obtain ⟨xs, hxs⟩ : ∃ xs, xs = (flAt S.files pi).bys.take ((flAt S.files pi).syn + leftE (flAt S.files pi) ts pi) := ⟨_, rfl⟩
          rw [← hxs] at HLX HFW HLEN
          rw [← hsle] at hsl HLEN
          have HXL : Hid (xs.length ≤ 4194304) := by rw [hxs, List.length_take]; show _ ≤ _; omega
          have hpt : pi < ts.length ↔ (pi : Int) < (tn : Int) := by have := HTN.out; omega
          have HPTN := hide hpt
          have hW2r : W2 ≤ wr.heap.size := by have := hbq.size; have := HW2.out; omega
          have HW2R := hide hW2r
          have HSTEP : Hid (∀ (W w' : World) (uao : Option Addr) (un ucap : Nat) (ao9 : Option Addr) (cap9 : Nat) (o : Obj), Below wr.heap.size wr W → Own W 0 (.slice uao un ucap) xs → (∀ g, (Value.slice uao un ucap).ownBlock = some g → wr.heap.size ≤ g) → w'.ownsRow W2 104 2 (.slice ao9 (q + 1) cap9) (q + 1) (fcells (LL.take q) us ++ [.string (str pn), .slice uao un ucap]) → (W.alloc o).grownBy w' (Value.slice oao q ocap).ownBlock → (Value.ownBlock (.slice ao9 (q + 1) cap9) = (Value.slice oao q ocap).ownBlock ∨ Value.ownBlock (.slice ao9 (q + 1) cap9) = some (W.alloc o).heap.size) → ROwn w' W2 (.slice ao9 (q + 1) cap9) (LL.take (q + 1)) (us ++ [.slice uao un ucap]) ∧ Below W2 w2 w') := fun W w' uao un ucap ao9 cap9 o g1 g2 g3 g4 g5 g6 => by
            have := rown_step (x := (pn, xs)) HFO.out hW2r g1 g2 g3 (by rw [hltk]; exact g4) g5 (by rw [hltk]; exact g6)
            rw [hltk] at this
            rw [List.take_add_one, HLX.out]
            exact ⟨this.1, HBF.out.trans this.2⟩
          have HROW := hide HFO.out.row
          rw [hltk] at HROW
          have hqi : (q : Int) < (n : Int) := by omega
          have hqb : (q : Int) + 1 ≤ 4611686018427387904 := by have := HD64.out; omega
          have HQ40 : Hid ((q + 1) * 40 ≤ 140737488355328) := by have := HD64.out; show _ ≤ _; omega
          have hpf : (pi : Int) < (S.files.length : Int) := by omega
          simp only at z1 z2
          clear hsle hxs hp hpi x1 x2 y1 y2 y3 y4 e3 hus hfo hle hrow HSL hbl4 hsy hpt hW2r hbq hltk HFO HLX hq hqn
          generalize (flAt S.files pi).bys.length - (flAt S.files pi).syn = bs at *
          generalize (flAt S.files pi).bys.length = bl at *
          generalize (flAt S.files pi).syn = sy at *
          generalize leftE (flAt S.files pi) ts pi = le at *
          generalize tailOf ts pi = tl at *
          generalize S.files.length = fl at *
          generalize str pn = sn at *
          go_upto_region 11 with fail
          go_cut [12] (fun c wx => c = .pointer (some ⟨wr.heap.size, 0, none⟩) ∧ wx = (wr.alloc (.cells #[.slice bo bl bc, .int .i64 (sy : Int)] 108)).drew)
          case first =>
            have k1 := cell_kept z2 (below_new wr (.cells #[.slice none 0 0, .int .i64 0] 108))
            have k2 := cell_kept z3 (below_new wr (.cells #[.slice none 0 0, .int .i64 0] 108))
            have k3 := cell_kept z4 (below_new wr (.cells #[.slice none 0 0, .int .i64 0] 108))
            have k4 := cell_kept z5 (below_new wr (.cells #[.slice none 0 0, .int .i64 0] 108))
            go_region
            all_goals
              (try go_wp2_with fail)
              go_meet
              case rel => exact ⟨rfl, rfl⟩
          case rest =>
            obtain ⟨rfl, hwc⟩ := hcut
            have HBV : Hid (Below wr.heap.size wr wc) := by rw [hwc]; exact below_drewN (below_new wr _) 1
            have HVB : Hid (Bl wc wr.heap.size [.slice bo bl bc, .int .i64 (sy : Int)] 108) := by rw [hwc]; exact Bl.new wr _ _
            obtain ⟨V, hV⟩ : ∃ V, V = wr.heap.size := ⟨_, rfl⟩
            rw [← hV] at HVB ⊢
            clear hwc hV
            generalize wc = w5 at *
            have v0 : w5.cell? ⟨V, 0, none⟩ = some (.slice bo bl bc) := HVB.out.cell 0
            have v1 : w5.cell? ⟨V, 1, none⟩ = some (.int .i64 (sy : Int)) := HVB.out.cell 1
            have m1 := cell_kept z1 HBV.out
            have m2 := cell_kept z2 HBV.out
            clear z1 z2 z3 z4 z5
            go_upto_if 63 with fail
            go_cut [13] (fun c wy => c = .int .i64 (le : Int) ∧ ∃ m, wy = w5.drewN m)
            case first =>
              clear hadd haddb hsl hqb
              by_cases hlt : (pi : Int) < (tn : Int)
              · have hlt2 := HPTN.out.2 hlt
                obtain ⟨tb, toff, rfl, htcell⟩ := HTC.out hlt2
                have ht2 := cell_kept htcell HBV.out
                have HPC : Hid (∀ m, Calls Try.prog 68 #[.int .i64 tl, .int .i64 (bs : Int)] (w5.drewN m) fun e w' => e = .returned (.int .i64 (le : Int)) ∧ w' = w5.drewN m) := fun m => HPT.out (w5.drewN m) hlt2
                clear hlt2 htcell HPT HTC HZ
                go_upto_region 14 with fail
                go_quiet ((go_at_call 68; exact Calls.quiet_of_same (HPC.out _)))
                go_wp2_with fail
                go_meet
                case rel => exact ⟨rfl, _, rfl⟩
              · have hz0 := HZ.out (fun hc => hlt (HPTN.out.1 hc))
                subst hz0
                clear HPT HTC HZ
                go_wp2_with fail
                go_meet
                case rel => exact ⟨rfl, 0, rfl⟩
            case rest =>
              obtain ⟨rfl, m, hwm⟩ := hcut
              have HBW : Hid (Below wr.heap.size wr wc) := by rw [hwm]; exact below_drewN HBV.out m
              have n0 : wc.cell? ⟨V, 0, none⟩ = some (.slice bo bl bc) := by rw [hwm]; exact v0
              have n1 : wc.cell? ⟨V, 1, none⟩ = some (.int .i64 (sy : Int)) := by rw [hwm]; exact v1
              have n2 : wc.cell? ⟨gl, q * 2, none⟩ = some (.string sn) := by rw [hwm]; exact m1
              have hsw : IntKind.i64.wrap (sl : Int) = (sl : Int) := by have := HLEN.out; have := HXL.out; rw [IntKind.wrap_i64]; omega
              have hsw2 : wrap64 (sl : Int) = (sl : Int) := by have := HLEN.out; have := HXL.out; unfold wrap64; omega
              have HYE := hide ((HFW.out.keep HBW.out).keep (below_new wc (.cells #[] 5)))
              have HE := hide (own_new wc 0 [] (Nat.zero_le _) (Nat.zero_le _))
              have p0 := cell_kept n0 (below_new wc (.cells #[] 5))
              have p1 := cell_kept n1 (below_new wc (.cells #[] 5))
              have p2 := cell_kept n2 (below_new wc (.cells #[] 5))
              clear hwm v0 v1 m1 m2 HPT HTC HZ hsub hsub2 hpf HBV HVB hqb
              go_upto_region 15 with fail
              go_region_law (first
                | (refine law_appB rfl (.tmp 85) (.tmp 92) rfl (.slice (some ⟨wc.heap.size, 0, none⟩) 0 0) [] rfl HE.out fao sl fcap xs HLEN.out rfl HYE.out (by have := HXL.out; simp; omega) ?_; intro uao un ucap w6 h2 g2 l2; have HOU := hide (show Own w6 0 (.slice uao un ucap) xs from h2); have han := app_new (grown_undrew g2) l2; have HCUR := hide (below_up2 HBW.out han.1); have HNG : Hid (∀ g, (Value.slice uao un ucap).ownBlock = some g → wr.heap.size ≤ g) := (fun g hg => Nat.le_trans HBW.out.size (han.2 g hg)); have r2 := cell_kept n2 han.1; clear h2 g2 l2 han)
                | (refine law_appR rfl (.tmp 79) (.tmp 95) rfl W2 (.slice oao q ocap) q (fcells (LL.take q) us) [.string sn, .slice uao un ucap] rfl (World.ownsRow.alloc (owns_same HROW.out fun g hg => HCUR.out.block g (World.ownsRow.lt HROW.out g hg).2) _) _ rfl (Bl.new _ _ _) rfl (by intro x hx; simp only [List.mem_cons, List.not_mem_nil, or_false] at hx; rcases hx with rfl | rfl <;> rfl) HQ40.out (by have := HCUR.out.size; have := HW2R.out; simp; omega) ?_; intro ao9 cap9 w9 hn9 hg9 ho9; have HFI := hide (HSTEP.out _ w9 uao un ucap ao9 cap9 _ HCUR.out HOU.out HNG.out hn9 hg9 ho9); clear hn9 hg9 ho9))
              all_goals
                clear HSTEP HROW HOU HNG HCUR HE HYE n0 n1 n2 p0 p1 p2 r2
                have hqb : (q : Int) + 1 ≤ 4611686018427387904 := by have := HD64.out; omega
                go_wp2_with fail
                go_roundw
                case rel => exact ⟨q + 1, us ++ [.slice uao un ucap], by omega, by simp, hide HFI.out.1, hide HFI.out.2⟩
                case measure => simp [intOf]; omega
        · have hqi : ¬ (q : Int) < (n : Int) := by omega
          have hte : LL.take q = LL := List.take_of_length_le (by have := HNL.out; omega)
          rw [hte] at HFO
          obtain rfl : q = n := by omega
          clear hte hltk hqn
          go_wp2_with fail
          go_ret
          exact ⟨_, _, _, rfl, ⟨us, HFO.out.lower HW02.out⟩, HNL.out, HB.out.trans (HBF.out.mono HW02.out)⟩
theorem eleft_any (rp : Nat) (S : DS) (L : RL) (dir : Int) (ao : Option Addr) (tn tc : Nat) (ts : List Int) (w : World) (h : RRep w rp S L) (hO : Ok S) (ht : IRow w ao ts) (htn : tn = ts.length) (htl : tn ≤ 4611686018427387904) (_htc : tn ≤ tc) :
    Calls Try.prog 40 #[pf rp, .int .i64 dir, .slice ao tn tc] w fun e w' => ∃ vao m cap, e = .returned (.slice vao m cap) ∧ (∃ us, ROwn w' w.heap.size (.slice vao m cap) (left S dir ts) us) ∧ m = (left S dir ts).length ∧ Below w.heap.size w w' := eleft_free rp S L dir ao tn tc ts w h hO ht htn htl
end Go.Proofs.Yticbfcognnofbaa
