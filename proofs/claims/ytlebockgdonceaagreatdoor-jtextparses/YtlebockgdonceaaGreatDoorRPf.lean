/- The document's str. -/
import Derived.Test.YtlebockgdonceaaGreatDoorRPe
import Derived.Test.YtlebockgdonceaaGreatDoorKDec
import Derived.Lib.AppendStr
namespace Go.Proofs.YtlebockgdonceaaGreatDoor
open Go.RowKit

theorem strCells_eq (s : ByteArray) : Lib.strCells s = (sbytes s).map bv := by
  simp [Lib.strCells, sbytes, bv]
theorem wpList_append_text {w : World} {ops : Array Oper} {rest : List Oper} {o : Oper} {a : Act} {Q : Exit → Act → World → Prop} (hgd : o.guard = none) (sl x : Operand)
    (ho : o.op = .call { callee := .builtin .append, args := #[sl, x], argTypes := #[62, 9] }) (B : Nat) (v : Value) (xs : List Nat) (hs : a.eval sl = v) (hown : Own w B v xs)
    (s : ByteArray) (hx : a.eval x = .string s) (hsz : xs.length + s.size ≤ 140737488355328) (hB : B ≤ w.heap.size)
    (h : ∀ v' w', Own w' B v' (xs ++ sbytes s) → w.grownBy w' v.ownBlock → wpList Tryz.prog ops Q rest (a.put o.dst v') w') : wpList Tryz.prog ops Q (o :: rest) a w := by
  obtain ⟨i0, hi, hz0, hz1, hz2⟩ := info_parts info8
  refine wpList_plain hgd fun K hK => ?_
  obtain ⟨v', w', hrun, h1, h2, _⟩ := Lib.run_append_own_string (P := Tryz.prog) w B 62 9 o.type 5 i0 Tryz.underlying62 Tryz.underlying9 hi hz0 hz1 hz2 v xs.length (xs.map bv) hown s (by unfold maxLen; omega) hsz hB
  unfold Oper.wp
  simp [execOp, ho, resolve, invoke, builtin, hs, hx, hrun, Result.andThen]
  refine hK _ _ (h v' w' ?_ h2)
  unfold Own
  rw [List.length_append, sbytes_length, List.map_append, ← strCells_eq]
  exact h1
def chY (c : Ch) : Int := match c with
  | .ok m => (m : Int)
  | .error false => 0
  | .error true => -1
/-- What the document's char and the texts' characters are: laid in by those who have them. -/
structure ChFacts (s : ByteArray) : Prop where
  ch : ∀ q (W : World), q < s.size → Calls Tryz.prog 34 #[.string s, .int .i64 (q : Int)] W fun e w' => e = .returned (.int .i64 (chY (chr ((sbytes s).drop q)))) ∧ Below W.heap.size W w'
  ev : ∀ q r t, escAt (sbytes s) q = .ok r t → r < 1114112
/-- What str answers. -/
def TxtAns (o : Out By) (w : World) (ε : Ending) (w' : World) : Prop := match o with
  | .ok t q => ε = .returned (gotV 4 (bstr t) (.slice none 0 0) (.slice none 0 0) q 0 0) ∧ (∀ x ∈ t, x < 256) ∧ Below w.heap.size w w'
  | .error e q => ε = .returned (badV e q) ∧ Below w.heap.size w w'
theorem txt_ok {o : Out By} {t : By} {q : Nat} {w w' : World} (h : o = .ok t q) (ht : ∀ x ∈ t, x < 256) (hb : Below w.heap.size w w') : TxtAns o w (.returned (gotV 4 (bstr t) (.slice none 0 0) (.slice none 0 0) q 0 0)) w' := by
  rw [h]; exact ⟨rfl, ht, hb⟩
theorem txt_bad {o : Out By} {e q : Nat} {w w' : World} (h : o = .error e q) (hb : Below w.heap.size w w') : TxtAns o w (.returned (badV e q)) w' := by
  rw [h]; exact ⟨rfl, hb⟩
theorem str_step {s : By} {f q : Nat} {acc : By} : strAt s (f + 1) q acc = if q < s.length then
      if bt s q = 34 then .ok acc (q + 1)
      else if bt s q < 32 then .error 41 q
      else if bt s q = 92 then
        match escAt s q with
        | .error e t => .error e t
        | .ok r t => strAt s f t (acc ++ utf r)
      else match chr (s.drop q) with
        | .ok k => strAt s f (q + k) (acc ++ (s.drop q).take k)
        | .error false => .error 43 q
        | .error true => .error 3 s.length
    else .error 3 s.length := by rw [strAt]; rfl
theorem own_grow {B : Nat} {w0 w w' : World} {v : Value} {xs : List Nat} (h : Below B w0 w) (hg : w.grownBy w' v.ownBlock) (ho : Own w B v xs) (hB : B ≤ w.heap.size) : Below B w0 w' := h.grown hg hB ho.ge
/-- Where str stands. -/
structure rp_SI (N n : Nat) (l : By) (R : Out By) (w1 wr : World) (v : Value) (q : Nat) : Prop where
  ex : ∃ acc f, Own wr (N + 1) v acc ∧ (∀ x ∈ acc, x < 256) ∧ acc.length ≤ 4 * q ∧ n < q + f ∧ strAt l f q acc = R
  bel : Below (N + 1) w1 wr
set_option maxHeartbeats 4000000 in
set_option maxRecDepth 100000 in
theorem rstr_any (s : ByteArray) (p : Nat) (w : World) (hC : ChFacts s) (hp : p < s.size) (hs : s.size ≤ 16384) : Calls Tryz.prog 19 #[.string s, .int .i64 (p : Int)] w fun ε w' => TxtAns (textAt (sbytes s) p) w ε w' := by
  have hsl := sbytes_length s
  have hix := str_index s
  have HC := hide hC
  have HES := hide (fun q W hq => rescape_any s q W hq hs)
  have HEB := hide (fun q r t => @escAt_bounds (sbytes s) q r t)
  have HE0 := hide (fun q t e => @escAt_bad (sbytes s) q t e)
  have HOK := hide (fun t q w' => @txt_ok (textAt (sbytes s) p) t q w w')
  have HBD := hide (fun e q w' => @txt_bad (textAt (sbytes s) p) e q w w')
  have HST := hide (fun f q acc => @str_step (sbytes s) f q acc)
  have HBA := hide rbad_any
  have HSL := hide (sbytes_lt s)
  have HMID := hide (fun a b h1 h2 => str_mid s a b (a : Int) (b : Int) rfl rfl h1 h2)
  have HBL := hide (bt_lt s)
  rw [hsl] at HE0 HST HEB
  have HS := hide hs
  have hp1 : (p : Int) + 1 = ((p + 1 : Nat) : Int) := by omega
  have hw1 : IntKind.i64.wrap ((p + 1 : Nat) : Int) = ((p + 1 : Nat) : Int) := by rw [IntKind.wrap_i64]; omega
  have HP := hide hp
  have HSI : Hid (strAt (sbytes s) ((sbytes s).length + 1) (p + 1) [] = textAt (sbytes s) p) := hide rfl
  rw [hsl] at HSI
  have HGN := hide (GZ.new w)
  have HBN := hide (below_new w (.cells #[.int .i64 0, .string { data := #[] }, .slice none 0 0, .slice none 0 0, .int .i64 0, .int .i64 0, .int .i64 0] 41))
  have hz1 : (w.alloc (.cells #[.int .i64 0, .string { data := #[] }, .slice none 0 0, .slice none 0 0, .int .i64 0, .int .i64 0, .int .i64 0] 41)).heap.size = w.heap.size + 1 := by simp
  have HSB : Hid (sbytes s = sbytes s) := hide rfl
  generalize textAt (sbytes s) p = R at *
  obtain ⟨l, hl⟩ : ∃ l, l = sbytes s := ⟨_, rfl⟩
  rw [← hl] at HES HEB HE0 HST HSI hix HBL HMID HSL
  have HLE := hide hl
  generalize hn : s.size = n at *
  clear hsl hs hp hC HSB hl
  go_enter Tryz.func19, Tryz.ntmps19
  go_upto_region 1 with fail
  obtain ⟨w1, hw1e⟩ : ∃ x, x = w.alloc (.cells #[.int .i64 0, .string { data := #[] }, .slice none 0 0, .slice none 0 0, .int .i64 0, .int .i64 0, .int .i64 0] 41) := ⟨_, rfl⟩
  rw [← hw1e] at HGN HBN hz1 ⊢
  have HZ1 := hide hz1
  obtain ⟨N, hN⟩ : ∃ N, N = w.heap.size := ⟨_, rfl⟩
  have HNW := hide hN
  rw [← hN] at HGN HZ1 ⊢
  clear hw1e hz1 hN
  generalize hp1n : p + 1 = p1 at *
  have HP1 := hide hp1n
  clear hp1n
  go_wp2_with fail
  go_loopw [5, 6] (fun v a wr => ∃ q : Nat, a = .int .i64 (q : Int) ∧ q ≤ n ∧ Hid (rp_SI N n l R w1 wr v q)) (fun _ a _ => n + 1 - (intOf a).toNat)
  case atStart => exact ⟨p1, rfl, by have := HP.out; have := HP1.out; omega, hide ⟨⟨[], n + 1, own_nil _ _, (fun x hx => by cases hx), by simp, by have := HP1.out; omega, HSI.out⟩, Below.refl _ _⟩⟩
  case round =>
    obtain ⟨q, rfl, hq, hs⟩ := hrel
    obtain ⟨⟨acc, f, ho, hab, hal, hnf, hR⟩, hbel⟩ := hs.out
    obtain ⟨f', rfl⟩ : ∃ f', f = f' + 1 := ⟨f - 1, by omega⟩
    have HBW : Hid (Below (N + 1) w1 wr) := hide hbel
    have HGR : Hid (GZ wr N) := hide ((hbel.block N (by omega)).trans HGN.out)
    have HWW : Hid (Below w.heap.size w wr) := hide (by have e := HNW.out; exact HBN.out.trans (hbel.mono (by omega)))
    have HNZ : Hid (N = w.heap.size ∧ N < wr.heap.size) := hide ⟨HNW.out, HGR.out.lt⟩
    rw [HST.out] at hR
    have HO := hide ho
    have HAB := hide hab
    have HAL := hide hal
    have HNF := hide hnf
    clear hs ho hab hal hnf hbel
    by_cases hin : q < n
    · have hin' : (q : Int) < (n : Int) := by omega
      have hge' : ¬ (n : Int) ≤ (q : Int) := by omega
      rw [if_pos hin] at hR
      have hx : ∀ W, (Instr.index 9 (.string s) (.int .i64 (q : Int))).run Tryz.prog W = .ok (.int .u8 ((bt l q : Nat) : Int)) W := hix q hin
      have hw1 : IntKind.i64.wrap ((q : Int) + 1) = ((q + 1 : Nat) : Int) := by have := HS.out; rw [IntKind.wrap_i64]; omega
      have HIN := hide hin
      clear hq hin hix
      by_cases h34 : bt l q = 34
      · rw [if_pos h34] at hR
        rw [h34] at hx
        have HE := hide (HOK.out acc (q + 1))
        have HRR := hide hR.symm
        obtain ⟨ao, cp, rfl, -, hro⟩ := HO.out.read
        have hcv := conv_row cp hro
        obtain ⟨⟨c0, c1, c2, c3, c4, c5, c6⟩, f0, f1, f2, f3, f4, f5, f6⟩ := HGR.out.facts
        unfold gotV at HE
        clear h34 hR hro
        generalize acc.length = an at *
        generalize bstr acc = SA at *
        go_wp2_with fail
        refine bodyPost_ret (got_results rfl rfl (putG_bl HGR.out _ _ _ _ _ _ _)) rfl ?_
        exact HE.out _ HRR.out HAB.out (HWW.out.trans ((putG_but wr N _ _ _ _ _ _ _).below (by have := HNZ.out.1; omega) HWW.out.size))
      rw [if_neg h34] at hR
      have e34 : (((bt l q : Nat) : Int) == 34) = false := by simp; omega
      by_cases h32 : bt l q < 32
      · rw [if_pos h32] at hR
        have e32 : ((bt l q : Nat) : Int) < 32 := by omega
        have HB3 := hide (HBA.out 41 q)
        have HE := hide (HBD.out 41 q)
        have HRR := hide hR.symm
        unfold badV gotV at HB3 HE
        clear h34 h32 hR
        generalize bt l q = c at *
        go_wp2_with (go_at_call 16; refine (HB3.out _).mono ?_; rintro ε w5 ⟨rfl, h5⟩; have HG5 := hide (HGR.out.keep h5); have H5 := hide (HWW.out.trans (h5.mono HWW.out.size)); obtain ⟨⟨c0, c1, c2, c3, c4, c5, c6⟩, f0, f1, f2, f3, f4, f5, f6⟩ := HG5.out.facts; clear h5)
        refine bodyPost_ret (got_results rfl rfl (putG_bl HG5.out _ _ _ _ _ _ _)) rfl ?_
        exact HE.out _ HRR.out (H5.out.trans ((putG_but w5 N _ _ _ _ _ _ _).below (by have := HNZ.out.1; omega) H5.out.size))
      rw [if_neg h32] at hR
      have e32 : ¬ ((bt l q : Nat) : Int) < 32 := by omega
      by_cases h92 : bt l q = 92
      · rw [if_pos h92] at hR
        rw [h92] at hx
        have HESQ := hide (HES.out q wr HIN.out)
        clear h34 h32 h92 e34 e32
        cases hes : escAt l q with
        | error e t =>
          rw [hes] at hR HESQ
          have he0 : e ≠ 0 := (HE0.out q t e HIN.out hes).2.2.2.1
          have he0' : ((e : Int) != 0) = true := by simp; omega
          have HB3 := hide (HBA.out e t)
          have HE := hide (HBD.out e t)
          have HRR := hide hR.symm
          unfold badV gotV at HB3 HE
          clear hes he0 hR
          go_wp2_with (first
            | (go_at_call 33; refine HESQ.out.mono ?_; rintro ε w4 ⟨rfl, h4⟩; have HG4 := hide (HGR.out.keep h4); have H4 := hide (HWW.out.trans (h4.mono HWW.out.size)); clear h4)
            | (go_at_call 16; refine (HB3.out _).mono ?_; rintro ε w5 ⟨rfl, h5⟩; have HG5 := hide (HG4.out.keep h5); have H5 := hide (H4.out.trans (h5.mono H4.out.size)); obtain ⟨⟨c0, c1, c2, c3, c4, c5, c6⟩, f0, f1, f2, f3, f4, f5, f6⟩ := HG5.out.facts; clear h5))
          refine bodyPost_ret (got_results rfl rfl (putG_bl HG5.out _ _ _ _ _ _ _)) rfl ?_
          exact HE.out _ HRR.out (H5.out.trans ((putG_but w5 N _ _ _ _ _ _ _).below (by have := HNZ.out.1; omega) H5.out.size))
        | ok r t =>
          rw [hes] at hR HESQ
          simp only at hR
          obtain ⟨ht1, ht2⟩ := HEB.out q r t hes
          have HR1 := hide (HC.out.ev q r t (by rw [← HLE.out]; exact hes))
          have HRR := hide hR
          have HT1 := hide ht1
          have HT2 := hide ht2
          have HUL := hide (utf_len r)
          obtain ⟨ao0, cp0, rfl, -, -⟩ := HO.out.read
          clear hes hR ht1 ht2
          generalize hgl : acc.length = an at *
          have HGL := hide hgl
          clear hgl
          go_wp2_with (first
            | (go_at_call 33; refine HESQ.out.mono ?_; rintro ε w4 ⟨ao4, k4, cp4, rfl, hk4, hr4, h4⟩; have HK4 := hide hk4; have HR4 := hide hr4; have HO4 := hide (HO.out.keep h4); have HB4 := hide (HBW.out.trans (h4.mono (by have := HNZ.out; omega))); clear hk4 hr4 h4)
            | (at_builtin; refine wpList_append_bytes rfl _ _ rfl (N + 1) _ acc rfl HO4.out ao4 k4 cp4 (utf r) HK4.out rfl HR4.out (by have := HAL.out; have := HIN.out; have := HS.out; have := HUL.out.2; have := HGL.out; omega) (by have := HB4.out.size; have := HNZ.out; have := HZ1.out; omega) ?_))
          rintro v6 w6 hown6 hgr6
          have HB6 : Hid (Below (N + 1) w1 w6) := hide (own_grow HB4.out hgr6 HO4.out (by have := HB4.out.size; have := HNZ.out; have := HZ1.out; omega))
          have HO6 := hide hown6
          clear hown6 hgr6
          go_wp2
          go_roundw
          case rel => exact ⟨t, by first | rfl | simp, HT2.out, hide ⟨⟨acc ++ utf r, f', HO6.out, lt_append HAB.out (utf_lt HR1.out), by have := HGL.out; have := HAL.out; have := HUL.out.2; have := HT1.out; rw [List.length_append]; omega, by have := HNF.out; have := HT1.out; omega, HRR.out⟩, HB6.out⟩⟩
          case measure => have := HT1.out; have := HT2.out; simp [intOf]; omega
      · rw [if_neg h92] at hR
        have e92 : (((bt l q : Nat) : Int) == 92) = false := by simp; omega
        have HCQ := hide (HC.out.ch q wr (by rw [hn]; exact HIN.out))
        rw [← HLE.out] at HCQ
        clear h34 h32 h92
        cases hch : chr (l.drop q) with
        | error b =>
          rw [hch] at hR HCQ
          cases b with
          | false =>
            rw [show chY (.error false) = 0 from rfl] at HCQ
            have HB3 := hide (HBA.out 43 q)
            have HE := hide (HBD.out 43 q)
            have HRR := hide hR.symm
            unfold badV gotV at HB3 HE
            clear hch hR
            generalize bt l q = c at *
            go_wp2_with (first
              | (go_at_call 34; refine HCQ.out.mono ?_; rintro ε w4 ⟨rfl, h4⟩; have HG4 := hide (HGR.out.keep h4); have H4 := hide (HWW.out.trans (h4.mono HWW.out.size)); clear h4)
              | (go_at_call 16; refine (HB3.out _).mono ?_; rintro ε w5 ⟨rfl, h5⟩; have HG5 := hide (HG4.out.keep h5); have H5 := hide (H4.out.trans (h5.mono H4.out.size)); obtain ⟨⟨c0, c1, c2, c3, c4, c5, c6⟩, f0, f1, f2, f3, f4, f5, f6⟩ := HG5.out.facts; clear h5))
            refine bodyPost_ret (got_results rfl rfl (putG_bl HG5.out _ _ _ _ _ _ _)) rfl ?_
            exact HE.out _ HRR.out (H5.out.trans ((putG_but w5 N _ _ _ _ _ _ _).below (by have := HNZ.out.1; omega) H5.out.size))
          | true =>
            rw [show chY (.error true) = -1 from rfl] at HCQ
            have HB3 := hide (HBA.out 3 n)
            have HE := hide (HBD.out 3 n)
            have HRR := hide hR.symm
            unfold badV gotV at HB3 HE
            clear hch hR
            generalize bt l q = c at *
            go_wp2_with (first
              | (go_at_call 34; refine HCQ.out.mono ?_; rintro ε w4 ⟨rfl, h4⟩; have HG4 := hide (HGR.out.keep h4); have H4 := hide (HWW.out.trans (h4.mono HWW.out.size)); clear h4)
              | (go_at_call 16; refine (HB3.out _).mono ?_; rintro ε w5 ⟨rfl, h5⟩; have HG5 := hide (HG4.out.keep h5); have H5 := hide (H4.out.trans (h5.mono H4.out.size)); obtain ⟨⟨c0, c1, c2, c3, c4, c5, c6⟩, f0, f1, f2, f3, f4, f5, f6⟩ := HG5.out.facts; clear h5))
            refine bodyPost_ret (got_results rfl rfl (putG_bl HG5.out _ _ _ _ _ _ _)) rfl ?_
            exact HE.out _ HRR.out (H5.out.trans ((putG_but w5 N _ _ _ _ _ _ _).below (by have := HNZ.out.1; omega) H5.out.size))
        | ok k =>
          rw [hch] at hR HCQ
          simp only at hR
          rw [show chY (.ok k) = (k : Int) from rfl] at HCQ
          obtain ⟨hk1, hk4, hkl, -⟩ := chr_ok hch
          have hln : l.length = n := by rw [HLE.out, sbytes_length]; exact hn
          rw [List.length_drop, hln] at hkl
          have hmid := HMID.out q (q + k) (by omega) (by have := HIN.out; omega)
          have hys : (l.take (q + k)).drop q = (l.drop q).take k := by rw [List.drop_take, Nat.add_sub_cancel_left]
          rw [hys] at hmid
          have hyl : ((l.drop q).take k).length = k := by rw [List.length_take, List.length_drop, hln]; omega
          have hyb : ∀ x ∈ (l.drop q).take k, x < 256 := lt_take (lt_drop HSL.out q) k
          have hsz : (bstr ((l.drop q).take k)).size = k := by rw [bstr_size, hyl]
          have HSB := hide (sbytes_bstr hyb)
          obtain ⟨t, ht⟩ : ∃ t, t = q + k := ⟨_, rfl⟩
          rw [← ht] at hmid hR
          have hqk : (q : Int) + (k : Int) = (t : Int) := by omega
          have hqw : IntKind.i64.wrap (t : Int) = (t : Int) := by have := HS.out; rw [IntKind.wrap_i64]; omega
          have hk0 : ¬ (k : Int) < 0 := by omega
          have hk0' : ((k : Int) == 0) = false := by simp; omega
          have HRR := hide hR
          have HT1 : Hid (q + 1 ≤ t) := hide (by omega)
          have HT2 : Hid (t ≤ n) := hide (by have := HIN.out; omega)
          have HYB := hide hyb
          have HYL : Hid (((l.drop q).take k).length ≤ 4 * (t - q)) := hide (by rw [hyl]; omega)
          have HSZ := hide hsz
          have HK4 := hide hk4
          obtain ⟨ao0, cp0, rfl, -, -⟩ := HO.out.read
          clear hch hR hk1 hk4 hkl hln hys hyl hyb ht hsz
          generalize hgl : acc.length = an at *
          have HGL := hide hgl
          clear hgl
          generalize (l.drop q).take k = ys at *
          generalize bt l q = c at *
          generalize bstr ys = SY at *
          go_wp2_with (first
            | (go_at_call 34; refine HCQ.out.mono ?_; rintro ε w4 ⟨rfl, h4⟩; have HO4 := hide (HO.out.keep h4); have HB4 := hide (HBW.out.trans (h4.mono (by have := HNZ.out; omega))); clear h4)
            | (at_builtin; refine wpList_append_text rfl _ _ rfl (N + 1) _ acc rfl HO4.out SY rfl (by have := HAL.out; have := HIN.out; have := HS.out; have := HSZ.out; have := HK4.out; have := HGL.out; omega) (by have := HB4.out.size; have := HNZ.out; have := HZ1.out; omega) ?_))
          rintro v6 w6 hown6 hgr6
          rw [HSB.out] at hown6
          have HB6 : Hid (Below (N + 1) w1 w6) := hide (own_grow HB4.out hgr6 HO4.out (by have := HB4.out.size; have := HNZ.out; have := HZ1.out; omega))
          have HO6 := hide hown6
          clear hown6 hgr6
          go_wp2
          go_roundw
          case rel => exact ⟨t, by first | rfl | simp, HT2.out, hide ⟨⟨acc ++ ys, f', HO6.out, lt_append HAB.out HYB.out, by have := HGL.out; have := HAL.out; have := HYL.out; have := HT1.out; rw [List.length_append]; omega, by have := HNF.out; have := HT1.out; omega, HRR.out⟩, HB6.out⟩⟩
          case measure => have := HT1.out; have := HT2.out; simp [intOf]; omega
    · have hin' : ¬ (q : Int) < (n : Int) := by omega
      have hge' : (n : Int) ≤ (q : Int) := by omega
      rw [if_neg hin] at hR
      have HB3 := hide (HBA.out 3 n)
      have HE := hide (HBD.out 3 n)
      have HRR := hide hR.symm
      unfold badV gotV at HB3 HE
      clear hq hin hR
      go_wp2_with (go_at_call 16; refine (HB3.out _).mono ?_; rintro ε w5 ⟨rfl, h5⟩; have HG5 := hide (HGR.out.keep h5); have H5 := hide (HWW.out.trans (h5.mono HWW.out.size)); obtain ⟨⟨c0, c1, c2, c3, c4, c5, c6⟩, f0, f1, f2, f3, f4, f5, f6⟩ := HG5.out.facts; clear h5)
      refine bodyPost_ret (got_results rfl rfl (putG_bl HG5.out _ _ _ _ _ _ _)) rfl ?_
      exact HE.out _ HRR.out (H5.out.trans ((putG_but w5 N _ _ _ _ _ _ _).below (by have := HNZ.out.1; omega) H5.out.size))
end Go.Proofs.YtlebockgdonceaaGreatDoor
