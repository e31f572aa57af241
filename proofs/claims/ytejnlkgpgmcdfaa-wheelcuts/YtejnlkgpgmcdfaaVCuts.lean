/- WheelCuts, walked. -/
import Derived.Test.YtejnlkgpgmcdfaaVPlayW
import Derived.Test.YtejnlkgpgmcdfaaVArr
import Derived.Test.YtejnlkgpgmcdfaaVLive2
namespace Go.Proofs.Ytejnlkgpgmcdfaa
open Go.RowKit Go.Shelf Go.Maps

/-- Two wheels, made since u, in blocks of their own. -/
structure Two (u w : World) (wp xp n1 n2 : Nat) (L1 L2 : List Tm) (Y1 Y2 : Lay) : Prop where
  one : Whl w wp n1 L1 Y1
  two : Whl w xp n2 L2 Y2
  ge1 : ∀ b ∈ Y1.blocks wp, u.heap.size ≤ b
  ge2 : ∀ b ∈ Y2.blocks xp, u.heap.size ≤ b
  dis : ∀ b ∈ Y1.blocks wp, b ∉ Y2.blocks xp
  bel : Below u.heap.size u w
theorem Two.symm {u w : World} {wp xp n1 n2 : Nat} {L1 L2 : List Tm} {Y1 Y2 : Lay} (h : Two u w wp xp n1 n2 L1 L2 Y1 Y2) : Two u w xp wp n2 n1 L2 L1 Y2 Y1 := ⟨h.two, h.one, h.ge2, h.ge1, fun b h1 h2 => h.dis b h2 h1, h.bel⟩
theorem Two.below {u w w' : World} {wp xp n1 n2 : Nat} {L1 L2 : List Tm} {Y1 Y2 : Lay} (h : Two u w wp xp n1 n2 L1 L2 Y1 Y2) (hb : Below w.heap.size w w') : Two u w' wp xp n1 n2 L1 L2 Y1 Y2 := ⟨h.one.below hb, h.two.below hb, h.ge1, h.ge2, h.dis, h.bel.trans (hb.mono h.bel.size)⟩
theorem Two.adv {u w w' : World} {wp xp n1 n2 n3 : Nat} {L1 L2 L3 : List Tm} {Y1 Y2 Y3 : Lay} (h : Two u w wp xp n1 n2 L1 L2 Y1 Y2) (k : Whl w' wp n3 L3 Y3) (hA : Aft wp Y1 Y3 w w') : Two u w' wp xp n3 n2 L3 L2 Y3 Y2 := by
  have hlt := h.two.lt
  refine ⟨k, h.two.apart hA.fr fun b hb hm => h.dis b hm hb, fun b hb => ?_, h.ge2, fun b hb hm => ?_, h.bel.trans (hA.fr.below _ h.bel.size h.ge1)⟩
  · rcases hA.new b hb with h1 | h1
    · exact h.ge1 b h1
    · exact Nat.le_trans h.bel.size h1
  · rcases hA.new b hb with h1 | h1
    · exact h.dis b h1 hm
    · have := hlt b hm; omega
theorem two_made {w1 w2 w3 : World} {wp xp n1 n2 : Nat} {L1 L2 : List Tm} (h : MineG w1 w2 wp n1 L1 []) (k : MineG w2 w3 xp n2 L2 []) : ∃ Y1 Y2, Two w1 w3 wp xp n1 n2 L1 L2 Y1 Y2 := by
  obtain ⟨⟨Y1, h1, h2, _⟩, h3⟩ := h
  obtain ⟨⟨Y2, k1, k2, _⟩, k3⟩ := k
  have hlt := h1.lt
  exact ⟨Y1, Y2, h1.below k3, k1, h2, fun b hb => Nat.le_trans h3.size (k2 b hb), fun b hb hm => by have := hlt b hb; have := k2 b hm; omega, h3.trans (k3.mono h3.size)⟩
theorem own_fr {w w' : World} {B : Nat} {v : Value} {xs fp : List Nat} (h : Own w B v xs) (hf : Fr fp w w') (hn : ∀ g, v.ownBlock = some g → g ∉ fp) : Own w' B v xs := h.same fun g hg => hf.block g (h.lt g hg).2 (hn g hg)
theorem spread_form (now : Nat) (L : List Tm) : ∃ y0 y1 y2 y3 y4 : Nat, spreadV now L = .agg #[.int .i64 (y0 : Int), .int .i64 (y1 : Int), .int .i64 (y2 : Int), .int .i64 (y3 : Int), .int .i64 (y4 : Int)] := ⟨_, _, _, _, _, rfl⟩
theorem five_eq (y0 y1 y2 y3 y4 : Nat) (V : World) : (Op.equalIn 10000 46 (.agg #[.int .i64 (y0 : Int), .int .i64 (y1 : Int), .int .i64 (y2 : Int), .int .i64 (y3 : Int), .int .i64 (y4 : Int)]) (.agg #[.int .i64 (y0 : Int), .int .i64 (y1 : Int), .int .i64 (y2 : Int), .int .i64 (y3 : Int), .int .i64 (y4 : Int)])).run Try.prog V = .ok true V := by
  have := arr5_eq [y0, y1, y2, y3, y4] [y0, y1, y2, y3, y4] V rfl rfl
  rw [decide_eq_true rfl] at this
  exact this
set_option maxHeartbeats 2000000 in
set_option maxRecDepth 100000 in
theorem wheelCuts_walk (now : Nat) (aao : Option Addr) (n ac : Nat) (l : List Ac) (a b : Nat) (w : World) (hn : now < 18446744073709551616) (hs : ASee w aao l) (hl : n = l.length) (hb : n ≤ 140737488351232) (hk : ∀ x ∈ l, x.id < 18446744073709551616 ∧ x.a < 18446744073709551616) (ha : a < 18446744073709551616) (hbb : b < 18446744073709551616) :
    Calls Try.prog 7 #[.agg #[.int .u64 (now : Int), .slice aao n ac], .int .u64 (a : Int), .int .u64 (b : Int)] w fun e w' => e = .returned (.bool true) ∧ Below w.heap.size w w' := by
  have HB0 := hide (Bl.new w #[.int .u64 (now : Int), .slice aao n ac] 28)
  have HBW := hide (below_new w (.cells #[.int .u64 (now : Int), .slice aao n ac] 28))
  have HP : Hid (∀ W : World, Below w.heap.size w W → Calls Try.prog 24 #[.agg #[.int .u64 (now : Int), .slice aao n ac]] W fun e w' => ∃ wp, e = .returned (pw wp) ∧ MineG W w' wp (playN now l).1 (playN now l).2 []) := hide fun W hW => play_any now aao n ac l W hn (hs.keep hW) hl hb hk
  have HLV : Hid (∀ W, Calls Try.prog 10 #[] W fun e w' => e = .returned (.bool true) ∧ Below W.heap.size W w') := hide live_true
  generalize (playN now l).1 = nw at *
  generalize (playN now l).2 = L at *
  have HA := hide ha
  have HBB := hide hbb
  clear hn hs hl hb hk ha hbb
  unfold pw at HP
  go_enter Try.func7, Try.ntmps7
  go_upto_region 1 with fail
  obtain ⟨N, hN⟩ : ∃ N, N = w.heap.size := ⟨_, rfl⟩
  rw [← hN] at HB0 ⊢
  clear hN
  generalize w.alloc (.cells #[.int .u64 (now : Int), .slice aao n ac] 28) = w1 at *
  have b0 : w1.cell? ⟨N, 0, none⟩ = some (.int .u64 (now : Int)) := HB0.out.cell 0
  have b1 : w1.cell? ⟨N, 1, none⟩ = some (.slice aao n ac) := HB0.out.cell 1
  have tok : True := trivial
  go_upto_region 5 with (first
    | (go_at_call 24; have _t := tok; refine (HP.out w1 HBW.out).mono ?_; rintro e w2 ⟨wp, rfl, hm⟩; have M1 := hide hm; have c0 := cell_kept b0 hm.bel; have c1 := cell_kept b1 hm.bel; clear hm b0 b1 tok)
    | (go_at_call 24; refine (HP.out w2 (HBW.out.trans (M1.out.bel.mono HBW.out.size))).mono ?_; rintro e w3 ⟨xp, rfl, hm⟩; have HT := hide (two_made M1.out hm); clear hm c0 c1 M1)
    | (go_at_call 10; refine (HLV.out w3).mono ?_; rintro e w4 ⟨rfl, hb4⟩; have HB4 := hide hb4; clear hb4))
  obtain ⟨Y1, Y2, hT⟩ := HT.out
  have T4 := hide (hT.below HB4.out)
  have HW4 := hide (HBW.out.trans (T4.out.bel.mono HBW.out.size))
  clear hT HT HB4
  have HNOW := hide (now_any wp nw L Y1 w4 T4.out.one)
  unfold pw at HNOW
  by_cases h1 : a < nw
  · have h1' : (a : Int) < (nw : Int) := by omega
    clear h1
    go_wp2_with (go_at_call 25; refine HNOW.out.mono ?_; rintro e wx ⟨rfl, hwx⟩; have hwy := hwx.symm; subst hwy; clear hwx)
    go_ret
    exact ⟨rfl, HW4.out⟩
  · have h1' : ¬ (a : Int) < (nw : Int) := by omega
    by_cases h2 : b < a
    · have h2' : (b : Int) < (a : Int) := by omega
      clear h1 h2
      go_wp2_with (go_at_call 25; refine HNOW.out.mono ?_; rintro e wx ⟨rfl, hwx⟩; have hwy := hwx.symm; subst hwy; clear hwx)
      go_ret
      exact ⟨rfl, HW4.out⟩
    · have h2' : ¬ (b : Int) < (a : Int) := by omega
      have A1 := hide (advance_any wp nw a L Y1 w4 T4.out.one HA.out)
      rw [if_neg h1, show max nw a = a by omega] at A1
      have A2 : Hid (∀ (W : World) (Y : Lay), Whl W wp a (advL a L) Y → Calls Try.prog 21 #[pw wp, .int .u64 (b : Int)] W fun e w' => ∃ ao n c Y', e = .returned (.tuple #[.slice ao n c, .int .i64 0]) ∧ Own w' W.heap.size (.slice ao n c) (((advD b (advL a L)).mergeSort leT).map (·.1)) ∧ (∀ g, (Value.slice ao n c).ownBlock = some g → g ∉ Y'.blocks wp) ∧ Whl w' wp b (advL b L) Y' ∧ Aft wp Y Y' W w') := hide fun W Y hW => by
        have := advance_any wp a b (advL a L) Y W hW HBB.out
        rw [if_neg h2, show max a b = b by omega, adv_rest (by omega)] at this
        exact this
      have A3 : Hid (∀ (W : World) (Y : Lay), Whl W xp nw L Y → Calls Try.prog 21 #[pw xp, .int .u64 (b : Int)] W fun e w' => ∃ ao n c Y', e = .returned (.tuple #[.slice ao n c, .int .i64 0]) ∧ Own w' W.heap.size (.slice ao n c) (((advD b L).mergeSort leT).map (·.1)) ∧ (∀ g, (Value.slice ao n c).ownBlock = some g → g ∉ Y'.blocks xp) ∧ Whl w' xp b (advL b L) Y' ∧ Aft xp Y Y' W w') := hide fun W Y hW => by
        have := advance_any xp nw b L Y W hW HBB.out
        rw [if_neg (by omega), show max nw b = b by omega] at this
        exact this
      have HDUE := hide (congrArg (List.map (·.1)) (adv_due (show a ≤ b by omega) L))
      rw [List.map_append] at HDUE
      have HLL : Hid (L.length ≤ 8192) := by
        obtain ⟨S, _, hs⟩ := T4.out.one
        exact hide hs.len
      have HX3 : Hid ((((advD b L).mergeSort leT).map (·.1)).length ≤ 8192) := hide (by rw [List.length_map, List.length_mergeSort]; exact Nat.le_trans (List.length_filter_le _ _) HLL.out)
      have HFL : Hid ((flat2 (advL b L)).length ≤ 16384) := hide (by
        have h1 : (advL b L).length ≤ 8192 := Nat.le_trans (List.length_filter_le _ _) HLL.out
        have h2 : ∀ M : List Tm, (flat2 M).length = 2 * M.length := fun M => by
          unfold flat2
          induction M with
          | nil => rfl
          | cons x r ih => simp only [List.flatMap_cons, List.length_append, ih, List.length_cons, List.length_nil]; omega
        rw [h2]; omega)
      generalize ((advD b L).mergeSort leT).map (·.1) = xs3 at *
      generalize ((advD a L).mergeSort leT).map (·.1) = xs1 at *
      generalize ((advD b (advL a L)).mergeSort leT).map (·.1) = xs2 at *
      generalize advL b L = L3 at *
      generalize advL a L = L2 at *
      have tok1 : True := trivial
      have tok2 : True := trivial
      unfold pw at A1 A2 A3
      clear h1 h2
      go_upto_region 10 with (first
        | (go_at_call 25; refine HNOW.out.mono ?_; rintro e wx ⟨rfl, hwx⟩; have hwy := hwx.symm; subst hwy; clear hwx)
        | (go_at_call 21; have _t := tok1; refine A1.out.mono ?_; rintro e w5 ⟨ao1, n1, c1, Y3, rfl, o5, nb5, k5, f5⟩; have T5 := hide (T4.out.adv k5 f5); have O5 := hide o5; have NB5 := hide nb5; have F5 := hide f5.fr.size; clear o5 nb5 k5 f5 tok1)
        | (go_at_call 21; have _t := tok2; refine (A2.out _ _ T5.out.one).mono ?_; rintro e w6 ⟨ao2, n2, c2, Y4, rfl, o6, nb6, k6, f6⟩; have T6 := hide (T5.out.adv k6 f6); have O6 := hide o6; have O5b := hide (own_fr O5.out f6.fr NB5.out); have F6 := hide f6.fr.size; clear o6 nb6 k6 f6 tok2)
        | (go_at_call 21; refine (A3.out _ _ T6.out.two).mono ?_; rintro e w7 ⟨ao3, n3, c3, Y5, rfl, o7, nb7, k7, f7⟩; have T7 := hide (T6.out.symm.adv k7 f7).symm; have O7 := hide o7; have O6c := hide (own_fr O6.out f7.fr (fun g hg hm => by have h1 := (O6.out.lt g hg).1; have h2 := T4.out.two.lt g hm; have h3 := F5.out; omega)); have O5c := hide (own_fr O5b.out f7.fr (fun g hg hm => by have h1 := (O5.out.lt g hg).1; have h2 := T4.out.two.lt g hm; omega)); clear o7 nb7 k7 f7))
      obtain ⟨a1, d1, hv1, _, r1⟩ := O5c.out.read
      obtain ⟨a2, d2, hv2, _, r2⟩ := O6c.out.read
      obtain ⟨a3, d3, hv3, _, r3⟩ := O7.out.read
      cases hv1
      cases hv2
      cases hv3
      have R1 := hide r1
      have R2 := hide r2
      have R3 := hide r3
      have HW7 := hide (HBW.out.trans (T7.out.bel.mono HBW.out.size))
      clear r1 r2 r3 O5 O5b O5c O6 O6c O7 T4 T5 T6 A1 A2 A3 NB5 F5 F6 HNOW
      have HX12 : Hid (xs1.length + xs2.length ≤ 8192) := hide (by have := HX3.out; rw [HDUE.out, List.length_append] at this; exact this)
      have HO0 : Hid (Own (w7.alloc (.cells #[] 25)) w7.heap.size (.slice (some ⟨w7.heap.size, 0, none⟩) 0 0) []) := hide ⟨rfl, .inr ⟨w7.heap.size, 0, #[], rfl, Nat.le_refl _, heap_alloc_new w7 _, Nat.le_refl _, Nat.zero_le _, rfl, rfl⟩⟩
      have HB0' := hide (below_new w7 (.cells #[] 25))
      obtain ⟨y0, y1, y2, y3, y4, hsv⟩ := spread_form b L3
      have hse := five_eq y0 y1 y2 y3 y4
      have HTM : Hid (∀ (W : World) (p : Nat) (Y : Lay), Whl W p b L3 Y → Calls Try.prog 26 #[pw p] W fun e w' => ∃ v, e = .returned v ∧ Own w' W.heap.size v (flat2 L3) ∧ Below W.heap.size W w') := hide fun W p Y hW => timers_any p b L3 Y W hW
      have HSP : Hid (∀ (W : World) (p : Nat) (Y : Lay), Whl W p b L3 Y → Calls Try.prog 19 #[pw p] W fun e w' => e = .returned (spreadV b L3) ∧ Below W.heap.size W w') := hide fun W p Y hW => spread_whl p b L3 Y W hW
      unfold pw at HTM HSP
      rw [hsv] at HSP
      clear hsv
      generalize flat2 L3 = fl at *
      obtain ⟨xs12, hxx⟩ : ∃ x, x = xs1 ++ xs2 := ⟨_, rfl⟩
      have HXX := hide hxx
      clear hxx
      have tok1 : True := trivial
      have tok2 : True := trivial
      have tok3 : True := trivial
      have tok4 : True := trivial
      go_wp2_with (first
        | (go_at_call 9; refine (num_any _ _).mono ?_; rintro e wx ⟨rfl, hwx⟩; have hwy := hwx.symm; subst hwy; clear hwx)
        | (at_builtin; have _t := tok1; refine wpList_append_nums rfl _ _ 48 48 Try.underlying48 Try.underlying48 rfl w7.heap.size _ [] rfl HO0.out ao1 _ c1 xs1 rfl rfl (R1.out.keep HB0'.out) (by have := HX12.out; simp only [List.length_nil]; omega) (by simp) ?_; intro v8 w8 h8 g8 _; have hb8 : Below w7.heap.size w7 w8 := HB0'.out.grown g8 (by simp) (fun j hj => (World.ownsRow.lt HO0.out j hj).1); have O8 := hide (show Own w8 w7.heap.size v8 xs1 from h8); have B8 := hide hb8; clear h8 g8 hb8 tok1)
        | (at_builtin; refine wpList_append_nums rfl _ _ 48 48 Try.underlying48 Try.underlying48 rfl w7.heap.size _ xs1 rfl O8.out ao2 _ c2 xs2 rfl rfl (R2.out.keep B8.out) (by have := HX12.out; omega) B8.out.size ?_; intro v9 w9 h9 g9 _; have hb9 : Below w7.heap.size w7 w9 := B8.out.grown g9 B8.out.size (fun j hj => (O8.out.lt j hj).1); rw [← HXX.out] at h9; obtain ⟨ao9, c9, rfl, _, r9⟩ := h9.read; have R9 := hide r9; have B9 := hide hb9; clear h9 g9 hb9 r9)
        | (go_at_call 23; have _t := tok2; refine (ids_any _ _ _ _ _ _ xs12 xs3 w9 R9.out (R3.out.keep B9.out) rfl rfl (by have := HX12.out; rw [HXX.out, List.length_append]; omega)).mono ?_; rw [decide_eq_true (HXX.out.trans HDUE.out.symm)]; rintro e w10 ⟨rfl, q, hw10⟩; have B10 : Hid (Below w7.heap.size w7 w10) := hide (by rw [hw10]; exact below_drewN B9.out _); clear hw10 tok2)
        | (go_at_call 26; have _t := tok3; refine (HTM.out w10 wp Y4 (T7.out.one.below B10.out)).mono ?_; rintro e w11 ⟨v11, rfl, o11, hb11⟩; have B11 := hide (B10.out.trans (hb11.mono B10.out.size)); obtain ⟨ao11, c11, rfl, _, r11⟩ := o11.read; have R11 := hide r11; clear o11 hb11 r11 tok3)
        | (go_at_call 26; refine (HTM.out w11 xp Y5 (T7.out.two.below B11.out)).mono ?_; rintro e w12 ⟨v12, rfl, o12, hb12⟩; have B12 := hide (B11.out.trans (hb12.mono B11.out.size)); obtain ⟨ao12, c12, rfl, _, r12⟩ := o12.read; have R12 := hide r12; have R11b := hide (R11.out.keep hb12); clear o12 hb12 r12)
        | (go_at_call 23; refine (ids_any _ _ _ _ _ _ fl fl w12 R11b.out R12.out rfl rfl (by have := HFL.out; omega)).mono ?_; rw [decide_eq_true rfl]; rintro e w13 ⟨rfl, q, hw13⟩; have B13 : Hid (Below w7.heap.size w7 w13) := hide (by rw [hw13]; exact below_drewN B12.out _); clear hw13)
        | (go_at_call 19; have _t := tok4; refine (HSP.out w13 wp Y4 (T7.out.one.below B13.out)).mono ?_; rintro e w14 ⟨rfl, hb14⟩; have B14 := hide (B13.out.trans (hb14.mono B13.out.size)); clear hb14 tok4)
        | (go_at_call 19; refine (HSP.out w14 xp Y5 (T7.out.two.below B14.out)).mono ?_; rintro e w15 ⟨rfl, hb15⟩; have B15 := hide (B14.out.trans (hb15.mono B14.out.size)); clear hb15))
      go_ret
      exact ⟨rfl, HW7.out.trans (B15.out.mono HW7.out.size)⟩
end Go.Proofs.Ytejnlkgpgmcdfaa
