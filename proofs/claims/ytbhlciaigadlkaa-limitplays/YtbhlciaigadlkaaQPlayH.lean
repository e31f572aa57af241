/- The law's played: Subjects. -/
import Derived.Test.YtbhlciaigadlkaaQPlayS
namespace Go.Proofs.Ytbhlciaigadlkaa
open Go.RowKit Go.Maps Go.Shelf

theorem subjects_t {G : List Nat} {w0 w : World} {lp kp : Nat} {S T : LS} (h : Two G w0 w lp kp S T) :
    Calls Try.prog 20 #[pf lp] w fun e w' => ∃ (ao : Option Addr) (n c : Nat), e = .returned (.slice ao n c) ∧ Hid (TOwn w' w.heap.size (.slice ao n c) (S.tab.map (·.1)) ∧ Below w.heap.size w w') := by
  obtain ⟨Y, Z, h1, h2, h3, h4⟩ := h.rep
  exact subjects_any lp S Y w h1
set_option maxHeartbeats 2000000 in
set_option maxRecDepth 100000 in
theorem played_subjects (G : List Nat) (w0 : World) (lp kp : Nat) (S T : LS) (ao : Option Addr) (n c : Nat) (L : Tab) (xs : Nm) (xn : Nat) (w : World) (h : Two G w0 w lp kp S T) (hV : VSee w ao L) (hg : ∀ a, ao = some a → a.block ∈ G) (hn : n = L.length) (hR : RI S L) (hsz : (n + 1) * 32 ≤ 140737488355328) (hxl : xs.length ≤ maxLen) (hxn : xn < 18446744073709551616)  :
    Calls Try.prog 12 #[pf lp, .agg (rcl S (.slice ao n c)).toArray, .agg #[.int .i64 6, .string (str xs), .int .u64 (xn : Int)]] w fun e w' => PlayedPost G w0 w lp kp (S) T ao L e w' := by
  have hS := h.oks.1
  have HGL := hide h.lt
  have HW0 := hide h.bel.size
  have HT1 := h.more (.cells #[.int .i64 (S.tries : Int), .int .u64 (S.win : Int), .int .i64 (S.subs : Int), .int .u64 (S.clock : Int), .slice ao n c] 32) rfl
  have HT2 := HT1.more (.cells #[.int .i64 6, .string (str xs), .int .u64 (xn : Int)] 40) rfl
  have HT3 := HT2.more (.cells #[.int .i64 0, .int .u64 0, .int .i64 0, .int .u64 0, .slice none 0 0] 32) rfl
  have HB := hide (((Bl.new w #[.int .i64 (S.tries : Int), .int .u64 (S.win : Int), .int .i64 (S.subs : Int), .int .u64 (S.clock : Int), .slice ao n c] 32).alloc (.cells #[.int .i64 6, .string (str xs), .int .u64 (xn : Int)] 40)).alloc (.cells #[.int .i64 0, .int .u64 0, .int .i64 0, .int .u64 0, .slice none 0 0] 32))
  have HO := hide ((Bl.new (w.alloc (.cells #[.int .i64 (S.tries : Int), .int .u64 (S.win : Int), .int .i64 (S.subs : Int), .int .u64 (S.clock : Int), .slice ao n c] 32)) #[.int .i64 6, .string (str xs), .int .u64 (xn : Int)] 40).alloc (.cells #[.int .i64 0, .int .u64 0, .int .i64 0, .int .u64 0, .slice none 0 0] 32))
  have HZ := hide (Bl.new ((w.alloc (.cells #[.int .i64 (S.tries : Int), .int .u64 (S.win : Int), .int .i64 (S.subs : Int), .int .u64 (S.clock : Int), .slice ao n c] 32)).alloc (.cells #[.int .i64 6, .string (str xs), .int .u64 (xn : Int)] 40)) #[.int .i64 0, .int .u64 0, .int .i64 0, .int .u64 0, .slice none 0 0] 32)
  have hb1 := below_new w (.cells #[.int .i64 (S.tries : Int), .int .u64 (S.win : Int), .int .i64 (S.subs : Int), .int .u64 (S.clock : Int), .slice ao n c] 32)
  have hb2 := hb1.trans ((below_new (w.alloc (.cells #[.int .i64 (S.tries : Int), .int .u64 (S.win : Int), .int .i64 (S.subs : Int), .int .u64 (S.clock : Int), .slice ao n c] 32)) (.cells #[.int .i64 6, .string (str xs), .int .u64 (xn : Int)] 40)).mono hb1.size)
  have HBN := hide (hb2.trans ((below_new ((w.alloc (.cells #[.int .i64 (S.tries : Int), .int .u64 (S.win : Int), .int .i64 (S.subs : Int), .int .u64 (S.clock : Int), .slice ao n c] 32)).alloc (.cells #[.int .i64 6, .string (str xs), .int .u64 (xn : Int)] 40)) (.cells #[.int .i64 0, .int .u64 0, .int .i64 0, .int .u64 0, .slice none 0 0] 32)).mono hb2.size))
  obtain ⟨N, hN⟩ : ∃ N, N = w.heap.size := ⟨_, rfl⟩
  obtain ⟨O, hO⟩ : ∃ O, O = N + 1 := ⟨_, rfl⟩
  obtain ⟨M, hM⟩ : ∃ M, M = O + 1 := ⟨_, rfl⟩
  have e1 : (w.alloc (.cells #[.int .i64 (S.tries : Int), .int .u64 (S.win : Int), .int .i64 (S.subs : Int), .int .u64 (S.clock : Int), .slice ao n c] 32)).heap.size = O := by rw [hO, hN]; simp
  have e2 : ((w.alloc (.cells #[.int .i64 (S.tries : Int), .int .u64 (S.win : Int), .int .i64 (S.subs : Int), .int .u64 (S.clock : Int), .slice ao n c] 32)).alloc (.cells #[.int .i64 6, .string (str xs), .int .u64 (xn : Int)] 40)).heap.size = M := by rw [hM, ← e1]; simp
  rw [e2, e1, ← hN] at HT3
  rw [e1] at HO
  rw [e2] at HZ
  rw [← hN] at HB
  have HTC := hide HT3
  have HV := hide (hV.keep HBN.out)
  have HH0 := hide (held_below HBN.out h.lt)
  have HNE : Hid (N ≠ M ∧ O ≠ M ∧ N ≠ O) := hide (by omega)
  have HMG : Hid (M ∉ G) := hide fun e => by have := HGL.out M e; omega
  have HMW : Hid (w0.heap.size ≤ M) := hide (by have := HW0.out; omega)
  have HGB := hide hg
  have HSZW := hide HBN.out.size
  have HRI := hide hR
  have HNL := hide hn
  have HSZ := hide hsz
  have HXL := hide hxl
  have HXN := hide hxn
  have HOK := hide hS
  clear hR hn hsz hS hxl hxn
  clear h HT1 HT2 HT3 hV hg hb1 hb2 e1 e2
  unfold pf rcl at *
  go_enter Try.func12, Try.ntmps12
  go_upto_region 1 with fail
  rw [← hN]
  rw [← hO]
  rw [← hM]
  clear hN hO hM
  generalize ((w.alloc (.cells #[.int .i64 (S.tries : Int), .int .u64 (S.win : Int), .int .i64 (S.subs : Int), .int .u64 (S.clock : Int), .slice ao n c] 32)).alloc (.cells #[.int .i64 6, .string (str xs), .int .u64 (xn : Int)] 40)).alloc (.cells #[.int .i64 0, .int .u64 0, .int .i64 0, .int .u64 0, .slice none 0 0] 32) = u at *
  have HBC := HB
  have HOC := HO
  have HZC := HZ
  have HVC := HV
  have HHC := HH0
  clear HB HO HZ HV HH0
  have b0 : u.cell? ⟨N, 0, none⟩ = some (.int .i64 (S.tries : Int)) := HBC.out.cell 0; have b1 : u.cell? ⟨N, 1, none⟩ = some (.int .u64 (S.win : Int)) := HBC.out.cell 1; have b2 : u.cell? ⟨N, 2, none⟩ = some (.int .i64 (S.subs : Int)) := HBC.out.cell 2; have b3 : u.cell? ⟨N, 3, none⟩ = some (.int .u64 (S.clock : Int)) := HBC.out.cell 3; have b4 : u.cell? ⟨N, 4, none⟩ = some (.slice ao n c) := HBC.out.cell 4; have o0 : u.cell? ⟨O, 0, none⟩ = some (.int .i64 6) := HOC.out.cell 0; have o1 : u.cell? ⟨O, 1, none⟩ = some (.string (str xs)) := HOC.out.cell 1; have o2 : u.cell? ⟨O, 2, none⟩ = some (.int .u64 (xn : Int)) := HOC.out.cell 2
  have z0 : u.cell? ⟨M, 0, none⟩ = some (.int .i64 0) := HZC.out.cell 0; have z1 : u.cell? ⟨M, 1, none⟩ = some (.int .u64 0) := HZC.out.cell 1; have z2 : u.cell? ⟨M, 2, none⟩ = some (.int .i64 0) := HZC.out.cell 2; have z3 : u.cell? ⟨M, 3, none⟩ = some (.int .u64 0) := HZC.out.cell 3; have z4 : u.cell? ⟨M, 4, none⟩ = some (.slice none 0 0) := HZC.out.cell 4; have zf := fun i => HZC.out.frozen i
  have HNB : Hid (n * 32 ≤ 140737488355328) := hide (by have := HSZ.out; omega)
  have HT0 := HTC
  go_wp2_with fail
  refine (subjects_t HT0.out).mono ?_
  rintro e w1 ⟨a1, n1, c1, rfl, HA1⟩
  have HTC1 := hide (HT0.out.below HA1.out.2).1
  go_wp2_with fail
  refine (subjects_t HTC1.out).mono ?_
  rintro e w2 ⟨a2, n2, c2, rfl, HA2⟩
  have HBT := hide (HA1.out.2.trans (HA2.out.2.mono HA1.out.2.size))
  have HB2 := hide (HBC.out.keep HBT.out)
  have HV2 := hide (HVC.out.keep HBT.out)
  have q0 : w2.cell? ⟨N, 0, none⟩ = some (.int .i64 (S.tries : Int)) := HB2.out.cell 0; have q1 : w2.cell? ⟨N, 1, none⟩ = some (.int .u64 (S.win : Int)) := HB2.out.cell 1; have q2 : w2.cell? ⟨N, 2, none⟩ = some (.int .i64 (S.subs : Int)) := HB2.out.cell 2; have q3 : w2.cell? ⟨N, 3, none⟩ = some (.int .u64 (S.clock : Int)) := HB2.out.cell 3; have q4 : w2.cell? ⟨N, 4, none⟩ = some (.slice ao n c) := HB2.out.cell 4
  go_wp2_with fail
  refine (rsubjects_any S HOK.out ao n c L w2 HNL.out HV2.out HRI.out HNB.out).mono ?_
  rintro e w3 ⟨a3, n3, c3, rfl, HA3⟩
  have HLN : Hid ((S.tab.map (·.1)).length ≤ 4096) := hide (by rw [List.length_map]; exact Nat.le_trans HOK.out.len HOK.out.subs2)
  obtain ⟨e1, d1, hf1, hd1, hs1, hb1, hz1⟩ := HA1.out.1.form
  obtain ⟨e2, d2, hf2, hd2, hs2, hb2, hz2⟩ := HA2.out.1.form
  obtain ⟨e3, d3, hf3, hd3, hs3, hb3, hz3⟩ := HA3.out.1.form
  injection hf1 with i1 i2 i3
  injection hf2 with j1 j2 j3
  injection hf3 with l1 l2 l3
  subst i1 i3 j1 j3 l1 l3
  have HN1 := hide i2
  have HN2 := hide j2
  have HN3 := hide l2
  clear i2 j2 l2
  have HB3 := hide HA3.out.2
  have HS1 := hide ((hs1.keep HA2.out.2).keep HB3.out)
  have HS2 := hide (hs2.keep HB3.out)
  have HS3 := hide hs3
  have HX1 := hide hb1
  have HX2 := hide hb2
  have HX3 := hide hb3
  have HY1 := hide hz1
  clear hd1 hs1 hb1 hz1 hd2 hs2 hb2 hz2 hd3 hs3 hb3 hz3 q0 q1 q2 q3 q4 b0 b1 b2 b3 b4 o0 o1 o2 z0 z1 z2 z3 z4 zf
  go_wp2_with fail
  refine (texts_any _ _ _ _ _ _ _ w3 HS1.out HS3.out HN1.out HN3.out (by have h1 := HLN.out; have h2 := HN1.out; omega)).mono ?_
  rintro e w4 ⟨rfl, hb4⟩
  have HB4 := hide hb4
  go_wp2_with fail
  refine (texts_any _ _ _ _ _ _ _ w4 (HS2.out.keep HB4.out) (HS3.out.keep HB4.out) HN2.out HN3.out (by have h1 := HLN.out; have h2 := HN2.out; omega)).mono ?_
  rintro e w5 ⟨rfl, hb5⟩
  have HB5 := hide hb5
  clear hb4 hb5
  go_wp2_with fail
  have HSI : Hid (SI u w5 (.slice a1 n1 c1) (S.tab.map (·.1)) a2 a3 (S.tab.map (·.1))) := hide (by
    have h3 : SI u w3 (.slice a1 n1 c1) (S.tab.map (·.1)) a2 a3 (S.tab.map (·.1)) := ⟨HBT.out.trans (HB3.out.mono HBT.out.size), (HA1.out.1.keep HA2.out.2).keep HB3.out, HS2.out, HS3.out, fun a ha => ⟨fun e => (by have h1 := (World.ownsRow.lt HA1.out.1 _ e).2; have h2 := (HX2.out a ha).1; omega), Nat.lt_of_lt_of_le (HX2.out a ha).2 HB3.out.size⟩, fun a ha => ⟨fun e => (by have h1 := (World.ownsRow.lt HA1.out.1 _ e).2; have h2 := (HX3.out a ha).1; have h3 := HA2.out.2.size; omega), (HX3.out a ha).2⟩⟩
    exact (h3.below HB4.out).below HB5.out)
  clear HA1 HA2 HA3 HBT HB2 HV2 HB3 HB4 HB5 HS1 HS2 HS3 HX1 HX2 HX3 HTC1
  obtain ⟨ns, hns⟩ : ∃ ns, ns = S.tab.map (·.1) := ⟨_, rfl⟩
  rw [← hns] at HSI HLN HN1 HN2 HN3
  have HNS := hide hns
  clear hns
  have hn1b : n1 ≤ 4096 := by rw [HN1.out]; exact HLN.out
  go_loopw [21] (fun a21 wr => ∃ i : Nat, a21 = .int .i64 (i : Int) ∧ i ≤ n1 ∧ Hid (∃ s, s.length = n1 ∧ SI u wr (.slice a1 n1 c1) s a2 a3 ns))
    (fun a21 _ => n1 - (match a21 with | .int _ x => x.toNat | _ => 0))
  case atStart => exact ⟨0, rfl, Nat.zero_le _, hide ⟨_, HN1.out.symm, HSI.out⟩⟩
  case round =>
    obtain ⟨i, rfl, hi, hrel⟩ := hrel
    obtain ⟨s, hsl, hI⟩ := hrel.out
    have HI := hide hI
    have HSL := hide hsl
    clear hrel hI hsl HSI
    by_cases hin : i < n1
    · have hin' : (i : Int) < (n1 : Int) := by omega
      have hi0 : (0 : Int) ≤ (i : Int) := by omega
      obtain ⟨g, hga⟩ : ∃ g, a1 = some ⟨g, 0, none⟩ := by
        cases ha : a1 with
        | none =>
          rw [ha] at HI
          rcases HI.out.own.2 with ⟨_, h0⟩ | ⟨g', cap, cur, e, _⟩
          · have := HSL.out; omega
          · cases e
        | some a => obtain ⟨g, rfl⟩ := HY1.out a ha; exact ⟨g, rfl⟩
      subst hga
      have hfz := HI.out.own.frozen i
      obtain ⟨y, hy⟩ : ∃ y, s[i]? = some y := ⟨_, List.getElem?_eq_getElem (by rw [HSL.out]; exact hin)⟩
      have hcy : wr.cell? ⟨g, i, none⟩ = some (.string (str y)) := by
        have h1 := World.ownsRow.cells HI.out.own (g := g) rfl i (encStr y) (by rw [List.getElem?_map, hy]; rfl)
        rw [add_none, encStr_str, Nat.zero_add] at h1
        exact h1
      have HIN := hide hin
      clear hi hy hin
      go_wp2
      go_roundw
      case rel => exact ⟨i + 1, by first | rfl | simp, HIN.out, hide ⟨s.set i [109, 97, 114, 107], by rw [List.length_set]; exact HSL.out, HI.out.set i [109, 97, 114, 107]⟩⟩
      case measure => have := HIN.out; simp; omega
    · have hin' : ¬ (i : Int) < (n1 : Int) := by omega
      clear hi hin
      go_wp2_with fail
      have HI0 : Hid (s.length ≤ 4096 + 0 ∧ SI u wr (.slice a1 n1 c1) s a2 a3 ns) := hide ⟨by rw [HSL.out]; exact hn1b, HI.out⟩
      clear HI HSL hin'
      generalize hw6 : wr = w6 at *
      clear hw6
      go_loopw [17, 22] (fun a17 a22 wq => ∃ (j : Nat) (v : Value) (s : List Nm), a17 = v ∧ a22 = .int .i64 (j : Int) ∧ j ≤ 16 ∧ Hid (s.length ≤ 4096 + j ∧ SI u wq v s a2 a3 ns))
        (fun _ a22 _ => 16 - (match a22 with | .int _ x => x.toNat | _ => 0))
      case atStart => exact ⟨0, _, s, rfl, rfl, Nat.zero_le _, HI0⟩
      case round =>
        obtain ⟨j, v, s2, hv, rfl, hj, hrel⟩ := hrel
        subst hv
        have HQ := hide hrel.out.2
        have HQL := hide hrel.out.1
        clear hrel HI0
        generalize hw7 : wr = w7 at *
        clear hw7
        by_cases hj6 : j < 16
        · have hj' : (j : Int) < 16 := by omega
          have HJ := hide hj6
          clear hj6 hj
          go_wp2_with (first
            | (at_builtin; refine wpList_append_t1 rfl _ _ rfl u.heap.size _ s2 rfl (HQ.out.own.keep (below_new w7 _)) w7.heap.size [109, 97, 114, 107] rfl ((Bl.new w7 #[.string (str [109, 97, 114, 107])] 9).cell 0) (by have h1 := HQL.out; have h2 := HJ.out; omega) (Nat.le_trans HQ.out.bel.size (below_new w7 _).size) ?_; intro v8 w8 h8 g8 l8; have HS8 := hide ((HQ.out.below (below_new w7 _)).grow g8 h8 l8); clear h8 g8 l8))
          go_roundw
          case rel => exact ⟨j + 1, _, _, rfl, by first | rfl | simp, HJ.out, hide ⟨by rw [List.length_append]; have := HQL.out; simp only [List.length_cons, List.length_nil]; omega, HS8.out⟩⟩
          case measure => have := HJ.out; simp; omega
        · have hj' : ¬ (j : Int) < 16 := by omega
          clear hj6 hj
          go_wp2_with fail
          have HC := hide HQ.out.bel
          have HE2 := hide HQ.out.b
          have HE3 := hide HQ.out.want
          have HN2B : Hid (n2 ≤ 1000000000) := hide (by have h1 := HLN.out; have h2 := HN2.out; omega)
          have hNM := HNE.out.1
          have hMN := Ne.symm HNE.out.1
          clear HQ HQL
          have b0 : w7.cell? ⟨N, 0, none⟩ = some (.int .i64 (S.tries : Int)) := (HBC.out.keep HC.out).cell 0; have b1 : w7.cell? ⟨N, 1, none⟩ = some (.int .u64 (S.win : Int)) := (HBC.out.keep HC.out).cell 1; have b2 : w7.cell? ⟨N, 2, none⟩ = some (.int .i64 (S.subs : Int)) := (HBC.out.keep HC.out).cell 2; have b3 : w7.cell? ⟨N, 3, none⟩ = some (.int .u64 (S.clock : Int)) := (HBC.out.keep HC.out).cell 3; have b4 : w7.cell? ⟨N, 4, none⟩ = some (.slice ao n c) := (HBC.out.keep HC.out).cell 4; have z0 : w7.cell? ⟨M, 0, none⟩ = some (.int .i64 0) := (HZC.out.keep HC.out).cell 0; have z1 : w7.cell? ⟨M, 1, none⟩ = some (.int .u64 0) := (HZC.out.keep HC.out).cell 1; have z2 : w7.cell? ⟨M, 2, none⟩ = some (.int .i64 0) := (HZC.out.keep HC.out).cell 2; have z3 : w7.cell? ⟨M, 3, none⟩ = some (.int .u64 0) := (HZC.out.keep HC.out).cell 3; have z4 : w7.cell? ⟨M, 4, none⟩ = some (.slice none 0 0) := (HZC.out.keep HC.out).cell 4; have zf := fun i => (HZC.out.keep HC.out).frozen i
          have tok1 : True := trivial
          go_region_held (fun W => W.cell? ⟨N, 0, none⟩ = some (.int .i64 (S.tries : Int)) ∧ W.cell? ⟨N, 1, none⟩ = some (.int .u64 (S.win : Int)) ∧ W.cell? ⟨N, 2, none⟩ = some (.int .i64 (S.subs : Int)) ∧ W.cell? ⟨N, 3, none⟩ = some (.int .u64 (S.clock : Int)) ∧ W.cell? ⟨N, 4, none⟩ = some (.slice ao n c)) (go_keep) (first
            | (go_at_call 27; have _t := tok1; refine (texts_any a2 a3 n2 n3 c2 c3 ns w7.drew HE2.out HE3.out HN2.out HN3.out HN2B.out).mono ?_; rintro e w8 ⟨rfl, hw⟩; have hw' := below_undrew hw; have HC' := hide (HC.out.trans (hw'.mono HC.out.size)); have HE3' := hide (HE3.out.keep hw'); clear hw hw' HC HE3 HE2 _t tok1 b0 b1 b2 b3 b4 z0 z1 z2 z3 z4 zf; have HC := HC'; have HE3 := HE3'; clear HC' HE3'; have b0 : w8.cell? ⟨N, 0, none⟩ = some (.int .i64 (S.tries : Int)) := (HBC.out.keep HC.out).cell 0; have b1 : w8.cell? ⟨N, 1, none⟩ = some (.int .u64 (S.win : Int)) := (HBC.out.keep HC.out).cell 1; have b2 : w8.cell? ⟨N, 2, none⟩ = some (.int .i64 (S.subs : Int)) := (HBC.out.keep HC.out).cell 2; have b3 : w8.cell? ⟨N, 3, none⟩ = some (.int .u64 (S.clock : Int)) := (HBC.out.keep HC.out).cell 3; have b4 : w8.cell? ⟨N, 4, none⟩ = some (.slice ao n c) := (HBC.out.keep HC.out).cell 4; have z0 : w8.cell? ⟨M, 0, none⟩ = some (.int .i64 0) := (HZC.out.keep HC.out).cell 0; have z1 : w8.cell? ⟨M, 1, none⟩ = some (.int .u64 0) := (HZC.out.keep HC.out).cell 1; have z2 : w8.cell? ⟨M, 2, none⟩ = some (.int .i64 0) := (HZC.out.keep HC.out).cell 2; have z3 : w8.cell? ⟨M, 3, none⟩ = some (.int .u64 0) := (HZC.out.keep HC.out).cell 3; have z4 : w8.cell? ⟨M, 4, none⟩ = some (.slice none 0 0) := (HZC.out.keep HC.out).cell 4; have zf := fun i => (HZC.out.keep HC.out).frozen i)
            | (go_at_call 20; refine (subjects_t (HT0.out.below HC.out).1).mono ?_; rintro e w9 ⟨a4, n4, c4, rfl, HA4⟩; obtain ⟨e4, d4, hf4, hd4, hs4, hb4, hz4⟩ := HA4.out.1.form; injection hf4 with m1 m2 m3; subst m1 m3; rw [← HNS.out] at m2 hs4; have HE4 := hide hs4; have HN4 := hide m2; have HC' := hide (HC.out.trans (HA4.out.2.mono HC.out.size)); have HE3' := hide (HE3.out.keep HA4.out.2); clear hd4 hs4 hb4 hz4 m2 HA4 HC HE3 b0 b1 b2 b3 b4 z0 z1 z2 z3 z4 zf; have HC := HC'; have HE3 := HE3'; clear HC' HE3'; have b0 : w9.cell? ⟨N, 0, none⟩ = some (.int .i64 (S.tries : Int)) := (HBC.out.keep HC.out).cell 0; have b1 : w9.cell? ⟨N, 1, none⟩ = some (.int .u64 (S.win : Int)) := (HBC.out.keep HC.out).cell 1; have b2 : w9.cell? ⟨N, 2, none⟩ = some (.int .i64 (S.subs : Int)) := (HBC.out.keep HC.out).cell 2; have b3 : w9.cell? ⟨N, 3, none⟩ = some (.int .u64 (S.clock : Int)) := (HBC.out.keep HC.out).cell 3; have b4 : w9.cell? ⟨N, 4, none⟩ = some (.slice ao n c) := (HBC.out.keep HC.out).cell 4; have z0 : w9.cell? ⟨M, 0, none⟩ = some (.int .i64 0) := (HZC.out.keep HC.out).cell 0; have z1 : w9.cell? ⟨M, 1, none⟩ = some (.int .u64 0) := (HZC.out.keep HC.out).cell 1; have z2 : w9.cell? ⟨M, 2, none⟩ = some (.int .i64 0) := (HZC.out.keep HC.out).cell 2; have z3 : w9.cell? ⟨M, 3, none⟩ = some (.int .u64 0) := (HZC.out.keep HC.out).cell 3; have z4 : w9.cell? ⟨M, 4, none⟩ = some (.slice none 0 0) := (HZC.out.keep HC.out).cell 4; have zf := fun i => (HZC.out.keep HC.out).frozen i)
            | (go_at_call 27; refine (texts_any a4 a3 n4 n3 c4 c3 ns w9 HE4.out HE3.out HN4.out HN3.out (by have h1 := HLN.out; have h2 := HN4.out; omega)).mono ?_; rintro e w10 ⟨rfl, hw⟩; have HC' := hide (HC.out.trans (hw.mono HC.out.size)); clear hw HC b0 b1 b2 b3 b4 z0 z1 z2 z3 z4 zf; have HC := HC'; clear HC'; have b0 : w10.cell? ⟨N, 0, none⟩ = some (.int .i64 (S.tries : Int)) := (HBC.out.keep HC.out).cell 0; have b1 : w10.cell? ⟨N, 1, none⟩ = some (.int .u64 (S.win : Int)) := (HBC.out.keep HC.out).cell 1; have b2 : w10.cell? ⟨N, 2, none⟩ = some (.int .i64 (S.subs : Int)) := (HBC.out.keep HC.out).cell 2; have b3 : w10.cell? ⟨N, 3, none⟩ = some (.int .u64 (S.clock : Int)) := (HBC.out.keep HC.out).cell 3; have b4 : w10.cell? ⟨N, 4, none⟩ = some (.slice ao n c) := (HBC.out.keep HC.out).cell 4; have z0 : w10.cell? ⟨M, 0, none⟩ = some (.int .i64 0) := (HZC.out.keep HC.out).cell 0; have z1 : w10.cell? ⟨M, 1, none⟩ = some (.int .u64 0) := (HZC.out.keep HC.out).cell 1; have z2 : w10.cell? ⟨M, 2, none⟩ = some (.int .i64 0) := (HZC.out.keep HC.out).cell 2; have z3 : w10.cell? ⟨M, 3, none⟩ = some (.int .u64 0) := (HZC.out.keep HC.out).cell 3; have z4 : w10.cell? ⟨M, 4, none⟩ = some (.slice none 0 0) := (HZC.out.keep HC.out).cell 4; have zf := fun i => (HZC.out.keep HC.out).frozen i))
          go_wp2
          refine bodyPost_ret (results_cell_two rfl _ _ M 32 _ (0, 0) _ rfl (set5 (HZC.out.keep HC.out) _ _ _ _ _) Try.underlying32 (by kernel_rfl)) rfl ?_
          exact played_mk (pp_end (HT0.out.below HC.out).1 (by simp) (fun b hb => by simp [hb]) (fun a ha => by simp [HGB.out a ha]) HMW.out HMG.out (HHC.out.trans (held_below HC.out (fun b hb => HT0.out.lt b (by simp [hb])))) (Nat.le_trans HSZW.out HC.out.size) HRI.out HNL.out (HVC.out.keep HC.out) (fun a ha e => HMG.out (e ▸ HGB.out a ha)) (Nat.le_succ _) (fun a _ => .inl rfl) _ _ _ _ _)
end Go.Proofs.Ytbhlciaigadlkaa
