/- The document's Advance, walked. -/
import Derived.Test.YtmngmkbiibhmkaaVRefE
namespace Go.Proofs.Ytmngmkbiibhmkaa
open Go.RowKit Go.Maps

theorem RPost.up {w w2 w3 : World} {rp now : Nat} {v : Value} {L : List Tm} (h : RPost w w2 rp now v L) (hb : Below w2.heap.size w2 w3) : RPost w w3 rp now v L := by
  obtain ⟨v', h1, h2, h3⟩ := h
  exact ⟨v', h1.keep hb, h2, h3.trans (Fr.of hb : Fr [] w2 w3) (fun x hx => by cases hx)⟩
theorem RPost.from' {w w1 w3 : World} {rp now : Nat} {v : Value} {L : List Tm} (h : RPost w1 w3 rp now v L) (hf : Fr [rp] w w1) (hs : w1.heap.size = w.heap.size) : RPost w w3 rp now v L := by
  obtain ⟨v', h1, h2, h3⟩ := h
  exact ⟨v', h1, fun g hg => by rw [← hs]; exact h2 g hg, hf.trans h3 fun x hx => .inl hx⟩
theorem rown_some {w : World} {B : Nat} {v : Value} {ds : List Tm} (h : ROwn w B v ds) (hne : ds ≠ []) : ∃ g n c, v = .slice (some ⟨g, 0, none⟩) n c ∧ n = ds.length := by
  rcases h.2 with ⟨_, hn⟩ | ⟨g, cap, cur, rfl, _⟩
  · exact absurd (List.length_eq_zero_iff.1 hn) hne
  · exact ⟨g, _, cap, rfl, rfl⟩
def gapF (D : List Tm) (x2 : Nat) : Nat → Bool
  | 0 => false
  | k + 1 => match D[k]? with
    | some y => decide (x2 < y.2)
    | none => false
theorem gap_true {D : List Tm} {x2 k : Nat} (h : gapF D x2 k = true) : ∃ k' y, k = k' + 1 ∧ D[k']? = some y ∧ x2 < y.2 := by
  cases k with
  | zero => cases h
  | succ k =>
    cases hy : D[k]? with
    | none => simp [gapF, hy] at h
    | some y => simp only [gapF, hy] at h; exact ⟨k, y, rfl, hy, of_decide_eq_true h⟩
theorem gap_false {D : List Tm} {x2 k : Nat} (hk : k ≤ D.length) (h : gapF D x2 k = false) : k = 0 ∨ ∃ y, D[k - 1]? = some y ∧ y.2 ≤ x2 := by
  cases k with
  | zero => exact .inl rfl
  | succ k =>
    right
    obtain ⟨y, hy⟩ : ∃ y, D[k]? = some y := ⟨_, List.getElem?_eq_getElem (by omega)⟩
    simp only [gapF, hy] at h
    have := of_decide_eq_false h
    exact ⟨y, hy, by omega⟩
theorem ROwn.cells2 {w : World} {B g n c : Nat} {ds : List Tm} (h : ROwn w B (.slice (some ⟨g, 0, none⟩) n c) ds) {i : Nat} {x : Tm} (hx : ds[i]? = some x) : w.cell? ⟨g, i * 2, none⟩ = some (.int .u64 (x.1 : Int)) ∧ w.cell? ⟨g, i * 2 + 1, none⟩ = some (.int .u64 (x.2 : Int)) := by
  obtain ⟨ao, c', e, _, hr⟩ := h.read
  injection e with e1 e2 e3
  subst e1
  obtain ⟨b, off, e, k0, k1⟩ := hr.at hx
  cases e
  rw [Nat.zero_add] at k0 k1
  exact ⟨k0, k1⟩
theorem ROwn.frozen {w : World} {B g n c : Nat} {ds : List Tm} (h : ROwn w B (.slice (some ⟨g, 0, none⟩) n c) ds) (i : Nat) : w.frozen? ⟨g, i, none⟩ = false := by
  rcases h.2 with ⟨e, _⟩ | ⟨g', cap, cur, e, _, hb, _⟩
  · cases e
  · injection e with e1 e2 e3
    cases e1
    exact frozen_of_row w g i _ _ hb
theorem ROwn.len {w : World} {B n c : Nat} {ao : Option Addr} {ds : List Tm} (h : ROwn w B (.slice ao n c) ds) : n = ds.length := by
  obtain ⟨ao', c', e, _⟩ := h.read
  injection e
theorem AVK.zcell {w1 wr : World} {tt g n c k tb : Nat} {M : List Tm} {rv : Value} {x : Tm} (h : AVK w1 wr tt M g n c rv k x tb) : ∃ z : Tm, wr.cell? ⟨g, k * 2, none⟩ = some (.int .u64 (z.1 : Int)) ∧ wr.cell? ⟨g, k * 2 + 1, none⟩ = some (.int .u64 (z.2 : Int)) ∧ wr.frozen? ⟨g, k * 2, none⟩ = false ∧ wr.frozen? ⟨g, k * 2 + 1, none⟩ = false ∧ n = (dueL tt M).length + 1 := by
  obtain ⟨z, hz⟩ := h.row
  have hk := h.le
  have hx : ((dueL tt M).take k ++ [z] ++ (dueL tt M).drop k)[k]? = some z := by
    rw [List.append_assoc, List.getElem?_append_right (by rw [List.length_take]; omega), List.length_take, show k - min k (dueL tt M).length = 0 by omega]
    rfl
  obtain ⟨c0, c1⟩ := hz.cells2 hx
  have hn := hz.len
  rw [adv_len hk] at hn
  exact ⟨z, c0, c1, hz.frozen _, hz.frozen _, hn⟩
theorem AVK.ycell {w1 wr : World} {tt g n c k tb j : Nat} {M : List Tm} {rv : Value} {x y : Tm} (h : AVK w1 wr tt M g n c rv k x tb) (hj : j < k) (hy : (dueL tt M)[j]? = some y) : wr.cell? ⟨g, j * 2, none⟩ = some (.int .u64 (y.1 : Int)) ∧ wr.cell? ⟨g, j * 2 + 1, none⟩ = some (.int .u64 (y.2 : Int)) := by
  obtain ⟨z, hz⟩ := h.row
  exact hz.cells2 (by rw [adv_get hj h.le]; exact hy)
theorem told_due (tt : Nat) (L : List Tm) : told tt L = (dueL tt L).map (·.1) := rfl
set_option maxHeartbeats 4000000 in
set_option maxRecDepth 100000 in
theorem radvance_ok (rp now tt : Nat) (v : Value) (L : List Tm) (w : World) (h : RefAt w rp now v L) (hl : L.length ≤ 8192) (hr : Rise L) (htt : now ≤ tt) :
    Calls Try.prog 20 #[pw rp, .int .u64 (tt : Int)] w fun e w' => ∃ ao n c, e = .returned (.tuple #[.slice ao n c, .int .i64 0]) ∧ Hid (Own w' w.heap.size (.slice ao n c) (told tt L) ∧ RPost w w' rp tt v (advL tt L)) := by
  obtain ⟨lo, lc, rfl, _, hrow, c0, c1⟩ := h.form
  have f1 := h.box.frozen 1
  have htt' : ¬ (tt : Int) < (now : Int) := by omega
  have hlt := h.lt
  have HR1 : Hid (RefAt (w.setCell ⟨rp, 1, none⟩ (.int .u64 (tt : Int))) rp tt (.slice lo L.length lc) L) := hide ⟨h.box.set 1 _, h.own.same fun g hg => heap_setCell_other w ⟨rp, 1, none⟩ g _ (by show g ≠ rp; exact h.ne g hg), h.ne⟩
  have HFR : Hid (Fr [rp] w (w.setCell ⟨rp, 1, none⟩ (.int .u64 (tt : Int)))) := hide (Fr.setCell [rp] w rp 1 _ (by simp))
  have HSZ : Hid ((w.setCell ⟨rp, 1, none⟩ (.int .u64 (tt : Int))).heap.size = w.heap.size) := hide (by simp [World.setCell])
  have HRS : Hid (∀ (i : Nat) (x : Tm), L[i]? = some x → ∀ p ∈ L.take i, p.1 < x.1) := hide fun i x hx p hp => by
    obtain ⟨j, hj, e⟩ := List.getElem_of_mem hp
    rw [List.length_take] at hj
    rw [List.getElem_take] at e
    obtain ⟨hi, ex⟩ := List.getElem?_eq_some_iff.1 hx
    have := List.pairwise_iff_getElem.1 hr j i (by omega) hi (by omega)
    rw [e, ex] at this
    exact this
  obtain ⟨N, hN⟩ : ∃ N, N = L.length := ⟨_, rfl⟩
  rw [← hN] at c0 hl HR1
  have HN := hide hN
  clear h hr hrow hN hlt htt
  unfold pw
  go_enter Try.func20, Try.ntmps20
  go_upto_region 4 with fail
  generalize w.setCell ⟨rp, 1, none⟩ (.int .u64 (tt : Int)) = w1 at *
  clear c0 c1 f1
  go_wp2_with fail
  go_loopw [6, 7, 8] (fun v6 v7 v8 wr => ∃ (i : Nat) (ao : Option Addr) (n c : Nat) (bo : Option Addr) (m d : Nat), i ≤ N ∧ v8 = .int .i64 (i : Int) ∧ v6 = .slice ao n c ∧ v7 = .slice bo m d ∧ Hid (AVI w1 wr tt (L.take i) (.slice ao n c) (.slice bo m d))) (fun _ _ v8 _ => N - (intOf v8).toNat)
  case atStart => exact ⟨0, none, 0, 0, none, 0, 0, by omega, rfl, rfl, rfl, AVI.start w1 tt⟩
  case round =>
    obtain ⟨i, ao, n, c, bo, m, d, hi, rfl, rfl, rfl, HI⟩ := hrel
    have hrf := HR1.out.keep HI.out.bel
    have c0 : wr.cell? ⟨rp, 0, none⟩ = some (.slice lo N lc) := hrf.box.cell 0
    by_cases hin : i < N
    · have hil : (i : Int) < (N : Int) := by omega
      obtain ⟨x, hx⟩ : ∃ x, L[i]? = some x := ⟨_, List.getElem?_eq_getElem (by have := HN.out; omega)⟩
      obtain ⟨ao', c', e', _, hrow⟩ := hrf.own.read
      injection e' with e1 e2 e3
      subst e1
      obtain ⟨b, off, rfl, k0, k1⟩ := hrow.at hx
      have HTK : Hid (L.take (i + 1) = L.take i ++ [x]) := hide (by rw [List.take_add_one, hx]; rfl)
      have HRX := hide (HRS.out i x hx)
      have HTL : Hid ((L.take i).length ≤ 8192) := hide (by rw [List.length_take]; omega)
      obtain ⟨x1, x2⟩ := x
      simp only at k0 k1
      clear hx e2 e3 hrow hrf
      go_upto_region 10 with fail
      have HBX := hide (Bl.new wr #[.int .u64 (x1 : Int), .int .u64 (x2 : Int)] 58)
      have HIT := hide (HI.out.below (below_new wr (.cells #[.int .u64 (x1 : Int), .int .u64 (x2 : Int)] 58)))
      have HTB : Hid (wr.heap.size ≤ wr.heap.size) := hide (Nat.le_refl _)
      obtain ⟨tb, htb⟩ : ∃ tb, tb = wr.heap.size := ⟨_, rfl⟩
      rw [← htb] at HBX ⊢
      have HTB : Hid (wr.heap.size ≤ tb) := hide (by omega)
      clear htb
      generalize wr.alloc (.cells #[.int .u64 (x1 : Int), .int .u64 (x2 : Int)] 58) = wt at *
      have b0 : wt.cell? ⟨tb, 0, none⟩ = some (.int .u64 (x1 : Int)) := HBX.out.cell 0
      have b1 : wt.cell? ⟨tb, 1, none⟩ = some (.int .u64 (x2 : Int)) := HBX.out.cell 1
      have HBN := hide (Bl.new wt #[.int .u64 (x1 : Int), .int .u64 (x2 : Int)] 58)
      have HSZ2 : Hid (w1.heap.size ≤ (wt.alloc (.cells #[.int .u64 (x1 : Int), .int .u64 (x2 : Int)] 58)).heap.size) := by show _ ≤ _; have := HIT.out.bel.size; simp; omega
      clear k0 k1 c0
      by_cases hx2 : x2 ≤ tt
      · have hx2' : ¬ (tt : Int) < (x2 : Int) := by omega
        have HT := hide (HIT.out.due.keep (below_new wt (.cells #[.int .u64 (x1 : Int), .int .u64 (x2 : Int)] 58)))
        have HDL : Hid ((dueL tt (L.take i)).length ≤ 1000000) := hide (by have h1 := dueL_len tt (L.take i); have h2 := HTL.out; omega)
        have HNL := hide HI.out.due.len
        have hn8 : (n : Int) ≤ 8192 := by have h1 := dueL_len tt (L.take i); have h2 := HTL.out; have h3 := HNL.out; omega
        go_upto_region 14 with (at_builtin; refine wpList_append_r rfl _ _ rfl w1.heap.size (.slice ao n c) (dueL tt (L.take i)) rfl HT.out wt.heap.size (x1, x2) rfl (HBN.out.cell 0) (HBN.out.cell 1) HDL.out HSZ2.out ?_; intro v4 w4 h4 g4 l4; obtain ⟨g, n4, c4, e4, hn4⟩ := rown_some h4 (by simp); subst e4; have HK0 := hide (AVI.begin HIT.out HBX.out HTB.out HI.out _ g4 h4 l4); clear h4 g4 l4 hn4)
        clear HBN HSZ2 HT HDL HIT HI HBX b0 b1
        have HX2 := hide hx2
        clear hx2
        go_loopw [10] (fun v10 wr => ∃ k : Nat, k ≤ n ∧ v10 = .int .i64 (k : Int) ∧ Hid (AVK w1 wr tt (L.take i) g n4 c4 (.slice bo m d) k (x1, x2) tb)) (fun v10 _ => (intOf v10).toNat)
        case atStart => exact ⟨n, by omega, rfl, by rw [HNL.out]; exact HK0⟩
        case round =>
          clear HK0
          obtain ⟨k, hk, rfl, HK⟩ := hrel
          obtain ⟨F, HF⟩ : ∃ F : Bool, Hid (F = gapF (dueL tt (L.take i)) x2 k) := ⟨_, hide rfl⟩
          have b1 : wr.cell? ⟨tb, 1, none⟩ = some (.int .u64 (x2 : Int)) := HK.out.box.cell 1
          obtain ⟨z0, q0, q1, q2, q3, hn4⟩ := HK.out.zcell
          have hkn : (k : Int) < (n4 : Int) := by have := HNL.out; omega
          clear q0 q1 q2 q3 z0
          go_upto_region 14 with fail
          go_cut [65] (fun q wx => q = .bool F ∧ Hid (∃ nn, wx = wr.drewN nn))
          case first =>
            clear hn4
            rcases Nat.eq_zero_or_pos k with hk0 | hk0
            · subst hk0
              have e : Hid (F = false) := hide HF.out
              go_quiet (fail)
              go_wp2
              go_meet
              case rel => exact ⟨by rw [e.out], nq, rfl⟩
            · obtain ⟨k', hk'⟩ : ∃ k', k = k' + 1 := ⟨k - 1, by omega⟩
              obtain ⟨y, hy⟩ : ∃ y, (dueL tt (L.take i))[k']? = some y := ⟨_, List.getElem?_eq_getElem (by have := HNL.out; omega)⟩
              obtain ⟨-, d1⟩ := HK.out.ycell (j := k') (by omega) hy
              have hF2 : F = decide (x2 < y.2) := by rw [HF.out, hk']; simp only [gapF, hy]
              obtain ⟨y1, y2⟩ := y
              simp only at d1 hF2
              have hk0' : (0 : Int) < (k : Int) := by omega
              have hm1 : (k : Int) - 1 = (k' : Int) := by omega
              have hm2 : IntKind.i64.wrap ((k : Int) - 1) = (k' : Int) := by rw [IntKind.wrap_i64]; omega
              have hkn' : (k' : Int) < (n4 : Int) := by omega
              have hd1 : decide (0 < k) = true := decide_eq_true hk0
              have hd2 : decide ((0 : Int) < (k : Int)) = true := decide_eq_true hk0'
              clear hk' hy
              by_cases hlt : x2 < y2
              · have hlt' : (x2 : Int) < (y2 : Int) := by omega
                have hd3 : decide (x2 < y2) = true := decide_eq_true hlt
                have hd4 : decide ((x2 : Int) < (y2 : Int)) = true := decide_eq_true hlt'
                have e : Hid (F = true) := hide (by rw [hF2]; exact decide_eq_true hlt)
                clear hF2 hlt
                go_quiet (fail)
                go_wp2
                go_meet
                case rel => exact ⟨by rw [e.out], nq, rfl⟩
              · have hlt' : ¬ (x2 : Int) < (y2 : Int) := by omega
                have hd3 : decide (x2 < y2) = false := decide_eq_false hlt
                have hd4 : decide ((x2 : Int) < (y2 : Int)) = false := decide_eq_false hlt'
                have e : Hid (F = false) := hide (by rw [hF2]; exact decide_eq_false hlt)
                clear hF2 hlt
                go_quiet (fail)
                go_wp2
                go_meet
                case rel => exact ⟨by rw [e.out], nq, rfl⟩
          case rest =>
            obtain ⟨rfl, HW⟩ := hcut
            have HKC : Hid (AVK w1 wc tt (L.take i) g n4 c4 (.slice bo m d) k (x1, x2) tb) := by
              obtain ⟨nn, hwn⟩ := HW.out
              rw [hwn]
              exact hide (HK.out.drewN nn)
            clear HW HK b1 hn4
            obtain ⟨⟨z1, z2⟩, q0, q1, q2, q3, -⟩ := HKC.out.zcell
            simp only at q0 q1
            cases F with
            | true =>
              obtain ⟨k', y, hk', hy, hlt⟩ := gap_true HF.out.symm
              obtain ⟨d0, d1⟩ := HKC.out.ycell (j := k') (by omega) hy
              have HKS : Hid (AVK w1 ((wc.setCell ⟨g, k * 2, none⟩ (.int .u64 (y.1 : Int))).setCell ⟨g, k * 2 + 1, none⟩ (.int .u64 (y.2 : Int))) tt (L.take i) g n4 c4 (.slice bo m d) k' (x1, x2) tb) := by
                have h := HKC.out
                rw [hk'] at h ⊢
                exact hide (h.set hy hlt)
              obtain ⟨y1, y2⟩ := y
              simp only at d0 d1 HKS
              have hm1 : (k : Int) - 1 = (k' : Int) := by omega
              have hm2 : IntKind.i64.wrap ((k : Int) - 1) = (k' : Int) := by rw [IntKind.wrap_i64]; omega
              have hkn' : (k' : Int) < (n4 : Int) := by omega
              have hkk : k' ≤ n := by omega
              have HKK : Hid (k' < k) := hide (by omega)
              clear hk' hy hlt HKC HF
              go_wp2_with fail
              go_roundw
              case rel => exact ⟨k', hkk, by go_num, HKS⟩
              case measure => simp [intOf]; exact HKK.out
            | false =>
              have h1 := gap_false HKC.out.le HF.out.symm
              have b0 : wc.cell? ⟨tb, 0, none⟩ = some (.int .u64 (x1 : Int)) := HKC.out.box.cell 0
              have b1 : wc.cell? ⟨tb, 1, none⟩ = some (.int .u64 (x2 : Int)) := HKC.out.box.cell 1
              have HI4 := hide (HKC.out.done HRX.out HX2.out h1)
              simp only at HI4
              clear h1 HKC HF
              go_wp2_with fail
              go_roundw
              case rel => exact ⟨i + 1, some ⟨g, 0, none⟩, n4, c4, bo, m, d, by omega, by simp, rfl, rfl, by rw [HTK.out]; exact HI4⟩
              case measure => simp [intOf]; omega
      · have hx2' : (tt : Int) < (x2 : Int) := by omega
        have HT := hide (HIT.out.rest.keep (below_new wt (.cells #[.int .u64 (x1 : Int), .int .u64 (x2 : Int)] 58)))
        have HDL : Hid ((advL tt (L.take i)).length ≤ 1000000) := hide (by have h1 : (advL tt (L.take i)).length ≤ (L.take i).length := List.length_filter_le ..; have h2 := HTL.out; omega)
        have HX2 := hide (show tt < (x1, x2).2 by simp only; omega)
        clear hx2
        go_wp2_with (at_builtin; refine wpList_append_r rfl _ _ rfl w1.heap.size (.slice bo m d) (advL tt (L.take i)) rfl HT.out wt.heap.size (x1, x2) rfl (HBN.out.cell 0) (HBN.out.cell 1) HDL.out HSZ2.out ?_; intro v4 w4 h4 g4 l4; obtain ⟨ao4, n4, c4, rfl⟩ := rown_shape h4; have HI4 := hide (HIT.out.later _ HX2.out g4 h4 l4); clear h4 g4 l4)
        go_roundw
        case rel => exact ⟨i + 1, ao, n, c, ao4, n4, c4, by omega, by simp, rfl, rfl, by rw [HTK.out]; exact HI4⟩
        case measure => simp [intOf]; omega
    · have hil : ¬ (i : Int) < (N : Int) := by omega
      have hti : L.take i = L := List.take_of_length_le (by have := HN.out; omega)
      rw [hti] at HI
      have f0 := hrf.box.frozen 0
      have hlt := HR1.out.lt
      have HPO := hide (RPost.of HR1.out HI.out.bel HI.out.rest)
      have HDR : Hid (ROwn (wr.setCell ⟨rp, 0, none⟩ (.slice bo m d)) w1.heap.size (.slice ao n c) (dueL tt L)) := hide (HI.out.due.same fun g hg => heap_setCell_other wr ⟨rp, 0, none⟩ g _ (by show g ≠ rp; have := (HI.out.due.lt g hg).1; omega))
      have HS1 : Hid (w1.heap.size ≤ (wr.setCell ⟨rp, 0, none⟩ (.slice bo m d)).heap.size) := hide (by have := HI.out.bel.size; simp [World.setCell]; omega)
      have HNL := hide HDR.out.len
      have hn8 : (n : Int) ≤ 8192 := by have h1 := dueL_len tt L; have h2 := HN.out; have h3 := HNL.out; omega
      clear HI hrf hti
      go_upto_region 19 with fail
      generalize wr.setCell ⟨rp, 0, none⟩ (.slice bo m d) = ws at *
      clear c0 f0
      go_wp2_with fail
      go_loopw [11, 12] (fun v11 v12 wq => ∃ (j : Nat) (ao' : Option Addr) (n' c' : Nat), j ≤ n ∧ v12 = .int .i64 (j : Int) ∧ v11 = .slice ao' n' c' ∧ Hid (Own wq ws.heap.size (.slice ao' n' c') (((dueL tt L).take j).map (·.1))) ∧ Hid (Below ws.heap.size ws wq)) (fun _ v12 _ => n - (intOf v12).toNat)
      case atStart => exact ⟨0, none, 0, 0, by omega, rfl, rfl, own_nil _ _, Below.refl _ _⟩
      case round =>
        obtain ⟨j, bo', n', c', hj, rfl, rfl, HO, HB⟩ := hrel
        by_cases hjn : j < n
        · have hjl : (j : Int) < (n : Int) := by omega
          obtain ⟨y, hy⟩ : ∃ y, (dueL tt L)[j]? = some y := ⟨_, List.getElem?_eq_getElem (by have := HNL.out; omega)⟩
          obtain ⟨ao2, c2, e2, _, hrow⟩ := (HDR.out.keep HB.out).read
          injection e2 with e21 e22 e23
          subst e21
          obtain ⟨b, off, e0, k0, k1⟩ := hrow.at hy
          subst e0
          have HTK : Hid (((dueL tt L).take (j + 1)).map (·.1) = ((dueL tt L).take j).map (·.1) ++ [y.1]) := hide (by rw [List.take_add_one, hy]; simp)
          have HXL : Hid ((((dueL tt L).take j).map (·.1)).length ≤ 8192) := hide (by rw [List.length_map, List.length_take]; omega)
          obtain ⟨y1, y2⟩ := y
          simp only at k0 HTK
          clear hy k1 e22 e23 hrow
          generalize ((dueL tt L).take j).map (·.1) = xs at *
          have HOK := hide (HO.out.keep (below_new wr (.cells #[.int .u64 (y1 : Int)] 22)))
          have HSZ3 : Hid (ws.heap.size ≤ (wr.alloc (.cells #[.int .u64 (y1 : Int)] 22)).heap.size) := by show _ ≤ _; have := HB.out.size; simp; omega
          go_wp2_with (at_builtin; refine wpList_append_nums rfl _ _ 48 48 Try.underlying48 Try.underlying48 rfl ws.heap.size (.slice bo' n' c') xs rfl HOK.out (some ⟨wr.heap.size, 0, none⟩) 1 1 [y1] rfl rfl (row_one wr y1 22) (by have := HXL.out; simp only [List.length_singleton]; omega) HSZ3.out ?_; intro v5 w5 h5 g5 l5; obtain ⟨ao5, n5, c5, rfl⟩ := own_shape h5; rw [← HTK.out] at h5; have HO5 := hide h5; have HB5 := hide ((HB.out.trans ((below_new wr _).mono HB.out.size)).grown g5 HSZ3.out (fun k hk => (HO.out.lt k hk).1)); clear h5 g5 l5)
          go_roundw
          case rel => exact ⟨j + 1, ao5, n5, c5, by omega, by simp, rfl, HO5, HB5⟩
          case measure => simp [intOf]; omega
        · have hjl : ¬ (j : Int) < (n : Int) := by omega
          have hte : (dueL tt L).take j = dueL tt L := List.take_of_length_le (by have := HNL.out; omega)
          rw [hte] at HO
          have HFIN : Hid (Own wr w.heap.size (.slice bo' n' c') (told tt L) ∧ RPost w wr rp tt (.slice lo N lc) (advL tt L)) := hide ⟨HO.out.lower (by have h1 := HS1.out; have h2 := HSZ.out; omega), (HPO.out.up HB.out).from' HFR.out HSZ.out⟩
          clear hte
          rw [HN.out] at HFIN
          go_wp2_with fail
          go_ret2
          exact ⟨_, _, _, rfl, HFIN⟩
theorem radvance_any (rp now tt : Nat) (v : Value) (L : List Tm) (w : World) (h : RefAt w rp now v L) (hl : L.length ≤ 8192) (hr : Rise L) (hbig : ∀ p ∈ L, now < p.2) :
    Calls Try.prog 20 #[pw rp, .int .u64 (tt : Int)] w fun e w' => ∃ ao n c, e = .returned (.tuple #[.slice ao n c, .int .i64 (if tt < now then 70 else 0)]) ∧ Hid (Own w' w.heap.size (.slice ao n c) (told tt L) ∧ RPost w w' rp (max now tt) v (advL tt L)) := by
  by_cases htt : tt < now
  · have e1 : advL tt L = L := List.filter_eq_self.2 fun p hp => by have := hbig p hp; simp; omega
    have e2 : told tt L = [] := by
      have : advD tt L = [] := List.filter_eq_nil_iff.2 fun p hp => by have := hbig p hp; simp; omega
      unfold told
      rw [this]
      simp
    rw [e1, e2, if_pos htt, show max now tt = now by omega]
    obtain ⟨lo, lc, rfl, _, hrow, c0, c1⟩ := h.form
    have HR := hide h
    have htt' : (tt : Int) < (now : Int) := by omega
    clear e1 e2 htt hrow hl hr hbig c0 h
    unfold pw
    go_enter Try.func20, Try.ntmps20
    go_wp2_with fail
    go_ret2
    exact ⟨_, _, _, rfl, own_nil _ _, RPost.refl HR.out⟩
  · rw [if_neg htt, show max now tt = tt by omega]
    exact radvance_ok rp now tt v L w h hl hr (by omega)
end Go.Proofs.Ytmngmkbiibhmkaa
