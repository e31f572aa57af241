/- goTo: the clock goes forward, and the windows that are over are let go. -/
import Derived.Test.YtbhlciaigadlkaaQRest
namespace Go.Proofs.Ytbhlciaigadlkaa
open Go.RowKit Go.Maps

theorem ret_nil : Ending.returned (.tuple #[]) = .returned (.tuple #[]) := rfl
theorem same_str (a b : Nm) : (Lit.string a).sameKey (.string b) = (a == b) := rfl
/-- The windows that are open, or are still to come. -/
def Fo (win now : Nat) (d : Tab) (left : Lit → Bool) : Tab := d.filter fun p => opens win now p || left (.string p.1)
theorem fo_start (win now : Nat) (bl : Nm → Nat) {d : Tab} (hr : Rising d) : Fo win now d (Maps.has (DL bl d)) = d := by
  unfold Fo
  rw [List.filter_eq_self]
  intro p hp
  rw [dl_has, tget_of hr (show (p.1, p.2) ∈ d from hp)]
  simp
theorem fo_end {win now : Nat} {d : Tab} {left : Lit → Bool} (h : ∀ nm, left (.string nm) = false) : Fo win now d left = d.filter (opens win now) := by
  unfold Fo
  apply List.filter_congr
  intro p _
  rw [h]; simp
theorem fo_mem {win now : Nat} {d : Tab} {left : Lit → Bool} {nm : Nm} {v : Nat × Nat} (h : tget nm (Fo win now d left) = some v) : (nm, v) ∈ d := (List.mem_filter.1 (tget_some h)).1
theorem fo_stays {win now : Nat} {d : Tab} {left : Lit → Bool} {nm : Nm} {v : Nat × Nat} (hr : Rising d) (hm : (nm, v) ∈ d) (ho : opens win now (nm, v) = true) : Fo win now d (fun z => left z && !z.sameKey (.string nm)) = Fo win now d left := by
  unfold Fo
  apply List.filter_congr
  intro p hp
  by_cases e : p.1 = nm
  · rw [hr.inj hp hm e, ho]; rfl
  · have e' : (p.1 == nm) = false := by simpa using e
    simp [same_str, e']
theorem fo_struck {win now : Nat} {d : Tab} {left : Lit → Bool} {nm : Nm} {v : Nat × Nat} (hr : Rising d) (hm : (nm, v) ∈ d) (ho : opens win now (nm, v) = false) : tdel nm (Fo win now d left) = Fo win now d (fun z => left z && !z.sameKey (.string nm)) := by
  unfold Fo tdel
  rw [List.filter_filter]
  apply List.filter_congr
  intro p hp
  by_cases e : p.1 = nm
  · rw [hr.inj hp hm e, ho]; simp [same_str]
  · have e' : (p.1 == nm) = false := by simpa using e
    simp [same_str, e']
theorem rest_open (win b t : Nat) (nm : Nm) (c : Nat) : (opens win t (nm, (b, c)) = true ∧ restN win b t ≠ 0) ∨ (opens win t (nm, (b, c)) = false ∧ restN win b t = 0) := by
  unfold opens restN
  by_cases h : t - b < win
  · exact .inl ⟨decide_eq_true h, by omega⟩
  · exact .inr ⟨decide_eq_false h, by omega⟩
theorem Fr.step {fp : List Nat} {r : Nat} {a b c : World} (h : Fr fp a b) (k : Fr [r] b c) (hr : a.heap.size ≤ r) : Fr fp a c := h.trans k fun x hx => .inr (by rw [List.mem_singleton.1 hx]; exact hr)
set_option maxHeartbeats 4000000 in
set_option maxRecDepth 100000 in
theorem goTo_any (lp now : Nat) (S : LS) (Y : Lay) (w : World) (h : Rep w lp S Y) (hn : now < 18446744073709551616) :
    Calls Try.prog 29 #[pf lp, .int .u64 (now : Int)] w fun e w' => e = .returned (.tuple #[]) ∧ Rep w' lp (S.goTo now) Y ∧ Aft lp S (S.goTo now) Y Y w w' := by
  have c3 := h.c3
  have f3 := h.box.frozen 3
  by_cases hc : now ≤ S.clock
  · rw [show S.goTo now = S from if_pos hc]
    have HH := hide h
    have hc' : (now : Int) ≤ (S.clock : Int) := by omega
    clear h hc
    unfold pf
    go_enter Try.func29, Try.ntmps29
    go_wp2
    first | go_end0 | ((try simp only [Exit.inBlock, Exit.then]); refine bodyPost_ret (results_none rfl _ _ _) rfl ?_)
    exact ⟨rfl, HH.out, Aft.refl _ _ _ _⟩
  · have HOK := hide (h.ok.goTo hn)
    rw [show S.goTo now = { S with clock := now, tab := S.tab.filter (opens S.win now) } from if_neg hc] at HOK ⊢
    have hc' : ¬ (now : Int) ≤ (S.clock : Int) := by omega
    have HB := hide (h.box.set 3 (.int .u64 (now : Int)))
    have HM := hide (h.map.same (heap_setCell_other w ⟨lp, 3, none⟩ Y.mp (.int .u64 (now : Int)) h.mne))
    have HA : Hid (∀ p ∈ S.tab, Bl (w.setCell ⟨lp, 3, none⟩ (.int .u64 (now : Int))) (Y.bl p.1) (acells p.2) 66) := hide fun p hp => (h.att p hp).other (h.vne p hp).1 _ _
    have HF := hide (Fr.setCell (Y.blocks lp S.tab) w lp 3 (.int .u64 (now : Int)) ((Y.mem lp _ lp).2 (.inl rfl)))
    have HL := hide h.lt
    have HV := hide h.vne
    have HI := hide h.inj
    have HMN := hide h.mne
    have HRI := hide h.ok.rising
    have HE := hide h.ok.each
    have HW := hide h.ok.win2
    have HN := hide hn
    have HC : Hid (S.clock < now) := hide (by omega)
    have hsz : (w.setCell ⟨lp, 3, none⟩ (.int .u64 (now : Int))).heap.size = w.heap.size := by simp [World.setCell]
    have HSZ := hide hsz
    clear h hc hn hsz
    unfold pf
    go_enter Try.func29, Try.ntmps29
    go_upto_region 2 with fail
    rw [show (lcells S Y.mp).set 3 (.int .u64 (now : Int)) = lcells { S with clock := now, tab := S.tab.filter (opens S.win now) } Y.mp from rfl] at HB
    generalize w.setCell ⟨lp, 3, none⟩ (.int .u64 (now : Int)) = w1 at *
    have b4 : w1.cell? ⟨lp, 4, none⟩ = some (.map (some Y.mp)) := HB.out.cell 4
    clear c3 f3 hc'
    go_wp2_with (first
      | (at_range; refine wpList_range_own _ rfl _ 52 rfl 9 67 law Try.underlying52 rp Y.mp S.tab.length (DL Y.bl S.tab) rfl HM.out ?_; intro w0 hrg0 hg0 hs0; have HR0 := hide hrg0; have HG0 := hide hg0; have HS0 := hide hs0; clear hrg0 hg0 hs0)
      | go_in)
    go_frame
    obtain ⟨r, hr⟩ : ∃ r, r = w1.heap.size := ⟨_, rfl⟩
    rw [← hr] at HR0 ⊢
    have HR : Hid (w.heap.size ≤ r) := hide (by rw [hr, HSZ.out]; exact Nat.le_refl _)
    have HLT : Hid (∀ b ∈ Y.blocks lp S.tab, b ≠ r) := hide fun b hb e => by have h1 := HL.out b hb; have h2 := HSZ.out; omega
    clear hr
    go_loopw [4, 5] (fun _ _ wr => Hid (∃ (left : Lit → Bool) (cnt : Nat), wr.ranges Try.prog 9 rp Y.mp r S.tab.length (DL Y.bl (Fo S.win now S.tab left)) left cnt ∧ Bl wr lp (lcells { S with clock := now, tab := S.tab.filter (opens S.win now) } Y.mp) 54 ∧ (∀ p ∈ S.tab, Bl wr (Y.bl p.1) (acells p.2) 66) ∧ Fr (Y.blocks lp S.tab) w wr))
      (fun _ _ wr => wr.rangeLeft Y.mp r)
    case atStart =>
      refine hide ⟨_, _, by rw [fo_start _ _ _ HRI.out]; exact HR0.out, ?_, ?_, ?_⟩
      · exact (HG0.out.block lp HB.out.lt (by simp)).trans HB.out
      · exact fun p hp => (HG0.out.block _ (HA.out p hp).lt (by simp)).trans (HA.out p hp)
      · exact HF.out.trans (fq := []) (Fr.grown HG0.out (fun j e => by cases e)) (fun x hx => by cases hx)
    case round =>
      obtain ⟨left, cnt, hrg, hb, ha, hf⟩ := hrel.out
      have HRG := hide hrg
      have HBR := hide hb
      have HAR := hide ha
      have HFR := hide hf
      clear hrel hrg hb ha hf
      go_wp2_with (first
        | (at_next; refine wpList_next_tab rfl _ rfl Y.mp r S.tab.length Y.bl _ _ _ rfl HRG.out ?_ ?_)
        | go_in)
      · intro hl0
        have HL0 := hide hl0
        clear hl0
        go_wp2
        go_end0
        refine ⟨rfl, ⟨HBR.out, own_exact (by rw [← fo_end HL0.out]; exact HRG.out.owns), fun p hp => HAR.out p (List.mem_filter.1 hp).1, HMN.out, fun p hp => HV.out p (List.mem_filter.1 hp).1, fun p hp q hq => HI.out p (List.mem_filter.1 hp).1 q (List.mem_filter.1 hq).1, HOK.out⟩, HFR.out, ?_⟩
        intro b hb
        refine .inl ?_
        rcases (Y.mem lp _ b).1 hb with e | e | ⟨p, hp, e⟩
        · exact (Y.mem lp _ b).2 (.inl e)
        · exact (Y.mem lp _ b).2 (.inr (.inl e))
        · exact (Y.mem lp _ b).2 (.inr (.inr ⟨p, (List.mem_filter.1 hp).1, e⟩))
      · intro nm since c w2 cnt2 hnl hgt hlx hrg2 hlt hf2 hen
        have hmem := fo_mem hgt
        have hne : lp ∉ [r] := fun e => HLT.out lp ((Y.mem lp _ lp).2 (.inl rfl)) (List.mem_singleton.1 e)
        have hnb : ∀ p ∈ S.tab, Y.bl p.1 ∉ [r] := fun p hp e => HLT.out _ ((Y.mem lp _ _).2 (.inr (.inr ⟨p, hp, rfl⟩))) (List.mem_singleton.1 e)
        have HB2 := hide (Fr.bl HBR.out hf2 hne)
        have HA2 : Hid (∀ p ∈ S.tab, Bl w2 (Y.bl p.1) (acells p.2) 66) := hide fun p hp => Fr.bl (HAR.out p hp) hf2 (hnb p hp)
        have HF2 := hide (HFR.out.step hf2 HR.out)
        have HRG2 := hide hrg2
        have HLT2 := hide hlt
        have HNL := hide hnl
        have HMEM := hide hmem
        have HC1 := hide (rest_any lp (Y.bl nm) S.win since now w2 (HB2.out.cell 1) ((HA2.out _ hmem).cell 0) (by have := (HE.out _ hmem).1; have := HC.out; simp only at *; omega) HN.out HW.out)
        have HOP := hide (rest_open S.win since now nm c)
        generalize restN S.win since now = rs at *
        clear hnl hgt hlx hrg2 hlt hf2 hmem hne hnb
        unfold pf at *
        by_cases hz : rs = 0
        · subst hz
          have ho : Hid (opens S.win now (nm, (since, c)) = false) := hide (HOP.out.elim (fun h => absurd rfl h.2) (fun h => h.1))
          go_wp2_with (first
            | (go_at_call 32; refine HC1.out.mono ?_; rintro e w3 ⟨rfl, n3, hw3⟩; have b43 : w3.cell? ⟨lp, 4, none⟩ = some (.map (some Y.mp)) := (by rw [hw3]; exact HB2.out.cell 4); have HRG3 : Hid (w3.ranges Try.prog 9 rp Y.mp r S.tab.length (DL Y.bl (Fo S.win now S.tab left)) (fun z => left z && !z.sameKey (.string nm)) cnt2) := hide (by rw [hw3]; exact HRG2.out); have HW3 := hide hw3; clear hw3)
            | (at_delete; refine wpList_delete_ranges _ rfl _ _ 52 9 rfl 67 law Try.underlying52 rp Y.mp r S.tab.length _ _ cnt2 rfl HRG3.out _ _ rfl (key_str HNL.out) ?_; intro w4 cnt4 hrg4 hle4 ht4; go_frame)
            | go_in)
          rw [strike_twice, dl_del, fo_struck HRI.out HMEM.out ho.out] at hrg4
          go_roundw
          case rel =>
            have hf4 : Fr [Y.mp] w2 w4 := by
              have := Fr.grown (fp := [Y.mp]) ht4.grown (fun j e => by cases e; simp)
              rw [HW3.out] at this
              exact ⟨this.os, this.tape, this.output, this.size, this.block⟩
            have m1 : lp ∉ [Y.mp] := fun e => HMN.out (List.mem_singleton.1 e).symm
            refine hide ⟨_, cnt4, hrg4, Fr.bl HB2.out hf4 m1, fun p hp => Fr.bl (HA2.out p hp) hf4 (fun e => (HV.out p hp).2 (List.mem_singleton.1 e)), HF2.out.trans hf4 (fun x hx => .inl ((Y.mem lp _ x).2 (.inr (.inl (List.mem_singleton.1 hx)))))⟩
          case measure =>
            rw [hrg4.left_eq, HRG.out.left_eq]
            have := HLT2.out
            omega
        · have ho : Hid (opens S.win now (nm, (since, c)) = true) := hide (HOP.out.elim (fun h => h.1) (fun h => absurd h.2 hz))
          have hz' : ((rs : Nat) : Int) ≠ 0 := by omega
          go_wp2_with (first
            | (go_at_call 32; refine HC1.out.mono ?_; rintro e w3 ⟨rfl, n3, hw3⟩)
            | go_in)
          go_roundw
          case rel =>
            subst hw3
            refine hide ⟨_, cnt2, by rw [fo_stays HRI.out HMEM.out ho.out]; exact HRG2.out, HB2.out, HA2.out, HF2.out.trans (fq := []) (Fr.drewN _ _ _) (fun x hx => by cases hx)⟩
          case measure =>
            subst hw3
            rw [show (w2.drewN n3).rangeLeft Y.mp r = w2.rangeLeft Y.mp r from rfl, HRG2.out.left_eq, HRG.out.left_eq]
            have := HLT2.out
            omega
end Go.Proofs.Ytbhlciaigadlkaa
