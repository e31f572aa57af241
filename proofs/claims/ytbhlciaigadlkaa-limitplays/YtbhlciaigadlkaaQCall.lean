/- Left, Wait, Sweep. -/
import Derived.Test.YtbhlciaigadlkaaQTry
namespace Go.Proofs.Ytbhlciaigadlkaa
open Go.RowKit Go.Maps Go.Shelf

set_option maxHeartbeats 400000 in
set_option maxRecDepth 100000 in
theorem lefts_any (lp now : Nat) (nm : Nm) (S : LS) (Y : Lay) (w : World) (h : Rep w lp S Y) (hn : now < 18446744073709551616) :
    Calls Try.prog 16 #[pf lp, .string (str nm), .int .u64 (now : Int)] w fun e w' => e = .returned (.int .i64 ((S.left nm (max now S.clock)).1 : Int)) ∧ Below w.heap.size w w' := by
  have c3 := h.c3
  have hck := h.ok.clock
  have HC2 := hide (left_any lp (max now S.clock) nm S Y w h (by omega) (by omega))
  have hmx : max (now : Int) (S.clock : Int) = ((max now S.clock : Nat) : Int) := by omega
  unfold two at HC2
  unfold pf at *
  generalize max now S.clock = t at *
  generalize S.left nm t = le at *
  clear h hck hn
  go_enter Try.func16, Try.ntmps16
  go_wp2_with (go_at_call 30; refine HC2.out.mono ?_; rintro e w2 ⟨rfl, hb2⟩; have HB2 := hide hb2; clear hb2)
  go_ret
  exact ⟨rfl, HB2.out⟩
theorem left_err {S : LS} {nm : Nm} {t : Nat} (he : (S.left nm t).2 = 80) : nm.length ≤ 256 ∧ ∃ v, tget nm S.tab = some v ∧ t - v.1 < S.win ∧ v.2 = S.tries := by
  have hN : (S.leftN t).2 ≠ 80 := by
    unfold LS.leftN
    split
    · intro hz; cases hz
    · intro hz; cases hz
  revert he
  unfold LS.left
  split
  · intro hz; cases hz
  · rename_i hl
    refine fun h0 => ⟨by omega, ?_⟩
    revert h0
    cases hg : tget nm S.tab with
    | none => exact fun hz => absurd hz hN
    | some v =>
      simp only
      split
      · rename_i h1
        split
        · rename_i h2
          exact fun _ => ⟨v, rfl, h1, h2⟩
        · intro hz; cases hz
      · exact fun hz => absurd hz hN
set_option maxHeartbeats 1000000 in
set_option maxRecDepth 100000 in
theorem wait_any (lp now : Nat) (nm : Nm) (S : LS) (Y : Lay) (w : World) (h : Rep w lp S Y) (hn : now < 18446744073709551616) :
    Calls Try.prog 15 #[pf lp, .string (str nm), .int .u64 (now : Int)] w fun e w' => e = .returned (.int .u64 (S.wait nm now : Int)) ∧ Below w.heap.size w w' := by
  have c3 := h.c3
  have c4 := h.c4
  have hck := h.ok.clock
  have HH := hide h
  have HC2 := hide (left_any lp (max now S.clock) nm S Y w h (by omega) (by omega))
  have HE := hide (left_err (S := S) (nm := nm) (t := max now S.clock))
  have hmx : max (now : Int) (S.clock : Int) = ((max now S.clock : Nat) : Int) := by omega
  have HT : Hid (max now S.clock < 18446744073709551616) := hide (by omega)
  have HT2 : Hid (S.clock ≤ max now S.clock) := hide (by omega)
  unfold two at HC2
  unfold LS.wait
  generalize max now S.clock = t at *
  clear h hck hn
  generalize S.left nm t = le at *
  unfold pf at *
  by_cases h80 : le.2 = 80
  · rw [if_pos h80]
    obtain ⟨hl, v, hg, ho, _⟩ := HE.out h80
    have h80' : (le.2 : Int) = 80 := by omega
    have HG := hide hg
    have HL : Hid (nm.length ≤ maxLen) := hide (by unfold maxLen; omega)
    rw [hg]
    simp only [Option.getD_some]
    clear h80 hl hg ho HE
    go_enter Try.func15, Try.ntmps15
    go_wp2_with (first
      | (go_at_call 30; refine HC2.out.mono ?_; rintro e w2 ⟨rfl, hb2⟩; have hr2 := HH.out.below hb2; have d4 := hr2.c4; have hlk := hr2.map.look (nm := nm) HL.out; rw [HG.out, show ptrOf Y.bl nm (some v) = .pointer (some ⟨Y.bl nm, 0, none⟩) from rfl] at hlk; have HR2 := hide hr2; have HB2 := hide hb2; clear hb2 hr2)
      | (go_at_call 32; refine (rest_any lp (Y.bl nm) S.win v.1 t w2 HR2.out.c1 ((HR2.out.att _ (tget_some HG.out)).cell 0) (Nat.le_trans (HR2.out.ok.each _ (tget_some HG.out)).1 HT2.out) HT.out HR2.out.ok.win2).mono ?_; rintro e w3 ⟨rfl, n3, hw3⟩; have HW3 := hide hw3; clear hw3))
    go_ret
    refine ⟨rfl, ?_⟩
    rw [HW3.out]
    exact below_drewN HB2.out _
  · rw [if_neg h80]
    have h80' : ((le.2 : Int) == 80) = false := by simp; omega
    by_cases h5 : le.2 = 5
    · rw [if_pos h5]
      have h5' : (le.2 : Int) = 5 := by omega
      clear h80 h80' HE
      go_enter Try.func15, Try.ntmps15
      go_wp2_with (first
        | (go_at_call 30; refine HC2.out.mono ?_; rintro e w2 ⟨rfl, hb2⟩; have hr2 := HH.out.below hb2; have HR2 := hide hr2; have HB2 := hide hb2; clear hb2 hr2)
        | (go_at_call 33; refine (first_any lp t S Y w2 HR2.out HT2.out HT.out).mono ?_; rintro e w3 ⟨rfl, hb3⟩; have HB3 := hide hb3; clear hb3))
      go_ret
      exact ⟨rfl, HB2.out.trans (HB3.out.mono HB2.out.size)⟩
    · rw [if_neg h5]
      have h5' : ((le.2 : Int) == 5) = false := by simp; omega
      clear h80 h5 HE
      go_enter Try.func15, Try.ntmps15
      go_wp2_with (first
        | (go_at_call 30; refine HC2.out.mono ?_; rintro e w2 ⟨rfl, hb2⟩; have HB2 := hide hb2; clear hb2))
      go_ret
      exact ⟨rfl, HB2.out⟩
set_option maxHeartbeats 400000 in
set_option maxRecDepth 100000 in
theorem sweep_any (lp now : Nat) (S : LS) (Y : Lay) (w : World) (h : Rep w lp S Y) (hn : now < 18446744073709551616) :
    Calls Try.prog 17 #[pf lp, .int .u64 (now : Int)] w fun e w' => e = .returned (.int .i64 ((S.goTo now).tab.length : Int)) ∧ Rep w' lp (S.goTo now) Y ∧ Aft lp S (S.goTo now) Y Y w w' := by
  have HGO := hide (goTo_any lp now S Y w h hn)
  generalize S.goTo now = S1 at *
  clear h
  unfold pf at *
  go_enter Try.func17, Try.ntmps17
  go_wp2_with (go_at_call 29; refine HGO.out.mono ?_; rintro e w1 ⟨rfl, h1, a1⟩; have H1 := hide h1; have A1 := hide a1; have d4 := h1.c4; have hlen := (fun ty => h1.map.len ty); clear h1 a1)
  go_ret
  exact ⟨rfl, H1.out, A1.out⟩
end Go.Proofs.Ytbhlciaigadlkaa
