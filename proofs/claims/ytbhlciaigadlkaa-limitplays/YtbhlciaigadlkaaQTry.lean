/- attempt, New, Try. -/
import Derived.Test.YtbhlciaigadlkaaQLeft
import Derived.Test.YtbhlciaigadlkaaShelf
namespace Go.Proofs.Ytbhlciaigadlkaa
open Go.RowKit Go.Maps Go.Shelf

set_option maxHeartbeats 400000 in
set_option maxRecDepth 100000 in
theorem clone_any (s : ByteArray) (w : World) (hs : s.size ≤ 281474976710656) : Calls Try.prog 36 #[.string s] w fun e w' => e = .returned (.string s) ∧ Below w.heap.size w w' := by
  have c : Calls Try.prog 45 #[.string s] w fun e w' => e = .returned (.string s) ∧ Below w.heap.size w w' := Any.stringslite_Clone laysM316 s w hs
  go_enter Try.func36, Try.ntmps36
  go_wp2_with (go_at_call 45; refine c.mono ?_; rintro e w' ⟨rfl, hb⟩)
  go_ret
  exact ⟨rfl, hb⟩
theorem tab_put {w : World} {mp : Nat} {bl : Nm → Nat} {d : Tab} (h : TabAt w mp bl d) (nm : Nm) (c : Nat × Nat) (b : Nat) (hb : bl nm = b) (hn : tget nm d = none) (hl : nm.length ≤ maxLen) (hd : d.length < maxLen) :
    ∃ w', (Instr.mapUpdate 52 (.map (some mp)) (.string (str nm)) (pf b)).run Try.prog w = .ok () w' ∧ TabAt w' mp bl (tins (nm, c) d) ∧ Fr [mp] w w' := by
  obtain ⟨w', h1, h2, h3⟩ := World.ownsMap.update (t := 52) (e := 67) h law Try.underlying52 hd (key_str hl) (rp_pf b)
  rw [dl_put bl nm b c d hb hn] at h2
  exact ⟨w', h1, own_exact h2, Fr.grown h3 (fun j e => by cases e; simp)⟩
/-- The blocks with one more. -/
def blAt (bl : Nm → Nat) (nm : Nm) (b : Nat) : Nm → Nat := fun x => if x = nm then b else bl x
theorem blAt_self (bl : Nm → Nat) (nm : Nm) (b : Nat) : blAt bl nm b nm = b := if_pos rfl
theorem blAt_ne {bl : Nm → Nat} {nm x : Nm} {b : Nat} (h : x ≠ nm) : blAt bl nm b x = bl x := if_neg h
theorem TabAt.more {w : World} {mp : Nat} {bl : Nm → Nat} {d : Tab} (h : TabAt w mp bl d) {nm : Nm} (b : Nat) (hn : tget nm d = none) : TabAt w mp (blAt bl nm b) d := by
  unfold TabAt at *
  rw [dl_congr (fun p hp => blAt_ne (tget_none hn p hp))]
  exact h
set_option maxHeartbeats 4000000 in
set_option maxRecDepth 100000 in
theorem attempt_old (lp : Nat) (nm : Nm) (S : LS) (Y : Lay) (w : World) (h : Rep w lp S Y) (hl : nm.length ≤ 256) {v : Nat × Nat} (hg : tget nm S.tab = some v) :
    Calls Try.prog 31 #[pf lp, .string (str nm)] w fun e w' => e = .returned (pf (Y.bl nm)) ∧ w' = w := by
  have c4 := h.c4
  have hlk := h.map.look (nm := nm) (by unfold maxLen; omega)
  rw [hg, show ptrOf Y.bl nm (some v) = pf (Y.bl nm) from rfl] at hlk
  clear h hg hl
  unfold pf at *
  go_enter Try.func31, Try.ntmps31
  go_wp2
  go_ret
  exact ⟨rfl, rfl⟩
set_option maxHeartbeats 4000000 in
set_option maxRecDepth 100000 in
theorem attempt_new (lp : Nat) (nm : Nm) (S : LS) (Y : Lay) (w : World) (h : Rep w lp S Y) (hl : nm.length ≤ 256) (hg : tget nm S.tab = none) (N : Nat) (hN : N = w.heap.size) :
    Calls Try.prog 31 #[pf lp, .string (str nm)] w fun e w' => e = .returned (pf N) ∧ TabAt w' Y.mp (blAt Y.bl nm N) (tins (nm, (S.clock, 1)) S.tab) ∧ Bl w' N (acells (S.clock, 0)) 66 ∧ Fr [Y.mp] w w' := by
  have c3 := h.c3
  have c4 := h.c4
  have hlk := h.map.look (nm := nm) (by unfold maxLen; omega)
  rw [hg, show ptrOf Y.bl nm none = .pointer none from rfl] at hlk
  have HCL : Hid (∀ W, Calls Try.prog 36 #[.string (str nm)] W fun e w' => e = .returned (.string (str nm)) ∧ Below W.heap.size W w') := hide fun W => clone_any (str nm) W (by rw [str_size]; omega)
  have HTB := hide ((h.map.more (nm := nm) w.heap.size hg))
  have HLT := hide h.map.lt
  have HMN := hide h.mne
  have HPUT : Hid (∀ W : World, TabAt W Y.mp (blAt Y.bl nm w.heap.size) S.tab → ∃ w', (Instr.mapUpdate 52 (.map (some Y.mp)) (.string (str nm)) (pf w.heap.size)).run Try.prog W = .ok () w' ∧ TabAt w' Y.mp (blAt Y.bl nm w.heap.size) (tins (nm, (S.clock, 1)) S.tab) ∧ Fr [Y.mp] W w') :=
    hide fun W hW => tab_put hW nm (S.clock, 1) w.heap.size (blAt_self _ _ _) hg (by unfold maxLen; omega) (by have := h.ok.len; have := h.ok.subs2; unfold maxLen; omega)
  have HNEW := hide (Bl.new w #[.int .u64 (S.clock : Int), .int .i64 0] 66)
  have HBN := hide (below_new w (.cells #[.int .u64 (S.clock : Int), .int .i64 0] 66))
  have HNW : Hid (N = w.heap.size) := hide hN
  clear h hg hl hN
  unfold pf at *
  go_enter Try.func31, Try.ntmps31
  go_upto_region 4 with fail
  rw [← HNW.out] at HTB HPUT HNEW ⊢
  generalize w.alloc (.cells #[.int .u64 (S.clock : Int), .int .i64 0] 66) = w1 at *
  have f4 := cell_kept c4 HBN.out
  go_region_held (fun W => W.cell? ⟨lp, 4, none⟩ = some (.map (some Y.mp))) (go_keep) (first | (go_at_call 36; refine (HCL.out _).mono ?_; rintro e w2 ⟨rfl, hb⟩; have hb2 := below_undrewN1 hb; have e4 := cell_kept f4 hb2; have HB2 := hide hb2; obtain ⟨w3, hrun3, h3, hf3⟩ := HPUT.out w2 ((HTB.out.same (HBN.out.block _ HLT.out)).same (hb2.block _ (Nat.lt_of_lt_of_le HLT.out HBN.out.size))); have g4 : w3.cell? ⟨lp, 4, none⟩ = some (.map (some Y.mp)) := (World.cell?_of_block (hf3.block lp (World.block_lt_of_cell? w2 _ e4) (fun e => HMN.out (List.mem_singleton.1 e).symm))).trans e4; have H3 := hide h3; have HF3 := hide hf3; clear hb hb2 h3 hf3))
  all_goals
    go_wp2
    go_ret
    refine ⟨rfl, H3.out, ?_, ?_⟩
    · have hb : Below w1.heap.size w1 w2 := HB2.out
      refine Fr.bl (HNEW.out.keep hb) HF3.out (fun e => ?_)
      have := List.mem_singleton.1 e
      have h1 := HLT.out
      have h2 := HNW.out
      omega
    · exact (Fr.of HBN.out).trans (fq := [Y.mp]) ((Fr.of HB2.out).trans HF3.out (fun x hx => .inl hx)) (fun x hx => .inl hx)
set_option maxHeartbeats 1000000 in
set_option maxRecDepth 100000 in
theorem new_bad (t wn sb : Int) (w : World) (h : t < 1 ∨ 1000000 < t ∨ wn = 0 ∨ sb < 1 ∨ 4096 < sb) : Calls Try.prog 8 #[.int .i64 t, .int .u64 wn, .int .i64 sb] w fun e w' => e = .returned (.tuple #[.pointer none, .int .i64 2]) ∧ w' = w := by
  by_cases h1 : t < 1
  · clear h
    go_enter Try.func8, Try.ntmps8
    go_wp2
    go_ret2
    exact ⟨rfl, rfl⟩
  · by_cases h2 : 1000000 < t
    · clear h
      go_enter Try.func8, Try.ntmps8
      go_wp2
      go_ret2
      exact ⟨rfl, rfl⟩
    · by_cases h3 : wn = 0
      · subst h3
        clear h
        go_enter Try.func8, Try.ntmps8
        go_wp2
        go_ret2
        exact ⟨rfl, rfl⟩
      · by_cases h4 : sb < 1
        · have h3' : (wn == 0) = false := by simpa using h3
          clear h h3
          go_enter Try.func8, Try.ntmps8
          go_wp2
          go_ret2
          exact ⟨rfl, rfl⟩
        · have h3' : (wn == 0) = false := by simpa using h3
          have h5 : 4096 < sb := by omega
          clear h h3
          go_enter Try.func8, Try.ntmps8
          go_wp2
          go_ret2
          exact ⟨rfl, rfl⟩
/-- A limit that knows nobody. -/
def fresh (t wn sb : Nat) : LS := ⟨t, wn, sb, 0, []⟩
theorem fresh_ok {t wn sb : Nat} (h : 1 ≤ t ∧ t ≤ 1000000 ∧ 1 ≤ wn ∧ wn < 18446744073709551616 ∧ 1 ≤ sb ∧ sb ≤ 4096) : Ok (fresh t wn sb) :=
  ⟨h.1, h.2.1, h.2.2.1, h.2.2.2.1, h.2.2.2.2.1, h.2.2.2.2.2, by show 0 < _; omega, List.Pairwise.nil, Nat.zero_le _, fun p hp => by cases hp⟩
theorem rep_fresh (w : World) (t wn sb : Nat) (h : Ok (fresh t wn sb)) : Rep ((w.alloc (.map #[] 0)).alloc (.cells #[.int .i64 (t : Int), .int .u64 (wn : Int), .int .i64 (sb : Int), .int .u64 0, .map (some w.heap.size)] 54)) (w.heap.size + 1) (fresh t wn sb) ⟨w.heap.size, fun _ => 0⟩ := by
  refine ⟨?_, ?_, fun p hp => (by cases hp), by show w.heap.size ≠ w.heap.size + 1; omega, fun p hp => (by cases hp), fun p hp => (by cases hp), h⟩
  · have := Bl.new (w.alloc (.map #[] 0)) #[.int .i64 (t : Int), .int .u64 (wn : Int), .int .i64 (sb : Int), .int .u64 0, .map (some w.heap.size)] 54
    rw [show (w.alloc (.map #[] 0)).heap.size = w.heap.size + 1 by simp] at this
    exact this
  · exact TabAt.same (World.ownsMap_made w Try.prog 9 rp) ((below_new _ _).block _ (by simp))
set_option maxHeartbeats 1000000 in
set_option maxRecDepth 100000 in
theorem new_any (t wn sb : Nat) (w : World) (h : 1 ≤ t ∧ t ≤ 1000000 ∧ 1 ≤ wn ∧ wn < 18446744073709551616 ∧ 1 ≤ sb ∧ sb ≤ 4096) :
    Calls Try.prog 8 #[.int .i64 (t : Int), .int .u64 (wn : Int), .int .i64 (sb : Int)] w fun e w' => ∃ lp, e = .returned (.tuple #[pf lp, .int .i64 0]) ∧ ∃ Y, Rep w' lp (fresh t wn sb) Y ∧ Below w.heap.size w w' ∧ ∀ b ∈ Y.blocks lp [], w.heap.size ≤ b := by
  have hmm := @run_makeMap Try.prog
  have h1 : ¬ (t : Int) < 1 := by omega
  have h2 : ¬ (1000000 : Int) < (t : Int) := by omega
  have h3 : ((wn : Int) == 0) = false := by simp; omega
  have h4 : ¬ (sb : Int) < 1 := by omega
  have h5 : ¬ (4096 : Int) < (sb : Int) := by omega
  have HOK := hide (fresh_ok h)
  clear h
  go_enter Try.func8, Try.ntmps8
  go_wp2
  go_ret2
  refine ⟨w.heap.size + 1, rfl, ⟨w.heap.size, fun _ => 0⟩, rep_fresh w t wn sb HOK.out, (below_new w _).trans ((below_new _ _).mono (by simp)), fun b hb => ?_⟩
  rcases (Lay.mem _ _ _ b).1 hb with h | h | ⟨p, hp, _⟩
  · omega
  · rw [h]; exact Nat.le_refl _
  · cases hp
theorem left_pos {S : LS} (h : Ok S) {nm : Nm} {t : Nat} (h0 : (S.left nm t).2 = 0) : nm.length ≤ 256 ∧ 1 ≤ (S.left nm t).1 ∧ (S.left nm t).1 ≤ 1000000 := by
  have h1 := h.tries1
  have h2 := h.tries2
  have hN : ∀ (hz : (S.leftN t).2 = 0), 1 ≤ (S.leftN t).1 ∧ (S.leftN t).1 ≤ 1000000 := by
    unfold LS.leftN
    split
    · intro hz; cases hz
    · intro _; exact ⟨h1, h2⟩
  revert h0
  unfold LS.left
  split
  · intro hz; cases hz
  · rename_i hl
    refine fun h0 => ⟨by omega, ?_⟩
    revert h0
    cases hg : tget nm S.tab with
    | none => exact hN
    | some v =>
      have hv := h.each _ (tget_some hg)
      simp only at hv ⊢
      split
      · split
        · intro hz; cases hz
        · intro _; exact ⟨by show 1 ≤ S.tries - v.2; omega, by show S.tries - v.2 ≤ _; omega⟩
      · exact hN
theorem rep_old {w : World} {lp : Nat} {nm : Nm} {S : LS} {Y : Lay} (h : Rep w lp S Y) {v : Nat × Nat} (hg : tget nm S.tab = some v) (hok : Ok (S.attempt nm)) :
    Rep (w.setCell ⟨Y.bl nm, 1, none⟩ (.int .i64 ((v.2 + 1 : Nat) : Int))) lp (S.attempt nm) Y ∧ Aft lp S (S.attempt nm) Y Y w (w.setCell ⟨Y.bl nm, 1, none⟩ (.int .i64 ((v.2 + 1 : Nat) : Int))) := by
  have hm := tget_some hg
  have e : S.attempt nm = { S with tab := tset nm (v.1, v.2 + 1) S.tab } := by unfold LS.attempt; rw [hg]
  rw [e] at hok ⊢
  have hbl : Y.blocks lp (tset nm (v.1, v.2 + 1) S.tab) = Y.blocks lp S.tab := by
    unfold Lay.blocks
    congr 2
    have h1 : ∀ x : Tab, (x.map fun p => Y.bl p.1) = (x.map (·.1)).map Y.bl := fun x => by rw [List.map_map]; rfl
    rw [h1, h1, tset_names]
  have hv := h.vne _ hm
  refine ⟨⟨h.box.other (Ne.symm hv.1) _ _, ?_, ?_, h.mne, ?_, ?_, hok⟩, Fr.setCell _ _ _ _ _ ((Y.mem lp _ _).2 (.inr (.inr ⟨_, hm, rfl⟩))), fun b hb => .inl (by rw [← hbl]; exact hb)⟩
  · have h1 := h.map.same (heap_setCell_other w ⟨Y.bl nm, 1, none⟩ Y.mp (.int .i64 ((v.2 + 1 : Nat) : Int)) (Ne.symm hv.2))
    unfold TabAt at h1 ⊢
    show World.ownsMap _ _ _ _ _ (tset nm (v.1, v.2 + 1) S.tab).length (DL Y.bl (tset nm (v.1, v.2 + 1) S.tab))
    rw [tset_length, dl_names Y.bl (tset_names nm (v.1, v.2 + 1) S.tab)]
    exact h1
  · intro p hp
    rcases tset_mem hp with ⟨rfl, _⟩ | ⟨hp1, hne⟩
    · exact (h.att _ hm).set 1 _
    · exact (h.att p hp1).other (fun e => hne (h.inj p hp1 _ hm e)) _ _
  · intro p hp
    rcases tset_mem hp with ⟨rfl, _⟩ | ⟨hp1, hne⟩
    · exact hv
    · exact h.vne p hp1
  · intro p hp q hq e
    have hp' : ∃ p', p' ∈ S.tab ∧ p'.1 = p.1 := by
      rcases tset_mem hp with ⟨rfl, u, hu⟩ | ⟨hp1, _⟩
      · exact ⟨_, hu, rfl⟩
      · exact ⟨p, hp1, rfl⟩
    have hq' : ∃ q', q' ∈ S.tab ∧ q'.1 = q.1 := by
      rcases tset_mem hq with ⟨rfl, u, hu⟩ | ⟨hq1, _⟩
      · exact ⟨_, hu, rfl⟩
      · exact ⟨q, hq1, rfl⟩
    obtain ⟨p', h1, e1⟩ := hp'
    obtain ⟨q', h2, e2⟩ := hq'
    rw [← e1, ← e2] at e ⊢
    exact h.inj p' h1 q' h2 e
theorem rep_new {w w' : World} {lp : Nat} {nm : Nm} {S : LS} {Y : Lay} (h : Rep w lp S Y) (hg : tget nm S.tab = none) (hok : Ok (S.attempt nm)) {N : Nat} (hN : N = w.heap.size) (ht : TabAt w' Y.mp (blAt Y.bl nm N) (tins (nm, (S.clock, 1)) S.tab)) (hb : Bl w' N (acells (S.clock, 0)) 66) (hf : Fr [Y.mp] w w') :
    Rep (w'.setCell ⟨N, 1, none⟩ (.int .i64 1)) lp (S.attempt nm) ⟨Y.mp, blAt Y.bl nm N⟩ ∧ Aft lp S (S.attempt nm) Y ⟨Y.mp, blAt Y.bl nm N⟩ w (w'.setCell ⟨N, 1, none⟩ (.int .i64 1)) := by
  have e : S.attempt nm = { S with tab := tins (nm, (S.clock, 1)) S.tab } := by unfold LS.attempt; rw [hg]
  rw [e] at hok ⊢
  have hne : ∀ p ∈ S.tab, blAt Y.bl nm N p.1 = Y.bl p.1 := fun p hp => blAt_ne (tget_none hg p hp)
  have hlN : lp ≠ N := by have := h.box.lt; omega
  have hmN : Y.mp ≠ N := by have := h.map.lt; omega
  have hpN : ∀ p ∈ S.tab, Y.bl p.1 ≠ N := fun p hp => by have := (h.att p hp).lt; omega
  refine ⟨⟨?_, ?_, ?_, h.mne, ?_, ?_, hok⟩, ?_, ?_⟩
  · exact (Fr.bl h.box hf (fun e => h.mne (List.mem_singleton.1 e).symm)).other hlN _ _
  · exact ht.same (heap_setCell_other w' _ Y.mp _ hmN)
  · intro p hp
    show Bl _ (blAt Y.bl nm N p.1) _ _
    rcases (tins_mem _ _ p).1 hp with rfl | hp
    · rw [blAt_self]; exact hb.set 1 _
    · rw [hne p hp]
      exact (Fr.bl (h.att p hp) hf (fun e => (h.vne p hp).2 (List.mem_singleton.1 e))).other (hpN p hp) _ _
  · intro p hp
    show blAt Y.bl nm N p.1 ≠ lp ∧ blAt Y.bl nm N p.1 ≠ Y.mp
    rcases (tins_mem _ _ p).1 hp with rfl | hp
    · rw [blAt_self]; exact ⟨Ne.symm hlN, Ne.symm hmN⟩
    · rw [hne p hp]; exact h.vne p hp
  · intro p hp q hq e
    have e : blAt Y.bl nm N p.1 = blAt Y.bl nm N q.1 := e
    rcases (tins_mem _ _ p).1 hp with rfl | hp <;> rcases (tins_mem _ _ q).1 hq with rfl | hq
    · rfl
    · rw [blAt_self, hne q hq] at e; exact absurd e.symm (hpN q hq)
    · rw [blAt_self, hne p hp] at e; exact absurd e (hpN p hp)
    · rw [hne p hp, hne q hq] at e; exact h.inj p hp q hq e
  · refine (hf.mono (fq := Y.blocks lp S.tab) fun x hx => .inl ((Y.mem lp _ x).2 (.inr (.inl (List.mem_singleton.1 hx))))).trans (fq := [N]) (Fr.setCell _ _ _ _ _ (by simp)) fun x hx => .inr (by rw [List.mem_singleton.1 hx, hN]; exact Nat.le_refl _)
  · intro b hb
    rcases (Lay.mem _ lp _ b).1 hb with rfl | rfl | ⟨p, hp, rfl⟩
    · exact .inl ((Y.mem _ _ _).2 (.inl rfl))
    · exact .inl ((Y.mem _ _ _).2 (.inr (.inl rfl)))
    · show blAt Y.bl nm N p.1 ∈ _ ∨ _ ≤ blAt Y.bl nm N p.1
      rcases (tins_mem _ _ p).1 hp with rfl | hp
      · rw [blAt_self]; exact .inr (by omega)
      · rw [hne p hp]; exact .inl ((Y.mem _ _ _).2 (.inr (.inr ⟨p, hp, rfl⟩)))
set_option maxHeartbeats 4000000 in
set_option maxRecDepth 100000 in
theorem try_any (lp now : Nat) (nm : Nm) (S : LS) (Y : Lay) (w : World) (h : Rep w lp S Y) (hn : now < 18446744073709551616) :
    Calls Try.prog 14 #[pf lp, .string (str nm), .int .u64 (now : Int)] w fun e w' => e = .returned (two (S.try nm now).2) ∧ ∃ Y', Rep w' lp (S.try nm now).1 Y' ∧ Aft lp S (S.try nm now).1 Y Y' w w' := by
  have hsz := str_size nm
  unfold two LS.try
  by_cases hl : 256 < nm.length
  · rw [if_pos hl]
    have HH := hide h
    have hl' : (256 : Int) < (nm.length : Int) := by omega
    generalize nm.length = k at *
    clear h hl
    unfold pf
    go_enter Try.func14, Try.ntmps14
    go_wp2
    go_ret2
    exact ⟨rfl, Y, HH.out, Aft.refl _ _ _ _⟩
  · rw [if_neg hl]
    have hl' : ¬ (256 : Int) < (nm.length : Int) := by omega
    have HL : Hid (nm.length ≤ 256) := hide (by omega)
    have HGO := hide (goTo_any lp now S Y w h hn)
    have HOK := hide (h.ok.goTo hn)
    generalize S.goTo now = S1 at *
    have HLE : Hid (∀ W, Rep W lp S1 Y → Calls Try.prog 30 #[pf lp, .string (str nm), .int .u64 (S1.clock : Int)] W fun e w' => e = .returned (two (S1.left nm S1.clock)) ∧ Below W.heap.size W w') := hide fun W hW => left_any lp S1.clock nm S1 Y W hW (Nat.le_refl _) HOK.out.clock
    have HPO := hide (fun h0 => left_pos HOK.out (nm := nm) (t := S1.clock) h0)
    have HAT := hide (fun h0 => HOK.out.attempt (nm := nm) h0)
    unfold two at HLE
    generalize S1.left nm S1.clock = le at *
    clear h hl
    by_cases h0 : le.2 = 0
    · rw [if_pos h0]
      have h0' : (le.2 : Int) = 0 := by omega
      have hp := HPO.out h0
      have hwr : IntKind.i64.wrap ((le.1 : Int) - 1) = ((le.1 - 1 : Nat) : Int) := by rw [IntKind.wrap_i64]; omega
      have HATT := hide (HAT.out h0)
      generalize le.1 - 1 = l1 at *
      clear hp HPO HAT h0
      unfold pf at *
      cases hg : tget nm S1.tab with
      | some v =>
        obtain ⟨since, c⟩ := v
        have HG := hide hg
        have hcb := (HOK.out.each _ (tget_some hg)).2.2.2.1
        have hct := HOK.out.tries2
        have hw2 : IntKind.i64.wrap ((c : Int) + 1) = ((c + 1 : Nat) : Int) := by rw [IntKind.wrap_i64]; simp only at hcb; omega
        clear hg hcb hct
        go_enter Try.func14, Try.ntmps14
        go_wp2_with (first
          | (go_at_call 29; refine HGO.out.mono ?_; rintro e w1 ⟨rfl, h1, a1⟩; have H1 := hide h1; have A1 := hide a1; have d3 := h1.c3; clear h1 a1)
          | (go_at_call 30; refine (HLE.out _ H1.out).mono ?_; rintro e w2 ⟨rfl, hb2⟩; have H2 := hide (H1.out.below hb2); have A2 := hide (A1.out.trans (Aft.of hb2)); clear hb2 d3)
          | (go_at_call 31; refine (attempt_old lp nm S1 Y w2 H2.out HL.out HG.out).mono ?_; rintro e w3 ⟨rfl, hw3⟩; have hw4 := hw3.symm; subst hw4; clear hw3; unfold pf; have g1 : w2.cell? ⟨Y.bl nm, 1, none⟩ = some (.int .i64 (c : Int)) := (H2.out.att _ (tget_some HG.out)).cell 1; have g2 := (H2.out.att _ (tget_some HG.out)).frozen 1))
        go_ret2
        have := rep_old H2.out HG.out HATT.out
        exact ⟨by first | rfl | simp, Y, this.1, A2.out.trans this.2⟩
      | none =>
        have HG := hide hg
        clear hg
        go_enter Try.func14, Try.ntmps14
        go_wp2_with (first
          | (go_at_call 29; refine HGO.out.mono ?_; rintro e w1 ⟨rfl, h1, a1⟩; have H1 := hide h1; have A1 := hide a1; have d3 := h1.c3; clear h1 a1)
          | (go_at_call 30; refine (HLE.out _ H1.out).mono ?_; rintro e w2 ⟨rfl, hb2⟩; have H2 := hide (H1.out.below hb2); have A2 := hide (A1.out.trans (Aft.of hb2)); clear hb2 d3; obtain ⟨N, hN⟩ : ∃ N, N = w2.heap.size := ⟨_, rfl⟩; have HN := hide hN; clear hN)
          | (go_at_call 31; refine (attempt_new lp nm S1 Y w2 H2.out HL.out HG.out N HN.out).mono ?_; rintro e w3 ⟨rfl, t3, b3, f3⟩; unfold pf; have g1 : w3.cell? ⟨N, 1, none⟩ = some (.int .i64 0) := b3.cell 1; have g2 := b3.frozen 1; have T3 := hide t3; have B3 := hide b3; have F3 := hide f3; clear t3 b3 f3))
        go_ret2
        have := rep_new H2.out HG.out HATT.out HN.out T3.out B3.out F3.out
        exact ⟨by first | rfl | simp, _, this.1, A2.out.trans this.2⟩
    · rw [if_neg h0]
      have h0' : ((le.2 : Int) == 0) = false := by simp; omega
      have h0'' : ¬ (le.2 : Int) = 0 := by omega
      clear h0 HPO HAT
      unfold pf at *
      go_enter Try.func14, Try.ntmps14
      go_wp2_with (first
        | (go_at_call 29; refine HGO.out.mono ?_; rintro e w1 ⟨rfl, h1, a1⟩; have H1 := hide h1; have A1 := hide a1; have d3 := h1.c3; clear h1 a1)
        | (go_at_call 30; refine (HLE.out _ H1.out).mono ?_; rintro e w2 ⟨rfl, hb2⟩; have H2 := hide (H1.out.below hb2); have A2 := hide (A1.out.trans (Aft.of hb2)); clear hb2 d3))
      go_ret2
      exact ⟨by first | rfl | simp, Y, H2.out, A2.out⟩
end Go.Proofs.Ytbhlciaigadlkaa
