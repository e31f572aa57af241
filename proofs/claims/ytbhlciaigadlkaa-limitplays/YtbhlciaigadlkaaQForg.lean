/- The limit's Forgive and Clear. -/
import Derived.Test.YtbhlciaigadlkaaQMine
import Derived.Test.YtbhlciaigadlkaaQPlayM
namespace Go.Proofs.Ytbhlciaigadlkaa
open Go.RowKit Go.Maps Go.Shelf
open Go.ChangeMaps (setBlock heap_setBlock_same heap_setBlock_other)

theorem tab_clear {w : World} {mp : Nat} {bl : Nm → Nat} {d : Tab} (h : TabAt w mp bl d) : ∃ w', (∀ ty, (Builtin.clear_ #[52] ty #[.map (some mp)]).run Try.prog w = .ok (.tuple #[]) w') ∧ TabAt w' mp bl [] ∧ Fr [mp] w w' := by
  obtain ⟨es, clock, hb, _⟩ := h
  have hr : ∃ o, ∀ ty, (Builtin.clear_ #[52] ty #[.map (some mp)]).run Try.prog w = .ok (.tuple #[]) (setBlock w mp (.map #[] o)) := by
    refine ⟨clock, fun ty => ?_⟩
    simp [Builtin.clear_, run_underlying Try.underlying52, MapKept.run_getObj_map hb, MapKept.run_setObj_map _ hb, Result.andThen]
    rfl
  obtain ⟨o, hr⟩ := hr
  exact ⟨_, hr, ⟨#[], o, heap_setBlock_same hb _, ⟨by simp, MapKept.stamped_empty o, by simp⟩, Nat.le_refl _, rfl⟩, ⟨rfl, rfl, rfl, by simp [setBlock], fun k _ hk => heap_setBlock_other hb _ (fun e => hk (by rw [e]; simp))⟩⟩
set_option maxHeartbeats 1000000 in
set_option maxRecDepth 100000 in
theorem clear_any (lp : Nat) (S : LS) (Y : Lay) (w : World) (h : Rep w lp S Y) : Calls Try.prog 18 #[pf lp] w fun e w' => e = .returned (.tuple #[]) ∧ Rep w' lp S.clear Y ∧ Aft lp S S.clear Y Y w w' := by
  obtain ⟨w1, hrun, hT, hF⟩ := tab_clear h.map
  have c4 := h.c4
  have hB1 := Fr.bl h.box hF (fun e => h.mne (List.mem_singleton.1 e).symm)
  have f3 := hB1.frozen 3
  have c3 : w1.cell? ⟨lp, 3, none⟩ = some (.int .u64 (S.clock : Int)) := hB1.cell 3
  have HB := hide (hB1.set 3 (.int .u64 0))
  have HT := hide (hT.same (heap_setCell_other w1 ⟨lp, 3, none⟩ Y.mp (.int .u64 0) h.mne))
  have HF := hide ((hF.mono (fq := Y.blocks lp S.tab) fun x hx => .inl ((Y.mem lp _ x).2 (.inr (.inl (List.mem_singleton.1 hx))))).trans (fq := Y.blocks lp S.tab) (Fr.setCell _ w1 lp 3 (.int .u64 0) ((Y.mem lp _ lp).2 (.inl rfl))) (fun x hx => .inl hx))
  have HM := hide h.mne
  have HO := hide h.ok.clear
  clear h hT hF hB1
  unfold pf
  go_enter Try.func18, Try.ntmps18
  go_wp2
  go_end0
  refine ⟨rfl, ⟨HB.out, HT.out, fun p hp => (by cases hp), HM.out, fun p hp => (by cases hp), fun p hp => (by cases hp), HO.out⟩, HF.out, fun b hb => .inl ?_⟩
  rcases (Y.mem lp _ b).1 hb with e | e | ⟨p, hp, _⟩
  · exact (Y.mem lp _ b).2 (.inl e)
  · exact (Y.mem lp _ b).2 (.inr (.inl e))
  · cases hp
set_option maxHeartbeats 1000000 in
set_option maxRecDepth 100000 in
theorem forgive_any (lp : Nat) (nm : Nm) (S : LS) (Y : Lay) (w : World) (h : Rep w lp S Y) (hl : nm.length ≤ maxLen) : Calls Try.prog 19 #[pf lp, .string (str nm)] w fun e w' => e = .returned (.bool (tget nm S.tab).isSome) ∧ Rep w' lp (S.forgive nm) Y ∧ Aft lp S (S.forgive nm) Y Y w w' := by
  have c4 := h.c4
  have hlk := h.map.look2 hl
  have HH := hide h
  have HL := hide hl
  generalize hp : ptrOf Y.bl nm (tget nm S.tab) = pv at *
  generalize (tget nm S.tab).isSome = bv at *
  clear h hl hp
  unfold pf
  go_enter Try.func19, Try.ntmps19
  go_wp2_with (at_delete; refine wpList_tab_del rfl _ _ rfl Y.mp Y.bl S.tab nm rfl HH.out.map rfl HL.out ?_; intro w2 ht hf; have HT := hide ht; have HF := hide hf; clear ht hf)
  go_ret
  have hne : lp ∉ [Y.mp] := fun e => HH.out.mne (List.mem_singleton.1 e).symm
  refine ⟨rfl, ⟨Fr.bl HH.out.box HF.out hne, HT.out, fun p hp => ?_, HH.out.mne, fun p hp => HH.out.vne p ((tdel_mem _ _ _).1 hp).1, fun p hp q hq => HH.out.inj p ((tdel_mem _ _ _).1 hp).1 q ((tdel_mem _ _ _).1 hq).1, HH.out.ok.forgive nm⟩, HF.out.mono (fun x hx => .inl ((Y.mem lp _ x).2 (.inr (.inl (List.mem_singleton.1 hx))))), fun b hb => .inl ?_⟩
  · have hp1 := ((tdel_mem _ _ _).1 hp).1
    exact Fr.bl (HH.out.att p hp1) HF.out (fun e => (HH.out.vne p hp1).2 (List.mem_singleton.1 e))
  · rcases (Y.mem lp _ b).1 hb with e | e | ⟨p, hp, e⟩
    · exact (Y.mem lp _ b).2 (.inl e)
    · exact (Y.mem lp _ b).2 (.inr (.inl e))
    · exact (Y.mem lp _ b).2 (.inr (.inr ⟨p, ((tdel_mem _ _ _).1 hp).1, e⟩))
end Go.Proofs.Ytbhlciaigadlkaa
