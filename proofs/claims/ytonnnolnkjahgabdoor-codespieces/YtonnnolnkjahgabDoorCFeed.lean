/- The contracts of Feed and NewSource. -/
import Derived.Test.YtonnnolnkjahgabDoorCSrc
namespace Go.Proofs.YtonnnolnkjahgabDoor
open Go.RowKit

theorem Lef.shape {w : World} {v : Value} {xs : List Nat} (h : Lef w v xs) : ∃ ao n c, v = .slice ao n c := by
  obtain ⟨ao, c, e, _⟩ := h.read
  exact ⟨ao, _, c, e⟩
theorem take_len (ds : List Nat) (k : Nat) : (ds.take k).length = min k ds.length := by simp
set_option maxHeartbeats 1000000 in
set_option maxRecDepth 100000 in
theorem feed_n (sp n c m k : Nat) (xs bs ys : List Nat) (ao : Option Addr) (w : World) (h : Src 49 w sp xs bs) (hr : Row w ao ys) (hb : ∀ y ∈ ys, y < 256) (hm : m = xs.length) (hm2 : m ≤ 4096) (hk : k = ys.length) (hkc : k ≤ c) (hmin : (if 4096 - (m : Int) < (n : Int) then 4096 - (m : Int) else (n : Int)) = (k : Int)) :
    Calls Tryd.prog 8 #[pf sp, .slice ao n c] w fun e w' => e = .returned (.tuple #[]) ∧ ∃ bs', Src 49 w' sp (xs ++ ys) bs' ∧ Aft bs bs' w w' := by
  obtain ⟨v, hbl, hl, hne, rfl⟩ := h.ex
  have HBY := hide (lt_append h.byte hb)
  have HLTS := hide h.lts
  have hs1 := cut_to ao n c k hkc
  have HR := hide hr
  have HL := hide hl
  have HB := hide hbl
  have HNE := hide hne
  obtain ⟨vo, vc, rfl, hle, -⟩ := hl.read
  have hz : xs.length + ys.length ≤ 140737488355328 := by omega
  have HZ := hide hz
  have c0 : w.cell? ⟨sp, 0, none⟩ = some (.slice vo xs.length vc) := hbl.cell 0
  have hsub : IntKind.i64.wrap (4096 - (m : Int)) = 4096 - (m : Int) := by rw [IntKind.wrap_i64]; omega
  have HK := hide hk
  rw [← hm] at HL HB HNE HLTS c0 ⊢
  have HM := hide hm
  clear h hr hb hl hbl hne hle hz hkc hm2 hk hm
  unfold pf
  go_enter Tryd.func8, Tryd.ntmps8
  go_upto_region 2 with fail
  go_region_law (first
    | (refine law_append_lef rfl (.tmp 20) (.tmp 23) rfl (.slice vo m vc) xs rfl HL.out ao k c ys HK.out rfl HR.out HZ.out ?_; intro v' w4 hl4 hg4 ho4; obtain ⟨vo', vn', vc', hv'⟩ := hl4.shape; subst hv'; have HL4 := hide hl4; have HG4 := hide (grown_undrew hg4); have HO4 := hide ho4; have hB4 := HB.out.grown HG4.out HNE.out; have c4 : w4.cell? ⟨sp, 0, none⟩ = some (.slice vo m vc) := hB4.cell 0; have f4 := hB4.frozen 0; have HB4 := hide hB4; clear hl4 hg4 ho4 hB4))
  all_goals
    go_wp2
    go_end0
    refine ⟨rfl, sp :: (Value.slice vo' vn' vc').ownBlock.toList, ⟨⟨.slice vo' vn' vc', HB4.out.set 0 _, HL4.out.set HB4.out (by decide) 0 _, ?_, rfl⟩, HBY.out, ?_⟩, (Fr.grown (fp := _) HG4.out (fun j hj => by rw [hj]; simp)).trans (Fr.setCell [sp] w4 sp 0 _ (by simp)) (fun x hx => .inl (by rw [List.mem_singleton.1 hx]; simp)), fun b hb => ?_⟩
    · rcases HO4.out with e | ⟨e, -⟩ <;> rw [e]
      · exact HNE.out
      · intro e2
        have := HB.out.lt
        have e3 : w.heap.size = sp := by simpa using e2
        omega
    · intro b hb
      have hsz := HG4.out.size
      have hgoal : b < w4.heap.size := by
        rcases List.mem_cons.1 hb with e | e
        · have := HB.out.lt
          omega
        · rcases HO4.out with e2 | ⟨e2, e4⟩ <;> rw [e2] at e
          · have := HLTS.out b (List.mem_cons_of_mem _ e)
            omega
          · have e3 : b = w.heap.size := by simpa using e
            have e5 : w.heap.size < w4.heap.size := e4
            omega
      simpa [World.setCell] using hgoal
    · rcases List.mem_cons.1 hb with e | e
      · exact .inl (by rw [e]; simp)
      · rcases HO4.out with e2 | ⟨e2, -⟩ <;> rw [e2] at e
        · exact .inl (List.mem_cons_of_mem _ e)
        · have e3 : b = w.heap.size := by simpa using e
          exact .inr (by omega)
theorem feed_any (sp n c : Nat) (xs bs ds : List Nat) (ao : Option Addr) (w : World) (h : Src 49 w sp xs bs) (hr : Row w ao ds) (hb : ∀ y ∈ ds, y < 256) (hn : n = ds.length) (hnc : n ≤ c) (hx : xs.length ≤ 4096) :
    Calls Tryd.prog 8 #[pf sp, .slice ao n c] w fun e w' => e = .returned (.tuple #[]) ∧ ∃ bs', Src 49 w' sp (xs ++ ds.take (4096 - xs.length)) bs' ∧ Aft bs bs' w w' :=
  feed_n sp n c xs.length (min (4096 - xs.length) ds.length) xs bs (ds.take (4096 - xs.length)) ao w h (hr.takeN _) (lt_take hb _) rfl hx (by simp) (by omega) (by split <;> omega)
set_option maxHeartbeats 1000000 in
set_option maxRecDepth 100000 in
theorem nsrc_any (n c : Nat) (ds : List Nat) (ao : Option Addr) (w : World) (hr : Row w ao ds) (hb : ∀ y ∈ ds, y < 256) (hn : n = ds.length) (hnc : n ≤ c) :
    Calls Tryd.prog 7 #[.slice ao n c] w fun e w' => ∃ sp, e = .returned (pf sp) ∧ ∃ bs, Src 49 w' sp (ds.take 4096) bs ∧ Below w.heap.size w w' ∧ ∀ b ∈ bs, w.heap.size ≤ b := by
  have hS : Src 49 (w.alloc (.cells #[.slice none 0 0] 49)) w.heap.size [] [w.heap.size] := ⟨⟨.slice none 0 0, Bl.new w _ _, lef_nil _, by simp [Value.ownBlock], rfl⟩, (fun x hx => by cases hx), (fun b hb => by rw [List.mem_singleton.1 hb]; simp)⟩
  have HF := hide (feed_any w.heap.size n c [] [w.heap.size] ds ao _ hS (hr.keep (below_new w _)) hb hn hnc (by simp))
  have HBN := hide (below_new w (.cells #[.slice none 0 0] 49))
  clear hr hb hn hnc hS
  simp only [List.nil_append, List.length_nil, Nat.sub_zero] at HF
  generalize ds.take 4096 = ys at *
  unfold pf at *
  go_enter Tryd.func7, Tryd.ntmps7
  go_wp2_with (go_at_call 8; refine HF.out.mono ?_; rintro e w1 ⟨rfl, bs, h1, h2⟩; have H1 := hide h1; have H2 := hide h2; clear h1 h2)
  go_ret
  have e : ∀ x ∈ [w.heap.size], w.heap.size ≤ x := fun x hx => by rw [List.mem_singleton.1 hx]; exact Nat.le_refl _
  refine ⟨_, rfl, bs, H1.out, HBN.out.trans (H2.out.fr.below _ HBN.out.size e), fun b hb => ?_⟩
  rcases H2.out.new b hb with h | h
  · exact e b h
  · exact Nat.le_trans HBN.out.size h
end Go.Proofs.YtonnnolnkjahgabDoor
