/- The law's list with small names. -/
import Derived.Test.YtaenccjlokiejaaGreatDoorHOurs
namespace Go.Proofs.YtaenccjlokiejaaGreatDoor
open Go.RowKit Go.Shelf

theorem law_callQ {P : Program} {w : World} {ops : Array Oper} {o : Oper} {a : Act} {K : Act → World → Prop} {Q : Exit → Act → World → Prop} {E : Prop} (hgd : o.guard = none) (d : Nat) (hd : o.dst = some d) (f : FuncId) (args : Array Value)
    (hv : (execOp a.eval o).run P w = .ok (.enter f args) w) {Post : Ending → World → Prop} (hC : Calls P f args w Post) (h : ∀ e w', Post e w' → ∃ v, e = .returned v ∧ K (a.put o.dst v) w') : if Region.wanted o (yielded ops a.tmps) = true then Oper.wp P o a w K Q else E := by
  rw [if_pos (by simp [Region.wanted, hgd])]
  unfold Oper.wp
  rw [hv, Oper.upon_enter]
  refine hC.mono ?_
  intro e w' hp
  obtain ⟨v, rfl, hk⟩ := h e w' hp
  subst_vars
  rw [hd] at hk ⊢
  exact hk
set_option maxHeartbeats 1000000 in
set_option maxRecDepth 100000 in
theorem smallF_any (so : Option Addr) (fs : List Fl) (n c : Nat) (w : World) (hn : n = fs.length) (hnl : n * 32 ≤ 140737488355328) (hs : FRow w so fs) (hz : ∀ q ∈ fs, q.1.length ≤ 140737488355328) :
    Calls Tryz.prog 37 #[.slice so n c] w fun e w' => ∃ v, e = .returned v ∧ FOwn 86 w' w.heap.size v (fs.map lowF) ∧ Below w.heap.size w w' := by
  obtain ⟨i0, hi, hz0, hz1, hz2⟩ := infoFieldG
  have HN := hide hn
  have HS := hide hs
  have HZ := hide hz
  have HNL := hide hnl
  obtain ⟨B, hB⟩ : ∃ B, B = w.heap.size := ⟨_, rfl⟩
  rw [← hB]
  have HB := hide hB
  clear hs hn hnl hB hz
  go_enter Tryz.func37, Tryz.ntmps37
  go_wp2_with fail
  go_loopw [3, 4] (fun v i wr => ∃ k : Nat, k ≤ n ∧ i = .int .i64 (k : Int) ∧ Hid (FOwn 86 wr B v ((fs.take k).map lowF)) ∧ Hid (Below B w wr)) (fun _ i _ => n - (intOf i).toNat)
  case atStart => exact ⟨0, Nat.zero_le _, rfl, by rw [List.take_zero]; exact fown_nil _ _ _, Below.refl _ _⟩
  case round =>
    obtain ⟨k, hk, rfl, HFO, HBF⟩ := hrel
    obtain ⟨vao, vcap, hv, -, -, -⟩ := HFO.out.shape
    have hltk : ((fs.take k).map lowF).length = k := by rw [List.length_map, List.length_take]; have := HN.out; omega
    rw [hltk] at hv
    subst hv
    by_cases hkn : k < n
    · obtain ⟨f, hf⟩ : ∃ f, fs[k]? = some f := ⟨_, List.getElem?_eq_getElem (by rw [← HN.out]; exact hkn)⟩
      obtain ⟨b, off, rfl⟩ := HS.out.form (by have := HN.out; omega)
      have hbw : Below w.heap.size w wr := by rw [← HB.out]; exact HBF.out
      obtain ⟨y1, y2⟩ := (HS.out.keep hbw).cell hf
      rw [Nat.mul_comm] at y1 y2
      have HSM := hide (fun W => refSmall_any f.1 W (HZ.out f (List.mem_of_getElem? hf)))
      have HBR : Hid (B ≤ wr.heap.size) := Nat.le_trans (Nat.le_of_eq HB.out) HBF.out.size
      have HFS : Hid (∀ W fo fc w' o, Below wr.heap.size wr W → FOwn 86 w' B (.slice fo (k + 1) fc) ((fs.take k).map lowF ++ [lowF f]) → (W.alloc o).grownBy w' (Value.slice vao k vcap).ownBlock → FOwn 86 w' B (.slice fo (k + 1) fc) ((fs.take (k + 1)).map lowF) ∧ Below B w w') := by
        intro W fo fc w' o h0 h1 h2
        rw [take_snoc fs k f hf, List.map_append]
        have hb1 := h0.trans ((below_new W o).mono h0.size)
        exact ⟨h1, below_fgrown (HBF.out.trans (hb1.mono HBR.out)) (Nat.le_of_eq HB.out) (HFO.out.keep hb1) h2⟩
      have HFK : Hid (∀ W o, Below wr.heap.size wr W → FOwn 86 (W.alloc o) B (.slice vao k vcap) ((fs.take k).map lowF) ∧ B ≤ (W.alloc o).heap.size) := fun W o h0 => by
        have hb1 := h0.trans ((below_new W o).mono h0.size)
        exact ⟨HFO.out.keep hb1, Nat.le_trans HBR.out hb1.size⟩
      have HFR : Hid (∀ W : World, FRow (W.alloc (.cells #[.string (str (lows f.1)), .string (str f.2)] 86)) (some ⟨W.heap.size, 0, none⟩) [lowF f]) := fun W => frow_one W 86 (lowF f)
      have HSZ : Hid ((((fs.take k).map lowF).length + 1) * 32 ≤ 140737488355328) := by show _ ≤ _; rw [hltk]; have := HNL.out; omega
      have HLK := hide hltk
      have HKB : Hid ((k : Int) + 1 ≤ 4611686018427387904) := by show _ ≤ _; have := HNL.out; omega
      generalize str f.1 = s1 at *
      clear hbw hf hltk HFO
      go_wp2_with fail
      go_region_law (first
        | (refine law_callQ rfl 17 rfl 56 #[.string s1] (by unfold execOp; simp; go_simp) (HSM.out _) ?_
           rintro ε w2 ⟨rfl, hb2⟩
           refine ⟨_, rfl, ?_⟩
           have HB2 := hide (below_undrewN1 hb2)
           have z2 := cell_kept y2 HB2.out
           clear hb2)
        | (refine law_appO rfl (.tmp 11) (.tmp 24) rfl hi hz0 hz1 hz2 B _ ((fs.take k).map lowF) (lowF f) rfl (HFK.out _ _ HB2.out).1 ⟨w2.heap.size, 0, none⟩ rfl (HFR.out _) HSZ.out (HFK.out _ _ HB2.out).2 ?_
           intro fo fc w5 hown5 hgr5
           rw [HLK.out] at hown5 ⊢
           have HX := hide (HFS.out _ fo fc w5 _ HB2.out hown5 hgr5)
           clear hown5 hgr5))
      all_goals
        clear HFS HFK HFR y1 y2 z2 HB2
        have hkb := HKB.out
        go_wp2_with fail
        go_roundw
        case rel => exact ⟨k + 1, by omega, by go_num, hide HX.out.1, hide HX.out.2⟩
        case measure => simp [intOf]; omega
    · obtain rfl : k = n := by omega
      have hte : fs.take k = fs := List.take_of_length_le (by have := HN.out; omega)
      rw [hte] at HFO
      go_wp2_with fail
      go_ret
      exact ⟨_, rfl, HFO.out, HBF.out⟩
end Go.Proofs.YtaenccjlokiejaaGreatDoor
