/- The walk of operate at a change of the directory. -/
import Derived.Test.YticbfcognnofbaaDOper3
namespace Go.Proofs.Yticbfcognnofbaa
open Go.RowKit Go.Maps

theorem Fr.undrew {fp : List Nat} {w w' : World} (h : Fr fp w.drew w') : Fr fp w w' := ⟨h.os, h.tape, h.output, h.size, h.block⟩
theorem Fr.drew {fp : List Nat} {w w' : World} (h : Fr fp w w') : Fr fp w w'.drew := ⟨h.os, h.tape, h.output, h.size, h.block⟩
theorem grown_undrew {w w' : World} {r : Option Nat} (h : w.drew.grownBy w' r) : w.grownBy w' r := ⟨h.os, h.tape, h.output, h.size, h.block⟩
theorem Lay.kv_off {L : Lay} {dp : Nat} (h : (L.blocks dp).Nodup) : (∀ g, L.kv.ownBlock = some g → g ≠ dp ∧ g ≠ L.bn) := fun g hg => by
  have hm := mem_vb.2 hg
  unfold Lay.blocks at h
  simp only [List.nodup_cons, List.mem_cons, List.mem_append, not_or] at h
  obtain ⟨⟨a1, a2, a3, a4⟩, ⟨b1, b2, b3⟩, _⟩ := h
  exact ⟨fun e => a3 (e ▸ hm), fun e => b2 (e ▸ hm)⟩
set_option maxHeartbeats 2000000 in
set_option maxRecDepth 100000 in
theorem operate_change (dp nx : Nat) (S : DS) (L : Lay) (c : Ch) (w : World) (h : Rep w dp S L nx) (ho : S.ops < 1048576) (ha : S.armed ≠ 1) (ham : S.armed ≤ 9223372036854775807) (hc : Cok S.files.length c) (hlen : S.chg.length ≤ 1048576) (hdl : S.dir.length ≤ 64) :
    Calls Try.prog 55 #[pf dp, .agg (chCells L.bs c).toArray] w fun e w' => e = .returned (.int .i64 0) ∧ ∃ L', Rep w' dp (change c (went S)) L' nx ∧ Fr (L.blocks dp) w w' ∧ (∀ b ∈ L'.blocks dp, b ∈ L.blocks dp ∨ w.heap.size ≤ b) ∧ L'.bs = L.bs ∧ L'.rv = L.rv := by
  obtain ⟨pv, hpv⟩ : ∃ pv, pv = (if c.tn = [] then Value.pointer none else pf (L.bs.getD c.fl 0)) := ⟨_, rfl⟩
  have ecells : (chCells L.bs c).toArray = #[.string (str c.fr), .string (str c.tn), pv] := by rw [hpv]; rfl
  rw [ecells]
  have H1 := hide (h.below (below_new w (.cells #[.string (str c.fr), .string (str c.tn), pv] 94)))
  have HF1 := hide (Fr.alloc [dp] w (.cells #[.string (str c.fr), .string (str c.tn), pv] 94))
  have HB := hide (Bl.new w #[.string (str c.fr), .string (str c.tn), pv] 94)
  obtain ⟨N, hN⟩ : ∃ N, N = w.heap.size := ⟨_, rfl⟩
  have HNB : Hid (N ∉ L.blocks dp) := by show ¬ _; intro e; have := h.lt N e; omega
  have HNE : Hid (N ∉ [dp]) := by show ¬ _; intro e; rw [List.mem_singleton] at e; exact HNB.out (e ▸ (L.mem dp dp).2 (.inl rfl))
  have HBN : Hid (N ∉ [L.bn]) := by show ¬ _; intro e; rw [List.mem_singleton] at e; exact HNB.out (e ▸ (L.mem dp _).2 (.inr (.inl rfl)))
  have HOFF := hide (Lay.kv_off h.nod)
  have HONE : Hid (∀ u ∈ [Value.string (str c.fr), .string (str c.tn), pv], u.oneCell' = true) := by have := chCells_one L.bs c; rw [show chCells L.bs c = [.string (str c.fr), .string (str c.tn), pv] by rw [hpv]; rfl] at this; exact this
  have HDB : Hid (dp ∉ [L.bn]) := by show ¬ _; intro e; rw [List.mem_singleton] at e; have hn := h.nod; unfold Lay.blocks at hn; rw [List.nodup_cons] at hn; exact hn.1 (by rw [e]; simp)
  have HC := hide (fails_any dp nx S L _ H1.out ham)
  rw [show decide (S.armed = 1) = false by simpa using ha] at HC
  have HW : Hid (∀ w2, Rep w2 dp { S with dead := false, armed := S.armed - 1 } L nx → Rep (w2.setCell ⟨dp, 5, none⟩ (.int .i64 ((S.ops : Int) + 1))) dp (went S) L nx) := fun w2 h2 => by
    rw [show ((S.ops : Int) + 1) = ((S.ops + 1 : Nat) : Int) by omega]
    exact h2.setBox (S' := went S) (nx' := nx) 5 _ rfl rfl rfl rfl rfl
  have HDO : Hid (∀ W, DirAt W L.bn L.bs S.dir → Calls Try.prog 56 #[.agg #[.string (str c.fr), .string (str c.tn), pv], .map (some L.bn)] W fun e w' => e = .returned (.tuple #[]) ∧ DirAt w' L.bn L.bs (chd c S.dir) ∧ Fr [L.bn] W w') := fun W hW => by
    have := doneOn_any c L.bs L.bn S.dir W hW hc.fr hc.tn (fun e => by rw [h.blen]; exact hc.num e) (by omega)
    rw [ecells] at this
    exact this
  have q : decide ((1048576 : Int) ≤ (S.ops : Int)) = false := decide_eq_false (by omega)
  have q2 : wrap64 ((S.ops : Int) + 1) = (S.ops : Int) + 1 := by unfold wrap64; omega
  have hne : ((str c.fr).toList.isEmpty && (str c.tn).toList.isEmpty) = false := by
    rw [str_toList, str_toList]
    rcases hc.some with e | e
    · rw [List.isEmpty_eq_false_iff.2 e]; rfl
    · rw [List.isEmpty_eq_false_iff.2 e, Bool.and_false]
  have hlen2 : S.chg.length ≤ 2000000 := by omega
  have HL := hide hlen2
  have HCC := hide (show chCells L.bs c = [.string (str c.fr), .string (str c.tn), pv] by rw [hpv]; rfl)
  clear h ha ham ho hc hpv ecells hlen hdl hlen2
  unfold pf at *
  go_enter Try.func55, Try.ntmps55
  go_upto_region 1 with fail
  rw [← hN] at HB ⊢
  have HNW := hide hN
  clear hN
  generalize w.alloc (.cells #[.string (str c.fr), .string (str c.tn), pv] 94) = u at *
  obtain ⟨c0, c1, c2, c3, c4, c5, c6, c7⟩ := H1.out.c
  generalize S.ops = M at *
  generalize str c.fr = sfr at *
  generalize str c.tn = stn at *
  have hcase : (sfr.toList.isEmpty = false ∧ ¬ sfr.toList = []) ∨ (sfr.toList.isEmpty = true ∧ sfr.toList = [] ∧ stn.toList.isEmpty = false ∧ ¬ stn.toList = []) := by
    cases h1 : sfr.toList with
    | cons x l => exact .inl ⟨rfl, fun e => by cases e⟩
    | nil =>
      cases h2 : stn.toList with
      | cons x l => exact .inr ⟨rfl, rfl, rfl, fun e => by cases e⟩
      | nil => rw [h1, h2] at hne; cases hne
  clear hne
  rcases hcase with ⟨e1, e2⟩ | ⟨e1, e2, e3, e4⟩
  all_goals
    go_wp2_with (go_at_call 75; refine HC.out.mono ?_; rintro e w2 ⟨rfl, hr2, hf2⟩; have H2 := hide hr2; have HF2 := hide (HF1.out.trans hf2 (fun x hx => .inl hx)); have HB2 := hide (Fr.bl HB.out hf2 HNE.out); obtain ⟨b0, b1, b2⟩ := HB2.out.three; obtain ⟨d0, d1, d2, d3, d4, d5, d6, d7⟩ := H2.out.c; have f5 := H2.out.box.frozen 5; simp only at d0 d1 d2 d3 d4 d5 d6 d7; clear hr2 hf2)
    have HW2 := hide (HW.out w2 H2.out)
    have HFW := hide (HF2.out.trans (Fr.setCell [dp] w2 dp 5 (.int .i64 ((M : Int) + 1)) (by simp)) (fun x hx => .inl hx))
    have HBW := hide (HB2.out.other (g := dp) (fun e => HNE.out (by rw [e]; simp)) 5 (.int .i64 ((M : Int) + 1)))
    clear b0 b1 b2 d0 d1 d2 d3 d4 d5 d6 d7 c0 c1 c2 c3 c4 c5 c6 c7 f5 HC H2 HF2 HB2 HB H1 HF1 HW q q2
    generalize w2.setCell ⟨dp, 5, none⟩ (.int .i64 ((M : Int) + 1)) = W at *
    obtain ⟨b0, b1, b2⟩ := HBW.out.three
    obtain ⟨d0, d1, d2, d3, d4, d5, d6, d7⟩ := HW2.out.c
    clear d1 d2 d3 d4 d5 d6 d7
    have hn : DirAt W.drew L.bn L.bs S.dir := DirAt.same HW2.out.names rfl
    have HC7 := hide (HDO.out W.drew hn)
    clear hn
    go_region_held (fun W' => W'.cell? ⟨N, 0, none⟩ = some (.string sfr) ∧ W'.cell? ⟨N, 1, none⟩ = some (.string stn) ∧ W'.cell? ⟨N, 2, none⟩ = some pv ∧ W'.cell? ⟨dp, 0, none⟩ = some (.map (some L.bn))) (go_keep) (first | (go_at_call 56; refine HC7.out.mono ?_; rintro e w3 ⟨rfl, hd3, hf3⟩; have HD3 := hide hd3; have HF3 := hide hf3.undrew; have HBW3 := hide (Fr.bl HBW.out HF3.out HBN.out); have HBX3 := hide (Fr.bl HW2.out.box HF3.out HDB.out); obtain ⟨g0, g1, g2⟩ := HBW3.out.three; have x0 : w3.cell? ⟨dp, 0, none⟩ = some (.map (some L.bn)) := HBX3.out.cell 0; clear hd3 hf3 b0 b1 b2 d0))
    have x2 : w3.cell? ⟨dp, 2, none⟩ = some L.kv := HBX3.out.cell 2
    have f2 := HBX3.out.frozen 2
    have HKV : Hid ((w3.alloc (.cells #[.string sfr, .string stn, pv] 94)).ownsRow 0 94 3 L.kv S.chg.length (S.chg.flatMap (chCells L.bs))) := World.ownsRow.alloc (owns_same HW2.out.kept fun g hg => HF3.out.block g (HW2.out.lt g ((L.mem dp g).2 (.inr (.inr (.inr (.inl (mem_vb.2 hg))))))) (fun e => (HOFF.out g hg).2 (List.mem_singleton.1 e))) _
    clear x0
    go_wp2_with fail
    have y2 := cell_kept x2 (below_new w3 (.cells #[.string sfr, .string stn, pv] 94))
    have HKD : Hid (∀ w4, (w3.alloc (.cells #[.string sfr, .string stn, pv] 94)).grownBy w4 L.kv.ownBlock → Bl w4 dp (diskCells L (went S) nx) 87) := fun w4 h4 => (h4.block dp (HBX3.out.alloc _).lt (fun e => (HOFF.out dp e.symm).1 rfl)).trans (HBX3.out.alloc _)
    go_region_law (first | (refine law_appCh rfl (.tmp 32) (.tmp 34) rfl L.kv S.chg.length (S.chg.flatMap (chCells L.bs)) [.string sfr, .string stn, pv] rfl HKV.out _ rfl (Bl.new _ _ _) rfl HONE.out HL.out ?_; intro ao cap w4 hn4 hg4 ho4; have HN4 := hide hn4; have HG4 := hide (grown_undrew hg4); have HO4 := hide ho4; have fz4 := (HKD.out w4 HG4.out).frozen 2; have z4 : w4.cell? ⟨dp, 2, none⟩ = some L.kv := (HKD.out w4 HG4.out).cell 2; clear hn4 hg4 ho4))
    all_goals
      have HFIN := hide (rep_change (nx := nx) HW2.out HD3.out HF3.out (by rw [HCC.out]; exact HN4.out) HG4.out HO4.out)
      clear HN4 HG4 HO4
      go_wp2_with fail
      go_ret
      exact ⟨rfl, _, HFIN.out.1, (HFW.out.mono (fun x hx => .inl (by rw [List.mem_singleton.1 hx]; exact (L.mem dp dp).2 (.inl rfl)))).trans HFIN.out.2.1 (fun x hx => .inl hx), fun b hb => (HFIN.out.2.2 b hb).imp id (fun e => Nat.le_trans HFW.out.size e), rfl, rfl⟩
end Go.Proofs.Yticbfcognnofbaa
