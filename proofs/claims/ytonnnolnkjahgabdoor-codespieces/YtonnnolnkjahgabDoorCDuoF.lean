/- The law's draw at Feed. -/
import Derived.Test.YtonnnolnkjahgabDoorCDuo
namespace Go.Proofs.YtonnnolnkjahgabDoor
open Go.RowKit Go.Shelf

theorem Own.block {w : World} {B : Nat} {v : Value} {xs : List Nat} (h : Own w B v xs) (hne : xs ≠ []) : ∃ g cap cur, v = .slice (some ⟨g, 0, none⟩) xs.length cap ∧ B ≤ g ∧ Bl w g cur 5 ∧ xs.length ≤ cap ∧ xs.length ≤ cur.length := by
  rcases h.2 with ⟨rfl, hn⟩ | ⟨g, cap, cur, rfl, hb, hg, hle, hm, hc, ht⟩
  · exact absurd (List.length_eq_zero_iff.1 hn) hne
  · exact ⟨g, cap, cur.toList, rfl, hb, hg, hle, by simp; omega⟩
theorem Bl.at {w : World} {g : Nat} {cs : List Value} {t : TypeId} (h : Bl w g cs t) (i : Nat) (hi : i < cs.length) : ∃ v, w.cell? ⟨g, i, none⟩ = some v := ⟨cs[i], by rw [h.cell, List.getElem?_eq_getElem hi]⟩
theorem fr_mono {fp fq : List Nat} {w w' : World} (h : Fr fp w w') (hs : ∀ x ∈ fp, x ∈ fq) : Fr fq w w' := ⟨h.os, h.tape, h.output, h.size, fun k hk hn => h.block k hk (fun e => hn (hs k e))⟩
theorem nine_eight (w : World) : Row (w.alloc (.cells #[.int .u8 9, .int .u8 8] 5)) (some ⟨w.heap.size, 0, none⟩) [9, 8] := row_n w [9, 8]
set_option maxHeartbeats 2000000 in
set_option maxRecDepth 100000 in
theorem draw_feed (sp rp n c : Nat) (ao : Option Addr) (xs bs cs ps : List Nat) (w : World) (h : Duo w sp rp xs bs cs) (hr : Row w ao ps) (hn : n = ps.length) (hnc : n ≤ c) (hn2 : n ≤ 140737488355320) (hb : ∀ x ∈ ps, x < 256) (hao : ps ≠ [] → ∀ a, ao = some a → a.block ∉ bs ++ cs) :
    Calls Tryd.prog 10 #[pf sp, pf rp, .agg #[.int .i64 3, .slice ao n c]] w fun e w' => Drew w sp rp (xs ++ ps.take (4096 - xs.length)) bs cs e w' := by
  obtain ⟨w0, hw0⟩ : ∃ x, x = w.alloc (.cells #[.int .i64 3, .slice ao n c] 33) := ⟨_, rfl⟩
  have hb0 : Below w.heap.size w w0 := hw0 ▸ below_new w _
  have hz0 : w0.heap.size = w.heap.size + 1 := by rw [hw0]; simp
  have hbox : Bl w0 w.heap.size [.int .i64 3, .slice ao n c] 33 := hw0 ▸ Bl.new w _ _
  have hD := h.keep hb0
  have hlts := h.lts
  have hr0 := hr.keep hb0
  have hle := h.le
  have HAO : Hid (ps ≠ [] → ∀ a, ao = some a → a.block ∉ cs) := hide fun h1 a h2 h3 => hao h1 a h2 (List.mem_append_right _ h3)
  have hrN : ∀ W fp, Fr fp w0 W → (∀ x ∈ fp, x ∈ bs ++ cs ∨ w.heap.size ≤ x) → Row W ao ps := fun W fp hf hfp => by
    by_cases hne : ps = []
    · exact .inl hne
    · refine hr0.fr hf (fun a ha e => ?_)
      obtain ⟨b, off, rfl⟩ := hr.form (List.length_pos_iff.2 hne)
      injection ha with ha
      subst ha
      rcases hfp _ e with h1 | h1
      · exact hao hne _ rfl h1
      · have h2 : w.heap.size ≤ b := h1
        have := hr.lt hne
        omega
  have HD := hide hD
  have HRN := hide hrN
  have HB0 := hide hb0
  have HBOX := hide hbox
  have HLTS := hide hlts
  have HLE := hide hle
  have HN := hide hn
  have HN2 := hide hn2
  have HBY := hide hb
  have HZ0 := hide hz0
  have HNC := hide hnc
  have hxy : (xs ++ ps.take (4096 - xs.length)).length ≤ 4096 := by simp; omega
  have HXY := hide hxy
  have c0 : w0.cell? ⟨w.heap.size, 0, none⟩ = some (.int .i64 3) := hbox.cell 0
  have c1 : w0.cell? ⟨w.heap.size, 1, none⟩ = some (.slice ao n c) := hbox.cell 1
  have cA : (w0.alloc (.cells #[] 5)).cell? ⟨w.heap.size, 1, none⟩ = some (.slice ao n c) := cell_kept c1 (below_new w0 _)
  have HOA : Hid (Own (w0.alloc (.cells #[] 5)) w0.heap.size (.slice (some ⟨w0.heap.size, 0, none⟩) 0 0) []) := hide (own_new w0 w0.heap.size [] (Nat.le_refl _) (by simp))
  have HRA : Hid (Row (w0.alloc (.cells #[] 5)) ao ps) := hide (hr0.keep (below_new w0 _))
  have HFE := hide (fun n c ao W h hr hn hnc => feed_any sp n c xs bs ps ao W h hr hb hn hnc hle)
  have HRF := hide (fun W h hr hao => rfeed_any rp n c xs cs ps ao W h hr hao hb hn (by omega) hle)
  clear h hr hnc hao hbox hb0 hD hlts hr0 hle hrN hb hxy hn hn2 hz0
  generalize xs ++ ps.take (4096 - xs.length) = ys at *
  unfold pf at *
  go_enter Tryd.func10, Tryd.ntmps10
  go_upto_region 9 with fail
  rw [← hw0]
  clear hw0
  go_wp2_with (first
    | (at_builtin; refine wpList_append_bytes rfl _ _ rfl w0.heap.size _ [] rfl HOA.out ao n c ps HN.out rfl HRA.out (by have := HN2.out; have := HN.out; simp; omega) (by simp) ?_))
  rintro v1 w1 hown1 hgr1
  have HB1 : Hid (Below w0.heap.size w0 w1) := hide ((below_new w0 _).grown hgr1 (by simp) HOA.out.ge)
  have HO1 : Hid (Own w1 w0.heap.size v1 ps) := hide hown1
  obtain ⟨vo1, vc1, rfl, -, -⟩ := hown1.read
  have hlen : ps.length = n := HN.out.symm
  rw [hlen] at HO1 ⊢
  clear hown1 hgr1 hlen HOA HRA cA
  go_wp2_with (first
    | (at_builtin; refine wpList_append_bytes rfl _ _ rfl w0.heap.size _ ps rfl (HO1.out.alloc _) (some ⟨w1.heap.size, 0, none⟩) 2 2 [9, 8] rfl rfl (nine_eight w1) (by have := HN2.out; have := HN.out; simp; omega) (by have := HB1.out.size; simp; omega) ?_))
  rintro v2 w2 hown2 hgr2
  have HB2 : Hid (Below w0.heap.size w0 w2) := hide ((HB1.out.alloc HB1.out.size _).grown hgr2 (by have := HB1.out.size; simp; omega) HO1.out.ge)
  obtain ⟨g, vc2, cur, rfl, hg, hbl, hcap, hcur⟩ := hown2.block (by simp)
  have HO2 := hide hown2
  have HG := hide hg
  have HBL := hide hbl
  have hlen : (ps ++ [9, 8]).length = n + 2 := by have := HN.out; simp; omega
  rw [hlen] at HO2 hcap hcur ⊢
  have HCUR := hide hcur
  have hcut := cut_to (some ⟨g, 0, none⟩) (n + 2) vc2 n (by omega)
  have c2 : w2.cell? ⟨w.heap.size, 1, none⟩ = some (.slice ao n c) := cell_kept c1 HB2.out
  have hrow2 : Row w2 (some ⟨g, 0, none⟩) (ps ++ [9, 8]) := by
    obtain ⟨ao', c', e, -, hr⟩ := hown2.read
    injection e with e1 _ _
    rw [e1]
    exact hr
  have HR2 := hide hrow2
  have HFE2 := hide (HFE.out n vc2 (some ⟨g, 0, none⟩) w2 (HD.out.s.keep HB2.out) hrow2.take HN.out (by omega))
  clear hown2 hgr2 hbl hg hcur hlen c1 HO1 HB1 hrow2 hcap
  generalize hn3 : n + 2 = n3 at *
  have HN3 := hide hn3
  clear hn3
  go_upto_region 11 with (first
    | (go_at_call 8; refine HFE2.out.mono ?_; rintro e w3 ⟨rfl, bs1, h3, a3⟩; have H3 := hide h3; have A3 := hide a3; clear h3 a3))
  have HF3 : Hid (Fr bs w0 w3) := hide ((Fr.of HB2.out).trans A3.out.fr (fun x hx => .inl hx))
  have hlt0 : ∀ b ∈ bs ++ cs, b < w0.heap.size := fun b hb => by have := HLTS.out b hb; have := HZ0.out; omega
  have HL0 := hide hlt0
  obtain ⟨hr3, hap3⟩ := duo_one (HD.out.keep HB2.out) A3.out
  have HCB : Hid (Bl w3 w.heap.size [.int .i64 3, .slice ao n c] 33) := hide (Fr.bl (HBOX.out.keep HB2.out) A3.out.fr (fun e => by have := HLTS.out _ (List.mem_append_left cs e); omega))
  have c3 : w3.cell? ⟨w.heap.size, 1, none⟩ = some (.slice ao n c) := HCB.out.cell 1
  have hr3a := HRN.out w3 bs HF3.out (fun x hx => .inl (List.mem_append_left _ hx))
  have HO3 := hide (HO2.out.fr A3.out.fr (fun b hb => hlt0 b (List.mem_append_left _ hb)))
  have HBL3 := hide (Fr.bl HBL.out A3.out.fr (fun e => by have := hlt0 _ (List.mem_append_left _ e); have := HG.out; omega))
  have HRF2 := hide (HRF.out w3 hr3 hr3a HAO.out)
  have HAP := hide hap3
  clear hlt0 hr3 hap3 hr3a c2 HFE2 HFE HRF c0
  go_upto_region 12 with (first
    | (go_at_call 20; refine HRF2.out.mono ?_; rintro e w4 ⟨rfl, cs1, h4, a4⟩; have H4 := hide h4; have A4 := hide a4; clear h4 a4))
  have c4 : w4.cell? ⟨w.heap.size, 1, none⟩ = some (.slice ao n c) := (Fr.bl HCB.out A4.out.fr (fun e => by have := HLTS.out _ (List.mem_append_right bs e); omega)).cell 1
  have HO4 := hide (HO3.out.fr A4.out.fr (fun b hb => HL0.out b (List.mem_append_right _ hb)))
  have HBL4 := hide (Fr.bl HBL3.out A4.out.fr (fun e => by have := HL0.out _ (List.mem_append_right bs e); have := HG.out; omega))
  have hr4 := HRN.out w4 (bs ++ cs) ((fr_mono HF3.out (fun x hx => List.mem_append_left _ hx)).trans A4.out.fr (fun x hx => .inl (List.mem_append_right _ hx))) (fun x hx => .inl hx)
  have hcva := conv_row c hr4
  rw [← HN.out] at hcva
  have hcvp : (convert 22 9 (.slice (some ⟨g, 0, none⟩) n3 vc2)).run Tryd.prog w4 = .ok (.string (bstr (ps ++ [9, 8]))) w4 := by
    obtain ⟨ao', c', e, -, hr⟩ := HO4.out.read
    have := conv_row c' hr
    rwa [← e] at this
  have hadd : ∀ W, (Op.stringOp .add (bstr ps) { data := #[9, 8] }).run Tryd.prog W = .ok (.string (bstr (ps ++ [9, 8]))) W := add_str (y := [9, 8]) (by have := HN.out; have := HN2.out; simp; omega)
  have HTW := hide (duo_two (w0 := w) (w := w2) (HB0.out.trans (HB2.out.mono HB0.out.size)) H3.out A3.out HAP.out H4.out A4.out HXY.out)
  have HGN : Hid (∀ b ∈ bs1 ++ cs1, b ∉ [g]) := hide fun b hb e => by
    have hg2 := HBL.out.lt
    have hgl := HG.out
    have hbg : b = g := List.mem_singleton.1 e
    have hs3 := A3.out.fr.size
    rcases List.mem_append.1 hb with e1 | e1
    · rcases A3.out.new b e1 with e2 | e2
      · have := HL0.out b (List.mem_append_left _ e2); omega
      · omega
    · rcases A4.out.new b e1 with e2 | e2
      · have := HL0.out b (List.mem_append_right _ e2); omega
      · omega
  have HGB : Hid (w.heap.size ≤ g) := hide (by have := HG.out; have := HZ0.out; omega)
  have HN3L : Hid (n3 ≤ 140737488355328) := hide (by have := HN3.out; have := HN2.out; omega)
  clear hr4
  generalize bstr (ps ++ [9, 8]) = SP at *
  generalize bstr ps = SA at *
  go_wp2_with fail
  go_loopw [13] (fun a wr => ∃ i : Nat, a = .int .i64 (i : Int) ∧ i ≤ n3 ∧ Hid (∃ cr, Bl wr g cr 5 ∧ n3 ≤ cr.length ∧ Fr [g] w4 wr)) (fun a _ => n3 - (intOf a).toNat)
  case atStart => exact ⟨0, rfl, by omega, hide ⟨cur, HBL4.out, HCUR.out, Fr.refl _ _⟩⟩
  case round =>
    obtain ⟨i, rfl, hi, hs⟩ := hrel
    obtain ⟨cr, hbl, hcr, hfr⟩ := hs.out
    have HBR := hide hbl
    have HCR := hide hcr
    have HFR := hide hfr
    have hwri : IntKind.i64.wrap ((i : Int) + 1) = ((i + 1 : Nat) : Int) := by have := HN3L.out; rw [IntKind.wrap_i64]; omega
    clear hs hcva hcvp hadd c4 c3
    by_cases hin : i < n3
    · have hin' : (i : Int) < (n3 : Int) := by omega
      have HIN := hide hin
      obtain ⟨v0, hc⟩ := hbl.at i (by omega)
      have hf := hbl.frozen i
      clear hi hin hbl hcr hfr
      go_wp2_with fail
      go_roundw
      case rel => exact ⟨i + 1, by first | rfl | simp, HIN.out, hide ⟨_, HBR.out.set i _, by rw [List.length_set]; exact HCR.out, HFR.out.trans (Fr.setCell [g] _ g i _ (by simp)) (fun x hx => .inl hx)⟩⟩
      case measure => have := HIN.out; simp [intOf]; omega
    · have hin' : ¬ (i : Int) < (n3 : Int) := by omega
      clear hi hin hbl hcr hfr
      go_wp2_with fail
      go_ret
      refine ⟨rfl, bs1, cs1, HTW.out.1.apart HFR.out HGN.out, HTW.out.2.fr.trans HFR.out (fun x hx => .inr ?_), HTW.out.2.new⟩
      rw [List.mem_singleton.1 hx]
      exact HGB.out
end Go.Proofs.YtonnnolnkjahgabDoor
