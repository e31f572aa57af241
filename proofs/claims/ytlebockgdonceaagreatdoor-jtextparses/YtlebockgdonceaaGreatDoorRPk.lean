/- The document's member, where a text is read and no colon stands behind it. -/
import Derived.Test.YtlebockgdonceaaGreatDoorRPj
namespace Go.Proofs.YtlebockgdonceaaGreatDoor
open Go.RowKit

theorem contains_no {ns : List By} {nm : By} (h : ∀ (i : Nat) (a : By), ns[i]? = some a → a ≠ nm) : ns.contains nm = false := by
  cases hc : ns.contains nm with
  | false => rfl
  | true =>
    rw [List.contains_iff_mem] at hc
    obtain ⟨i, hi, e⟩ := List.mem_iff_getElem.1 hc
    exact absurd e (h i _ (List.getElem?_eq_getElem hi))
theorem contains_yes {ns : List By} {nm : By} {i : Nat} (h : ns[i]? = some nm) : ns.contains nm = true := by
  rw [List.contains_iff_mem]
  exact List.mem_of_getElem? h
set_option maxHeartbeats 4000000 in
set_option maxRecDepth 100000 in
theorem rmember_but (s : ByteArray) (p q B ln cn : Nat) (an : Option Addr) (nm : By) (ns : List By) (w : World) (hC : ChFacts s) (hs : s.size ≤ 16384) (hp : p < s.size) (hc : bt (sbytes s) p = 34) (ht : textAt (sbytes s) p = .ok nm q) (hN : NSee w B an ln ns) (hNb : ∀ a ∈ ns, ∀ x ∈ a, x < 256) (hB : B ≤ w.heap.size) (hln : ln ≤ 16384) (h58 : ¬ (skip (sbytes s) q < s.size ∧ bt (sbytes s) (skip (sbytes s) q) = 58)) : Calls Tryz.prog 35 #[.string s, .int .i64 (p : Int), .slice an ln cn] w fun ε w' => MbAns (nameAt (sbytes s) ns p) w ε w' := by
  have hsl := sbytes_length s
  have hix := str_index s
  have HOK := hide (fun t q' w' => @mb_ok (nameAt (sbytes s) ns p) t q' w w')
  have HBD := hide (fun e q' w' => @mb_bad (nameAt (sbytes s) ns p) e q' w w')
  have HNA := hide (name_text (ns := ns) (show p < (sbytes s).length by omega) hc)
  rw [ht] at HNA
  simp only at HNA
  have HST := hide (fun W => rstr_any s p W hC hp hs)
  rw [ht] at HST
  obtain ⟨-, hq2⟩ := textAt_bounds ht
  have HQ2 : Hid (q ≤ s.size) := hide (by omega)
  have HBK := hide (fun r W h => rblanks_any s r W h hs)
  have HMU := hide (rmust_any s)
  have HBA := hide rbad_any
  have HGN := hide (GZ.new w)
  have HBN := hide (below_new w (.cells #[.int .i64 0, .string { data := #[] }, .slice none 0 0, .slice none 0 0, .int .i64 0, .int .i64 0, .int .i64 0] 41))
  have hx : ∀ W, (Instr.index 9 (.string s) (.int .i64 (p : Int))).run Tryz.prog W = .ok (.int .u8 ((bt (sbytes s) p : Nat) : Int)) W := hix p hp
  rw [hc] at hx
  have hin' : (p : Int) < (s.size : Int) := by omega
  have hge' : ¬ (s.size : Int) ≤ (p : Int) := by omega
  have HNS := hide hN
  have HNB := hide hNb
  have HBW := hide hB
  have HLN := hide hln
  have HSS := hide hs
  rw [hsl] at HNA
  have HLL := hide hsl
  have H58 := hide h58
  generalize nameAt (sbytes s) ns p = R at *
  generalize sbytes s = l at *
  generalize hn : s.size = n at *
  clear hsl hs hp hc ht hC hq2 hN hNb hB hln h58
  go_enter Tryz.func35, Tryz.ntmps35
  go_upto_region 4 with (go_at_call 19; refine (HST.out _).mono ?_; rintro ε w5 ⟨rfl, hnm, h5⟩; have HNM := hide hnm; have HG5 := hide (HGN.out.keep h5); have H5 := hide (HBN.out.trans (h5.mono HBN.out.size)); rw [show gotV 4 (bstr nm) (.slice none 0 0) (.slice none 0 0) q 0 0 = .agg #[.int .i64 4, .string (bstr nm), .slice none 0 0, .slice none 0 0, .int .i64 (q : Int), .int .i64 ((0 : Nat) : Int), .int .i64 ((0 : Nat) : Int)] from rfl]; clear h5 hnm)
  obtain ⟨w6, hw6⟩ : ∃ x, x = w5.alloc (.cells #[.int .i64 4, .string (bstr nm), .slice none 0 0, .slice none 0 0, .int .i64 (q : Int), .int .i64 0, .int .i64 0] 41) := ⟨_, rfl⟩
  rw [← hw6]
  have hGB : GB w6 w5.heap.size 4 (bstr nm) (.slice none 0 0) (.slice none 0 0) q 0 0 := hw6 ▸ GB.new w5 _ _ _ _ q 0 0
  have HG6 : Hid (GZ w6 w.heap.size) := hide (hw6 ▸ HG5.out.keep (below_new w5 _))
  have H6 : Hid (Below w.heap.size w w6) := hide (hw6 ▸ H5.out.alloc H5.out.size _)
  have HGB := hide hGB
  obtain ⟨-, -, -, -, -, a5, -⟩ := hGB.facts
  clear hw6 hGB hx
  generalize w5.heap.size = M at *
  go_wp2_with fail
  clear a5
  go_loopw [9] (fun a wr => ∃ i : Nat, a = .int .i64 (i : Int) ∧ i ≤ ln ∧ Hid (Below w6.heap.size w6 wr) ∧ Hid (∀ j b, j < i → ns[j]? = some b → b ≠ nm)) (fun a _ => ln - (intOf a).toNat)
  case atStart => exact ⟨0, rfl, by omega, hide (Below.refl _ _), hide fun j b hj => by omega⟩
  case round =>
    obtain ⟨i, rfl, hi, HBR, hr⟩ := hrel
    have hwri : IntKind.i64.wrap ((i : Int) + 1) = ((i + 1 : Nat) : Int) := by have := HLN.out; rw [IntKind.wrap_i64]; omega
    have HWR : Hid (Below w.heap.size w wr) := hide (H6.out.trans (HBR.out.mono H6.out.size))
    obtain ⟨-, b1, -, -, b4, -, -⟩ := (HGB.out.keep HBR.out).facts
    by_cases hil : i < ln
    · have hil' : (i : Int) < (ln : Int) := by omega
      obtain ⟨a, ha⟩ : ∃ a, ns[i]? = some a := ⟨_, List.getElem?_eq_getElem (by have := HNS.out.1; omega)⟩
      obtain ⟨g, off, hg, hgB, hcell⟩ : ∃ g off, an = some ⟨g, off, none⟩ ∧ g < B ∧ ∀ i nm, ns[i]? = some nm → w.cell? ⟨g, off + i, none⟩ = some (.string (bstr nm)) := by
        rcases HNS.out.2 with e | e
        · rw [e] at ha; simp at ha
        · exact e
      have hci := cell_kept (hcell i a ha) HWR.out
      have HIL := hide hil
      have hbe := bstr_beq (HNB.out a (List.mem_of_getElem? ha)) HNM.out
      subst hg
      clear hi hil hcell hgB
      by_cases he : a = nm
      · have he' : ((bstr a).toList == (bstr nm).toList) = true := by rw [hbe]; simpa using he
        rw [contains_yes (by rw [ha, he]), if_pos rfl] at HNA
        have HB3 := hide (HBA.out 45 p)
        have HE := hide (HBD.out 45 p)
        unfold badV gotV at HB3 HE
        have HGZ0 := hide (HG6.out.keep HBR.out)
        clear he ha hbe
        generalize bstr a = SA at *
        generalize bstr nm = SN at *
        go_wp2_with fail
        go_quiet (fail)
        have HGZ : Hid (GZ (wr.drewN nq) w.heap.size) := HGZ0
        have HWZ : Hid (Below w.heap.size w (wr.drewN nq)) := hide (below_drewN HWR.out nq)
        clear b1 b4 hci
        generalize wr.drewN nq = wz at *
        go_wp2_with (go_at_call 16; refine (HB3.out _).mono ?_; rintro ε w7 ⟨rfl, h7⟩; have HG7 := hide (HGZ.out.keep h7); have H7 := hide (HWZ.out.trans (h7.mono HWZ.out.size)); obtain ⟨⟨c0, c1, c2, c3, c4, c5, c6⟩, f0, f1, f2, f3, f4, f5, f6⟩ := HG7.out.facts; clear h7)
        refine bodyPost_ret (got_results2 rfl rfl (putG_bl HG7.out _ _ _ _ _ _ _)) rfl ?_
        exact HE.out _ HNA.out (H7.out.trans ((putG_but w7 w.heap.size _ _ _ _ _ _ _).below (Nat.le_refl _) H7.out.size))
      · have he' : ((bstr a).toList == (bstr nm).toList) = false := by rw [hbe]; simpa using he
        have HNW : Hid (∀ j b, j < i + 1 → ns[j]? = some b → b ≠ nm) := hide fun j b hj hb => by
          rcases Nat.lt_succ_iff_lt_or_eq.1 hj with h | h
          · exact hr.out j b h hb
          · subst h; rw [ha] at hb; have e := Option.some.inj hb; rw [← e]; exact he
        clear he ha hbe
        generalize bstr a = SA at *
        generalize bstr nm = SN at *
        go_wp2_with fail
        go_quiet (fail)
        have HBZ : Hid (Below w6.heap.size w6 (wr.drewN nq)) := hide (below_drewN HBR.out nq)
        clear b1 b4 hci
        generalize wr.drewN nq = wz at *
        go_wp2_with fail
        go_roundw
        case rel => exact ⟨i + 1, by first | rfl | simp, HIL.out, HBZ, HNW⟩
        case measure => have := HIL.out; simp [intOf]; omega
    · have hil' : ¬ (i : Int) < (ln : Int) := by omega
      rw [contains_no (fun j b hb => hr.out j b (by have h1 := (List.getElem?_eq_some_iff.1 hb).1; have := HNS.out.1; omega) hb), if_neg (by simp)] at HNA
      have HGZ0 := hide (HG6.out.keep HBR.out)
      have HBKQ := hide (HBK.out q wr HQ2.out)
      have hkl : skip l q ≤ n := by
        have h1 : l.length = n := HLL.out
        have := skip_le (s := l) (p := q) (by have := HQ2.out; omega)
        omega
      obtain ⟨k, hk⟩ : ∃ k, k = skip l q := ⟨_, rfl⟩
      rw [← hk] at HNA HBKQ hkl
      have HKL := hide hkl
      clear hi hil hwri
      by_cases hkn : k < n
      · have hkn' : (k : Int) < (n : Int) := by omega
        have hgk' : ¬ (n : Int) ≤ (k : Int) := by omega
        have hxk : ∀ W, (Instr.index 9 (.string s) (.int .i64 (k : Int))).run Tryz.prog W = .ok (.int .u8 ((bt l k : Nat) : Int)) W := hix k hkn
        rw [if_pos hkn] at HNA
        by_cases h58 : bt l k = 58
        · exact absurd ⟨by rw [← hk]; exact hkn, by rw [← hk]; exact h58⟩ H58.out
        · rw [if_neg h58] at HNA
          have h58' : (((bt l k : Nat) : Int) != 58) = true := by simp; omega
          have HMK := hide (HMU.out k)
          rw [if_pos hkn] at HMK
          have HE := hide (HBD.out 40 k)
          unfold badV gotV at HMK HE
          clear hkn h58 hkl hix b1 hk
          generalize bt l k = c at *
          go_wp2_with (first
            | (go_at_call 11; refine HBKQ.out.mono ?_; rintro ε wx ⟨rfl, hwx⟩; have hwy := hwx.symm; subst hwy; clear hwx)
            | (go_at_call 30; refine (HMK.out _).mono ?_; rintro ε w7 ⟨rfl, h7⟩; have HG7 := hide (HGZ0.out.keep h7); have H7 := hide (HWR.out.trans (h7.mono HWR.out.size)); obtain ⟨⟨c0, c1, c2, c3, c4, c5, c6⟩, f0, f1, f2, f3, f4, f5, f6⟩ := HG7.out.facts; clear h7))
          refine bodyPost_ret (got_results2 rfl rfl (putG_bl HG7.out _ _ _ _ _ _ _)) rfl ?_
          exact HE.out _ HNA.out (H7.out.trans ((putG_but w7 w.heap.size _ _ _ _ _ _ _).below (Nat.le_refl _) H7.out.size))
      · have hkn' : ¬ (k : Int) < (n : Int) := by omega
        have hgk' : (n : Int) ≤ (k : Int) := by omega
        rw [if_neg hkn] at HNA
        have HMK := hide (HMU.out k)
        rw [if_neg hkn] at HMK
        have HE := hide (HBD.out 3 n)
        unfold badV gotV at HMK HE
        clear hkn hkl hix b1 hk
        go_wp2_with (first
          | (go_at_call 11; refine HBKQ.out.mono ?_; rintro ε wx ⟨rfl, hwx⟩; have hwy := hwx.symm; subst hwy; clear hwx)
          | (go_at_call 30; refine (HMK.out _).mono ?_; rintro ε w7 ⟨rfl, h7⟩; have HG7 := hide (HGZ0.out.keep h7); have H7 := hide (HWR.out.trans (h7.mono HWR.out.size)); obtain ⟨⟨c0, c1, c2, c3, c4, c5, c6⟩, f0, f1, f2, f3, f4, f5, f6⟩ := HG7.out.facts; clear h7))
        refine bodyPost_ret (got_results2 rfl rfl (putG_bl HG7.out _ _ _ _ _ _ _)) rfl ?_
        exact HE.out _ HNA.out (H7.out.trans ((putG_but w7 w.heap.size _ _ _ _ _ _ _).below (Nat.le_refl _) H7.out.size))
end Go.Proofs.YtlebockgdonceaaGreatDoor
