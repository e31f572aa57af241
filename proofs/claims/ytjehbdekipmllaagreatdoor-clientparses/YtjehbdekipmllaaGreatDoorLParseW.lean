/- The walk of the law ClientParses: every registry's text: true, and nothing old turns. -/
import Derived.Test.YtjehbdekipmllaaGreatDoorLDParse
import Derived.Test.YtjehbdekipmllaaGreatDoorLSpoil
import Derived.Test.YtjehbdekipmllaaGreatDoorLLive
namespace Go.Proofs.YtjehbdekipmllaaGreatDoor
open Go.RowKit

theorem DOwnF.kb {B M B' : Nat} {w w' : World} {v : Value} {l : List Cl} (h : DOwnF w B' v l) (hk : Kb B M w w') (hM : M ≤ B') : DOwnF w' B' v l := by
  obtain ⟨cs, ho, hf, hm⟩ := h
  exact ⟨cs, ownsRow_kb ho hk hM, hf.kb hk (fun i so m cp hi hc a ha => Nat.le_trans hM (hm i so m cp hi hc a ha)), hm⟩
theorem COwnS.row {w : World} {B M n c : Nat} {ao : Option Addr} {l : List Cl} (h : COwnS w B M (.slice ao n c) l) : CRow w ao l := by
  obtain ⟨a, c', e, _, hr, _⟩ := h.own.shape
  cases e
  exact hr
theorem DOwnF.row {w : World} {B n c : Nat} {ao : Option Addr} {l : List Cl} (h : DOwnF w B (.slice ao n c) l) : CRow w ao l := by
  obtain ⟨a, c', e, _, hr, _⟩ := h.own.shape
  cases e
  exact hr
theorem line_check {xs : List Nat} {c : Cl} (h : lineR xs = some c) : checkB c = true := by
  unfold lineR at h
  split at h
  · cases hF : lnFold (parOut xs).1 (parOut xs).1 with
    | none => rw [hF] at h; cases h
    | some d =>
      rw [hF] at h
      have h : (if checkB d = true then some d else none) = some c := h
      split at h
      · rename_i hd
        cases h; exact hd
      · cases h
  · cases h
theorem check_few {c : Cl} (h : checkB c = true) : c.scopes.length ≤ 32 := by
  unfold checkB scopesB at h
  simp only [Bool.and_eq_true, decide_eq_true_eq] at h
  omega
theorem run_few : ∀ (ls : List U) (k : Nat) (a : List Cl), a.length ≤ 256 → (∀ c ∈ a, c.scopes.length ≤ 32) → (pRun ls k a).1.length ≤ 256 ∧ ∀ c ∈ (pRun ls k a).1, c.scopes.length ≤ 32
  | [], _, a, h1, h2 => ⟨h1, h2⟩
  | u :: r, k, a, h1, h2 => by
    unfold pRun
    split
    · exact run_few r (k + 1) a h1 h2
    · split
      · rename_i h0
        have hne := nextErr_zero h0
        refine run_few r (k + 1) _ (by rw [List.length_append]; simp; omega) (fun c hc => ?_)
        rcases List.mem_append.1 hc with hc | hc
        · exact h2 c hc
        · have e : c = clOf ⟨u.toArray⟩ := by simpa using hc
          rw [e]
          unfold clOf
          cases hL : lineR (sbytes ⟨u.toArray⟩) with
          | none => decide
          | some d => exact check_few (line_check hL)
      · exact ⟨by simp, by simp⟩
theorem par_few (t : U) : (parR t).1.length ≤ 256 ∧ ∀ c ∈ (parR t).1, c.scopes.length ≤ 32 := by
  unfold parR
  split
  · exact ⟨by simp, by simp⟩
  · exact run_few _ _ _ (by simp) (by simp)
theorem clParse_n (s : ByteArray) (L : List Cl) (er ln n : Nat) (w : World) (hR : parR s.data.toList = (L, er, ln)) (hn : n = L.length) (hM : MaxL w) :
    Calls Tryz.prog 6 #[.string s] w fun e w' => ∃ fo fc, e = .returned (.tuple #[.slice fo n fc, .int .i64 (er : Int), .int .i64 (ln : Int)]) ∧ Hid (COwnS w' w.heap.size w'.heap.size (.slice fo n fc) L ∧ Below w.heap.size w w') := by
  have h := clParse_any s w hM
  rw [hR] at h
  refine h.mono ?_
  rintro e w' ⟨-, v, rfl, ho, hb⟩
  obtain ⟨fo, fc, rfl, _⟩ := ho.own.shape
  have ho2 : COwnS w' w.heap.size w'.heap.size (.slice fo n fc) L := by rw [hn]; exact ho
  exact ⟨fo, fc, by rw [hn], ho2, hb⟩
theorem rclParse_n (s : ByteArray) (L : List Cl) (er ln n : Nat) (w : World) (hR : parR s.data.toList = (L, er, ln)) (hn : n = L.length) (hs : s.size ≤ 9223372036854775807) :
    Calls Tryz.prog 7 #[.string s] w fun e w' => ∃ fo fc, e = .returned (.tuple #[.slice fo n fc, .int .i64 (er : Int), .int .i64 (ln : Int)]) ∧ Hid (DOwnF w' w.heap.size (.slice fo n fc) L ∧ Below w.heap.size w w') := by
  have h := rclParse_any s w hs
  rw [hR] at h
  refine h.mono ?_
  rintro e w' ⟨-, v, rfl, ho, hb⟩
  obtain ⟨fo, fc, rfl, _⟩ := ho.own.shape
  have ho2 : DOwnF w' w.heap.size (.slice fo n fc) L := by rw [hn]; exact ho
  exact ⟨fo, fc, by rw [hn], ho2, hb⟩
set_option linter.unusedSimpArgs false in
set_option maxHeartbeats 4000000 in
set_option maxRecDepth 100000 in
theorem clientParses_walk (s : ByteArray) (w : World) (hM : MaxL w) (hs : s.size ≤ 9223372036854775807) :
    Calls Tryz.prog 3 #[.string s] w fun e w' => e = .returned (.bool true) ∧ Below w.heap.size w w' := by
  have HM : Hid (MaxL w) := hM
  obtain ⟨L, er, ln, hR⟩ : ∃ L er ln, parR s.data.toList = (L, er, ln) := ⟨_, _, _, rfl⟩
  obtain ⟨n, hn⟩ : ∃ n, n = L.length := ⟨_, rfl⟩
  have hfew := par_few s.data.toList
  rw [hR] at hfew
  have hn256 : n ≤ 256 := by rw [hn]; exact hfew.1
  have HF : Hid (∀ c ∈ L, c.scopes.length ≤ 32) := hfew.2
  have HZ : Hid (∀ c ∈ L, c.scopes.length ≤ 140737488355328) := fun c hc => Nat.le_trans (hfew.2 c hc) (by decide)
  have HN := hide hn
  have HC : Hid (∀ W, MaxL W → Calls Tryz.prog 6 #[.string s] W fun e w' => ∃ fo fc, e = .returned (.tuple #[.slice fo n fc, .int .i64 (er : Int), .int .i64 (ln : Int)]) ∧ Hid (COwnS w' W.heap.size w'.heap.size (.slice fo n fc) L ∧ Below W.heap.size W w')) := fun W hW => clParse_n s L er ln n W hR hn hW
  have HD : Hid (∀ W, Calls Tryz.prog 7 #[.string s] W fun e w' => ∃ fo fc, e = .returned (.tuple #[.slice fo n fc, .int .i64 (er : Int), .int .i64 (ln : Int)]) ∧ Hid (DOwnF w' W.heap.size (.slice fo n fc) L ∧ Below W.heap.size W w')) := fun W => rclParse_n s L er ln n W hR hn hs
  clear hR hn hfew hM hs
  go_enter Tryz.func3, Tryz.ntmps3
  go_wp2_with fail
  refine (HC.out w HM.out).mono ?_
  rintro e w1 ⟨o1, c1, rfl, H1⟩
  have hs1 := H1.out.2.size
  have HM1 := hide (HM.out.keep H1.out.2)
  go_wp2_with fail
  refine (HC.out w1 HM1.out).mono ?_
  rintro e w2 ⟨o2, c2, rfl, H2⟩
  have hs2 := H2.out.2.size
  go_wp2_with fail
  refine (HD.out w2).mono ?_
  rintro e w3 ⟨o3, c3, rfl, H3⟩
  have hs3 := H3.out.2.size
  have HL1 := hide (((H1.out.1.keep H2.out.2).keep H3.out.2))
  have HL2 := hide (H2.out.1.keep H3.out.2)
  have HL3 := hide H3.out.1
  have HB3 : Hid (Below w.heap.size w w3) := (H1.out.2.trans (H2.out.2.mono hs1)).trans (H3.out.2.mono (by omega))
  have HA := hide (list_true n c1 c3 o1 o3 L w3 HN.out (by omega) HZ.out HL1.out.row HL3.out.row)
  clear H1 H2 H3 HM1
  go_wp2_with (first | (go_at_call 8; refine (num_any _ _).mono ?_; rintro e wx ⟨rfl, hwx⟩; have hwy := hwx.symm; subst hwy; clear hwx) | fail)
  refine HA.out.mono ?_
  rintro e w4 ⟨rfl, hb4⟩
  have hs4 := hb4.size
  have HB := hide (list_true n c2 c3 o2 o3 L w4 HN.out (by omega) HZ.out (HL2.out.keep hb4).row (HL3.out.keep hb4).row)
  have HB4 := hide hb4
  clear hb4 HA
  go_wp2_with fail
  refine HB.out.mono ?_
  rintro e w5 ⟨rfl, hb5⟩
  have hs5 := hb5.size
  have HX := hide ((HL1.out.keep HB4.out).keep hb5)
  have HY := hide ((HL2.out.keep HB4.out).keep hb5)
  have HW := hide ((HL3.out.keep HB4.out).keep hb5)
  have HB5 : Hid (Below w.heap.size w w5) := (HB3.out.trans (HB4.out.mono (by omega))).trans (hb5.mono (by omega))
  have HSP := hide (spoil_any n c1 w.heap.size w1.heap.size o1 L w5 HX.out HN.out hn256 HF.out (by omega) (by omega))
  clear hb5 HB HL1 HL2 HL3 HB3 HB4
  go_wp2_with fail
  refine HSP.out.mono ?_
  rintro e w6 ⟨rfl, hk⟩
  have hs6 := hk.size
  have HB6 : Hid (Below w.heap.size w w6) := HB5.out.trans (hk.below (by omega))
  have HY6 := hide (HY.out.kb hk (Nat.le_refl _))
  have HW6 := hide (HW.out.kb hk (by omega))
  clear hk HSP HX HY HW HB5
  go_wp2_with fail
  refine (HC.out w6 (HM.out.keep HB6.out)).mono ?_
  rintro e w7 ⟨o7, c7, rfl, H7⟩
  have hs7 := H7.out.2.size
  have HW7 := hide (HW6.out.keep H7.out.2)
  have HK7 := hide H7.out.1
  have HB7 : Hid (Below w.heap.size w w7) := HB6.out.trans (H7.out.2.mono (by omega))
  have HA7 := hide (list_true n c2 c3 o2 o3 L w7 HN.out (by omega) HZ.out (HY6.out.keep H7.out.2).row HW7.out.row)
  clear H7 HY6 HW6 HB6
  go_wp2_with fail
  refine HA7.out.mono ?_
  rintro e w8 ⟨rfl, hb8⟩
  have hs8 := hb8.size
  have HA8 := hide (list_true n c7 c3 o7 o3 L w8 HN.out (by omega) HZ.out (HK7.out.keep hb8).row (HW7.out.keep hb8).row)
  have HB8 : Hid (Below w.heap.size w w8) := HB7.out.trans (hb8.mono (by omega))
  clear hb8 HA7
  go_wp2_with (first | (go_at_call 8; refine (num_any _ _).mono ?_; rintro e wx ⟨rfl, hwx⟩; have hwy := hwx.symm; subst hwy; clear hwx) | fail)
  refine HA8.out.mono ?_
  rintro e w9 ⟨rfl, hb9⟩
  have HB9 : Hid (Below w.heap.size w w9) := HB8.out.trans (hb9.mono (by omega))
  have hs9 := HB9.out.size
  have HLV := hide (live_true w9 (HM.out.keep HB9.out))
  clear hb9 HA8
  go_wp2_with fail
  refine HLV.out.mono ?_
  rintro e w10 ⟨rfl, hb10⟩
  have HB10 := hide (HB9.out.trans (hb10.mono (by omega)))
  clear hb10
  go_wp2
  go_ret
  exact ⟨rfl, HB10.out⟩
end Go.Proofs.YtjehbdekipmllaaGreatDoor
