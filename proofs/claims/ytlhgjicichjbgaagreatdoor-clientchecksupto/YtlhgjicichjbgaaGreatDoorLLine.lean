/- The program's readLine: every line. -/
import Derived.Test.YtlhgjicichjbgaaGreatDoorLReadC
import Derived.Deep.RegionHeld3
import Derived.Laws.EntriesVeiled
import Derived.Shelf.Abstract
namespace Go.Proofs.YtlhgjicichjbgaaGreatDoor
open Go.RowKit

theorem known_enters (nm : ByteArray) (hnm : isName nm = true) : ∀ (args : Array Value) (w : World), (callFunc (readFn nm) args).run Tryz.prog w = .ok (.enter (readFn nm) args) w := by
  rcases six_names hnm with rfl | rfl | rfl | rfl | rfl | rfl
  · exact enters_of Tryz.func69 (by kernel_rfl) rfl
  · exact enters_of Tryz.func71 (by kernel_rfl) rfl
  · exact enters_of Tryz.func73 (by kernel_rfl) rfl
  · exact enters_of Tryz.func75 (by kernel_rfl) rfl
  · exact enters_of Tryz.func77 (by kernel_rfl) rfl
  · exact enters_of Tryz.func79 (by kernel_rfl) rfl
/-- What readLine leaves. -/
def LnEnd (w : World) (R : Option Cl) (e : Ending) (w' : World) : Prop := ∃ (c : Cl) (so : Option Addr) (n cp : Nat), e = .returned (.tuple #[.agg #[.string c.id, .string c.secret, .int .i64 c.grants, .bool c.ping, .string c.url, .slice so n cp], .bool R.isSome]) ∧ (∀ c2, R = some c2 → c = c2) ∧ SAt w' so n cp c.scopes ∧ (∀ a, so = some a → w.heap.size ≤ a.block) ∧ Below w.heap.size w w'
theorem lnEnd_none {w w' : World} (hb : Below w.heap.size w w') : LnEnd w none (.returned (.tuple #[.agg #[.string { data := #[] }, .string { data := #[] }, .int .i64 0, .bool false, .string { data := #[] }, .slice none 0 0], .bool false])) w' :=
  ⟨zeroCl, none, 0, 0, rfl, fun c2 h => (by cases h), sat_nil w', fun a ha => (by cases ha), hb⟩
set_option maxHeartbeats 2000000 in
set_option maxRecDepth 100000 in
theorem readLine_any (s : ByteArray) (gm : Nat) (w : World) (hK : Known w gm) (hM : MaxL w) (hs : s.size ≤ 9223372036854775807) :
    Calls Tryz.prog 82 #[.string s, .map (some gm)] w fun e w' => True ∧ LnEnd w (lineR (sbytes s)) e w' := by
  have HK : Hid (Known w gm) := hK
  have HM : Hid (MaxL w) := hM
  obtain ⟨l, er, pl, hO⟩ : ∃ l er pl, parOut (sbytes s) = (l, er, pl) := ⟨_, _, _, rfl⟩
  obtain ⟨m, hm⟩ : ∃ m, m = l.length := ⟨_, rfl⟩
  have HML : Hid (m = l.length) := hm
  have hm64 : m ≤ 64 := by have h := (parOut_len (sbytes s)).1; rw [hO] at h; rw [hm]; exact h
  have HB2 : Hid (∀ q ∈ l, bytes2 q) := by have h := (parOut_len (sbytes s)).2; rw [hO] at h; exact h
  have HZ : Hid (∀ q ∈ l, q.1.length + q.2.length ≤ 16384) := by have h := parOut_small2 (sbytes s); rw [hO] at h; exact h
  obtain ⟨R, HR⟩ : ∃ R, Hid (R = lineR (sbytes s)) := ⟨_, hide rfl⟩
  have HRE : Hid (R = if er = 0 then (lnFold l l).bind fun c => if checkB c = true then some c else none else none) := by
    show _ = _
    rw [HR.out]; unfold lineR; rw [hO]
  rw [← HR.out]
  have HP : ∀ w', MaxL w' → _ := fun w' hM' => parse_m s l er pl m w' hO hm hs hM'
  have HBA : Hid (Below w.heap.size w (w.alloc (.cells #[.string { data := #[] }, .string { data := #[] }, .int .i64 0, .bool false, .string { data := #[] }, .slice none 0 0] 27))) := below_new w _
  have HC0 := hide (C6.new w)
  clear hO hm hK hM HR
  go_enter Tryz.func82, Tryz.ntmps82
  go_wp2_with (go_at_call 118; refine (HP _ (HM.out.keep HBA.out)).mono ?_)
  rintro e w1 ⟨fo, fc, rfl, HO⟩
  have HB1 : Hid (Below w.heap.size w w1) := HBA.out.trans (HO.out.2.mono (by simp))
  have HC1 : Hid (C6 w1 w.heap.size (.string { data := #[] }) (.string { data := #[] }) (.int .i64 0) (.bool false) (.string { data := #[] }) (.slice none 0 0)) := HC0.out.keep HO.out.2 (by simp)
  have HRW : Hid (PRow w1 fo l) := HO.out.1.row
  have hs1 : w.heap.size < w1.heap.size := HC1.out.lt
  clear HO HC0 HBA HP
  obtain ⟨d0, d1, d2, d3, d4, d5⟩ := HC1.out.cells
  obtain ⟨f0, f1, f2, f3, f4, f5⟩ := HC1.out.thaw
  by_cases he : er = 0
  · subst he
    have hsg : w1.heap.size < (w1.alloc (.cells #[.string { data := #[] }, .string { data := #[] }, .int .i64 0, .bool false, .string { data := #[] }, .slice none 0 0] 27)).heap.size := by simp
    have HCL : Hid (ClAt (w1.alloc (.cells #[.string { data := #[] }, .string { data := #[] }, .int .i64 0, .bool false, .string { data := #[] }, .slice none 0 0] 27)) w1.heap.size zeroCl none 0 0) := ⟨C6.new w1, sat_nil _, fun a ha => (by cases ha), ⟨0, by omega, rfl⟩, scSmall_nil, by decide⟩
    have HBN : Hid (Below w1.heap.size w1 (w1.alloc (.cells #[.string { data := #[] }, .string { data := #[] }, .int .i64 0, .bool false, .string { data := #[] }, .slice none 0 0] 27))) := below_new w1 _
    go_wp2
    go_loopw [28] (fun i wr => ∃ (k : Nat) (c : Cl) (so : Option Addr) (n cp : Nat), k ≤ m ∧ i = .int .i64 (k : Int) ∧ Hid (lnFold l (l.take k) = some c) ∧ Hid (ClAt wr w1.heap.size c so n cp) ∧ Hid (Below w1.heap.size w1 wr)) (fun i _ => m - (intOf i).toNat)
    case atStart => exact ⟨0, zeroCl, none, 0, 0, Nat.zero_le _, rfl, rfl, HCL, HBN⟩
    case round =>
      obtain ⟨k, c, so, n, cp, hk, rfl, HF, HCL, HBW⟩ := hrel
      by_cases hlt : k < m
      · obtain ⟨b, off, rfl⟩ := HRW.out.form (by rw [← HML.out]; omega)
        obtain ⟨q, hq⟩ : ∃ q, l[k]? = some q := ⟨_, List.getElem?_eq_getElem (by rw [← HML.out]; exact hlt)⟩
        have hcc := (HRW.out.keep HBW.out).cell hq
        rw [Nat.mul_comm] at hcc
        have c0 : wr.cell? ⟨b, off + k * 2, none⟩ = some (.string (bstr q.1)) := hcc.1
        have c1 : wr.cell? ⟨b, off + k * 2 + 1, none⟩ = some (.string (bstr q.2)) := hcc.2
        have HQM := hide (List.mem_of_getElem? hq)
        have HST : Hid (lnFold l (l.take (k + 1)) = lnStep l c q) := by show _ = _; rw [take_two hq, lnFold_snoc, HF.out]; rfl
        clear hcc hq HF
        obtain ⟨nm, HNM⟩ : ∃ nm, Hid (nm = bstr q.1) := ⟨_, hide rfl⟩
        obtain ⟨vl, HVL⟩ : ∃ vl, Hid (vl = bstr q.2) := ⟨_, hide rfl⟩
        rw [← HNM.out] at c0
        rw [← HVL.out] at c1
        have hsr : w1.heap.size < wr.heap.size := HCL.out.cb.lt
        have HKW : Hid (Known (wr.alloc (.cells #[.string nm, .string vl] 63)) gm) := by
          have h1 := HK.out.keep HB1.out HK.out.lt
          have h2 := h1.keep HBW.out (by have := HK.out.lt; omega)
          exact h2.keep (below_new wr _) h2.lt
        have hnl : nm.size ≤ maxLen := by
          have := HZ.out q HQM.out
          rw [HNM.out, bstr_size]; unfold maxLen; omega
        have HNB : Hid (sbytes nm = q.1) := by show _ = _; rw [HNM.out]; exact sbytes_bstr (HB2.out q HQM.out).1
        by_cases hin : isName nm = true
        · have hlk := known_look (wr.alloc (.cells #[.string nm, .string vl] 63)) gm nm HKW.out hin hnl
          have hrd := read_any nm hin
          have hen := known_enters nm hin
          obtain ⟨F, hF⟩ : ∃ F, F = readFn nm := ⟨_, rfl⟩
          obtain ⟨G, hG⟩ : ∃ G, G = writeFn nm := ⟨_, rfl⟩
          rw [← hF, ← hG] at hlk
          rw [← hF] at hrd hen
          clear hF hG
          obtain ⟨x, j, hO⟩ : ∃ x j, ones q.1 l = (x, j) := ⟨_, _, rfl⟩
          have HON : ∀ W, Below w1.heap.size w1 W → Calls Tryz.prog 119 #[.slice (some ⟨b, off, none⟩) m fc, .string nm] W fun e w' => e = .returned (oneRes (x, j)) ∧ Below W.heap.size W w' := by
            intro W hW
            have h := one_any m fc (some ⟨b, off, none⟩) l nm W HML.out (by omega) HB2.out (fun p hp => by have := HZ.out p hp; omega) (HRW.out.keep hW)
            rw [HNB.out, hO] at h
            exact h
          have HX : Hid (x.length ≤ 16384) := by
            show _ ≤ _
            rcases ones_from q.1 l with h | ⟨p, hp, h⟩
            · rw [hO] at h; simp only at h; rw [h]; simp
            · rw [hO] at h; simp only at h; rw [h]; have := HZ.out p hp; omega
          have HST2 : Hid (lnFold l (l.take (k + 1)) = if 1 < j then none else if x = [] then some c else fieldR nm c (bstr x)) := by
            show _ = _
            rw [HST.out]; unfold lnStep; rw [← HNM.out, if_pos hin, hO]
          clear HST hO
          have HB3 : Hid (Below wr.heap.size wr ((wr.alloc (.cells #[.string nm, .string vl] 63)).alloc (.cells #[.func (.func F) #[] #[], .func (.func G) #[] #[]] 113))) := (below_new wr _).trans ((below_new _ _).mono (by simp))
          by_cases h1 : 1 < j
          · have hor : oneRes (x, j) = .tuple #[.string { data := #[] }, .bool false, .int .i64 34] := by unfold oneRes; rw [if_pos h1]
            rw [hor] at HON
            have HN : Hid (R = none) := by
              show _ = _
              rw [HRE.out, if_pos trivial, lnFold_bad (j := k + 1) (by rw [HST2.out, if_pos h1])]; rfl
            go_wp2_with (first | (go_at_call 119; refine (HON _ (HBW.out.trans (HB3.out.mono (by omega)))).mono ?_))
            rintro e w4 ⟨rfl, hb4⟩
            have HB4 : Hid (Below w1.heap.size w1 w4) := HBW.out.trans ((HB3.out.trans (hb4.mono HB3.out.size)).mono (by omega))
            have HC4 := hide (HC1.out.keep HB4.out hs1)
            obtain ⟨e0, e1, e2, e3, e4, e5⟩ := HC4.out.cells
            obtain ⟨g0, g1, g2, g3, g4, g5⟩ := HC4.out.thaw
            have hs4 := HB4.out.size
            clear hb4 HON hlk hrd
            go_wp2
            refine bodyPost_ret (c6_results2 rfl rfl rfl (HC4.out.put _ _ _ _ _ _)) rfl ?_
            rw [HN.out]
            refine ⟨trivial, lnEnd_none ?_⟩
            exact (HB1.out.trans (HB4.out.mono (by omega))).trans (below_of_grown (putC_grown _ _ _ _ _ _ _ _) (Nat.le_refl _) (by omega))
          · have h1i : ¬ 1 < j := h1
            by_cases hx0 : x = []
            · subst hx0
              have hor : oneRes ([], j) = .tuple #[.string { data := #[] }, .bool false, .int .i64 0] := by unfold oneRes; rw [if_neg h1]; rfl
              rw [hor] at HON
              have HS2 : Hid (lnFold l (l.take (k + 1)) = some c) := by show _ = _; rw [HST2.out, if_neg h1, if_pos rfl]
              clear h1 h1i HST2 hor
              go_wp2_with (first | (go_at_call 119; refine (HON _ (HBW.out.trans (HB3.out.mono (by omega)))).mono ?_))
              rintro e w4 ⟨rfl, hb4⟩
              have HB4 : Hid (Below w1.heap.size w1 w4) := HBW.out.trans ((HB3.out.trans (hb4.mono HB3.out.size)).mono (by omega))
              have HCL4 : Hid (ClAt w4 w1.heap.size c so n cp) := HCL.out.keep (HB3.out.trans (hb4.mono HB3.out.size))
              clear hb4 HON hlk hrd
              go_wp2
              go_roundw
              case rel => exact ⟨k + 1, c, so, n, cp, by omega, by go_num, HS2, HCL4, HB4⟩
              case measure => simp [intOf]; omega
            · have HXE : x.isEmpty = false := by cases x with | nil => exact absurd rfl hx0 | cons => rfl
              have hor : oneRes (x, j) = .tuple #[.string (bstr x), .bool true, .int .i64 0] := by unfold oneRes; rw [if_neg h1]; simp only [HXE, Bool.not_false]
              rw [hor] at HON
              have HS2 : Hid (lnFold l (l.take (k + 1)) = fieldR nm c (bstr x)) := by show _ = _; rw [HST2.out, if_neg h1, if_neg hx0]
              have hxs : (bstr x).size ≤ 9223372036854775807 := by have := HX.out; rw [bstr_size]; omega
              clear h1 h1i HST2 hor HXE hx0
              generalize bstr x = xb at *
              go_wp2_with (first | (go_at_call 119; refine (HON _ (HBW.out.trans (HB3.out.mono (by omega)))).mono ?_))
              rintro e w4 ⟨rfl, hb4⟩
              have HB4 : Hid (Below w1.heap.size w1 w4) := HBW.out.trans ((HB3.out.trans (hb4.mono HB3.out.size)).mono (by omega))
              have HCL4 : Hid (ClAt w4 w1.heap.size c so n cp) := HCL.out.keep (HB3.out.trans (hb4.mono HB3.out.size))
              have p0 : w4.cell? ⟨wr.heap.size + 1, 0, none⟩ = some (.func (.func F) #[] #[]) := cell_kept (by simp) hb4
              have hrd4 := hrd w1.heap.size c so n cp xb w4 HCL4.out ((HM.out.keep HB1.out).keep HB4.out) hxs
              have hs4 := HB4.out.size
              have hs4' := HCL4.out.cb.lt
              clear hb4 HON hlk hrd
              obtain ⟨Q, HQ⟩ : ∃ Q, Hid (Q = fieldR nm c xb) := ⟨_, hide rfl⟩
              rw [← HQ.out] at hrd4 HS2
              cases Q with
              | none =>
                have HN : Hid (R = none) := by
                  show _ = _
                  rw [HRE.out, if_pos trivial, lnFold_bad (j := k + 1) HS2.out]; rfl
                go_wp2_with (first | (refine hrd4.mono ?_))
                rintro e w5 ⟨-, c', so', n', cp', rfl, -, hat, hg⟩
                have HB5 : Hid (Below w1.heap.size w1 w5) := HB4.out.trans (below_of_grown hg (Nat.le_refl _) hs4)
                have HC5 := hide (HC1.out.keep HB5.out hs1)
                obtain ⟨e0, e1, e2, e3, e4, e5⟩ := HC5.out.cells
                obtain ⟨g0, g1, g2, g3, g4, g5⟩ := HC5.out.thaw
                have hs5 := HB5.out.size
                clear hat hg
                go_wp2
                refine bodyPost_ret (c6_results2 rfl rfl rfl (HC5.out.put _ _ _ _ _ _)) rfl ?_
                rw [HN.out]
                refine ⟨trivial, lnEnd_none ?_⟩
                exact (HB1.out.trans (HB5.out.mono (by omega))).trans (below_of_grown (putC_grown _ _ _ _ _ _ _ _) (Nat.le_refl _) (by omega))
              | some c2 =>
                go_wp2_with (first | (refine hrd4.mono ?_))
                rintro e w5 ⟨-, c', so', n', cp', rfl, hc2, hat, hg⟩
                have hc2' := hc2 c2 rfl
                subst hc2'
                have HB5 : Hid (Below w1.heap.size w1 w5) := HB4.out.trans (below_of_grown hg (Nat.le_refl _) hs4)
                have HAT := hide hat
                clear hat hg hc2
                go_wp2
                go_roundw
                case rel => exact ⟨k + 1, c', so', n', cp', by omega, by go_num, HS2, HAT, HB5⟩
                case measure => simp [intOf]; omega
        · have hinf : isName nm = false := by simpa using hin
          have hlk := known_out (wr.alloc (.cells #[.string nm, .string vl] 63)) gm nm HKW.out hinf hnl
          have HN : Hid (R = none) := by
            show _ = _
            rw [HRE.out, if_pos trivial, lnFold_bad (j := k + 1) (by rw [HST.out]; unfold lnStep; rw [← HNM.out, if_neg hin])]; rfl
          have HB3 : Hid (Below w1.heap.size w1 ((wr.alloc (.cells #[.string nm, .string vl] 63)).alloc (.cells #[.nilFunc, .nilFunc] 113))) := HBW.out.trans (((below_new wr _).trans ((below_new _ _).mono (by simp))).mono (by omega))
          have HC4 := hide (HC1.out.keep HB3.out hs1)
          obtain ⟨e0, e1, e2, e3, e4, e5⟩ := HC4.out.cells
          obtain ⟨g0, g1, g2, g3, g4, g5⟩ := HC4.out.thaw
          have HSZ : Hid (w.heap.size ≤ ((wr.alloc (.cells #[.string nm, .string vl] 63)).alloc (.cells #[.nilFunc, .nilFunc] 113)).heap.size) := by show _ ≤ _; simp; omega
          clear hin hinf
          go_wp2
          refine bodyPost_ret (c6_results2 rfl rfl rfl (HC4.out.put _ _ _ _ _ _)) rfl ?_
          rw [HN.out]
          refine ⟨trivial, lnEnd_none ?_⟩
          exact (HB1.out.trans (HB3.out.mono (by omega))).trans (below_of_grown (putC_grown _ _ _ _ _ _ _ _) (Nat.le_refl _) HSZ.out)
      · have HFF : Hid (R = if checkB c = true then some c else none) := by
          show _ = _
          have := HF.out
          rw [List.take_of_length_le (by rw [← HML.out]; omega)] at this
          rw [HRE.out, if_pos trivial, this]; rfl
        have hsr : w1.heap.size < wr.heap.size := HCL.out.cb.lt
        obtain ⟨B, HB⟩ : ∃ B, Hid (B = checkB c) := ⟨_, hide rfl⟩
        have HCH : ∀ W, Below wr.heap.size wr W → Calls Tryz.prog 11 #[.agg #[.string c.id, .string c.secret, .int .i64 c.grants, .bool c.ping, .string c.url, .slice so n cp]] W fun e w' => e = .returned (.int .i64 (errIf B 111)) ∧ Below W.heap.size W w' := by
          intro W hW
          have h := check_any c.id c.secret c.url c.grants c.ping c.scopes so n cp W (HCL.out.sat.keep hW) (by have h1 := HCL.out.small.1; have h2 := HCL.out.sat.1; omega) (fun _ => join_small HCL.out.small) (((HM.out.keep HB1.out).keep HBW.out).keep hW) HCL.out.sizes.1 HCL.out.sizes.2.1 HCL.out.sizes.2.2
          rw [HB.out]
          exact h
        have HSC : Hid (SAt wr so n cp c.scopes) := HCL.out.sat
        have HFAR : Hid (∀ a, so = some a → w1.heap.size < a.block) := HCL.out.far
        have HCR := hide (HC1.out.keep HBW.out hs1)
        obtain ⟨e0, e1, e2, e3, e4, e5⟩ := HCR.out.cells
        obtain ⟨g0, g1, g2, g3, g4, g5⟩ := HCR.out.thaw
        obtain ⟨i0, i1, i2, i3, i4, i5⟩ := HCL.out.cb.six
        have HE : Hid (LnEnd w R = LnEnd w (if B = true then some c else none)) := by show _ = _; rw [HFF.out, HB.out]
        have hne1 : ¬ w1.heap.size = w.heap.size := by omega
        have hne2 : ¬ w.heap.size = w1.heap.size := by omega
        clear HF HRE HFF HB
        cases B
        all_goals
          go_wp2
          go_region_held3 (fun W => W.cell? ⟨w1.heap.size, 0, none⟩ = some (.string c.id) ∧ W.cell? ⟨w1.heap.size, 1, none⟩ = some (.string c.secret) ∧ W.cell? ⟨w1.heap.size, 2, none⟩ = some (.int .i64 c.grants) ∧ W.cell? ⟨w1.heap.size, 3, none⟩ = some (.bool c.ping) ∧ W.cell? ⟨w1.heap.size, 4, none⟩ = some (.string c.url) ∧ W.cell? ⟨w1.heap.size, 5, none⟩ = some (.slice so n cp)) (go_keep) (first | (go_at_call 11; refine (HCH _ (below_drewN (Below.refl _ _) 1)).mono ?_; rintro e w6 ⟨rfl, hb6⟩; have hb6' := below_undrewN1 hb6; have HB6 := hide hb6'; have HC6 := hide (HCR.out.keep hb6' (by omega)); obtain ⟨q0, q1, q2, q3, q4, q5⟩ := HC6.out.cells; obtain ⟨t0, t1, t2, t3, t4, t5⟩ := HC6.out.thaw; have j0 := cell_kept i0 hb6'; have j1 := cell_kept i1 hb6'; have j2 := cell_kept i2 hb6'; have j3 := cell_kept i3 hb6'; have j4 := cell_kept i4 hb6'; have j5 := cell_kept i5 hb6'; clear hb6 hb6'))
          go_wp2
          refine bodyPost_ret (c6_results2 rfl rfl rfl (HC6.out.put _ _ _ _ _ _)) rfl ?_
          refine ⟨trivial, ?_⟩
          have hs6 := HB6.out.size
          rw [HE.out]
          refine ⟨c, so, n, cp, rfl, ?_, ?_, ?_, (HB1.out.trans ((HBW.out.trans (HB6.out.mono (by omega))).mono (by omega))).trans (below_of_grown (putC_grown _ _ _ _ _ _ _ _) (Nat.le_refl _) (by omega))⟩
          · intro c2 h; first | exact Option.some.inj h | exact absurd h (by simp)
          · exact (HSC.out.keep HB6.out).grown (putC_grown _ _ _ _ _ _ _ _) (fun a ha => by have := HFAR.out a ha; omega)
          · intro a ha; have := HFAR.out a ha; omega
  · have hei : ((er : Int) == 0) = false := by simp; omega
    have hei2 : ((er : Int) != 0) = true := by simp; omega
    have HN : Hid (R = none) := by show _ = _; rw [HRE.out, if_neg he]
    go_wp2
    refine bodyPost_ret (c6_results2 rfl rfl rfl (HC1.out.put _ _ _ _ _ _)) rfl ?_
    rw [HN.out]
    refine ⟨trivial, lnEnd_none ?_⟩
    exact HB1.out.trans (below_of_grown (putC_grown _ _ _ _ _ _ _ _) (Nat.le_refl _) (by omega))
end Go.Proofs.YtlhgjicichjbgaaGreatDoor
