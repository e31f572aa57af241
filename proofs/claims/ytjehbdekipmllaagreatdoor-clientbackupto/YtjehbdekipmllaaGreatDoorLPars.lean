/- The program's readLine: every line. The program's nextClient: what a line says behind a list of clients. A text cut into lines, by strings.Split. The program's Parse: every registry's text. -/
import Derived.Test.YtjehbdekipmllaaGreatDoorLRead
import Derived.Test.YtjehbdekipmllaaGreatDoorLScs
import Derived.Test.YtjehbdekipmllaaGreatDoorXStr
import Derived.Deep.RegionHeld3
import Derived.Laws.EntriesVeiled
import Derived.Shelf.Abstract
namespace Go.Proofs.YtjehbdekipmllaaGreatDoor
open Go.RowKit

theorem known_enters (nm : ByteArray) (hnm : isName nm = true) : ∀ (args : Array Value) (w : World), (callFunc (readFn nm) args).run Tryz.prog w = .ok (.enter (readFn nm) args) w := by
  rcases six_names hnm with rfl | rfl | rfl | rfl | rfl | rfl
  · exact enters_of Tryz.func35 (by kernel_rfl) rfl
  · exact enters_of Tryz.func37 (by kernel_rfl) rfl
  · exact enters_of Tryz.func39 (by kernel_rfl) rfl
  · exact enters_of Tryz.func41 (by kernel_rfl) rfl
  · exact enters_of Tryz.func43 (by kernel_rfl) rfl
  · exact enters_of Tryz.func45 (by kernel_rfl) rfl
/-- What readLine leaves. -/
def LnEnd (w : World) (R : Option Cl) (e : Ending) (w' : World) : Prop := ∃ (c : Cl) (so : Option Addr) (n cp : Nat), e = .returned (.tuple #[.agg #[.string c.id, .string c.secret, .int .i64 c.grants, .bool c.ping, .string c.url, .slice so n cp], .bool R.isSome]) ∧ (∀ c2, R = some c2 → c = c2) ∧ SAt w' so n cp c.scopes ∧ (∀ a, so = some a → w.heap.size ≤ a.block) ∧ SOwn w' w.heap.size (.slice so n cp) c.scopes ∧ Below w.heap.size w w'
theorem lnEnd_none {w w' : World} (hb : Below w.heap.size w w') : LnEnd w none (.returned (.tuple #[.agg #[.string { data := #[] }, .string { data := #[] }, .int .i64 0, .bool false, .string { data := #[] }, .slice none 0 0], .bool false])) w' :=
  ⟨zeroCl, none, 0, 0, rfl, fun c2 h => (by cases h), sat_nil w', fun a ha => (by cases ha), sown_nil _ _, hb⟩
set_option maxHeartbeats 2000000 in
set_option maxRecDepth 100000 in
theorem readLine_any (s : ByteArray) (gm : Nat) (w : World) (hK : Known w gm) (hM : MaxL w) (hs : s.size ≤ 9223372036854775807) :
    Calls Tryz.prog 49 #[.string s, .map (some gm)] w fun e w' => True ∧ LnEnd w (lineR (sbytes s)) e w' := by
  have HK : Hid (Known w gm) := hK
  have HM : Hid (MaxL w) := hM
  obtain ⟨l, er, pl, hO⟩ : ∃ l er pl, parOut (sbytes s) = (l, er, pl) := ⟨_, _, _, rfl⟩
  obtain ⟨m, hm⟩ : ∃ m, m = l.length := ⟨_, rfl⟩
  have HML : Hid (m = l.length) := hm
  have hm64 : m ≤ 64 := by have h := (parOut_len (sbytes s)).1; rw [hO] at h; rw [hm]; exact h
  have HB2 : Hid (∀ q ∈ l, bytes2 q) := by have h := (parOut_len (sbytes s)).2; rw [hO] at h; exact h
  have HZ : Hid (∀ q ∈ l, q.1.length + q.2.length ≤ 16384) := by have h := parOut_small2 (sbytes s); rw [hO] at h; exact h
  obtain ⟨R, HR⟩ : ∃ R, Hid (R = lineR (sbytes s)) := ⟨_, hide rfl⟩
  have HRE : Hid (R = if er = 0 then (lnFold l l).bind fun c => if checkB c = true then some c else none else none) := by
    show _ = _
    rw [HR.out]; unfold lineR; rw [hO]
  rw [← HR.out]
  have HP : ∀ w', MaxL w' → _ := fun w' hM' => parse_m s l er pl m w' hO hm hs hM'
  have HBA : Hid (Below w.heap.size w (w.alloc (.cells #[.string { data := #[] }, .string { data := #[] }, .int .i64 0, .bool false, .string { data := #[] }, .slice none 0 0] 47))) := below_new w _
  have HC0 := hide (C6.new w)
  clear hO hm hK hM HR
  go_enter Tryz.func49, Tryz.ntmps49
  go_wp2_with (go_at_call 75; refine (HP _ (HM.out.keep HBA.out)).mono ?_)
  rintro e w1 ⟨fo, fc, rfl, HO⟩
  have HB1 : Hid (Below w.heap.size w w1) := HBA.out.trans (HO.out.2.mono (by simp))
  have HC1 : Hid (C6 w1 w.heap.size (.string { data := #[] }) (.string { data := #[] }) (.int .i64 0) (.bool false) (.string { data := #[] }) (.slice none 0 0)) := HC0.out.keep HO.out.2 (by simp)
  have HRW : Hid (PRow w1 fo l) := HO.out.1.row
  have hs1 : w.heap.size < w1.heap.size := HC1.out.lt
  clear HO HC0 HBA HP
  obtain ⟨d0, d1, d2, d3, d4, d5⟩ := HC1.out.cells
  obtain ⟨f0, f1, f2, f3, f4, f5⟩ := HC1.out.thaw
  by_cases he : er = 0
  · subst he
    have hsg : w1.heap.size < (w1.alloc (.cells #[.string { data := #[] }, .string { data := #[] }, .int .i64 0, .bool false, .string { data := #[] }, .slice none 0 0] 47)).heap.size := by simp
    have HCL : Hid (ClAt (w1.alloc (.cells #[.string { data := #[] }, .string { data := #[] }, .int .i64 0, .bool false, .string { data := #[] }, .slice none 0 0] 47)) w1.heap.size zeroCl none 0 0) := ⟨C6.new w1, sat_nil _, sown_nil _ _, fun a ha => (by cases ha), ⟨0, by omega, rfl⟩, scSmall_nil, by decide⟩
    have HBN : Hid (Below w1.heap.size w1 (w1.alloc (.cells #[.string { data := #[] }, .string { data := #[] }, .int .i64 0, .bool false, .string { data := #[] }, .slice none 0 0] 47))) := below_new w1 _
    go_wp2
    go_loopw [28] (fun i wr => ∃ (k : Nat) (c : Cl) (so : Option Addr) (n cp : Nat), k ≤ m ∧ i = .int .i64 (k : Int) ∧ Hid (lnFold l (l.take k) = some c) ∧ Hid (ClAt wr w1.heap.size c so n cp) ∧ Hid (Below w1.heap.size w1 wr)) (fun i _ => m - (intOf i).toNat)
    case atStart => exact ⟨0, zeroCl, none, 0, 0, Nat.zero_le _, rfl, rfl, HCL, HBN⟩
    case round =>
      obtain ⟨k, c, so, n, cp, hk, rfl, HF, HCL, HBW⟩ := hrel
      by_cases hlt : k < m
      · obtain ⟨b, off, rfl⟩ := HRW.out.form (by rw [← HML.out]; omega)
        obtain ⟨q, hq⟩ : ∃ q, l[k]? = some q := ⟨_, List.getElem?_eq_getElem (by rw [← HML.out]; exact hlt)⟩
        have hcc := (HRW.out.keep HBW.out).cell hq
        rw [Nat.mul_comm] at hcc
        have c0 : wr.cell? ⟨b, off + k * 2, none⟩ = some (.string (bstr q.1)) := hcc.1
        have c1 : wr.cell? ⟨b, off + k * 2 + 1, none⟩ = some (.string (bstr q.2)) := hcc.2
        have HQM := hide (List.mem_of_getElem? hq)
        have HST : Hid (lnFold l (l.take (k + 1)) = lnStep l c q) := by show _ = _; rw [take_two hq, lnFold_snoc, HF.out]; rfl
        clear hcc hq HF
        obtain ⟨nm, HNM⟩ : ∃ nm, Hid (nm = bstr q.1) := ⟨_, hide rfl⟩
        obtain ⟨vl, HVL⟩ : ∃ vl, Hid (vl = bstr q.2) := ⟨_, hide rfl⟩
        rw [← HNM.out] at c0
        rw [← HVL.out] at c1
        have hsr : w1.heap.size < wr.heap.size := HCL.out.cb.lt
        have HKW : Hid (Known (wr.alloc (.cells #[.string nm, .string vl] 58)) gm) := by
          have h1 := HK.out.keep HB1.out HK.out.lt
          have h2 := h1.keep HBW.out (by have := HK.out.lt; omega)
          exact h2.keep (below_new wr _) h2.lt
        have hnl : nm.size ≤ maxLen := by
          have := HZ.out q HQM.out
          rw [HNM.out, bstr_size]; unfold maxLen; omega
        have HNB : Hid (sbytes nm = q.1) := by show _ = _; rw [HNM.out]; exact sbytes_bstr (HB2.out q HQM.out).1
        by_cases hin : isName nm = true
        · have hlk := known_look (wr.alloc (.cells #[.string nm, .string vl] 58)) gm nm HKW.out hin hnl
          have hrd := read_any nm hin
          have hen := known_enters nm hin
          obtain ⟨F, hF⟩ : ∃ F, F = readFn nm := ⟨_, rfl⟩
          obtain ⟨G, hG⟩ : ∃ G, G = writeFn nm := ⟨_, rfl⟩
          rw [← hF, ← hG] at hlk
          rw [← hF] at hrd hen
          clear hF hG
          obtain ⟨x, j, hO⟩ : ∃ x j, ones q.1 l = (x, j) := ⟨_, _, rfl⟩
          have HON : ∀ W, Below w1.heap.size w1 W → Calls Tryz.prog 76 #[.slice (some ⟨b, off, none⟩) m fc, .string nm] W fun e w' => e = .returned (oneRes (x, j)) ∧ Below W.heap.size W w' := by
            intro W hW
            have h := one_any m fc (some ⟨b, off, none⟩) l nm W HML.out (by omega) HB2.out (fun p hp => by have := HZ.out p hp; omega) (HRW.out.keep hW)
            rw [HNB.out, hO] at h
            exact h
          have HX : Hid (x.length ≤ 16384) := by
            show _ ≤ _
            rcases ones_from q.1 l with h | ⟨p, hp, h⟩
            · rw [hO] at h; simp only at h; rw [h]; simp
            · rw [hO] at h; simp only at h; rw [h]; have := HZ.out p hp; omega
          have HST2 : Hid (lnFold l (l.take (k + 1)) = if 1 < j then none else if x = [] then some c else fieldR nm c (bstr x)) := by
            show _ = _
            rw [HST.out]; unfold lnStep; rw [← HNM.out, if_pos hin, hO]
          clear HST hO
          have HB3 : Hid (Below wr.heap.size wr ((wr.alloc (.cells #[.string nm, .string vl] 58)).alloc (.cells #[.func (.func F) #[] #[], .func (.func G) #[] #[]] 82))) := (below_new wr _).trans ((below_new _ _).mono (by simp))
          by_cases h1 : 1 < j
          · have hor : oneRes (x, j) = .tuple #[.string { data := #[] }, .bool false, .int .i64 34] := by unfold oneRes; rw [if_pos h1]
            rw [hor] at HON
            have HN : Hid (R = none) := by
              show _ = _
              rw [HRE.out, if_pos trivial, lnFold_bad (j := k + 1) (by rw [HST2.out, if_pos h1])]; rfl
            go_wp2_with (first | (go_at_call 76; refine (HON _ (HBW.out.trans (HB3.out.mono (by omega)))).mono ?_))
            rintro e w4 ⟨rfl, hb4⟩
            have HB4 : Hid (Below w1.heap.size w1 w4) := HBW.out.trans ((HB3.out.trans (hb4.mono HB3.out.size)).mono (by omega))
            have HC4 := hide (HC1.out.keep HB4.out hs1)
            obtain ⟨e0, e1, e2, e3, e4, e5⟩ := HC4.out.cells
            obtain ⟨g0, g1, g2, g3, g4, g5⟩ := HC4.out.thaw
            have hs4 := HB4.out.size
            clear hb4 HON hlk hrd
            go_wp2
            refine bodyPost_ret (c6_results2 rfl rfl rfl (HC4.out.put _ _ _ _ _ _)) rfl ?_
            rw [HN.out]
            refine ⟨trivial, lnEnd_none ?_⟩
            exact (HB1.out.trans (HB4.out.mono (by omega))).trans (below_of_grown (putC_grown _ _ _ _ _ _ _ _) (Nat.le_refl _) (by omega))
          · have h1i : ¬ 1 < j := h1
            by_cases hx0 : x = []
            · subst hx0
              have hor : oneRes ([], j) = .tuple #[.string { data := #[] }, .bool false, .int .i64 0] := by unfold oneRes; rw [if_neg h1]; rfl
              rw [hor] at HON
              have HS2 : Hid (lnFold l (l.take (k + 1)) = some c) := by show _ = _; rw [HST2.out, if_neg h1, if_pos rfl]
              clear h1 h1i HST2 hor
              go_wp2_with (first | (go_at_call 76; refine (HON _ (HBW.out.trans (HB3.out.mono (by omega)))).mono ?_))
              rintro e w4 ⟨rfl, hb4⟩
              have HB4 : Hid (Below w1.heap.size w1 w4) := HBW.out.trans ((HB3.out.trans (hb4.mono HB3.out.size)).mono (by omega))
              have HCL4 : Hid (ClAt w4 w1.heap.size c so n cp) := HCL.out.keep (HB3.out.trans (hb4.mono HB3.out.size))
              clear hb4 HON hlk hrd
              go_wp2
              go_roundw
              case rel => exact ⟨k + 1, c, so, n, cp, by omega, by go_num, HS2, HCL4, HB4⟩
              case measure => simp [intOf]; omega
            · have HXE : x.isEmpty = false := by cases x with | nil => exact absurd rfl hx0 | cons => rfl
              have hor : oneRes (x, j) = .tuple #[.string (bstr x), .bool true, .int .i64 0] := by unfold oneRes; rw [if_neg h1]; simp only [HXE, Bool.not_false]
              rw [hor] at HON
              have HS2 : Hid (lnFold l (l.take (k + 1)) = fieldR nm c (bstr x)) := by show _ = _; rw [HST2.out, if_neg h1, if_neg hx0]
              have hxs : (bstr x).size ≤ 9223372036854775807 := by have := HX.out; rw [bstr_size]; omega
              clear h1 h1i HST2 hor HXE hx0
              generalize bstr x = xb at *
              go_wp2_with (first | (go_at_call 76; refine (HON _ (HBW.out.trans (HB3.out.mono (by omega)))).mono ?_))
              rintro e w4 ⟨rfl, hb4⟩
              have HB4 : Hid (Below w1.heap.size w1 w4) := HBW.out.trans ((HB3.out.trans (hb4.mono HB3.out.size)).mono (by omega))
              have HCL4 : Hid (ClAt w4 w1.heap.size c so n cp) := HCL.out.keep (HB3.out.trans (hb4.mono HB3.out.size))
              have p0 : w4.cell? ⟨wr.heap.size + 1, 0, none⟩ = some (.func (.func F) #[] #[]) := cell_kept (by simp) hb4
              have hrd4 := hrd w1.heap.size c so n cp xb w4 HCL4.out ((HM.out.keep HB1.out).keep HB4.out) hxs
              have hs4 := HB4.out.size
              have hs4' := HCL4.out.cb.lt
              clear hb4 HON hlk hrd
              obtain ⟨Q, HQ⟩ : ∃ Q, Hid (Q = fieldR nm c xb) := ⟨_, hide rfl⟩
              rw [← HQ.out] at hrd4 HS2
              cases Q with
              | none =>
                have HN : Hid (R = none) := by
                  show _ = _
                  rw [HRE.out, if_pos trivial, lnFold_bad (j := k + 1) HS2.out]; rfl
                go_wp2_with (first | (refine hrd4.mono ?_))
                rintro e w5 ⟨-, c', so', n', cp', rfl, -, hat, hg⟩
                have HB5 : Hid (Below w1.heap.size w1 w5) := HB4.out.trans (below_of_grown hg (Nat.le_refl _) hs4)
                have HC5 := hide (HC1.out.keep HB5.out hs1)
                obtain ⟨e0, e1, e2, e3, e4, e5⟩ := HC5.out.cells
                obtain ⟨g0, g1, g2, g3, g4, g5⟩ := HC5.out.thaw
                have hs5 := HB5.out.size
                clear hat hg
                go_wp2
                refine bodyPost_ret (c6_results2 rfl rfl rfl (HC5.out.put _ _ _ _ _ _)) rfl ?_
                rw [HN.out]
                refine ⟨trivial, lnEnd_none ?_⟩
                exact (HB1.out.trans (HB5.out.mono (by omega))).trans (below_of_grown (putC_grown _ _ _ _ _ _ _ _) (Nat.le_refl _) (by omega))
              | some c2 =>
                go_wp2_with (first | (refine hrd4.mono ?_))
                rintro e w5 ⟨-, c', so', n', cp', rfl, hc2, hat, hg⟩
                have hc2' := hc2 c2 rfl
                subst hc2'
                have HB5 : Hid (Below w1.heap.size w1 w5) := HB4.out.trans (below_of_grown hg (Nat.le_refl _) hs4)
                have HAT := hide hat
                clear hat hg hc2
                go_wp2
                go_roundw
                case rel => exact ⟨k + 1, c', so', n', cp', by omega, by go_num, HS2, HAT, HB5⟩
                case measure => simp [intOf]; omega
        · have hinf : isName nm = false := by simpa using hin
          have hlk := known_out (wr.alloc (.cells #[.string nm, .string vl] 58)) gm nm HKW.out hinf hnl
          have HN : Hid (R = none) := by
            show _ = _
            rw [HRE.out, if_pos trivial, lnFold_bad (j := k + 1) (by rw [HST.out]; unfold lnStep; rw [← HNM.out, if_neg hin])]; rfl
          have HB3 : Hid (Below w1.heap.size w1 ((wr.alloc (.cells #[.string nm, .string vl] 58)).alloc (.cells #[.nilFunc, .nilFunc] 82))) := HBW.out.trans (((below_new wr _).trans ((below_new _ _).mono (by simp))).mono (by omega))
          have HC4 := hide (HC1.out.keep HB3.out hs1)
          obtain ⟨e0, e1, e2, e3, e4, e5⟩ := HC4.out.cells
          obtain ⟨g0, g1, g2, g3, g4, g5⟩ := HC4.out.thaw
          have HSZ : Hid (w.heap.size ≤ ((wr.alloc (.cells #[.string nm, .string vl] 58)).alloc (.cells #[.nilFunc, .nilFunc] 82)).heap.size) := by show _ ≤ _; simp; omega
          clear hin hinf
          go_wp2
          refine bodyPost_ret (c6_results2 rfl rfl rfl (HC4.out.put _ _ _ _ _ _)) rfl ?_
          rw [HN.out]
          refine ⟨trivial, lnEnd_none ?_⟩
          exact (HB1.out.trans (HB3.out.mono (by omega))).trans (below_of_grown (putC_grown _ _ _ _ _ _ _ _) (Nat.le_refl _) HSZ.out)
      · have HFF : Hid (R = if checkB c = true then some c else none) := by
          show _ = _
          have := HF.out
          rw [List.take_of_length_le (by rw [← HML.out]; omega)] at this
          rw [HRE.out, if_pos trivial, this]; rfl
        have hsr : w1.heap.size < wr.heap.size := HCL.out.cb.lt
        obtain ⟨B, HB⟩ : ∃ B, Hid (B = checkB c) := ⟨_, hide rfl⟩
        have HCH : ∀ W, Below wr.heap.size wr W → Calls Tryz.prog 61 #[.agg #[.string c.id, .string c.secret, .int .i64 c.grants, .bool c.ping, .string c.url, .slice so n cp]] W fun e w' => e = .returned (.int .i64 (errIf B 111)) ∧ Below W.heap.size W w' := by
          intro W hW
          have h := check_any c.id c.secret c.url c.grants c.ping c.scopes so n cp W (HCL.out.sat.keep hW) (by have h1 := HCL.out.small.1; have h2 := HCL.out.sat.1; omega) (fun _ => join_small HCL.out.small) (((HM.out.keep HB1.out).keep HBW.out).keep hW) HCL.out.sizes.1 HCL.out.sizes.2.1 HCL.out.sizes.2.2
          rw [HB.out]
          exact h
        have HSC : Hid (SAt wr so n cp c.scopes) := HCL.out.sat
        have HFAR : Hid (∀ a, so = some a → w1.heap.size < a.block) := HCL.out.far
        have HOWN : Hid (SOwn wr (w1.heap.size + 1) (.slice so n cp) c.scopes) := HCL.out.own
        have HCR := hide (HC1.out.keep HBW.out hs1)
        obtain ⟨e0, e1, e2, e3, e4, e5⟩ := HCR.out.cells
        obtain ⟨g0, g1, g2, g3, g4, g5⟩ := HCR.out.thaw
        obtain ⟨i0, i1, i2, i3, i4, i5⟩ := HCL.out.cb.six
        have HE : Hid (LnEnd w R = LnEnd w (if B = true then some c else none)) := by show _ = _; rw [HFF.out, HB.out]
        have hne1 : ¬ w1.heap.size = w.heap.size := by omega
        have hne2 : ¬ w.heap.size = w1.heap.size := by omega
        clear HF HRE HFF HB
        cases B
        all_goals
          go_wp2
          go_region_held3 (fun W => W.cell? ⟨w1.heap.size, 0, none⟩ = some (.string c.id) ∧ W.cell? ⟨w1.heap.size, 1, none⟩ = some (.string c.secret) ∧ W.cell? ⟨w1.heap.size, 2, none⟩ = some (.int .i64 c.grants) ∧ W.cell? ⟨w1.heap.size, 3, none⟩ = some (.bool c.ping) ∧ W.cell? ⟨w1.heap.size, 4, none⟩ = some (.string c.url) ∧ W.cell? ⟨w1.heap.size, 5, none⟩ = some (.slice so n cp)) (go_keep) (first | (go_at_call 61; refine (HCH _ (below_drewN (Below.refl _ _) 1)).mono ?_; rintro e w6 ⟨rfl, hb6⟩; have hb6' := below_undrewN1 hb6; have HB6 := hide hb6'; have HC6 := hide (HCR.out.keep hb6' (by omega)); obtain ⟨q0, q1, q2, q3, q4, q5⟩ := HC6.out.cells; obtain ⟨t0, t1, t2, t3, t4, t5⟩ := HC6.out.thaw; have j0 := cell_kept i0 hb6'; have j1 := cell_kept i1 hb6'; have j2 := cell_kept i2 hb6'; have j3 := cell_kept i3 hb6'; have j4 := cell_kept i4 hb6'; have j5 := cell_kept i5 hb6'; clear hb6 hb6'))
          go_wp2
          refine bodyPost_ret (c6_results2 rfl rfl rfl (HC6.out.put _ _ _ _ _ _)) rfl ?_
          refine ⟨trivial, ?_⟩
          have hs6 := HB6.out.size
          rw [HE.out]
          refine ⟨c, so, n, cp, rfl, ?_, ?_, ?_, ((HOWN.out.keep HB6.out).grownA (putC_grown _ _ _ _ _ _ _ _) (by omega)).lower (by omega), (HB1.out.trans ((HBW.out.trans (HB6.out.mono (by omega))).mono (by omega))).trans (below_of_grown (putC_grown _ _ _ _ _ _ _ _) (Nat.le_refl _) (by omega))⟩
          · intro c2 h; first | exact Option.some.inj h | exact absurd h (by simp)
          · exact (HSC.out.keep HB6.out).grown (putC_grown _ _ _ _ _ _ _ _) (fun a ha => by have := HFAR.out a ha; omega)
          · intro a ha; have := HFAR.out a ha; omega
  · have hei : ((er : Int) == 0) = false := by simp; omega
    have hei2 : ((er : Int) != 0) = true := by simp; omega
    have HN : Hid (R = none) := by show _ = _; rw [HRE.out, if_neg he]
    go_wp2
    refine bodyPost_ret (c6_results2 rfl rfl rfl (HC1.out.put _ _ _ _ _ _)) rfl ?_
    rw [HN.out]
    refine ⟨trivial, lnEnd_none ?_⟩
    exact HB1.out.trans (below_of_grown (putC_grown _ _ _ _ _ _ _ _) (Nat.le_refl _) (by omega))
end Go.Proofs.YtjehbdekipmllaaGreatDoor
namespace Go.Proofs.YtjehbdekipmllaaGreatDoor
open Go.RowKit

def nextE (l : List Cl) (R : Option Cl) : Nat := match R with | none => 110 | some c => if (posOf l c.id).isSome = true then 8 else if l.length = 256 then 32 else 0
def nextErr (l : List Cl) (s : ByteArray) : Nat := nextE l (lineR (sbytes s))
def NxEnd (w : World) (l : List Cl) (s : ByteArray) (e : Ending) (w' : World) : Prop := ∃ (c : Cl) (so : Option Addr) (n cp : Nat), e = .returned (.tuple #[.agg #[.string c.id, .string c.secret, .int .i64 c.grants, .bool c.ping, .string c.url, .slice so n cp], .int .i64 (nextErr l s : Int)]) ∧ (nextErr l s = 0 → lineR (sbytes s) = some c) ∧ SAt w' so n cp c.scopes ∧ SOwn w' w.heap.size (.slice so n cp) c.scopes ∧ Below w.heap.size w w'
theorem nxEnd_bad {w w' : World} {l : List Cl} {s : ByteArray} {k : Nat} (hk : nextErr l s = k) (h0 : k ≠ 0) (hb : Below w.heap.size w w') : NxEnd w l s (.returned (.tuple #[.agg #[.string { data := #[] }, .string { data := #[] }, .int .i64 0, .bool false, .string { data := #[] }, .slice none 0 0], .int .i64 (k : Int)])) w' := by
  subst hk
  exact ⟨zeroCl, none, 0, 0, rfl, fun h => absurd h h0, sat_nil w', sown_nil _ _, hb⟩
set_option maxHeartbeats 2000000 in
set_option maxRecDepth 100000 in
theorem nextClient_any (n c gm : Nat) (ao : Option Addr) (l : List Cl) (s : ByteArray) (w : World) (hn : n = l.length) (hl : n ≤ 256) (hr : CRow w ao l) (hK : Known w gm) (hM : MaxL w) (hs : s.size ≤ 9223372036854775807) :
    Calls Tryz.prog 19 #[.slice ao n c, .string s, .map (some gm)] w fun e w' => True ∧ NxEnd w l s e w' := by
  have HN : Hid (n = l.length) := hn
  have HR : Hid (CRow w ao l) := hr
  have HK : Hid (Known w gm) := hK
  have HM : Hid (MaxL w) := hM
  have HBA : Hid (Below w.heap.size w (w.alloc (.cells #[.string { data := #[] }, .string { data := #[] }, .int .i64 0, .bool false, .string { data := #[] }, .slice none 0 0] 47))) := below_new w _
  have HC0 := hide (C6.new w)
  have HRL := readLine_any s gm (w.alloc (.cells #[.string { data := #[] }, .string { data := #[] }, .int .i64 0, .bool false, .string { data := #[] }, .slice none 0 0] 47)) (HK.out.keep HBA.out HK.out.lt) (HM.out.keep HBA.out) hs
  obtain ⟨R, HRR⟩ : ∃ R, Hid (R = lineR (sbytes s)) := ⟨_, hide rfl⟩
  rw [← HRR.out] at HRL
  have HE : Hid (nextErr l s = nextE l R) := by show _ = _; rw [HRR.out]; rfl
  clear hn hr hK hM
  go_enter Tryz.func19, Tryz.ntmps19
  go_wp2_with (first | (go_at_call 49; refine HRL.mono ?_))
  rintro e w1 ⟨-, q, so, m, cp, rfl, hq, hsat, hfar, hown, hb1⟩
  have HOWN := hide hown
  have HFAR : Hid (∀ a, so = some a → w.heap.size < a.block) := fun a ha => by have := hfar a ha; simp at this; omega
  have HSAT := hide hsat
  have HQ := hide hq
  have HB1 : Hid (Below w.heap.size w w1) := HBA.out.trans (hb1.mono HBA.out.size)
  have HC1 := hide (HC0.out.keep hb1 (by simp))
  have hs1 : w.heap.size < w1.heap.size := HC1.out.lt
  clear hq hsat hfar hown hb1 HRL HC0 HBA
  have HB2 : Hid (Below w1.heap.size w1 (w1.alloc (.cells #[.string q.id, .string q.secret, .int .i64 q.grants, .bool q.ping, .string q.url, .slice so m cp] 47))) := below_new w1 _
  have HC2 := hide (HC1.out.keep HB2.out hs1)
  have HC8 : Hid (C6 (w1.alloc (.cells #[.string q.id, .string q.secret, .int .i64 q.grants, .bool q.ping, .string q.url, .slice so m cp] 47)) w1.heap.size (.string q.id) (.string q.secret) (.int .i64 q.grants) (.bool q.ping) (.string q.url) (.slice so m cp)) := heap_alloc_new w1 _
  have hs2 := HB2.out.size
  go_upto_region 2 with fail
  generalize (w1.alloc (.cells #[.string q.id, .string q.secret, .int .i64 q.grants, .bool q.ping, .string q.url, .slice so m cp] 47)) = w2 at *
  obtain ⟨d0, d1, d2, d3, d4, d5⟩ := HC2.out.cells
  obtain ⟨f0, f1, f2, f3, f4, f5⟩ := HC2.out.thaw
  obtain ⟨i0, i1, i2, i3, i4, i5⟩ := HC8.out.cells
  cases R with
  | none =>
    have HF : Hid (nextErr l s = 110) := HE
    rw [show (none : Option Cl).isSome = false from rfl]
    go_wp2
    refine bodyPost_ret (c6_results2 rfl rfl rfl (HC2.out.put _ _ _ _ _ _)) rfl ?_
    exact ⟨trivial, nxEnd_bad HF.out (by decide) ((HB1.out.trans (HB2.out.mono (by omega))).trans (below_of_grown (putC_grown _ _ _ _ _ _ _ _) (Nat.le_refl _) (by omega)))⟩
  | some q2 =>
    have hq2 := HQ.out q2 rfl
    subst hq2
    have HE2 : Hid (nextErr l s = if (posOf l q.id).isSome = true then 8 else if l.length = 256 then 32 else 0) := HE
    have HPL := placeOf_any n c ao l q.id w2 HN.out (by omega) ((HR.out.keep HB1.out).keep HB2.out)
    obtain ⟨P, HP⟩ : ∃ P, Hid (P = posOf l q.id) := ⟨_, hide rfl⟩
    rw [← HP.out] at HPL HE2
    clear HE HQ
    have HB3 : ∀ w3, Below w2.heap.size w2 w3 → Below w.heap.size w w3 := fun w3 h => (HB1.out.trans (HB2.out.mono (by omega))).trans (h.mono (by omega))
    cases P with
    | some i =>
      have HF : Hid (nextErr l s = 8) := by show _ = _; rw [HE2.out]; rfl
      have hpi : posI (some i) = (i : Int) := rfl
      rw [hpi] at HPL
      have hi0 : (0 : Int) ≤ (i : Int) := by omega
      go_wp2_with (first | (go_at_call 50; refine HPL.mono ?_))
      rintro e w3 ⟨rfl, hb3⟩
      have HBB := hide (HB3 w3 hb3)
      have HC3 := hide (HC2.out.keep hb3 (by omega))
      obtain ⟨e0, e1, e2, e3, e4, e5⟩ := HC3.out.cells
      obtain ⟨g0, g1, g2, g3, g4, g5⟩ := HC3.out.thaw
      have hs3 := HBB.out.size
      clear hb3 HB3
      go_wp2
      refine bodyPost_ret (c6_results2 rfl rfl rfl (HC3.out.put _ _ _ _ _ _)) rfl ?_
      exact ⟨trivial, nxEnd_bad HF.out (by decide) (HBB.out.trans (below_of_grown (putC_grown _ _ _ _ _ _ _ _) (Nat.le_refl _) (by omega)))⟩
    | none =>
      have hpi : posI none = -1 := rfl
      rw [hpi] at HPL
      have HE3 : Hid (nextErr l s = if l.length = 256 then 32 else 0) := by show _ = _; rw [HE2.out]; rfl
      go_wp2_with (first | (go_at_call 50; refine HPL.mono ?_))
      rintro e w3 ⟨rfl, hb3⟩
      have HBB := hide (HB3 w3 hb3)
      have HC3 := hide (HC2.out.keep hb3 (by omega))
      have HS3 : Hid (SAt w3 so m cp q.scopes) := (HSAT.out.keep HB2.out).keep hb3
      have HO3 : Hid (SOwn w3 (w.heap.size + 1) (.slice so m cp) q.scopes) := by
        have h := (HOWN.out.keep HB2.out).keep hb3
        exact h.lower (by simp)
      have HC9 := hide (HC8.out.keep hb3 (HC8.out.lt))
      obtain ⟨e0, e1, e2, e3, e4, e5⟩ := HC3.out.cells
      obtain ⟨g0, g1, g2, g3, g4, g5⟩ := HC3.out.thaw
      obtain ⟨k0, k1, k2, k3, k4, k5⟩ := HC9.out.cells
      have hs3 := HBB.out.size
      clear hb3 HB3
      by_cases h256 : n = 256
      · have HF : Hid (nextErr l s = 32) := by show _ = _; rw [HE3.out, if_pos (by rw [← HN.out]; exact h256)]
        have h256b : ((n : Int) == 256) = true := by simp [h256]
        clear h256
        go_wp2
        refine bodyPost_ret (c6_results2 rfl rfl rfl (HC3.out.put _ _ _ _ _ _)) rfl ?_
        exact ⟨trivial, nxEnd_bad HF.out (by decide) (HBB.out.trans (below_of_grown (putC_grown _ _ _ _ _ _ _ _) (Nat.le_refl _) (by omega)))⟩
      · have HF : Hid (nextErr l s = 0) := by show _ = _; rw [HE3.out, if_neg (by rw [← HN.out]; exact h256)]
        have h256b : ((n : Int) == 256) = false := by simp; omega
        clear h256
        go_wp2
        refine bodyPost_ret (c6_results2 rfl rfl rfl (HC3.out.put _ _ _ _ _ _)) rfl ?_
        refine ⟨trivial, q, so, m, cp, by rw [HF.out]; rfl, fun _ => HRR.out.symm, ?_, (HO3.out.grownA (putC_grown _ _ _ _ _ _ _ _) (by omega)).lower (by omega), HBB.out.trans (below_of_grown (putC_grown _ _ _ _ _ _ _ _) (Nat.le_refl _) (by omega))⟩
        exact HS3.out.grown (putC_grown _ _ _ _ _ _ _ _) HFAR.out
end Go.Proofs.YtjehbdekipmllaaGreatDoor
namespace Go.Proofs.YtjehbdekipmllaaGreatDoor
open Go.RowKit

/-- A text cut into lines. -/
def cutLn : U → List U
  | [] => [[]]
  | c :: l => if c = 10 then [] :: cutLn l else match cutLn l with
    | [] => [[c]]
    | h :: t => (c :: h) :: t
theorem cutLn_ne : ∀ l : U, ∃ h t, cutLn l = h :: t
  | [] => ⟨[], [], rfl⟩
  | c :: l => by
    obtain ⟨h, t, e⟩ := cutLn_ne l
    by_cases hc : c = 10
    · exact ⟨[], cutLn l, by rw [cutLn, if_pos hc]⟩
    · exact ⟨c :: h, t, by rw [cutLn, if_neg hc, e]⟩
theorem cutLn_blank (l : U) : cutLn (10 :: l) = [] :: cutLn l := by rw [cutLn, if_pos rfl]
theorem cutLn_cons {c : UInt8} {l h : U} {t : List U} (hc : c ≠ 10) (e : cutLn l = h :: t) : cutLn (c :: l) = (c :: h) :: t := by rw [cutLn, if_neg hc, e]

theorem splitLn_cons {c : UInt8} {l : U} (hc : c ≠ 10) : ∀ k, Lib.splitK [10] 0 k (c :: l) = match Lib.splitK [10] 0 k l with
    | [] => [[c]]
    | h :: t => (c :: h) :: t
  | 0 => rfl
  | k + 1 => by
    have hb : (c == 10) = false := by simpa using hc
    have e1 : Lib.index (c :: l) [10] = if Lib.index l [10] == -1 then -1 else Lib.index l [10] + 1 := by
      rw [Lib.index_one, Lib.index_one, Lib.indexByte, hb]; rfl
    unfold Lib.splitK
    rw [e1]
    have hge := Lib.index_ge l [10]
    by_cases h : Lib.index l [10] = -1
    · rw [h]; rfl
    · have hb2 : (Lib.index l [10] == -1) = false := by simpa using h
      have hb3 : (Lib.index l [10] + 1 == -1) = false := by simp; omega
      rw [hb2]
      simp only [Bool.false_eq_true, if_false]
      rw [hb3]
      simp only [Bool.false_eq_true, if_false]
      obtain ⟨i, hi⟩ : ∃ i : Nat, Lib.index l [10] = i := ⟨(Lib.index l [10]).toNat, by omega⟩
      rw [hi, show ((i : Int) + 1).toNat = i + 1 by omega, show ((i : Int)).toNat = i by omega]
      simp only [Nat.add_zero, List.take_succ_cons, List.length_cons, List.length_nil]
      rw [show i + 1 + (0 + 1) = (i + (0 + 1)) + 1 by omega, List.drop_succ_cons]
theorem splitLn_cut : ∀ l : U, Lib.splitK [10] 0 (l.count 10) l = cutLn l
  | [] => rfl
  | c :: l => by
    by_cases hc : c = 10
    · subst hc
      rw [List.count_cons_self, cutLn_blank, ← splitLn_cut l]
      have e1 : Lib.index (10 :: l) [10] = 0 := by rw [Lib.index_one, Lib.indexByte]; rfl
      rw [Lib.splitK, e1]
      rfl
    · rw [List.count_cons_of_ne hc, splitLn_cons hc, splitLn_cut l]
      obtain ⟨h, t, e⟩ := cutLn_ne l
      rw [cutLn_cons hc e, e]

theorem lines_any (s : ByteArray) (w : World) (hs : s.size ≤ 65536) (hM : MaxL w) :
    Calls Tryz.prog 17 #[.string s, .string { data := #[10] }] w fun e w' => e = .returned (.slice (some ⟨w.heap.size, 0, none⟩) (cutLn s.data.toList).length (cutLn s.data.toList).length) ∧ w' = w.alloc (.cells ((cutLn s.data.toList).map encStr).toArray 9) := by
  obtain ⟨m, hm⟩ := hM
  have hcnt : Lib.countB s { data := #[10] } = s.data.toList.count 10 := Lib.count_one 10 s.data.toList
  have hsp : (Lib.splitB { data := #[10] } 0 (Lib.countB s { data := #[10] }) s).map (·.data.toList) = cutLn s.data.toList := by
    rw [Lib.splitB_data, hcnt]; exact splitLn_cut _
  have hlen : Lib.countB s { data := #[10] } + 1 = (cutLn s.data.toList).length := by
    rw [← hsp, List.length_map, Lib.splitB_all _ (by decide) 0 _ s rfl]
  have hcells : (Lib.splitB { data := #[10] } 0 (Lib.countB s { data := #[10] }) s).map Value.string = (cutLn s.data.toList).map encStr := by
    rw [← hsp, List.map_map]
    apply List.map_congr_left
    intro b _
    exact str_u b
  refine Calls.mono (Any.strings_Split lays146 (by kernel_rfl) s { data := #[10] } m w (by omega) hm (by decide)) ?_
  rintro e w' ⟨rfl, rfl⟩
  rw [hlen, hcells]
  exact ⟨rfl, rfl⟩
end Go.Proofs.YtjehbdekipmllaaGreatDoor
namespace Go.Proofs.YtjehbdekipmllaaGreatDoor
open Go.RowKit

def clOf (s : ByteArray) : Cl := (lineR (sbytes s)).getD zeroCl
/-- What the lines from the k-th on say, behind a list of clients: the clients, the error, its line. -/
def pRun : List U → Nat → List Cl → List Cl × Nat × Nat
  | [], _, a => (a, 0, 0)
  | u :: r, k, a => if nothingB ⟨u.toArray⟩ = true then pRun r (k + 1) a else if nextErr a ⟨u.toArray⟩ = 0 then pRun r (k + 1) (a ++ [clOf ⟨u.toArray⟩]) else ([], nextErr a ⟨u.toArray⟩, k + 1)
def parR (t : U) : List Cl × Nat × Nat := if 65536 < t.length then ([], 1, 0) else pRun (cutLn t) 0 []
theorem cutLn_len : ∀ t : U, (cutLn t).length ≤ t.length + 1
  | [] => by simp [cutLn]
  | c :: t => by
    have ih := cutLn_len t
    obtain ⟨a, r, e⟩ := cutLn_ne t
    by_cases hc : c = 10
    · rw [cutLn, if_pos hc]; simp; omega
    · rw [cutLn_cons hc e]; rw [e] at ih; simp at ih ⊢; omega
theorem cutLn_small : ∀ (t u : U), u ∈ cutLn t → u.length ≤ t.length
  | [], u, h => by simp [cutLn] at h; simp [h]
  | c :: t, u, h => by
    obtain ⟨a, r, e⟩ := cutLn_ne t
    have ih := cutLn_small t
    by_cases hc : c = 10
    · rw [cutLn, if_pos hc] at h
      rcases List.mem_cons.1 h with rfl | h
      · simp
      · have := ih u h; simp; omega
    · rw [cutLn_cons hc e] at h
      rcases List.mem_cons.1 h with rfl | h
      · have := ih a (by rw [e]; simp); simp; omega
      · have := ih u (by rw [e]; simp [h]); simp; omega
theorem nextErr_zero {l : List Cl} {s : ByteArray} (h : nextErr l s = 0) : l.length ≠ 256 := by
  unfold nextErr nextE at h
  split at h
  · simp at h
  · split at h
    · simp at h
    · split at h
      · simp at h
      · assumption
def PrEnd (w : World) (R : List Cl × Nat × Nat) (e : Ending) (w' : World) : Prop := ∃ v, e = .returned (.tuple #[v, .int .i64 (R.2.1 : Int), .int .i64 (R.2.2 : Int)]) ∧ COwnS w' w.heap.size w'.heap.size v R.1 ∧ Below w.heap.size w w'
set_option maxHeartbeats 2000000 in
set_option maxRecDepth 100000 in
theorem clParse_any (s : ByteArray) (w : World) (hM : MaxL w) :
    Calls Tryz.prog 6 #[.string s] w fun e w' => True ∧ PrEnd w (parR s.data.toList) e w' := by
  have HM : Hid (MaxL w) := hM
  obtain ⟨i0, hi, hz0, hz1, hz2⟩ := info_parts infoClient
  obtain ⟨R, HR⟩ : ∃ R, Hid (R = parR s.data.toList) := ⟨_, hide rfl⟩
  rw [← HR.out]
  clear hM
  by_cases hsz : s.size ≤ 65536
  · have hszi : (s.size : Int) ≤ 65536 := by omega
    have hszn : ¬ (65536 : Int) < (s.size : Int) := by omega
    obtain ⟨ls, HLS⟩ : ∃ ls, Hid (ls = cutLn s.data.toList) := ⟨_, hide rfl⟩
    obtain ⟨m, hm⟩ : ∃ m, m = ls.length := ⟨_, rfl⟩
    have HML : Hid (m = ls.length) := hm
    have hml : m ≤ 65537 := by have := cutLn_len s.data.toList; rw [hm, HLS.out]; simp at this ⊢; omega
    have HSM : Hid (∀ u ∈ ls, u.length ≤ 65536) := by
      intro u hu; rw [HLS.out] at hu; have := cutLn_small _ _ hu; simp at this; omega
    have HRE : Hid (R = pRun ls 0 []) := by show _ = _; rw [HR.out]; unfold parR; rw [if_neg (by simp; omega), HLS.out]
    have HFD := fields_any w
    have HK1 : Hid (Known (w.alloc (.map knownEs 6)) w.heap.size) := heap_alloc_new w _
    have HSP := lines_any s (w.alloc (.map knownEs 6)) hsz (HM.out.keep (below_new w _))
    rw [← HLS.out, ← hm] at HSP
    clear hm
    go_enter Tryz.func6, Tryz.ntmps6
    go_wp2_with (first | (go_at_call 16; refine HFD.mono ?_; rintro e wf ⟨rfl, rfl⟩) | (go_at_call 17; refine HSP.mono ?_))
    rintro e w1 ⟨rfl, hw1⟩
    have HB1 : Hid (Below w.heap.size w w1) := by rw [hw1]; exact (below_new w _).trans ((below_new _ _).mono (by simp))
    have HKN : Hid (Known w1 w.heap.size) := by rw [hw1]; exact HK1.out.keep (below_new _ _) (by simp)
    have HSL : Hid (SBlk w1 (w.heap.size + 1) ls) := by
      rw [hw1]
      have h := heap_alloc_new (w.alloc (.map knownEs 6)) (.cells (ls.map encStr).toArray 9)
      rw [show (w.alloc (.map knownEs 6)).heap.size = w.heap.size + 1 by simp] at h
      exact h
    have hsz0 : (w.alloc (.map knownEs 6)).heap.size = w.heap.size + 1 := by simp
    rw [hsz0]
    have hs1 : w.heap.size + 1 < w1.heap.size := HSL.out.lt
    clear hw1 HSP HFD HK1
    go_wp2
    go_loopw [6, 18] (fun v i wr => ∃ (k : Nat) (a : List Cl) (ao : Option Addr) (n cap : Nat), (k ≤ m ∧ n ≤ 256) ∧ v = .slice ao n cap ∧ i = .int .i64 (k : Int) ∧ Hid (n = a.length) ∧ Hid (R = pRun (ls.drop k) k a) ∧ Hid (COwnS wr w1.heap.size wr.heap.size (.slice ao n cap) a) ∧ Hid (Below w1.heap.size w1 wr)) (fun _ i _ => m - (intOf i).toNat)
    case atStart => exact ⟨0, [], none, 0, 0, ⟨Nat.zero_le _, by omega⟩, rfl, rfl, rfl, HRE, cowns_nil _ _ _, Below.refl _ _⟩
    case round =>
      obtain ⟨k, a, ao, n, cap, ⟨hk, hn⟩, rfl, rfl, HNA, HRK, HOW, HBW⟩ := hrel
      have hsr := HBW.out.size
      by_cases hlt : k < m
      · obtain ⟨u, hu⟩ : ∃ u, ls[k]? = some u := ⟨_, List.getElem?_eq_getElem (by rw [← HML.out]; exact hlt)⟩
        have c0 : wr.cell? ⟨w.heap.size + 1, k, none⟩ = some (.string ⟨u.toArray⟩) := (HSL.out.below HBW.out hs1).cell hu
        have HDR : Hid (ls.drop k = u :: ls.drop (k + 1)) := by
          show _ = _
          rw [List.drop_eq_getElem_cons (by rw [← HML.out]; exact hlt)]
          congr 1
          exact (List.getElem?_eq_some_iff.1 hu).2
        have hul : (⟨u.toArray⟩ : ByteArray).size ≤ 9223372036854775807 := by
          have := HSM.out u (List.mem_of_getElem? hu); rw [u_size]; omega
        obtain ⟨sb, HSB⟩ : ∃ sb : ByteArray, Hid (sb = ⟨u.toArray⟩) := ⟨_, hide rfl⟩
        have HRS : Hid (R = if nothingB sb = true then pRun (ls.drop (k + 1)) (k + 1) a else if nextErr a sb = 0 then pRun (ls.drop (k + 1)) (k + 1) (a ++ [clOf sb]) else ([], nextErr a sb, k + 1)) := by
          show _ = _
          rw [HRK.out, HDR.out, HSB.out]; rfl
        rw [← HSB.out] at c0 hul
        have hoff : w.heap.size + 1 = w.heap.size + 1 := rfl
        have HSN := saysNothing_any sb wr hul
        clear hu HRK HDR HSB hoff
        by_cases hno : nothingB sb = true
        · rw [hno] at HSN
          have HR2 : Hid (R = pRun (ls.drop (k + 1)) (k + 1) a) := by show _ = _; rw [HRS.out, if_pos hno]
          clear hno HRS
          go_wp2_with (first | (go_at_call 18; refine HSN.mono ?_; rintro e wx ⟨rfl, rfl⟩))
          go_roundw
          case rel => exact ⟨k + 1, a, ao, n, cap, ⟨by omega, hn⟩, rfl, by go_num, HNA, HR2, HOW, HBW⟩
          case measure => simp [intOf]; omega
        · have hnof : nothingB sb = false := by simpa using hno
          rw [hnof] at HSN
          have HNX := nextClient_any n cap w.heap.size ao a sb wr HNA.out hn (by
            obtain ⟨x, y, e, _, h, _⟩ := HOW.out.own.shape
            cases e; exact h) (HKN.out.keep HBW.out (by omega)) ((HM.out.keep HB1.out).keep HBW.out) hul
          by_cases he : nextErr a sb = 0
          · have HR2 : Hid (R = pRun (ls.drop (k + 1)) (k + 1) (a ++ [clOf sb])) := by show _ = _; rw [HRS.out, if_neg hno, if_pos he]
            have h256 := nextErr_zero he
            have hn2 : n + 1 ≤ 256 := by rw [HNA.out] at hn ⊢; omega
            have HHE := hide he
            clear hno hnof HRS he h256
            go_wp2_with (first | (go_at_call 18; refine HSN.mono ?_; rintro e wx ⟨rfl, rfl⟩) | (go_at_call 19; refine HNX.mono ?_))
            rintro e w4 ⟨-, q, so, j, cp, rfl, hq, hsat, hown4, hb4⟩
            have HQ : Hid (clOf sb = q) := by show _ = _; unfold clOf; rw [hq HHE.out]; rfl
            rw [HHE.out]
            have HSAT := hide hsat
            have HOW4 := hide hown4
            have HB4 := hide hb4
            have HO4 := hide (HOW.out.keep hb4)
            clear hq hsat hown4 hb4 HNX HSN
            rw [show ((0 : Nat) : Int) = 0 from rfl]
            have hs4 := HB4.out.size
            have HBX : Hid (Below w4.heap.size w4 ((w4.alloc (.cells #[.string q.id, .string q.secret, .int .i64 q.grants, .bool q.ping, .string q.url, .slice so j cp] 47)).alloc (.cells #[.string q.id, .string q.secret, .int .i64 q.grants, .bool q.ping, .string q.url, .slice so j cp] 47))) := (below_new w4 _).trans ((below_new _ _).mono (by simp))
            have HC6 : Hid (C6 ((w4.alloc (.cells #[.string q.id, .string q.secret, .int .i64 q.grants, .bool q.ping, .string q.url, .slice so j cp] 47)).alloc (.cells #[.string q.id, .string q.secret, .int .i64 q.grants, .bool q.ping, .string q.url, .slice so j cp] 47)) (w4.heap.size + 1) (.string q.id) (.string q.secret) (.int .i64 q.grants) (.bool q.ping) (.string q.url) (.slice so j cp)) := by
              have h := heap_alloc_new (w4.alloc (.cells #[.string q.id, .string q.secret, .int .i64 q.grants, .bool q.ping, .string q.url, .slice so j cp] 47)) (.cells #[.string q.id, .string q.secret, .int .i64 q.grants, .bool q.ping, .string q.url, .slice so j cp] 47)
              rw [show (w4.alloc (.cells #[.string q.id, .string q.secret, .int .i64 q.grants, .bool q.ping, .string q.url, .slice so j cp] 47)).heap.size = w4.heap.size + 1 by simp] at h
              exact h
            go_wp2_with (first | (at_builtin; refine wpList_append_clientS (i0 := i0) rfl (.tmp 37) (.tmp 39) rfl hi hz0 hz1 hz2 w1.heap.size _ _ a q so j cp rfl (HO4.out.keep HBX.out) (w4.heap.size + 1) rfl HC6.out (HSAT.out.keep HBX.out) (HOW4.out.keep HBX.out) (by rw [← HNA.out]; omega) (by have := HBX.out.size; omega) hsr ?_))
            intro v' w5 hown5 hgr5
            obtain ⟨ao', cap', hv', _, _, _⟩ := hown5.own.shape
            have hlen : (a ++ [q]).length = n + 1 := by rw [List.length_append, ← HNA.out]; rfl
            rw [hlen] at hv'
            subst hv'
            have HO5 := hide hown5
            have HB5 : Hid (Below w1.heap.size w1 w5) := (HBW.out.trans ((HB4.out.trans (HBX.out.mono (by omega))).mono (by omega))).grown hgr5 (by have := HBX.out.size; omega) (fun x hx => by
              obtain ⟨_, ho, _⟩ := HO4.out.own
              exact (World.ownsRow.lt ho x hx).1)
            clear hown5 hgr5
            go_wp2
            go_roundw
            case rel => exact ⟨k + 1, a ++ [q], ao', n + 1, cap', ⟨by omega, hn2⟩, rfl, by go_num, hlen.symm, by rw [← HQ.out]; exact HR2.out, HO5, HB5⟩
            case measure => simp [intOf]; omega
          · have HR2 : Hid (R = ([], nextErr a sb, k + 1)) := by show _ = _; rw [HRS.out, if_neg hno, if_neg he]
            obtain ⟨er, her⟩ : ∃ er, er = nextErr a sb := ⟨_, rfl⟩
            unfold NxEnd at HNX
            rw [← her] at HNX HR2 he
            have hei : ((er : Int) != 0) = true := by simp; omega
            have hei2 : ((er : Int) == 0) = false := by simp; omega
            clear hno hnof HRS her
            go_wp2_with (first | (go_at_call 18; refine HSN.mono ?_; rintro e wx ⟨rfl, rfl⟩) | (go_at_call 19; refine HNX.mono ?_))
            rintro e w4 ⟨-, q, so, j, cp, rfl, -, -, -, hb4⟩
            have HB4 : Hid (Below w.heap.size w (w4.alloc (.cells #[.string q.id, .string q.secret, .int .i64 q.grants, .bool q.ping, .string q.url, .slice so j cp] 47))) := ((HB1.out.trans (HBW.out.mono (by omega))).trans (hb4.mono (by omega))).trans ((below_new w4 _).mono (by have := hb4.size; omega))
            clear hb4 HNX HSN
            go_wp2
            go_ret3
            refine (fun h => by first | exact ⟨trivial, h⟩ | exact h) (?_ : PrEnd w R _ _)
            rw [HR2.out]
            exact ⟨.slice none 0 0, by go_num, cowns_nil _ _ _, HB4.out⟩
      · have HR2 : Hid (R = (a, 0, 0)) := by
          show _ = _
          rw [HRK.out, List.drop_eq_nil_of_le (by rw [← HML.out]; omega)]; rfl
        go_wp2
        go_ret3
        refine (fun h => by first | exact ⟨trivial, h⟩ | exact h) (?_ : PrEnd w R _ _)
        rw [HR2.out]
        exact ⟨.slice ao n cap, rfl, HOW.out.lower (by omega), HB1.out.trans (HBW.out.mono (by omega))⟩
  · have hszi : (65536 : Int) < (s.size : Int) := by omega
    have HR2 : Hid (R = ([], 1, 0)) := by show _ = _; rw [HR.out]; unfold parR; rw [if_pos (by simp; omega)]
    go_enter Tryz.func6, Tryz.ntmps6
    go_wp2
    go_ret3
    refine (fun h => by first | exact ⟨trivial, h⟩ | exact h) (?_ : PrEnd w R _ _)
    rw [HR2.out]
    exact ⟨.slice none 0 0, rfl, cowns_nil _ _ _, Below.refl _ _⟩
end Go.Proofs.YtjehbdekipmllaaGreatDoor
