/- The document's byHeader and Authenticate. -/
import Derived.Test.YtmmcgfikmcppfaaGreatDoorLHdr
import Derived.Test.YtmmcgfikmcppfaaGreatDoorLRBasic
import Derived.Test.YtmmcgfikmcppfaaGreatDoorLLaws
namespace Go.Proofs.YtmmcgfikmcppfaaGreatDoor
open Go.RowKit

def RAuEnd (w : World) (R : Aut) (e : Ending) (w' : World) : Prop := ∃ (c : Cl) (so : Option Addr) (n cp : Nat), e = .returned (.tuple #[.agg #[.string c.id, .string c.secret, .int .i64 c.grants, .bool c.ping, .string c.url, .slice so n cp], .int .i64 R.how, .int .i64 (R.er : Int)]) ∧ R.cl.getD zeroCl = c ∧ SAt w' so n cp c.scopes ∧ Below w.heap.size w w'
theorem rauEnd_bad {w w' : World} {k : Nat} (hb : Below w.heap.size w w') : RAuEnd w ⟨none, 0, k⟩ (.returned (.tuple #[.agg #[.string { data := #[] }, .string { data := #[] }, .int .i64 0, .bool false, .string { data := #[] }, .slice none 0 0], .int .i64 0, .int .i64 (k : Int)])) w' :=
  ⟨zeroCl, none, 0, 0, rfl, rfl, sat_nil w', hb⟩
theorem d6_results3 {fn : Func} {slot s2 s3 N : Nat} (h : fn.results = #[.cell slot 46, .tmp s2, .tmp s3]) {tmps : Array Value} (hs : tmps.getD slot undef = .pointer (some ⟨N, 0, none⟩)) {x y : Value} (hx : tmps.getD s2 undef = x) (hy : tmps.getD s3 undef = y) {w : World} {v0 v1 v2 v3 v4 v5 : Value} (hb : D6 w N v0 v1 v2 v3 v4 v5) : (results fn tmps).run Tryz.prog w = .ok (.tuple #[.agg #[v0, v1, v2, v3, v4, v5], x, y]) w := by
  obtain ⟨j0, j1, j2, j3, j4, j5⟩ := hb.cells
  have hs' : tmps[slot]?.getD undef = .pointer (some ⟨N, 0, none⟩) := by simpa using hs
  have hx' : tmps[s2]?.getD undef = x := by simpa using hx
  have hy' : tmps[s3]?.getD undef = y := by simpa using hy
  simp [results, h, go_sem, hs', hx', hy', j0, j1, j2, j3, j4, j5]
theorem SAt.put {w : World} {N : Nat} {so : Option Addr} {n cp : Nat} {l : List U} {v0 v1 v2 v3 v4 v5 : Value} (h : SAt w so n cp l) (hd : D6 w N v0 v1 v2 v3 v4 v5) (u0 u1 u2 u3 u4 u5 : Value) : SAt (putD w N u0 u1 u2 u3 u4 u5) so n cp l := by
  have hne : ∀ a, so = some a → l ≠ [] → some a.block ≠ some N := by
    intro a ha h0 e
    rcases h.2.2.2 with h2 | h2
    · exact h0 h2
    · obtain ⟨cs, fz, hh⟩ := h2 a ha
      have h3 : w.heap[N]? = _ := hd
      rw [Option.some.inj e, h3] at hh
      simp at hh
  exact ⟨h.1, h.2.1, h.2.2.1.grownR (putD_grown _ _ _ _ _ _ _ _) hne, h.2.2.2.grown (putD_grown _ _ _ _ _ _ _ _) hne⟩
/-- What a header's words answer, in the document's own order. -/
def byH (L : List Cl) (B : Option (List Nat × List Nat)) (id : ByteArray) (hi hs : Bool) : Aut := match B with
  | none => ⟨none, 0, 113⟩
  | some (a, s) => if hs = true then ⟨none, 0, 34⟩ else if hi = true ∧ id ≠ bstr a then ⟨none, 0, 112⟩ else authF 1 (bstr s) (findR L (bstr a))
set_option maxHeartbeats 2000000 in
set_option maxRecDepth 100000 in
theorem rbyHeader_any (n c : Nat) (ao : Option Addr) (L : List Cl) (header id : ByteArray) (hi hs : Bool) (w : World) (hn : n = L.length) (hl : n ≤ 4398046511104) (hr : CRow w ao L) :
    Calls Tryz.prog 57 #[.slice ao n c, .string header, .string id, .bool hi, .bool hs] w fun e w' => True ∧ RAuEnd w (byH L (basT (sbytes header)) id hi hs) e w' := by
  have HN : Hid (n = L.length) := hn
  have HR : Hid (CRow w ao L) := hr
  have HBA : Hid (Below w.heap.size w (w.alloc (.cells #[.string { data := #[] }, .string { data := #[] }, .int .i64 0, .bool false, .string { data := #[] }, .slice none 0 0] 46))) := below_new w _
  have HD0 := hide (D6.new w)
  have HBS := fun W => rbasic_any header W
  obtain ⟨B, hB⟩ : ∃ B, B = basT (sbytes header) := ⟨_, rfl⟩
  rw [← hB] at HBS ⊢
  obtain ⟨T, HT⟩ : ∃ T, Hid (T = byH L B id hi hs) := ⟨_, hide rfl⟩
  rw [← HT.out]
  clear hB hn hr
  go_enter Tryz.func57, Tryz.ntmps57
  go_upto_region 1 with fail
  generalize (w.alloc (.cells #[.string { data := #[] }, .string { data := #[] }, .int .i64 0, .bool false, .string { data := #[] }, .slice none 0 0] 46)) = w1 at *
  have hs1 := HD0.out.lt
  have HBC := HBS w1
  go_wp2_with fail
  refine HBC.mono ?_
  rintro e w2 ⟨rfl, hb2⟩
  have HB2 := hide (HBA.out.trans (hb2.mono HBA.out.size))
  have HD2 := hide (HD0.out.keep hb2 hs1)
  have hs2 := HD2.out.lt
  obtain ⟨d0, d1, d2, d3, d4, d5⟩ := HD2.out.cells
  obtain ⟨f0, f1, f2, f3, f4, f5⟩ := HD2.out.thaw
  clear hb2 HBS HBC
  cases B with
  | none =>
    have HTE : Hid (T = ⟨none, 0, 113⟩) := HT
    simp only [basV]
    go_wp2
    refine bodyPost_ret (d6_results3 rfl rfl rfl rfl (HD2.out.put _ _ _ _ _ _)) rfl ?_
    rw [HTE.out]
    first | exact ⟨trivial, rauEnd_bad (HB2.out.trans (below_of_grown (putD_grown _ _ _ _ _ _ _ _) (Nat.le_refl _) (by omega)))⟩ | exact rauEnd_bad (HB2.out.trans (below_of_grown (putD_grown _ _ _ _ _ _ _ _) (Nat.le_refl _) (by omega)))
  | some ab =>
    obtain ⟨a, s⟩ := ab
    have HTS : Hid (T = if hs = true then ⟨none, 0, 34⟩ else if hi = true ∧ id ≠ bstr a then ⟨none, 0, 112⟩ else authF 1 (bstr s) (findR L (bstr a))) := HT
    clear HT
    simp only [basV]
    generalize bstr a = ba at *
    generalize bstr s = bs at *
    cases hs
    case true =>
      have HTE : Hid (T = ⟨none, 0, 34⟩) := HTS
      go_wp2
      refine bodyPost_ret (d6_results3 rfl rfl rfl rfl (HD2.out.put _ _ _ _ _ _)) rfl ?_
      rw [HTE.out]
      first | exact ⟨trivial, rauEnd_bad (HB2.out.trans (below_of_grown (putD_grown _ _ _ _ _ _ _ _) (Nat.le_refl _) (by omega)))⟩ | exact rauEnd_bad (HB2.out.trans (below_of_grown (putD_grown _ _ _ _ _ _ _ _) (Nat.le_refl _) (by omega)))
    case false =>
      by_cases hid : hi = true ∧ id ≠ ba
      · have HTE : Hid (T = ⟨none, 0, 112⟩) := by show _ = _; rw [HTS.out, if_neg (by simp), if_pos hid]
        obtain ⟨rfl, hne⟩ := hid
        have hq : (id.toList == ba.toList) = false := by rw [str_eq]; exact decide_eq_false hne
        have hq2 : (id.toList != ba.toList) = true := by unfold bne; rw [hq]; rfl
        have hq3 : ¬ id.toList = ba.toList := by rw [beq_eq_false_iff_ne] at hq; exact hq
        go_wp2
        refine bodyPost_ret (d6_results3 rfl rfl rfl rfl (HD2.out.put _ _ _ _ _ _)) rfl ?_
        rw [HTE.out]
        first | exact ⟨trivial, rauEnd_bad (HB2.out.trans (below_of_grown (putD_grown _ _ _ _ _ _ _ _) (Nat.le_refl _) (by omega)))⟩ | exact rauEnd_bad (HB2.out.trans (below_of_grown (putD_grown _ _ _ _ _ _ _ _) (Nat.le_refl _) (by omega)))
      · obtain ⟨F, HF⟩ : ∃ F, Hid (F = findR L ba) := ⟨_, hide rfl⟩
        have HTF : Hid (T = authF 1 bs F) := by show _ = _; rw [HTS.out, if_neg (by simp), if_neg hid, HF.out]
        have HRF : Hid (∀ W, Below w.heap.size w W → Calls Tryz.prog 22 #[.slice ao n c, .string ba] W fun e w' => True ∧ RFdEnd W F e w') := fun W hW => by
          have := rfind_any n c ao L ba W HN.out hl (HR.out.keep hW)
          rw [← HF.out] at this
          exact this
        have hcase : hi = false ∨ (hi = true ∧ (id.toList == ba.toList) = true ∧ (id.toList != ba.toList) = false) := by
          cases hi
          · exact .inl rfl
          · right
            have : id = ba := Classical.byContradiction fun h => hid ⟨rfl, h⟩
            subst this
            exact ⟨rfl, by simp, by simp⟩
        clear hid HTS HF
        rcases hcase with rfl | ⟨rfl, hq, hq2⟩
        all_goals
          go_wp2_with fail
          refine (HRF.out _ HB2.out).mono ?_
          rintro e w3 ⟨-, q, so, m, cp, rfl, hq1, hsat, hb3⟩
          have HQ := hide hq1
          have HSAT := hide hsat
          have HB3 := hide (HB2.out.trans (hb3.mono (by omega)))
          have HD3 := hide (HD2.out.keep hb3 (by omega))
          have hs3 := HD3.out.lt
          have HB4 : Hid (Below w3.heap.size w3 (w3.alloc (.cells #[.string q.id, .string q.secret, .int .i64 q.grants, .bool q.ping, .string q.url, .slice so m cp] 46))) := below_new w3 _
          have HD4 := hide (HD3.out.keep HB4.out hs3)
          have HQ4 : Hid (D6 (w3.alloc (.cells #[.string q.id, .string q.secret, .int .i64 q.grants, .bool q.ping, .string q.url, .slice so m cp] 46)) w3.heap.size (.string q.id) (.string q.secret) (.int .i64 q.grants) (.bool q.ping) (.string q.url) (.slice so m cp)) := heap_alloc_new w3 _
          have hs4 := HB4.out.size
          have HS4 := hide (HSAT.out.keep HB4.out)
          clear hq1 hsat hb3 HRF
          go_upto_region 9 with fail
          generalize (w3.alloc (.cells #[.string q.id, .string q.secret, .int .i64 q.grants, .bool q.ping, .string q.url, .slice so m cp] 46)) = w4 at *
          have HB04 := hide (HB3.out.trans (HB4.out.mono (by omega)))
          obtain ⟨e0, e1, e2, e3, e4, e5⟩ := HD4.out.cells
          obtain ⟨g0, g1, g2, g3, g4, g5⟩ := HD4.out.thaw
          obtain ⟨k0, k1, k2, k3, k4, k5⟩ := HQ4.out.cells
          have hne1 : ¬ w3.heap.size = w.heap.size := by omega
          have hne2 : ¬ w.heap.size = w3.heap.size := by omega
          cases F with
          | none =>
            have HTE : Hid (T = ⟨none, 0, 111⟩) := HTF
            rw [show (none : Option Cl).isSome = false from rfl]
            go_wp2
            refine bodyPost_ret (d6_results3 rfl rfl rfl rfl (HD4.out.put _ _ _ _ _ _)) rfl ?_
            rw [HTE.out]
            first | exact ⟨trivial, rauEnd_bad (HB04.out.trans (below_of_grown (putD_grown _ _ _ _ _ _ _ _) (Nat.le_refl _) (by omega)))⟩ | exact rauEnd_bad (HB04.out.trans (below_of_grown (putD_grown _ _ _ _ _ _ _ _) (Nat.le_refl _) (by omega)))
          | some q2 =>
            have hq2e : q2 = q := HQ.out
            subst hq2e
            rw [show (some q2 : Option Cl).isSome = true from rfl]
            have HTB : Hid (T = if holdsB 1 bs q2.secret = true then ⟨some q2, 1, 0⟩ else ⟨none, 0, 112⟩) := HTF
            by_cases hz : q2.secret.size = 0
            · have HTE : Hid (T = ⟨none, 0, 112⟩) := by
                show _ = _
                rw [HTB.out, if_neg]
                unfold holdsB
                rw [if_pos (.inl rfl), decide_eq_false (p := 0 < q2.secret.size) (by omega)]
                simp
              have hem := empty_of hz
              have hem2 : (q2.secret.toList == ([] : List UInt8)) = true := by rw [hem, Lib.toList_data]; rfl
              clear hz hem
              go_wp2
              refine bodyPost_ret (d6_results3 rfl rfl rfl rfl (HD4.out.put _ _ _ _ _ _)) rfl ?_
              rw [HTE.out]
              first | exact ⟨trivial, rauEnd_bad (HB04.out.trans (below_of_grown (putD_grown _ _ _ _ _ _ _ _) (Nat.le_refl _) (by omega)))⟩ | exact rauEnd_bad (HB04.out.trans (below_of_grown (putD_grown _ _ _ _ _ _ _ _) (Nat.le_refl _) (by omega)))
            · have hne := ne_of_size hz
              by_cases he : q2.secret = bs
              · have HTE : Hid (T = ⟨some q2, 1, 0⟩) := by
                  show _ = _
                  rw [HTB.out, if_pos]
                  unfold holdsB
                  rw [if_pos (.inl rfl), decide_eq_true (p := 0 < q2.secret.size) (by omega), he]
                  simp
                have hqe : (q2.secret.toList == bs.toList) = true := by rw [str_eq]; exact decide_eq_true he
                have hqe2 : (q2.secret.toList != bs.toList) = false := by unfold bne; rw [hqe]; rfl
                clear hz he
                go_wp2
                refine bodyPost_ret (d6_results3 rfl rfl rfl rfl (HD4.out.put _ _ _ _ _ _)) rfl ?_
                rw [HTE.out]
                first | exact ⟨trivial, q2, so, m, cp, rfl, rfl, HS4.out.put HD4.out _ _ _ _ _ _, HB04.out.trans (below_of_grown (putD_grown _ _ _ _ _ _ _ _) (Nat.le_refl _) (by omega))⟩ | exact ⟨q2, so, m, cp, rfl, rfl, HS4.out.put HD4.out _ _ _ _ _ _, HB04.out.trans (below_of_grown (putD_grown _ _ _ _ _ _ _ _) (Nat.le_refl _) (by omega))⟩
              · have HTE : Hid (T = ⟨none, 0, 112⟩) := by
                  show _ = _
                  rw [HTB.out, if_neg]
                  unfold holdsB
                  rw [if_pos (.inl rfl), decide_eq_false (p := bs = q2.secret) (fun e => he e.symm)]
                  simp
                have hqe : (q2.secret.toList == bs.toList) = false := by rw [str_eq]; exact decide_eq_false he
                have hqe2 : (q2.secret.toList != bs.toList) = true := by unfold bne; rw [hqe]; rfl
                have hqe3 : ¬ q2.secret.toList = bs.toList := by rw [beq_eq_false_iff_ne] at hqe; exact hqe
                clear hz he
                go_wp2
                refine bodyPost_ret (d6_results3 rfl rfl rfl rfl (HD4.out.put _ _ _ _ _ _)) rfl ?_
                rw [HTE.out]
                first | exact ⟨trivial, rauEnd_bad (HB04.out.trans (below_of_grown (putD_grown _ _ _ _ _ _ _ _) (Nat.le_refl _) (by omega)))⟩ | exact rauEnd_bad (HB04.out.trans (below_of_grown (putD_grown _ _ _ _ _ _ _ _) (Nat.le_refl _) (by omega)))

/-- What both answer: the claim of header and form. -/
def claimT (header : ByteArray) (l : List Two) : Clm := if header.size = 0 then claim0 (formT l) else claimH (basT (sbytes header)) (formT l)
/-- The document's order comes to the same. -/
theorem auth_doc (L : List Cl) (header : ByteArray) (l : List Two) (x y : List Nat) (i j : Nat) (h1 : ones nId l = (x, i)) (h2 : ones nSec l = (y, j)) :
    (1 < i ∨ 1 < j → authR L (claimT header l) = ⟨none, 0, 34⟩) ∧
    (¬ 1 < i → ¬ 1 < j → header.size ≠ 0 → authR L (claimT header l) = byH L (basT (sbytes header)) (bstr x) (!x.isEmpty) (!y.isEmpty)) ∧
    (¬ 1 < i → ¬ 1 < j → header.size = 0 → x = [] → authR L (claimT header l) = ⟨none, 0, 7⟩) ∧
    (¬ 1 < i → ¬ 1 < j → header.size = 0 → x ≠ [] → authR L (claimT header l) = authF (if y = [] then 0 else 2) (bstr y) (findR L (bstr x))) := by
  have hf : formT l = if 1 < i then badClm 34 else if 1 < j then badClm 34 else ⟨if y = [] then 0 else 2, bstr x, bstr y, 0⟩ := by unfold formT; rw [h1, h2]
  have hbz : ∀ z : List Nat, (bstr z).size = 0 ↔ z = [] := fun z => by rw [bstr_size]; exact List.length_eq_zero_iff
  refine ⟨fun h => ?_, fun a b c => ?_, fun a b c d => ?_, fun a b c d => ?_⟩
  · have hb : formT l = badClm 34 := by
      rw [hf]
      by_cases hi : 1 < i
      · rw [if_pos hi]
      · rw [if_neg hi, if_pos (by omega)]
    unfold claimT claim0 claimH
    rw [hb]
    by_cases hz : header.size = 0
    · rw [if_pos hz]; rfl
    · rw [if_neg hz]; rfl
  · unfold claimT
    rw [if_neg c]
    unfold claimH
    rw [hf, if_neg a, if_neg b, if_neg (by simp)]
    cases hB : basT (sbytes header) with
    | none => rfl
    | some ab =>
      obtain ⟨u, v⟩ := ab
      unfold byH hdrT
      dsimp only
      by_cases hy : y = []
      · subst hy
        rw [if_neg (by simp [(hbz []).2 rfl]), if_neg (show ¬ (!([] : List Nat).isEmpty) = true by simp)]
        by_cases hx : x = []
        · subst hx
          rw [if_neg (fun h => h.1 ((hbz []).2 rfl)), if_neg (by simp)]
          rfl
        · have hx2 : (!x.isEmpty) = true := by cases x with | nil => exact absurd rfl hx | cons => rfl
          by_cases he : bstr x = bstr u
          · rw [if_neg (fun h => h.2 he), if_neg (fun h => h.2 he)]
            rfl
          · rw [if_pos ⟨fun h => hx ((hbz x).1 h), he⟩, if_pos ⟨hx2, he⟩]
            rfl
      · have hy2 : (!y.isEmpty) = true := by cases y with | nil => exact absurd rfl hy | cons => rfl
        rw [if_pos (fun h => hy ((hbz y).1 h)), if_pos hy2]
        rfl
  · unfold claimT
    rw [if_pos c]
    unfold claim0
    rw [hf, if_neg a, if_neg b, if_neg (by simp), if_pos (by rw [d]; rfl)]
    rfl
  · unfold claimT
    rw [if_pos c]
    unfold claim0
    rw [hf, if_neg a, if_neg b, if_neg (by simp), if_neg (fun h => d ((hbz x).1 h))]
    unfold authR
    rw [if_neg (by simp)]
/-- By its name and what it told. -/
theorem auth_form (y : List Nat) (q : Cl) : authF (if y = [] then 0 else 2) (bstr y) (some q) = if q.secret = bstr y then (if q.secret.size = 0 then ⟨some q, 0, 0⟩ else ⟨some q, 2, 0⟩) else ⟨none, 0, 112⟩ := by
  have hbz : ∀ z : List Nat, (bstr z).size = 0 ↔ z = [] := fun z => by rw [bstr_size]; exact List.length_eq_zero_iff
  by_cases hy : y = []
  · subst hy
    rw [if_pos rfl]
    have e : holdsB 0 (bstr []) q.secret = decide (bstr [] = q.secret) := by unfold holdsB; rw [if_neg (by decide), if_pos rfl]
    show (if holdsB 0 (bstr []) q.secret = true then _ else _) = _
    rw [e]
    by_cases he : q.secret = bstr []
    · rw [if_pos he, if_pos (decide_eq_true he.symm), if_pos (by rw [he]; rfl)]
    · rw [if_neg he, if_neg (by rw [decide_eq_false (fun e => he e.symm)]; simp)]
  · rw [if_neg hy]
    have e : holdsB 2 (bstr y) q.secret = (decide (0 < q.secret.size) && decide (bstr y = q.secret)) := by unfold holdsB; rw [if_pos (by decide)]
    show (if holdsB 2 (bstr y) q.secret = true then _ else _) = _
    rw [e]
    by_cases he : q.secret = bstr y
    · have hz : ¬ q.secret.size = 0 := by rw [he]; exact fun h => hy ((hbz y).1 h)
      rw [if_pos he, if_neg hz, if_pos (by rw [decide_eq_true (p := 0 < q.secret.size) (by omega), decide_eq_true he.symm]; rfl)]
    · rw [if_neg he, if_neg (by rw [decide_eq_false (p := bstr y = q.secret) (fun e => he e.symm)]; simp)]
set_option maxHeartbeats 2000000 in
set_option maxRecDepth 100000 in
theorem rauth_any (n c fn fc : Nat) (ao fo : Option Addr) (L : List Cl) (header : ByteArray) (l : List Two) (w : World) (hn : n = L.length) (hl : n ≤ 4398046511104) (hr : CRow w ao L)
    (hfn : fn = l.length) (hfl : fn ≤ 4398046511104) (hb : ∀ q ∈ l, bytes2 q) (hfr : PRow w fo l) :
    Calls Tryz.prog 27 #[.slice ao n c, .string header, .slice fo fn fc] w fun e w' => True ∧ RAuEnd w (authR L (claimT header l)) e w' := by
  have HN : Hid (n = L.length) := hn
  have HR : Hid (CRow w ao L) := hr
  have HFR : Hid (PRow w fo l) := hfr
  have HBA : Hid (Below w.heap.size w (w.alloc (.cells #[.string { data := #[] }, .string { data := #[] }, .int .i64 0, .bool false, .string { data := #[] }, .slice none 0 0] 46))) := below_new w _
  have HD0 := hide (D6.new w)
  obtain ⟨x, i, hI⟩ : ∃ x i, ones nId l = (x, i) := ⟨_, _, rfl⟩
  obtain ⟨y, j, hJ⟩ : ∃ y j, ones nSec l = (y, j) := ⟨_, _, rfl⟩
  have HO1 : ∀ W, Below w.heap.size w W → Calls Tryz.prog 29 #[.slice fo fn fc, .string { data := #[99, 108, 105, 101, 110, 116, 95, 105, 100] }] W fun e w' => e = .returned (oneRes (x, i)) ∧ w' = W := by
    intro W hW
    have h := refOne_any fn fc fo l { data := #[99, 108, 105, 101, 110, 116, 95, 105, 100] } W hfn hfl hb (HFR.out.keep hW)
    rw [show sbytes { data := #[99, 108, 105, 101, 110, 116, 95, 105, 100] } = nId from rfl, hI] at h
    exact h
  have HO2 : ∀ W, Below w.heap.size w W → Calls Tryz.prog 29 #[.slice fo fn fc, .string { data := #[99, 108, 105, 101, 110, 116, 95, 115, 101, 99, 114, 101, 116] }] W fun e w' => e = .returned (oneRes (y, j)) ∧ w' = W := by
    intro W hW
    have h := refOne_any fn fc fo l { data := #[99, 108, 105, 101, 110, 116, 95, 115, 101, 99, 114, 101, 116] } W hfn hfl hb (HFR.out.keep hW)
    rw [show sbytes { data := #[99, 108, 105, 101, 110, 116, 95, 115, 101, 99, 114, 101, 116] } = nSec from rfl, hJ] at h
    exact h
  have HDOC := hide (auth_doc L header l x y i j hI hJ)
  obtain ⟨T, HT⟩ : ∃ T, Hid (T = authR L (claimT header l)) := ⟨_, hide rfl⟩
  rw [← HT.out] at HDOC ⊢
  have HBH : Hid (∀ W hi hs, Below w.heap.size w W → Calls Tryz.prog 57 #[.slice ao n c, .string header, .string (bstr x), .bool hi, .bool hs] W fun e w' => True ∧ RAuEnd W (byH L (basT (sbytes header)) (bstr x) hi hs) e w') := fun W hi hs hW => rbyHeader_any n c ao L header (bstr x) hi hs W HN.out hl (HR.out.keep hW)
  have HRF : Hid (∀ W, Below w.heap.size w W → Calls Tryz.prog 22 #[.slice ao n c, .string (bstr x)] W fun e w' => True ∧ RFdEnd W (findR L (bstr x)) e w') := fun W hW => rfind_any n c ao L (bstr x) W HN.out hl (HR.out.keep hW)
  clear hn hr hfn hb hfr hI hJ HT
  go_enter Tryz.func27, Tryz.ntmps27
  go_upto_region 1 with fail
  generalize (w.alloc (.cells #[.string { data := #[] }, .string { data := #[] }, .int .i64 0, .bool false, .string { data := #[] }, .slice none 0 0] 46)) = w1 at *
  have hs1 := HD0.out.lt
  obtain ⟨d0, d1, d2, d3, d4, d5⟩ := HD0.out.cells
  obtain ⟨f0, f1, f2, f3, f4, f5⟩ := HD0.out.thaw
  have hO1 := HO1 w1 HBA.out
  have hO2 := HO2 w1 HBA.out
  clear HO1 HO2
  by_cases h1 : 1 < i ∨ 1 < j
  · have HTE := hide (HDOC.out.1 h1)
    obtain ⟨a1, b1, c1, hA⟩ : ∃ a1 b1 c1, oneRes (x, i) = .tuple #[.string a1, .bool b1, .int .i64 c1] := by unfold oneRes; split <;> exact ⟨_, _, _, rfl⟩
    obtain ⟨a2, b2, c2, hB⟩ : ∃ a2 b2 c2, oneRes (y, j) = .tuple #[.string a2, .bool b2, .int .i64 c2] := by unfold oneRes; split <;> exact ⟨_, _, _, rfl⟩
    have hcc : (c1 != 0) = true ∨ ((c1 != 0) = false ∧ (c2 != 0) = true) := by
      by_cases g1 : 1 < i
      · left
        unfold oneRes at hA
        rw [if_pos g1] at hA
        have : c1 = 34 := by injection hA with hA; injection hA with hA; simp at hA; exact hA.2.2.symm
        rw [this]; rfl
      · right
        have g2 : 1 < j := by omega
        unfold oneRes at hA hB
        rw [if_neg g1] at hA
        rw [if_pos g2] at hB
        have e1 : c1 = 0 := by injection hA with hA; injection hA with hA; simp at hA; exact hA.2.2.symm
        have e2 : c2 = 34 := by injection hB with hB; injection hB with hB; simp at hB; exact hB.2.2.symm
        rw [e1, e2]; exact ⟨rfl, rfl⟩
    rw [hA] at hO1
    rw [hB] at hO2
    clear HDOC hA hB h1 HBH HRF
    rcases hcc with hcc | ⟨hcc, hcd⟩
    all_goals
      go_wp2_with fail
      refine hO1.mono ?_
      rintro e w2 ⟨rfl, rfl⟩
      go_wp2_with fail
      refine hO2.mono ?_
      rintro e w3 ⟨rfl, rfl⟩
      go_wp2
      refine bodyPost_ret (d6_results3 rfl rfl rfl rfl (HD0.out.put _ _ _ _ _ _)) rfl ?_
      rw [HTE.out]
      first | exact ⟨trivial, rauEnd_bad (HBA.out.trans (below_of_grown (putD_grown _ _ _ _ _ _ _ _) (Nat.le_refl _) (by omega)))⟩ | exact rauEnd_bad (HBA.out.trans (below_of_grown (putD_grown _ _ _ _ _ _ _ _) (Nat.le_refl _) (by omega)))
  have g1 : ¬ 1 < i := fun h => h1 (.inl h)
  have g2 : ¬ 1 < j := fun h => h1 (.inr h)
  rw [show oneRes (x, i) = .tuple #[.string (bstr x), .bool (!x.isEmpty), .int .i64 0] by unfold oneRes; rw [if_neg g1]] at hO1
  rw [show oneRes (y, j) = .tuple #[.string (bstr y), .bool (!y.isEmpty), .int .i64 0] by unfold oneRes; rw [if_neg g2]] at hO2
  by_cases hz : header.size = 0
  case neg =>
    have HTE := hide (HDOC.out.2.1 g1 g2 hz)
    have HBX := HBH.out w1 (!x.isEmpty) (!y.isEmpty) HBA.out
    rw [← HTE.out] at HBX
    have hhe := ne_of_size hz
    clear HDOC h1 g1 g2 HBH HRF hz HTE
    generalize bstr x = bx at *
    generalize bstr y = bY at *
    generalize (!x.isEmpty) = hi at *
    generalize (!y.isEmpty) = hs at *
    go_wp2_with fail
    refine hO1.mono ?_
    rintro e w2 ⟨rfl, rfl⟩
    go_wp2_with fail
    refine hO2.mono ?_
    rintro e w3 ⟨rfl, rfl⟩
    go_wp2_with fail
    refine HBX.mono ?_
    rintro e w4 ⟨-, q, so, m, cp, rfl, hq, hsat, hb4⟩
    have HQ := hide hq
    have HSAT := hide hsat
    have HB4 := hide (HBA.out.trans (hb4.mono HBA.out.size))
    have HD4 := hide (HD0.out.keep hb4 hs1)
    have hs4 := HD4.out.lt
    obtain ⟨e0, e1, e2, e3, e4, e5⟩ := HD4.out.cells
    obtain ⟨k0, k1, k2, k3, k4, k5⟩ := HD4.out.thaw
    clear hq hsat hb4 HBX
    go_wp2
    refine bodyPost_ret (d6_results3 rfl rfl rfl rfl (HD4.out.put _ _ _ _ _ _)) rfl ?_
    refine (fun h => by first | exact ⟨trivial, h⟩ | exact h) (?_ : RAuEnd w T _ _)
    exact ⟨q, so, m, cp, rfl, HQ.out, HSAT.out.put HD4.out _ _ _ _ _ _, HB4.out.trans (below_of_grown (putD_grown _ _ _ _ _ _ _ _) (Nat.le_refl _) (by omega))⟩
  have hhn := empty_of hz
  have hhe : (header.toList == ([] : List UInt8)) = true := by rw [hhn, Lib.toList_data]; rfl
  by_cases hx : x = []
  · have HTE := hide (HDOC.out.2.2.1 g1 g2 hz hx)
    rw [show (!x.isEmpty) = false by rw [hx]; rfl] at hO1
    clear HDOC h1 g1 g2 HBH HRF hz hhn hx
    generalize bstr x = bx at *
    generalize bstr y = bY at *
    generalize (!y.isEmpty) = hs at *
    go_wp2_with fail
    refine hO1.mono ?_
    rintro e w2 ⟨rfl, rfl⟩
    go_wp2_with fail
    refine hO2.mono ?_
    rintro e w3 ⟨rfl, rfl⟩
    go_wp2
    refine bodyPost_ret (d6_results3 rfl rfl rfl rfl (HD0.out.put _ _ _ _ _ _)) rfl ?_
    rw [HTE.out]
    first | exact ⟨trivial, rauEnd_bad (HBA.out.trans (below_of_grown (putD_grown _ _ _ _ _ _ _ _) (Nat.le_refl _) (by omega)))⟩ | exact rauEnd_bad (HBA.out.trans (below_of_grown (putD_grown _ _ _ _ _ _ _ _) (Nat.le_refl _) (by omega)))
  have HTF := hide (HDOC.out.2.2.2 g1 g2 hz hx)
  rw [show (!x.isEmpty) = true by cases x with | nil => exact absurd rfl hx | cons => rfl] at hO1
  obtain ⟨F, HF⟩ : ∃ F, Hid (F = findR L (bstr x)) := ⟨_, hide rfl⟩
  rw [← HF.out] at HTF HRF
  have HRX := HRF.out w1 HBA.out
  clear HDOC h1 g1 g2 HBH HRF hz hhn hx HF
  have HFORM : Hid (∀ q, F = some q → T = if q.secret = bstr y then (if q.secret.size = 0 then ⟨some q, 0, 0⟩ else ⟨some q, 2, 0⟩) else ⟨none, 0, 112⟩) := by
    intro q hq
    rw [HTF.out, hq]
    exact auth_form y q
  have HNONE : Hid (F = none → T = ⟨none, 0, 111⟩) := by intro hq; rw [HTF.out, hq]; rfl
  clear HTF
  generalize bstr x = bx at *
  generalize bstr y = bY at *
  generalize (!y.isEmpty) = hs at *
  go_wp2_with fail
  refine hO1.mono ?_
  rintro e w2 ⟨rfl, rfl⟩
  go_wp2_with fail
  refine hO2.mono ?_
  rintro e w3 ⟨rfl, rfl⟩
  go_wp2_with fail
  refine HRX.mono ?_
  rintro e w4 ⟨-, q, so, m, cp, rfl, hq1, hsat, hb4⟩
  have HQ := hide hq1
  have HSAT := hide hsat
  have HB4 := hide (HBA.out.trans (hb4.mono HBA.out.size))
  have HD4 := hide (HD0.out.keep hb4 hs1)
  have hs4 := HD4.out.lt
  have HB5 : Hid (Below w4.heap.size w4 (w4.alloc (.cells #[.string q.id, .string q.secret, .int .i64 q.grants, .bool q.ping, .string q.url, .slice so m cp] 46))) := below_new w4 _
  have HD5 := hide (HD4.out.keep HB5.out hs4)
  have HQ5 : Hid (D6 (w4.alloc (.cells #[.string q.id, .string q.secret, .int .i64 q.grants, .bool q.ping, .string q.url, .slice so m cp] 46)) w4.heap.size (.string q.id) (.string q.secret) (.int .i64 q.grants) (.bool q.ping) (.string q.url) (.slice so m cp)) := heap_alloc_new w4 _
  have hs5 := HB5.out.size
  have HS5 := hide (HSAT.out.keep HB5.out)
  clear hq1 hsat hb4 HRX
  go_upto_region 10 with fail
  generalize (w4.alloc (.cells #[.string q.id, .string q.secret, .int .i64 q.grants, .bool q.ping, .string q.url, .slice so m cp] 46)) = w5 at *
  have HB05 := hide (HB4.out.trans (HB5.out.mono (by omega)))
  obtain ⟨e0, e1, e2, e3, e4, e5⟩ := HD5.out.cells
  obtain ⟨k0, k1, k2, k3, k4, k5⟩ := HD5.out.thaw
  obtain ⟨l0, l1, l2, l3, l4, l5⟩ := HQ5.out.cells
  have hne1 : ¬ w4.heap.size = w.heap.size := by omega
  have hne2 : ¬ w.heap.size = w4.heap.size := by omega
  cases F with
  | none =>
    have HTE := hide (HNONE.out rfl)
    rw [show (none : Option Cl).isSome = false from rfl]
    go_wp2
    refine bodyPost_ret (d6_results3 rfl rfl rfl rfl (HD5.out.put _ _ _ _ _ _)) rfl ?_
    rw [HTE.out]
    first | exact ⟨trivial, rauEnd_bad (HB05.out.trans (below_of_grown (putD_grown _ _ _ _ _ _ _ _) (Nat.le_refl _) (by omega)))⟩ | exact rauEnd_bad (HB05.out.trans (below_of_grown (putD_grown _ _ _ _ _ _ _ _) (Nat.le_refl _) (by omega)))
  | some q2 =>
    have hq2e : q2 = q := HQ.out
    subst hq2e
    rw [show (some q2 : Option Cl).isSome = true from rfl]
    have HTB := hide (HFORM.out q2 rfl)
    clear HFORM HNONE
    by_cases he : q2.secret = bY
    · have hqe : (q2.secret.toList == bY.toList) = true := by rw [str_eq]; exact decide_eq_true he
      have hqe2 : (q2.secret.toList != bY.toList) = false := by unfold bne; rw [hqe]; rfl
      by_cases hz : q2.secret.size = 0
      · have HTE : Hid (T = ⟨some q2, 0, 0⟩) := by show _ = _; rw [HTB.out, if_pos he, if_pos hz]
        have hem2 : (q2.secret.toList == ([] : List UInt8)) = true := by rw [empty_of hz, Lib.toList_data]; rfl
        clear hz he HTB
        go_wp2
        refine bodyPost_ret (d6_results3 rfl rfl rfl rfl (HD5.out.put _ _ _ _ _ _)) rfl ?_
        refine (fun h => by first | exact ⟨trivial, h⟩ | exact h) (?_ : RAuEnd w T _ _)
        rw [HTE.out]
        exact ⟨q2, so, m, cp, rfl, rfl, HS5.out.put HD5.out _ _ _ _ _ _, HB05.out.trans (below_of_grown (putD_grown _ _ _ _ _ _ _ _) (Nat.le_refl _) (by omega))⟩
      · have HTE : Hid (T = ⟨some q2, 2, 0⟩) := by show _ = _; rw [HTB.out, if_pos he, if_neg hz]
        have hne := ne_of_size hz
        clear hz he HTB
        go_wp2
        refine bodyPost_ret (d6_results3 rfl rfl rfl rfl (HD5.out.put _ _ _ _ _ _)) rfl ?_
        refine (fun h => by first | exact ⟨trivial, h⟩ | exact h) (?_ : RAuEnd w T _ _)
        rw [HTE.out]
        exact ⟨q2, so, m, cp, rfl, rfl, HS5.out.put HD5.out _ _ _ _ _ _, HB05.out.trans (below_of_grown (putD_grown _ _ _ _ _ _ _ _) (Nat.le_refl _) (by omega))⟩
    · have HTE : Hid (T = ⟨none, 0, 112⟩) := by show _ = _; rw [HTB.out, if_neg he]
      have hqe : (q2.secret.toList == bY.toList) = false := by rw [str_eq]; exact decide_eq_false he
      have hqe2 : (q2.secret.toList != bY.toList) = true := by unfold bne; rw [hqe]; rfl
      have hqe3 : ¬ q2.secret.toList = bY.toList := by rw [beq_eq_false_iff_ne] at hqe; exact hqe
      clear he HTB
      go_wp2
      refine bodyPost_ret (d6_results3 rfl rfl rfl rfl (HD5.out.put _ _ _ _ _ _)) rfl ?_
      rw [HTE.out]
      first | exact ⟨trivial, rauEnd_bad (HB05.out.trans (below_of_grown (putD_grown _ _ _ _ _ _ _ _) (Nat.le_refl _) (by omega)))⟩ | exact rauEnd_bad (HB05.out.trans (below_of_grown (putD_grown _ _ _ _ _ _ _ _) (Nat.le_refl _) (by omega)))
end Go.Proofs.YtmmcgfikmcppfaaGreatDoor
