/- The contract of the document's line. -/
import Derived.Test.YtjehbdekipmllaaGreatDoorLDLnF
import Derived.Test.YtjehbdekipmllaaGreatDoorXPar
namespace Go.Proofs.YtjehbdekipmllaaGreatDoor
open Go.RowKit

/-- A row of texts, new. -/
theorem srow_new (w : World) (l : List U) : SRow (w.alloc (.cells (l.map encStr).toArray 9)) (some ⟨w.heap.size, 0, none⟩) l := by
  refine .inr ⟨_, _, rfl, fun i u hi => ?_⟩
  rw [Nat.zero_add, cell_of_row _ _ _ _ _ _ (heap_alloc_new w _)]
  simp [hi]
def uNames : List U := [sId.data.toList, sSecret.data.toList, sGrants.data.toList, sPing.data.toList, sUrl.data.toList, sScope.data.toList]
theorem uNames_row (w : World) : SRow (w.alloc (.cells #[.string { data := #[105, 100] }, .string { data := #[115, 101, 99, 114, 101, 116] }, .string { data := #[103, 114, 97, 110, 116, 115] }, .string { data := #[112, 105, 110, 103] }, .string { data := #[117, 114, 108] }, .string { data := #[115, 99, 111, 112, 101] }] 9)) (some ⟨w.heap.size, 0, none⟩) uNames := srow_new w uNames
theorem uName_is (x : List Nat) : withinB [(bstr x).data.toList] uNames = isName (bstr x) := by
  unfold withinB isName uNames
  rw [Bool.eq_iff_iff, decide_eq_true_eq, decide_eq_true_eq]
  have e : ∀ (a b : ByteArray), a.data.toList = b.data.toList ↔ a = b := fun a b => ⟨fun h => ByteArray.ext (Array.toList_inj.1 h), fun h => by rw [h]⟩
  simp [e]
theorem line_no (l : List Two) (hb : ∀ q ∈ l, bytes2 q) (h : ¬ (DLine l ∧ checkB (build6 (valD l)) = true)) : ((lnFold l l).bind fun c => if checkB c = true then some c else none) = none := by
  cases hx : ((lnFold l l).bind fun c => if checkB c = true then some c else none) with
  | none => rfl
  | some c =>
    have := (line_eq l hb c).1 hx
    exact absurd ⟨this.1, this.2.1⟩ h
def nmAt (k : Nat) : ByteArray := if k = 0 then sId else if k = 1 then sSecret else if k = 2 then sGrants else if k = 3 then sPing else if k = 4 then sUrl else sScope
theorem nmAt_is {k : Nat} (hk : k < 6) : isName (nmAt k) = true ∧ uNames[k]? = some (nmAt k).data.toList := by
  rcases (show k = 0 ∨ k = 1 ∨ k = 2 ∨ k = 3 ∨ k = 4 ∨ k = 5 by omega) with rfl | rfl | rfl | rfl | rfl | rfl <;> exact ⟨by decide, rfl⟩
/-- The six texts, of which the first k are set. -/
def arr6 (v : Nat → ByteArray) (k : Nat) : List Value := [0, 1, 2, 3, 4, 5].map fun j => if j < k then .string (v j) else .string { data := #[] }
theorem arr6_set (v : Nat → ByteArray) {k : Nat} (hk : k < 6) : (arr6 v k).set k (.string (v k)) = arr6 v (k + 1) := by
  rcases (show k = 0 ∨ k = 1 ∨ k = 2 ∨ k = 3 ∨ k = 4 ∨ k = 5 by omega) with rfl | rfl | rfl | rfl | rfl | rfl <;> rfl
/-- The six texts in a block. -/
def A6 (w : World) (N : Nat) (v : Nat → ByteArray) (k : Nat) : Prop := w.heap[N]? = some (.cells (arr6 v k).toArray 93 (0, 0))
theorem A6.lt {w : World} {N : Nat} {v : Nat → ByteArray} {k : Nat} (h : A6 w N v k) : N < w.heap.size := (Array.getElem?_eq_some_iff.1 h).1
theorem A6.keep {w w' : World} {N B : Nat} {v : Nat → ByteArray} {k : Nat} (h : A6 w N v k) (hb : Below B w w') (hN : N < B) : A6 w' N v k := (hb.block N hN).trans h
theorem A6.cell {w : World} {N : Nat} {v : Nat → ByteArray} {k : Nat} (h : A6 w N v k) {j : Nat} (hj : j < 6) : w.cell? ⟨N, j, none⟩ = some (if j < k then .string (v j) else .string { data := #[] }) := by
  rw [cell_of_row w N j _ _ (0, 0) h]
  rcases (show j = 0 ∨ j = 1 ∨ j = 2 ∨ j = 3 ∨ j = 4 ∨ j = 5 by omega) with rfl | rfl | rfl | rfl | rfl | rfl <;> rfl
theorem A6.fz {w : World} {N : Nat} {v : Nat → ByteArray} {k : Nat} (h : A6 w N v k) (j : Nat) : w.frozen? ⟨N, j, none⟩ = false := frozen_of_row w N j _ _ h
theorem A6.set {w : World} {N : Nat} {v : Nat → ByteArray} {k : Nat} (h : A6 w N v k) (hk : k < 6) : A6 (w.setCell ⟨N, k, none⟩ (.string (v k))) N v (k + 1) := by
  unfold A6
  rw [heap_setCell_same w N k _ _ (.string (v k)) h, ← arr6_set v hk]
  simp
def LDEnd (w : World) (R : Option Cl) (e : Ending) (w' : World) : Prop := ∃ (c : Cl) (so : Option Addr) (n cp : Nat), e = .returned (.tuple #[.agg #[.string c.id, .string c.secret, .int .i64 c.grants, .bool c.ping, .string c.url, .slice so n cp], .bool R.isSome]) ∧ R.getD zeroCl = c ∧ SAt w' so n cp c.scopes ∧ (∀ a, so = some a → w.heap.size ≤ a.block) ∧ Below w.heap.size w w'
theorem ldEnd_none {w w' : World} (hb : Below w.heap.size w w') : LDEnd w none (.returned (.tuple #[.agg #[.string { data := #[] }, .string { data := #[] }, .int .i64 0, .bool false, .string { data := #[] }, .slice none 0 0], .bool false])) w' :=
  ⟨zeroCl, none, 0, 0, rfl, rfl, sat_nil _, fun a ha => (by cases ha), hb⟩
theorem sat_put6 {w : World} {N : Nat} {so : Option Addr} {n cp : Nat} {l : List U} {v0 v1 v2 v3 v4 v5 : Value} (h : SAt w so n cp l) (hd : D6 w N v0 v1 v2 v3 v4 v5) (u0 u1 u2 u3 u4 u5 : Value) : SAt (putD w N u0 u1 u2 u3 u4 u5) so n cp l := by
  have hne : ∀ a, so = some a → l ≠ [] → some a.block ≠ some N := by
    intro a ha h0 e
    rcases h.2.2.2 with h2 | h2
    · exact h0 h2
    · obtain ⟨cs, fz, hh⟩ := h2 a ha
      have h3 : w.heap[N]? = _ := hd
      rw [Option.some.inj e, h3] at hh
      simp at hh
  exact ⟨h.1, h.2.1, h.2.2.1.grownR (putD_grown _ _ _ _ _ _ _ _) hne, h.2.2.2.grown (putD_grown _ _ _ _ _ _ _ _) hne⟩
/-- What the document's line holds: its answer's block, the client's, the six texts. -/
structure LB (w : World) (g7 ga : Nat) (V : Nat → ByteArray) (W : World) (v0 v1 v2 v3 v4 v5 : Value) : Prop where
  bel : Below w.heap.size w W
  t : D6 W w.heap.size (.string { data := #[] }) (.string { data := #[] }) (.int .i64 0) (.bool false) (.string { data := #[] }) (.slice none 0 0)
  c : D6 W g7 v0 v1 v2 v3 v4 v5
  a : A6 W ga V 6
theorem LB.keep {w : World} {g7 ga : Nat} {V : Nat → ByteArray} {W W' : World} {v0 v1 v2 v3 v4 v5 : Value} (h : LB w g7 ga V W v0 v1 v2 v3 v4 v5) (hb : Below W.heap.size W W') : LB w g7 ga V W' v0 v1 v2 v3 v4 v5 :=
  ⟨h.bel.trans (hb.mono h.bel.size), h.t.keep hb h.t.lt, h.c.keep hb h.c.lt, h.a.keep hb h.a.lt⟩
theorem LB.set {w : World} {g7 ga : Nat} {V : Nat → ByteArray} {W : World} {v0 v1 v2 v3 v4 v5 u0 u1 u2 u3 u4 u5 : Value} (h : LB w g7 ga V W v0 v1 v2 v3 v4 v5) (h7 : w.heap.size < g7) (ha : g7 < ga) (i : Nat) (v : Value) (he : ([v0, v1, v2, v3, v4, v5] : List Value).set i v = [u0, u1, u2, u3, u4, u5]) :
    LB w g7 ga V (W.setCell ⟨g7, i, none⟩ v) u0 u1 u2 u3 u4 u5 :=
  ⟨h.bel.trans (below_of_grown (grown_set _ _ _ _) (by omega) h.bel.size), ((grown_set W g7 i v).block w.heap.size h.t.lt (by simp; omega)).trans h.t, h.c.set i v he, ((grown_set W g7 i v).block ga h.a.lt (by simp; omega)).trans h.a⟩
set_option linter.unusedSimpArgs false in
set_option maxHeartbeats 16000000 in
set_option maxRecDepth 100000 in
theorem rline_any (s : ByteArray) (w : World) (hs : s.size ≤ 9223372036854775807) :
    Calls Tryz.prog 20 #[.string s] w fun e w' => True ∧ LDEnd w (lineR (sbytes s)) e w' := by
  have HP := hide (refParse_any s)
  have HSS := hide hs
  have HBT := hide (parOut_len (sbytes s))
  have HSM := hide (parOut_small2 (sbytes s))
  obtain ⟨R, hR⟩ : ∃ R, R = lineR (sbytes s) := ⟨_, rfl⟩
  rw [← hR]
  have HRD : Hid (R = if (parOut (sbytes s)).2.1 = 0 then (lnFold (parOut (sbytes s)).1 (parOut (sbytes s)).1).bind fun c => if checkB c = true then some c else none else none) := by show _ = _; rw [hR]; rfl
  have HD0 : Hid (D6 (w.alloc (.cells #[.string { data := #[] }, .string { data := #[] }, .int .i64 0, .bool false, .string { data := #[] }, .slice none 0 0] 50)) w.heap.size (.string { data := #[] }) (.string { data := #[] }) (.int .i64 0) (.bool false) (.string { data := #[] }) (.slice none 0 0)) := D6.new w
  have HB0 : Hid (Below w.heap.size w (w.alloc (.cells #[.string { data := #[] }, .string { data := #[] }, .int .i64 0, .bool false, .string { data := #[] }, .slice none 0 0] 50))) := below_new w _
  clear hR hs
  generalize (parOut (sbytes s)) = PO at *
  obtain ⟨l, er, at_⟩ := PO
  simp only at HP HBT HSM HRD
  suffices HSU : ∀ PP : Ending → World → Prop, (∀ e w', LDEnd w R e w' → PP e w') → Calls Tryz.prog 20 #[.string s] w fun e w' => True ∧ PP e w' from HSU _ (fun _ _ h => h)
  intro PP hPP
  have HPP := hide hPP
  clear hPP
  go_enter Tryz.func20, Tryz.ntmps20
  go_upto_region 1 with fail
  generalize (w.alloc (.cells #[.string { data := #[] }, .string { data := #[] }, .int .i64 0, .bool false, .string { data := #[] }, .slice none 0 0] 50)) = w1 at *
  have hz1 := HD0.out.lt
  go_wp2_with fail
  refine ((HP.out w1) HSS.out).mono ?_
  rintro e w2 ⟨v, rfl, hh⟩
  obtain ⟨ao, cap, rfl, hcap, hrow, -⟩ := hh.out.1.shape
  have HB2 : Hid (Below w.heap.size w w2) := HB0.out.trans (hh.out.2.mono (by omega))
  have HD2 := hide (HD0.out.keep hh.out.2 hz1)
  have HR2 := hide hrow
  have hz2 := HD2.out.lt
  clear hh hrow hcap
  by_cases her : er = 0
  rotate_left
  · have hei : ((er : Int) != 0) = true := by simp; omega
    have HZ : Hid (R = none) := by show _ = _; rw [HRD.out, if_neg her]
    obtain ⟨d0, d1, d2, d3, d4, d5⟩ := HD2.out.cells
    obtain ⟨f0, f1, f2, f3, f4, f5⟩ := HD2.out.thaw
    go_wp2_with fail
    refine bodyPost_ret (d6_results2 rfl rfl rfl (HD2.out.put _ _ _ _ _ _)) rfl ?_
    refine ⟨trivial, HPP.out _ _ ?_⟩
    rw [HZ.out]
    exact ldEnd_none (HB2.out.trans (below_of_grown (putD_grown _ _ _ _ _ _ _ _) (Nat.le_refl _) (by omega)))
  subst her
  have HRE : Hid (R = (lnFold l l).bind fun c => if checkB c = true then some c else none) := HRD
  obtain ⟨n, hn⟩ : ∃ n, n = l.length := ⟨_, rfl⟩
  rw [← hn]
  have hn64 : n ≤ 64 := by rw [hn]; exact HBT.out.1
  have HN := hide hn
  have HD3a : Hid (D6 (w2.alloc (.cells #[.string { data := #[] }, .string { data := #[] }, .int .i64 0, .bool false, .string { data := #[] }, .slice none 0 0] 50)) w2.heap.size (.string { data := #[] }) (.string { data := #[] }) (.int .i64 0) (.bool false) (.string { data := #[] }) (.slice none 0 0)) := D6.new w2
  have HB3a : Hid (Below w2.heap.size w2 (w2.alloc (.cells #[.string { data := #[] }, .string { data := #[] }, .int .i64 0, .bool false, .string { data := #[] }, .slice none 0 0] 50))) := below_new w2 _
  clear hn HRD
  go_upto_region 5 with fail
  generalize (w2.alloc (.cells #[.string { data := #[] }, .string { data := #[] }, .int .i64 0, .bool false, .string { data := #[] }, .slice none 0 0] 50)) = w3 at *
  have HNR : Hid (SRow (w3.alloc (.cells #[.string { data := #[105, 100] }, .string { data := #[115, 101, 99, 114, 101, 116] }, .string { data := #[103, 114, 97, 110, 116, 115] }, .string { data := #[112, 105, 110, 103] }, .string { data := #[117, 114, 108] }, .string { data := #[115, 99, 111, 112, 101] }] 9)) (some ⟨w3.heap.size, 0, none⟩) uNames) := uNames_row w3
  have HB4a : Hid (Below w3.heap.size w3 (w3.alloc (.cells #[.string { data := #[105, 100] }, .string { data := #[115, 101, 99, 114, 101, 116] }, .string { data := #[103, 114, 97, 110, 116, 115] }, .string { data := #[112, 105, 110, 103] }, .string { data := #[117, 114, 108] }, .string { data := #[115, 99, 111, 112, 101] }] 9))) := below_new w3 _
  go_upto_region 6 with fail
  generalize (w3.alloc (.cells #[.string { data := #[105, 100] }, .string { data := #[115, 101, 99, 114, 101, 116] }, .string { data := #[103, 114, 97, 110, 116, 115] }, .string { data := #[112, 105, 110, 103] }, .string { data := #[117, 114, 108] }, .string { data := #[115, 99, 111, 112, 101] }] 9)) = w4 at *
  have hz3 := HD3a.out.lt
  have hz3b := HB3a.out.size
  have hz4 := HB4a.out.size
  have HB24 : Hid (Below w2.heap.size w2 w4) := HB3a.out.trans (HB4a.out.mono hz3b)
  have HB4 : Hid (Below w.heap.size w w4) := HB2.out.trans (HB24.out.mono (by omega))
  have HD4 := hide (HD2.out.keep HB24.out hz2)
  have HC4 := hide (HD3a.out.keep HB4a.out hz3)
  have HR4 := hide (HR2.out.keep HB24.out)
  generalize hgw : w3.heap.size = g8 at *
  generalize hgc : w2.heap.size = g7 at *
  have HZ7 : Hid (w.heap.size < g7) := hz2
  clear hgw hgc HD0 HB0 HD2 HB2 HR2 HD3a HB3a HB4a HB24
  have HWI : Hid (∀ (u : List Nat) (W : World) (ao2 : Option Addr) (c2 : Nat), SRow W ao2 [(bstr u).data.toList] → Below w4.heap.size w4 W → Calls Tryz.prog 52 #[.slice ao2 1 c2, .slice (some ⟨g8, 0, none⟩) 6 6] W fun e w' => e = .returned (.bool (isName (bstr u))) ∧ ∃ k, w' = W.drewN k) := fun u W ao2 c2 h1 h2 => by
    have := refWithin_any 1 6 c2 6 ao2 (some ⟨g8, 0, none⟩) [(bstr u).data.toList] uNames W rfl rfl (by omega) (by omega) h1 (HNR.out.keep h2)
    rw [uName_is u] at this
    exact this
  go_wp2_with fail
  go_loopw [9] (fun i wr => ∃ k : Nat, k ≤ n ∧ i = .int .i64 (k : Int) ∧ Hid (∀ q ∈ l.take k, isName (bstr q.1) = true) ∧ Hid (Below w4.heap.size w4 wr)) (fun i _ => n - (intOf i).toNat)
  case atStart => exact ⟨0, Nat.zero_le _, rfl, by intro q hq; simp at hq, Below.refl _ _⟩
  case round =>
    obtain ⟨k, hk, rfl, HA, HW⟩ := hrel
    have hzw := HW.out.size
    by_cases hlt : k < n
    · obtain ⟨b, off, rfl⟩ := HR4.out.form (by rw [← HN.out]; omega)
      obtain ⟨q, hq⟩ : ∃ q, l[k]? = some q := ⟨_, List.getElem?_eq_getElem (by rw [← HN.out]; exact hlt)⟩
      obtain ⟨p0, p1⟩ := (HR4.out.keep HW.out).cell hq
      rw [Nat.mul_comm 2 k] at p0 p1
      have hki : (k : Int) < (n : Int) := by omega
      have HQ := hide hq
      have hb5 : Below wr.heap.size wr (wr.alloc (.cells #[.string (bstr q.1)] 9)) := below_new wr _
      have HW5 : Hid (Below w4.heap.size w4 (wr.alloc (.cells #[.string (bstr q.1)] 9))) := HW.out.trans (hb5.mono hzw)
      have HCW := hide (HWI.out q.1 (wr.alloc (.cells #[.string (bstr q.1)] 9)) (some ⟨wr.heap.size, 0, none⟩) 1 (srow_new wr [(bstr q.1).data.toList]) HW5.out)
      clear hq hb5
      go_wp2_with fail
      refine HCW.out.mono ?_
      rintro e w6 ⟨rfl, k6, hw6⟩
      have HW6 : Hid (Below w4.heap.size w4 w6) := by rw [hw6]; exact below_drewN HW5.out k6
      clear hw6 HCW
      by_cases hnm : isName (bstr q.1) = true
      · have HA2 : Hid (∀ q ∈ l.take (k + 1), isName (bstr q.1) = true) := fun p hp => by
          rw [take_two HQ.out] at hp
          rcases List.mem_append.1 hp with hp | hp
          · exact HA.out p hp
          · rcases List.mem_singleton.1 hp with rfl
            exact hnm
        rw [hnm]
        clear hnm
        go_wp2_with fail
        go_roundw
        case rel => exact ⟨k + 1, by omega, by go_num, HA2, HW6⟩
        case measure => simp [intOf]; omega
      · have HZ : Hid (R = none) := by show _ = _; rw [HRE.out]; exact line_no l HBT.out.2 (fun h => hnm (h.1.names q (List.mem_of_getElem? HQ.out)))
        have hnf : isName (bstr q.1) = false := by cases hx : isName (bstr q.1) with | true => exact absurd hx hnm | false => rfl
        rw [hnf]
        have HD6 := hide (HD4.out.keep HW6.out HD4.out.lt)
        have HB6 := hide (HB4.out.trans (HW6.out.mono HB4.out.size))
        have hz6 := HD6.out.lt
        obtain ⟨d0, d1, d2, d3, d4, d5⟩ := HD6.out.cells
        obtain ⟨f0, f1, f2, f3, f4, f5⟩ := HD6.out.thaw
        clear hnm hnf
        go_wp2_with fail
        refine bodyPost_ret (d6_results2 rfl rfl rfl (HD6.out.put _ _ _ _ _ _)) rfl ?_
        refine ⟨trivial, HPP.out _ _ ?_⟩
        rw [HZ.out]
        exact ldEnd_none (HB6.out.trans (below_of_grown (putD_grown _ _ _ _ _ _ _ _) (Nat.le_refl _) (by omega)))
    · have hki : ¬ (k : Int) < (n : Int) := by omega
      have HNA : Hid (∀ q ∈ l, isName (bstr q.1) = true) := by
        have := HA.out
        rw [List.take_of_length_le (by rw [← HN.out]; omega)] at this
        exact this
      clear HA
      have HB5 := hide (HB4.out.trans (HW.out.mono HB4.out.size))
      have HD5 := hide (HD4.out.keep HW.out HD4.out.lt)
      have HC5 := hide (HC4.out.keep HW.out HC4.out.lt)
      have HR5 := hide (HR4.out.keep HW.out)
      have HN5 := hide (HNR.out.keep HW.out)
      clear HW HWI HB4 HD4 HC4 HR4 HNR hzw hz4 hz3 hz3b hz2 hz1 hk hlt
      generalize wr = w5 at *
      obtain ⟨V, hV⟩ : ∃ V : Nat → ByteArray, V = fun j => bstr (valD l (nmAt j)) := ⟨_, rfl⟩
      have HV := hide hV
      have HA0 : Hid (A6 (w5.alloc (.cells #[.string { data := #[] }, .string { data := #[] }, .string { data := #[] }, .string { data := #[] }, .string { data := #[] }, .string { data := #[] }] 93)) w5.heap.size V 0) := heap_alloc_new w5 _
      have HBA : Hid (Below w5.heap.size w5 (w5.alloc (.cells #[.string { data := #[] }, .string { data := #[] }, .string { data := #[] }, .string { data := #[] }, .string { data := #[] }, .string { data := #[] }] 93))) := below_new w5 _
      clear hV
      go_upto_region 12 with fail
      generalize (w5.alloc (.cells #[.string { data := #[] }, .string { data := #[] }, .string { data := #[] }, .string { data := #[] }, .string { data := #[] }, .string { data := #[] }] 93)) = w6 at *
      go_wp2_with fail
      go_loopw [11, 12, 13, 14] (fun i v12 v13 v14 wq => ∃ m : Nat, m ≤ 6 ∧ i = .int .i64 (m : Int) ∧ Hid (∀ j, j < m → ¬ 1 < (ones (sbytes (nmAt j)) l).2) ∧ Hid (A6 wq w5.heap.size V m) ∧ Hid (Below w5.heap.size w5 wq)) (fun i _ _ _ _ => 6 - (intOf i).toNat)
      case atStart => exact ⟨0, Nat.zero_le _, rfl, fun j hj => by omega, HA0, HBA⟩
      case round =>
        obtain ⟨m, hm, rfl, HO, HAM, HW⟩ := hrel
        have hzw := HW.out.size
        by_cases hm6 : m < 6
        · have hmi : (m : Int) < 6 := by omega
          have hcn : wr.cell? ⟨g8, m, none⟩ = some (.string (nmAt m)) := by
            have := (HN5.out.keep HW.out).cell (nmAt_is hm6).2
            rw [Nat.zero_add] at this
            exact this
          have HC1 := hide (refOne_any n cap ao l (nmAt m) wr HN.out (by omega) HBT.out.2 (HR5.out.keep HW.out))
          have HVM : Hid (V m = bstr (ones (sbytes (nmAt m)) l).1) := by show _ = _; rw [HV.out]; rfl
          have HIN := hide (nmAt_is hm6).1
          obtain ⟨O, hO⟩ : ∃ O, O = ones (sbytes (nmAt m)) l := ⟨_, rfl⟩
          rw [← hO] at HC1 HVM
          have HOO := hide hO
          clear hO
          by_cases h1 : 1 < O.2
          · have hres : oneRes O = .tuple #[.string { data := #[] }, .bool false, .int .i64 34] := if_pos h1
            rw [hres] at HC1
            have HZ : Hid (R = none) := by show _ = _; rw [HRE.out]; exact line_no l HBT.out.2 (fun h => h.1.once _ HIN.out (by rw [← HOO.out]; exact h1))
            have HD6 := hide (HD5.out.keep HW.out HD5.out.lt)
            have HB6 := hide (HB5.out.trans (HW.out.mono HB5.out.size))
            have hz6 := HD6.out.lt
            obtain ⟨d0, d1, d2, d3, d4, d5⟩ := HD6.out.cells
            obtain ⟨f0, f1, f2, f3, f4, f5⟩ := HD6.out.thaw
            clear hres h1
            go_wp2_with (go_at_call 53; refine HC1.out.mono ?_; rintro e wx ⟨rfl, hwx⟩; have hwy := hwx.symm; subst hwy; clear hwx)
            refine bodyPost_ret (d6_results2 rfl rfl rfl (HD6.out.put _ _ _ _ _ _)) rfl ?_
            refine ⟨trivial, HPP.out _ _ ?_⟩
            rw [HZ.out]
            exact ldEnd_none (HB6.out.trans (below_of_grown (putD_grown _ _ _ _ _ _ _ _) (Nat.le_refl _) (by omega)))
          · have hres : oneRes O = .tuple #[.string (bstr O.1), .bool (!O.1.isEmpty), .int .i64 0] := if_neg h1
            rw [hres, ← HVM.out] at HC1
            have HO2 : Hid (∀ j, j < m + 1 → ¬ 1 < (ones (sbytes (nmAt j)) l).2) := fun j hj => by
              by_cases hjm : j < m
              · exact HO.out j hjm
              · obtain rfl : j = m := by omega
                rw [← HOO.out]; exact h1
            have HAN : Hid (A6 (wr.setCell ⟨w5.heap.size, m, none⟩ (.string (V m))) w5.heap.size V (m + 1)) := HAM.out.set hm6
            have HWN : Hid (Below w5.heap.size w5 (wr.setCell ⟨w5.heap.size, m, none⟩ (.string (V m)))) := HW.out.trans (below_of_grown (grown_set _ _ _ _) (Nat.le_refl _) hzw)
            have hce := HAM.out.cell hm6
            rw [if_neg (by omega)] at hce
            have hfe := HAM.out.fz m
            generalize (!O.1.isEmpty) = ob at *
            clear hres h1 HVM
            generalize V m = vm at *
            go_wp2_with (go_at_call 53; refine HC1.out.mono ?_; rintro e wx ⟨rfl, hwx⟩; have hwy := hwx.symm; subst hwy; clear hwx)
            go_roundw
            case rel => exact ⟨m + 1, by omega, by go_num, HO2, HAN, HWN⟩
            case measure => simp [intOf]; omega
        · have hmi : ¬ (m : Int) < 6 := by omega
          obtain rfl : m = 6 := by omega
          have HON : Hid (∀ nm, isName nm = true → ¬ 1 < (ones (sbytes nm) l).2) := fun nm hn => by
            rcases six_names hn with rfl | rfl | rfl | rfl | rfl | rfl
            · exact HO.out 0 (by omega)
            · exact HO.out 1 (by omega)
            · exact HO.out 2 (by omega)
            · exact HO.out 3 (by omega)
            · exact HO.out 4 (by omega)
            · exact HO.out 5 (by omega)
          have HVS : Hid (∀ j, (V j).size ≤ 16384) := fun j => by
            rw [HV.out]
            show (bstr (ones (sbytes (nmAt j)) l).1).size ≤ _
            rw [bstr_size]
            rcases ones_from (sbytes (nmAt j)) l with h | ⟨q, hq, h⟩
            · rw [h]; simp
            · rw [h]; have := HSM.out q hq; omega
          have HL0 : Hid (LB w g7 w5.heap.size V wr (.string { data := #[] }) (.string { data := #[] }) (.int .i64 0) (.bool false) (.string { data := #[] }) (.slice none 0 0)) := ⟨HB5.out.trans (HW.out.mono HB5.out.size), HD5.out.keep HW.out HD5.out.lt, HC5.out.keep HW.out HC5.out.lt, HAM.out⟩
          have HG7 := hide HC5.out.lt
          obtain ⟨v0, hv0⟩ : ∃ x, x = V 0 := ⟨_, rfl⟩
          obtain ⟨v1, hv1⟩ : ∃ x, x = V 1 := ⟨_, rfl⟩
          obtain ⟨v2, hv2⟩ : ∃ x, x = V 2 := ⟨_, rfl⟩
          obtain ⟨v3, hv3⟩ : ∃ x, x = V 3 := ⟨_, rfl⟩
          obtain ⟨v4, hv4⟩ : ∃ x, x = V 4 := ⟨_, rfl⟩
          obtain ⟨v5, hv5⟩ : ∃ x, x = V 5 := ⟨_, rfl⟩
          have HCE : Hid (∀ W, A6 W w5.heap.size V 6 → W.cell? ⟨w5.heap.size, 0, none⟩ = some (.string v0) ∧ W.cell? ⟨w5.heap.size, 1, none⟩ = some (.string v1) ∧ W.cell? ⟨w5.heap.size, 2, none⟩ = some (.string v2) ∧ W.cell? ⟨w5.heap.size, 3, none⟩ = some (.string v3) ∧ W.cell? ⟨w5.heap.size, 4, none⟩ = some (.string v4) ∧ W.cell? ⟨w5.heap.size, 5, none⟩ = some (.string v5)) := fun W h => by
            rw [hv0, hv1, hv2, hv3, hv4, hv5]
            exact ⟨h.cell (by omega), h.cell (by omega), h.cell (by omega), h.cell (by omega), h.cell (by omega), h.cell (by omega)⟩
          have HBU : Hid (build6 (valD l) = ⟨v0, v1, ((grD v2.data.toList : Nat) : Int), decide (v3 = sYes), v4, (scoOut v5.data.toList).1⟩) := by show _ = _; rw [hv0, hv1, hv2, hv3, hv4, hv5, HV.out]; rfl
          have HPG : Hid (valD l sPing = [] ↔ v3.size = 0) := by
            show _ ↔ _
            rw [hv3, HV.out]
            show valD l sPing = [] ↔ (bstr (valD l sPing)).size = 0
            rw [bstr_size]; exact List.length_eq_zero_iff.symm
          have HPY : Hid (bstr (valD l sPing) = v3) := by show _ = _; rw [hv3, HV.out]; rfl
          have HSY : Hid (bstr (valD l sScope) = v5) := by show _ = _; rw [hv5, HV.out]; rfl
          have z0 : v0.size ≤ 16384 := by rw [hv0]; exact HVS.out 0
          have z1 : v1.size ≤ 16384 := by rw [hv1]; exact HVS.out 1
          have z2 : v2.size ≤ 16384 := by rw [hv2]; exact HVS.out 2
          have z4 : v4.size ≤ 16384 := by rw [hv4]; exact HVS.out 4
          have z5 : v5.size ≤ 16384 := by rw [hv5]; exact HVS.out 5
          clear hv0 hv1 hv2 hv3 hv4 hv5 HVS HO HAM HW HB5 HD5 HC5 HR5 HN5 HA0 HBA hzw hm hm6
          generalize wr = wa at *
          obtain ⟨b0, b1, b2, b3, b4, b5⟩ := HCE.out wa HL0.out.a
          obtain ⟨d0, d1, d2, d3, d4, d5⟩ := HL0.out.c.cells
          obtain ⟨f0, f1, f2, f3, f4, f5⟩ := HL0.out.c.thaw
          have hg1 : ¬ g7 = w5.heap.size := by have := HG7.out; omega
          have hg2 : ¬ w5.heap.size = g7 := by have := HG7.out; omega
          have HL1 := hide ((HL0.out.set HZ7.out HG7.out 0 (.string v0) rfl).set HZ7.out HG7.out 1 (.string v1) rfl)
          go_upto_region 21 with fail
          generalize ((wa.setCell ⟨g7, 0, none⟩ (.string v0)).setCell ⟨g7, 1, none⟩ (.string v1)) = wb at *
          clear b0 b1 b2 b3 b4 b5 d0 d1 d2 d3 d4 d5 f0 f1 f2 f3 f4 f5 HL0
          obtain ⟨b0, b1, b2, b3, b4, b5⟩ := HCE.out wb HL1.out.a
          obtain ⟨gr, hgr⟩ : ∃ gr : Nat, gr = grD v2.data.toList := ⟨_, rfl⟩
          have HGC := hide (rgrants_any v2 wb (by omega))
          rw [← hgr] at HGC HBU
          clear hgr
          go_wp2_with fail
          refine HGC.out.mono ?_
          rintro e wc ⟨rfl, hbc⟩
          have HL2 := hide (HL1.out.keep hbc)
          obtain ⟨yb, hyb⟩ : ∃ yb, yb = decide (v3 = sYes) := ⟨_, rfl⟩
          have hyq : (v3.toList == [121, 101, 115]) = yb := by rw [hyb, ← str_eq v3 sYes, Lib.toList_data sYes]; rfl
          have HYB := hide hyb
          rw [← hyb] at HBU
          clear hbc b0 b1 b2 b3 b4 b5 hyb HGC HL1
          obtain ⟨b0, b1, b2, b3, b4, b5⟩ := HCE.out wc HL2.out.a
          obtain ⟨d0, d1, d2, d3, d4, d5⟩ := HL2.out.c.cells
          obtain ⟨f0, f1, f2, f3, f4, f5⟩ := HL2.out.c.thaw
          have HL3 := hide (((HL2.out.set HZ7.out HG7.out 2 (.int .i64 (gr : Int)) rfl).set HZ7.out HG7.out 3 (.bool yb) rfl).set HZ7.out HG7.out 4 (.string v4) rfl)
          go_upto_region 24 with fail
          generalize (((wc.setCell ⟨g7, 2, none⟩ (.int .i64 (gr : Int))).setCell ⟨g7, 3, none⟩ (.bool yb)).setCell ⟨g7, 4, none⟩ (.string v4)) = wd at *
          clear b0 b1 b2 b3 b4 b5 d0 d1 d2 d3 d4 d5 f0 f1 f2 f3 f4 f5 HL2
          obtain ⟨b0, b1, b2, b3, b4, b5⟩ := HCE.out wd HL3.out.a
          obtain ⟨sl, se, hO⟩ : ∃ sl se, scoOut v5.data.toList = (sl, se) := ⟨_, _, rfl⟩
          obtain ⟨sn, hsn⟩ : ∃ sn, sn = sl.length := ⟨_, rfl⟩
          have hsm : ScSmall sl := by have := scSmall_out v5.data.toList; rw [hO] at this; exact this
          have HSM2 := hide hsm
          have HSC := hide (rscopes_c v5 sl se sn wd hO hsn (by omega))
          rw [hO] at HBU
          have HSE : Hid ((scoOut (bstr (valD l sScope)).data.toList).2 = se) := by show _ = _; rw [HSY.out, hO]
          have HSN := hide hsn
          clear hO hsn hsm
          go_wp2_with fail
          refine HSC.out.mono ?_
          rintro e we ⟨fo, fc, rfl, hh⟩
          have HOW := hide hh.out.1
          have HL4 := hide (HL3.out.keep hh.out.2)
          have HZD := hide HL3.out.c.lt
          clear hh b0 b1 b2 b3 b4 b5 HSC HL3
          obtain ⟨d0, d1, d2, d3, d4, d5⟩ := HL4.out.c.cells
          obtain ⟨f0, f1, f2, f3, f4, f5⟩ := HL4.out.c.thaw
          have HL5 := hide (HL4.out.set HZ7.out HG7.out 5 (.slice fo sn fc) rfl)
          have HOF : Hid (SOwn (we.setCell ⟨g7, 5, none⟩ (.slice fo sn fc)) wd.heap.size (.slice fo sn fc) sl) := HOW.out.grown (grown_set _ _ _ _) HZD.out
          go_upto_region 26 with fail
          generalize we.setCell ⟨g7, 5, none⟩ (.slice fo sn fc) = wf at *
          clear d0 d1 d2 d3 d4 d5 f0 f1 f2 f3 f4 f5 HL4 HOW
          have HSAT := hide (sat_own HSN.out HOF.out).1
          have HFAR : Hid (∀ a, fo = some a → w.heap.size ≤ a.block) := fun a ha => by
            have h1 := (sat_own HSN.out HOF.out).2 a ha
            have h2 := HZD.out
            have h3 := HZ7.out
            omega
          obtain ⟨b0, b1, b2, b3, b4, b5⟩ := HCE.out wf HL5.out.a
          obtain ⟨d0, d1, d2, d3, d4, d5⟩ := HL5.out.c.cells
          have hsn32 : sn ≤ 32 := by rw [HSN.out]; exact HSM2.out.1
          have HCK := hide (rcheck_any v0 v1 v4 (gr : Int) yb sl fo sn fc wf HSAT.out (by omega) (join_small HSM2.out) (by omega) (by omega) (by omega))
          by_cases hse : se = 0
          rotate_left
          · have hei : ((se : Int) != 0) = true := by simp; omega
            have HZ : Hid (R = none) := by show _ = _; rw [HRE.out]; exact line_no l HBT.out.2 (fun h => hse (by rw [← HSE.out]; exact h.1.scope))
            clear hse
            obtain ⟨t0, t1, t2, t3, t4, t5⟩ := HL5.out.t.cells
            obtain ⟨s0, s1, s2, s3, s4, s5⟩ := HL5.out.t.thaw
            have hzt := HL5.out.t.lt
            go_wp2_with fail
            refine bodyPost_ret (d6_results2 rfl rfl rfl (HL5.out.t.put _ _ _ _ _ _)) rfl ?_
            refine ⟨trivial, HPP.out _ _ ?_⟩
            rw [HZ.out]
            exact ldEnd_none (HL5.out.bel.trans (below_of_grown (putD_grown _ _ _ _ _ _ _ _) (Nat.le_refl _) (by omega)))
          subst hse
          by_cases h3 : v3.size = 0
          · have hpe : (v3.toList == ([] : List UInt8)) = true := by rw [empty_of h3, Lib.toList_data]; rfl
            have hpn : (v3.toList != ([] : List UInt8)) = false := by rw [bne, hpe]; rfl
            have HDL : Hid (DLine l) := ⟨HNA.out, HON.out, .inl (HPG.out.2 h3), HSE.out⟩
            clear h3
            go_wp2_with fail
            refine HCK.out.mono ?_
            rintro e wg ⟨rfl, hbg⟩
            have HL6 := hide (HL5.out.keep hbg)
            have HOG := hide (HSAT.out.keep hbg)
            clear hbg
            by_cases hck : checkB ⟨v0, v1, (gr : Int), yb, v4, sl⟩ = true
            rotate_left
            · have hE : errIf (checkB ⟨v0, v1, (gr : Int), yb, v4, sl⟩) 111 = 111 := if_neg hck
              have HZ : Hid (R = none) := by show _ = _; rw [HRE.out]; exact line_no l HBT.out.2 (fun h => hck (by rw [← HBU.out]; exact h.2))
              rw [hE]
              clear hE hck
              obtain ⟨t0, t1, t2, t3, t4, t5⟩ := HL6.out.t.cells
              obtain ⟨s0, s1, s2, s3, s4, s5⟩ := HL6.out.t.thaw
              have hzt := HL6.out.t.lt
              go_wp2_with fail
              refine bodyPost_ret (d6_results2 rfl rfl rfl (HL6.out.t.put _ _ _ _ _ _)) rfl ?_
              refine ⟨trivial, HPP.out _ _ ?_⟩
              rw [HZ.out]
              exact ldEnd_none (HL6.out.bel.trans (below_of_grown (putD_grown _ _ _ _ _ _ _ _) (Nat.le_refl _) (by omega)))
            have hE : errIf (checkB ⟨v0, v1, (gr : Int), yb, v4, sl⟩) 111 = 0 := if_pos hck
            have HZ : Hid (R = some ⟨v0, v1, (gr : Int), yb, v4, sl⟩) := by
              show _ = _
              rw [HRE.out]
              exact (line_eq l HBT.out.2 _).2 ⟨HDL.out, by rw [HBU.out]; exact hck, HBU.out.symm⟩
            rw [hE]
            clear hE hck
            obtain ⟨t0, t1, t2, t3, t4, t5⟩ := HL6.out.t.cells
            obtain ⟨s0, s1, s2, s3, s4, s5⟩ := HL6.out.t.thaw
            obtain ⟨d0, d1, d2, d3, d4, d5⟩ := HL6.out.c.cells
            have hzt := HL6.out.t.lt
            go_wp2_with fail
            refine bodyPost_ret (d6_results2 rfl rfl rfl (HL6.out.t.put (.string v0) (.string v1) (.int .i64 (gr : Int)) (.bool yb) (.string v4) (.slice fo sn fc))) rfl ?_
            refine ⟨trivial, HPP.out _ _ ?_⟩
            rw [HZ.out]
            exact ⟨_, fo, sn, fc, rfl, rfl, sat_put6 HOG.out HL6.out.t _ _ _ _ _ _, HFAR.out, HL6.out.bel.trans (below_of_grown (putD_grown _ _ _ _ _ _ _ _) (Nat.le_refl _) (by omega))⟩
          · have hpe : (v3.toList == ([] : List UInt8)) = false := ne_of_size h3
            have hpn : (v3.toList != ([] : List UInt8)) = true := by rw [bne, hpe]; rfl
            by_cases hy : yb = true
            · have HDL : Hid (DLine l) := ⟨HNA.out, HON.out, .inr (by rw [HPY.out]; exact of_decide_eq_true (HYB.out.symm.trans hy)), HSE.out⟩
              have hyn : (v3.toList != [121, 101, 115]) = false := by rw [bne, hyq, hy]; rfl
              subst hy
              clear h3
              go_wp2_with fail
              refine HCK.out.mono ?_
              rintro e wg ⟨rfl, hbg⟩
              have HL6 := hide (HL5.out.keep hbg)
              have HOG := hide (HSAT.out.keep hbg)
              clear hbg
              by_cases hck : checkB ⟨v0, v1, (gr : Int), true, v4, sl⟩ = true
              rotate_left
              · have hE : errIf (checkB ⟨v0, v1, (gr : Int), true, v4, sl⟩) 111 = 111 := if_neg hck
                have HZ : Hid (R = none) := by show _ = _; rw [HRE.out]; exact line_no l HBT.out.2 (fun h => hck (by rw [← HBU.out]; exact h.2))
                rw [hE]
                clear hE hck
                obtain ⟨t0, t1, t2, t3, t4, t5⟩ := HL6.out.t.cells
                obtain ⟨s0, s1, s2, s3, s4, s5⟩ := HL6.out.t.thaw
                have hzt := HL6.out.t.lt
                go_wp2_with fail
                refine bodyPost_ret (d6_results2 rfl rfl rfl (HL6.out.t.put _ _ _ _ _ _)) rfl ?_
                refine ⟨trivial, HPP.out _ _ ?_⟩
                rw [HZ.out]
                exact ldEnd_none (HL6.out.bel.trans (below_of_grown (putD_grown _ _ _ _ _ _ _ _) (Nat.le_refl _) (by omega)))
              have hE : errIf (checkB ⟨v0, v1, (gr : Int), true, v4, sl⟩) 111 = 0 := if_pos hck
              have HZ : Hid (R = some ⟨v0, v1, (gr : Int), true, v4, sl⟩) := by
                show _ = _
                rw [HRE.out]
                exact (line_eq l HBT.out.2 _).2 ⟨HDL.out, by rw [HBU.out]; exact hck, HBU.out.symm⟩
              rw [hE]
              clear hE hck
              obtain ⟨t0, t1, t2, t3, t4, t5⟩ := HL6.out.t.cells
              obtain ⟨s0, s1, s2, s3, s4, s5⟩ := HL6.out.t.thaw
              obtain ⟨d0, d1, d2, d3, d4, d5⟩ := HL6.out.c.cells
              have hzt := HL6.out.t.lt
              go_wp2_with fail
              refine bodyPost_ret (d6_results2 rfl rfl rfl (HL6.out.t.put (.string v0) (.string v1) (.int .i64 (gr : Int)) (.bool true) (.string v4) (.slice fo sn fc))) rfl ?_
              refine ⟨trivial, HPP.out _ _ ?_⟩
              rw [HZ.out]
              exact ⟨_, fo, sn, fc, rfl, rfl, sat_put6 HOG.out HL6.out.t _ _ _ _ _ _, HFAR.out, HL6.out.bel.trans (below_of_grown (putD_grown _ _ _ _ _ _ _ _) (Nat.le_refl _) (by omega))⟩
            · have hyf : yb = false := by cases yb with | true => exact absurd rfl hy | false => rfl
              have hyn : (v3.toList != [121, 101, 115]) = true := by rw [bne, hyq, hyf]; rfl
              have HZ : Hid (R = none) := by
                show _ = _
                rw [HRE.out]
                refine line_no l HBT.out.2 (fun h => ?_)
                rcases h.1.ping with h4 | h4
                · exact h3 (HPG.out.1 h4)
                · rw [HPY.out] at h4
                  exact hy (HYB.out.trans (decide_eq_true h4))
              subst hyf
              clear h3 hy
              obtain ⟨t0, t1, t2, t3, t4, t5⟩ := HL5.out.t.cells
              obtain ⟨s0, s1, s2, s3, s4, s5⟩ := HL5.out.t.thaw
              have hzt := HL5.out.t.lt
              go_wp2_with fail
              refine bodyPost_ret (d6_results2 rfl rfl rfl (HL5.out.t.put _ _ _ _ _ _)) rfl ?_
              refine ⟨trivial, HPP.out _ _ ?_⟩
              rw [HZ.out]
              exact ldEnd_none (HL5.out.bel.trans (below_of_grown (putD_grown _ _ _ _ _ _ _ _) (Nat.le_refl _) (by omega)))
end Go.Proofs.YtjehbdekipmllaaGreatDoor
