/- The names that an object has had, as the program keeps them; the contract of the reader's name. -/
import Derived.Test.YtlebockgdonceaaGreatDoorKQuot
import Derived.Maps.OwnSet
import Derived.Maps.OwnOps
namespace Go.Proofs.YtlebockgdonceaaGreatDoor
open Go.RowKit Go.Maps

theorem lawS : Keyed Tryz.prog 9 := string_keyed Tryz.underlying9
theorem zeroU (w : World) : (zeroValue 111).run Tryz.prog w = .ok (.agg #[]) w := by kernel_rfl
def keyL (n : By) : Lit := .string (bstr n).data.toList
/-- Block M is a map whose keys are these names. -/
def HadIs (w : World) (M : Nat) (ns : List By) : Prop := w.ownsMap (H := Unit) Tryz.prog 9 unitElem M ns.length (setOf (.agg []) (ns.map keyL))
theorem keyL_key (n : By) : WideAt.IsKeyLit (keyL n) := trivial
theorem had_has {ns : List By} {n : By} (hns : ∀ x ∈ ns, ∀ c ∈ x, c < 256) (hn : ∀ c ∈ n, c < 256) : Maps.has (setOf (H := Unit) (.agg []) (ns.map keyL)) (keyL n) = ns.contains n := by
  rw [has_setOf _ _ _ (fun x hx => by obtain ⟨y, _, rfl⟩ := List.mem_map.1 hx; exact keyL_key y)]
  induction ns with
  | nil => rfl
  | cons m ns ih =>
    rw [List.map_cons, List.any_cons, ih (fun x hx => hns x (by simp [hx])), List.contains_cons]
    congr 1
    show ((bstr m).data.toList == (bstr n).data.toList) = (n == m)
    have e := bstr_beq (hns m (by simp)) hn
    rw [Lib.toList_data, Lib.toList_data] at e
    rw [e, Bool.eq_iff_iff, decide_eq_true_eq, beq_iff_eq]
    exact ⟨fun h => h.symm, fun h => h.symm⟩
/-- Of what was there nothing has turned but two blocks. -/
structure But2 (g m : Nat) (w w' : World) : Prop where
  os : w'.os = w.os
  tape : w'.tape = w.tape
  output : w'.output = w.output
  size : w.heap.size ≤ w'.heap.size
  block : ∀ k, k < w.heap.size → k ≠ g → k ≠ m → w'.heap[k]? = w.heap[k]?
theorem But2.refl (g m : Nat) (w : World) : But2 g m w w := ⟨rfl, rfl, rfl, Nat.le_refl _, fun _ _ _ _ => rfl⟩
theorem But2.of {g m : Nat} {w w' : World} (h : But g w w') : But2 g m w w' := ⟨h.os, h.tape, h.output, h.size, fun k hk hn _ => h.block k hk hn⟩
theorem But2.trans {g m : Nat} {a b c : World} (h : But2 g m a b) (k : But2 g m b c) : But2 g m a c :=
  ⟨k.os.trans h.os, k.tape.trans h.tape, k.output.trans h.output, Nat.le_trans h.size k.size, fun i hi hn hm => (k.block i (Nat.lt_of_lt_of_le hi h.size) hn hm).trans (h.block i hi hn hm)⟩
theorem But2.grown {g m : Nat} {w w' : World} (h : w.grownBy w' (some m)) : But2 g m w w' := ⟨h.os, h.tape, h.output, h.size, fun k hk _ hm => h.block k hk (fun e => hm (by injection e))⟩
theorem HadIs.but {w w' : World} {R M : Nat} {ns : List By} (h : HadIs w M ns) (hb : But R w w') (hM : M ≠ R) : HadIs w' M ns := by
  have hlt := World.ownsMap.lt h
  obtain ⟨es, clock, hm, r⟩ := h
  exact ⟨es, clock, (hb.block M hlt hM).trans hm, r⟩
theorem HadIs.lt {w : World} {M : Nat} {ns : List By} (h : HadIs w M ns) : M < w.heap.size := World.ownsMap.lt h
theorem nameAt_quot (s : By) (had : List By) (p : Nat) : nameAt s had p = match quotAt s p with
    | .error e q => .error e q
    | .ok nm q => if had.contains nm = true then .error 45 p
      else if skip s q < s.length then
        if bt s (skip s q) = 58 then .ok nm (skip s (skip s q + 1)) else .error 40 (skip s q)
      else .error 3 s.length := by
  unfold nameAt quotAt
  split
  · split
    · rfl
    · rfl
  · rfl
theorem has58 (c : Nat) : hasB (sbytes ⟨#[58]⟩) c = decide (c = 58) := by rw [Bool.eq_iff_iff]; simp [hasB, sbytes]
/-- What name answers. -/
def Nm (R M : Nat) (s : ByteArray) (e q : Nat) (w : World) (ns : List By) : Out By → Ending → World → Prop
  | .ok nm p', ε, w' => ε = .returned (.tuple #[.string (bstr nm), .bool true]) ∧ (∀ x ∈ nm, x < 256) ∧ RB w' R s p' e q ∧ But2 R M w w' ∧ HadIs w' M (ns ++ [nm])
  | .error e' q', ε, w' => (∃ t p', ε = .returned (.tuple #[.string t, .bool false]) ∧ RB w' R s p' e' q') ∧ But2 R M w w'
set_option maxHeartbeats 4000000 in
set_option maxRecDepth 100000 in
theorem name_any (R M : Nat) (s : ByteArray) (p e q : Nat) (w : World) (ns : List By) (h : RB w R s p e q) (hp : p ≤ s.size) (hs : s.size ≤ 16384) (hR : 2 ≤ R) (hT : Tabs w) (hM : HadIs w M ns) (hMR : M ≠ R) (hns : ∀ x ∈ ns, ∀ c ∈ x, c < 256) (hl : ns.length ≤ 16384) :
    Calls Tryz.prog 48 #[.pointer (some ⟨R, 0, none⟩), .map (some M)] w fun ε w' => Nm R M s e q w ns (nameAt (sbytes s) ns p) ε w' := by
  have HL := hide (sbytes_length s)
  have HNQ := hide (nameAt_quot (sbytes s) ns p)
  have c1 := h.c1
  have HM := hide hM
  have HNS := hide hns
  have HQ := hide (quoted_any R s p e q w h hp hs hR hT)
  clear h hT hM hns
  go_enter Tryz.func48, Tryz.ntmps48
  go_wp2_with fail
  refine HQ.out.mono ?_
  intro ε w1 h1
  cases ho : quotAt (sbytes s) p with
  | error e1 q1 =>
    rw [ho] at h1 HNQ
    obtain ⟨⟨v, p', rfl, ⟨t, rfl⟩, h2⟩, hb1⟩ := h1
    have H2 := hide h2
    have HB1 := hide hb1
    clear h2 hb1 HQ ho
    go_wp2_with fail
    go_ret2
    rw [HNQ.out]
    exact ⟨⟨_, _, rfl, H2.out⟩, But2.of HB1.out⟩
  | ok nm q1 =>
    rw [ho] at h1 HNQ
    simp only at HNQ
    have hqb : q1 ≤ s.size := by
      unfold quotAt at ho
      split at ho
      · split at ho
        · have := (textAt_bounds ho).2; rw [HL.out] at this; exact this
        · cases ho
      · cases ho
    obtain ⟨⟨v, rfl, _, rfl, hnb, hnl⟩, h2, hb1⟩ := h1
    have H2 := hide h2
    have HB1 := hide hb1
    have HM1 := hide (HM.out.but hb1 hMR)
    have HNB := hide hnb
    have HKEY : Hid (keyOf Tryz.prog 9 (.string (bstr nm)) = some (keyL nm)) := Go.WideMaps.keyOf_string_mk Tryz.underlying9 (by rw [bstr_size]; unfold maxLen; omega)
    have HHAS := hide (had_has HNS.out hnb)
    clear h2 hb1 HQ ho hnb HM
    cases hc : ns.contains nm with
    | true =>
      have hh : Maps.has (setOf (H := Unit) (.agg []) (ns.map keyL)) (keyL nm) = true := HHAS.out.trans hc
      rw [hc, if_pos rfl] at HNQ
      clear hc
      have H3 := hide (H2.out.keep (below_new w1 (.cells #[] 111)))
      go_wp2_with (first | (at_lookup; refine wpList_lookup_own_unit (H := Unit) _ rfl _ _ 87 rfl 9 111 lawS Tryz.underlying87 (zeroU _) M ns.length _ rfl HM1.out _ _ rfl HKEY.out ?_))
      generalize hwn : w1.alloc (.cells #[] 111) = w2 at *
      have HB2 : Hid (But R w w2) := by rw [← hwn]; exact HB1.out.trans (But.alloc _ _ _)
      clear hwn
      refine (fail_any R s q1 e q 45 p w2 H3.out).mono ?_
      rintro ε w3 ⟨rfl, h3, hb3⟩
      go_wp2_with fail
      go_ret2
      rw [HNQ.out]
      exact ⟨⟨_, _, rfl, h3⟩, But2.of (HB2.out.trans hb3)⟩
    | false =>
      have hh : Maps.has (setOf (H := Unit) (.agg []) (ns.map keyL)) (keyL nm) = false := HHAS.out.trans hc
      rw [hc, if_neg (by decide), HL.out] at HNQ
      clear hc
      have hm1 := skip_ge (sbytes s) q1
      have hm2 := skip_le (s := sbytes s) (p := q1) (by rw [HL.out]; exact hqb)
      rw [HL.out] at hm2
      have hnl2 : ns.length < maxLen := by unfold maxLen; omega
      go_wp2_with (first | (at_lookup; refine wpList_lookup_own_unit (H := Unit) _ rfl _ _ 87 rfl 9 111 lawS Tryz.underlying87 (zeroU _) M ns.length _ rfl HM1.out _ _ rfl HKEY.out ?_) | (at_mapUpdate; refine wpList_mapUpdate_own (H := Unit) _ rfl _ _ _ 87 rfl 9 111 lawS Tryz.underlying87 (unitElem (H := Unit)) M ns.length _ rfl (HM1.out.alloc _) hnl2 _ _ _ rfl rfl HKEY.out _ [] unitElem_mk ?_; intro w2 hown2 hgrow2))
      have HM2 : Hid (HadIs w2 M (ns ++ [nm])) := by
        show World.ownsMap _ _ _ _ _ _ _
        rw [List.length_append, List.map_append, List.map_singleton, setOf_snoc]
        exact hown2
      have HB2 : Hid (But2 R M w w2) := (But2.of (HB1.out.trans (But.alloc _ _ _))).trans (But2.grown hgrow2)
      have H3 : Hid (RB w2 R s q1 e q) := by
        have h5 := H2.out.keep (below_new w1 (.cells #[] 111))
        exact (hgrow2.block R (Bl.lt h5) (fun e => hMR (by injection e with e; exact e.symm))).trans h5
      clear hown2 hgrow2 hh HHAS HM1 HB1 H2
      refine (blanks_any R s q1 e q w2 H3.out hqb hs).mono ?_
      rintro ε w3 ⟨rfl, h4, hb4⟩
      generalize skip (sbytes s) q1 = m at *
      have H4 := hide h4
      have HB4 := hide (HB2.out.trans (But2.of hb4))
      have HM4 := hide (HM2.out.but hb4 hMR)
      clear h4 hb4 H3 HB2 HM2
      by_cases hms : m < s.size
      · rw [if_pos hms] at HNQ
        by_cases h58 : bt (sbytes s) m = 58
        · rw [if_pos h58] at HNQ
          have hin : hasB (sbytes ⟨#[58]⟩) (bt (sbytes s) m) = true := by rw [has58]; simpa using h58
          clear h58
          go_wp2_with fail
          refine (take_in R s _ m e q w3 H4.out hms hs hin).mono ?_
          rintro ε w4 ⟨rfl, h5, hb5⟩
          have H5 := hide h5
          have HB5 := hide (HB4.out.trans (But2.of hb5))
          have HM5 := hide (HM4.out.but hb5 hMR)
          clear h5 hb5 hin
          go_wp2_with fail
          refine (blanks_any R s (m + 1) e q w4 H5.out (by omega) hs).mono ?_
          rintro ε w5 ⟨rfl, h6, hb6⟩
          have H6 := hide h6
          have HB6 := hide (HB5.out.trans (But2.of hb6))
          have HM6 := hide (HM5.out.but hb6 hMR)
          clear h6 hb6
          go_wp2_with fail
          go_ret2
          rw [HNQ.out]
          exact ⟨rfl, HNB.out, H6.out, HB6.out, HM6.out⟩
        · rw [if_neg h58] at HNQ
          have hin : hasB (sbytes ⟨#[58]⟩) (bt (sbytes s) m) = false := by rw [has58]; simpa using h58
          clear h58
          go_wp2_with fail
          refine (take_out R s _ m e q w3 H4.out hms hin).mono ?_
          rintro ε w4 ⟨rfl, h5, hb5⟩
          have H5 := hide h5
          have HB5 := hide (HB4.out.trans (But2.of hb5))
          clear h5 hb5 hin
          go_wp2_with fail
          refine (blanks_any R s m 40 m w4 H5.out (by omega) hs).mono ?_
          rintro ε w5 ⟨rfl, h6, hb6⟩
          have H6 := hide h6
          have HB6 := hide (HB5.out.trans (But2.of hb6))
          clear h6 hb6
          go_wp2_with fail
          go_ret2
          rw [HNQ.out]
          exact ⟨⟨_, _, rfl, H6.out⟩, HB6.out⟩
      · rw [if_neg hms] at HNQ
        have HPE : Hid (m = s.size) := by show _ = _; omega
        go_wp2_with fail
        refine (take_end R s _ m e q w3 H4.out HPE.out).mono ?_
        rintro ε w4 ⟨rfl, h5, hb5⟩
        have H5 := hide h5
        have HB5 := hide (HB4.out.trans (But2.of hb5))
        clear h5 hb5
        go_wp2_with fail
        refine (blanks_any R s m 3 m w4 H5.out (by omega) hs).mono ?_
        rintro ε w5 ⟨rfl, h6, hb6⟩
        have H6 := hide h6
        have HB6 := hide (HB5.out.trans (But2.of hb6))
        clear h6 hb6
        go_wp2_with fail
        go_ret2
        rw [HNQ.out, ← HPE.out]
        exact ⟨⟨_, _, rfl, H6.out⟩, HB6.out⟩
end Go.Proofs.YtlebockgdonceaaGreatDoor
