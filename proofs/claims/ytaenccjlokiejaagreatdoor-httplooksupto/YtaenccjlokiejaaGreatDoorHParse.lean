/- A request, read by the program. -/
import Derived.Test.YtaenccjlokiejaaGreatDoorHWord
import Derived.Test.YtaenccjlokiejaaGreatDoorHRest
namespace Go.Proofs.YtaenccjlokiejaaGreatDoor
open Go.RowKit Go.Shelf

theorem prefix_len {a l : U} (h : a.isPrefixOf l = true) : a.length ≤ l.length := (List.isPrefixOf_iff_prefix.1 h).length_le
theorem method_lenH {l : U} (h : methodB l = true) : l.length ≤ 16 := by
  unfold methodB at h
  simp only [Bool.and_eq_true, decide_eq_true_eq] at h
  exact h.1.2
theorem target_lenH {l : U} (h : targetB l = true) : l.length ≤ 1024 := by
  unfold targetB at h
  simp only [Bool.and_eq_true, decide_eq_true_eq] at h
  exact h.1.1
theorem reqLine_ok {raw m t : U} {k : Nat} (h : reqLineR raw = .ok (m, t, k)) : methodB m = true ∧ targetB t = true ∧ k ≤ raw.length := by
  unfold reqLineR at h
  split at h
  · split at h
    · split at h
      · rename_i h1 h2 h3
        have hp := prefix_len h3
        rw [List.length_drop] at hp
        have h10 : verL.length = 10 := rfl
        injection h with h
        injection h with e1 e2
        injection e2 with e2 e3
        subst e1; subst e2; subst e3
        exact ⟨h1.2, h2.2, by omega⟩
      · cases h
    · cases h
  · cases h
theorem reqLine_err {raw : U} {e p : Nat} (h : reqLineR raw = .error (e, p)) : e ≠ 0 := by
  unfold reqLineR at h
  split at h
  · split at h
    · split at h
      · cases h
      · cases h; decide
    · cases h; decide
  · cases h; decide
def pqV (v : Value) : Except (Nat × Nat) Rq → Value
  | .error (e, p) => .tuple #[.agg #[.string { data := #[] }, .string { data := #[] }, .slice none 0 0, .string { data := #[] }], .int .i64 (e : Int), .int .i64 (p : Int)]
  | .ok q => .tuple #[.agg #[.string (str q.m), .string (str q.t), v, .string (str q.b)], .int .i64 0, .int .i64 0]
def PqPost (w : World) (R : Except (Nat × Nat) Rq) (e : Ending) (w' : World) : Prop :=
  ∃ v, e = .returned (pqV v R) ∧ (match R with | .error x => x.1 ≠ 0 | .ok q => FOwn 78 w' w.heap.size v q.fs ∧ q.fs.length ≤ 64) ∧ Below w.heap.size w w'
/-- A block of four cells. -/
def RqB (w : World) (b : Nat) (x y z u : Value) : Prop := w.heap[b]? = some (.cells #[x, y, z, u] 27 (0, 0))
theorem RqB.cells {w : World} {b : Nat} {x y z u : Value} (h : RqB w b x y z u) : w.cell? ⟨b, 0, none⟩ = some x ∧ w.cell? ⟨b, 1, none⟩ = some y ∧ w.cell? ⟨b, 2, none⟩ = some z ∧ w.cell? ⟨b, 3, none⟩ = some u := by
  refine ⟨?_, ?_, ?_, ?_⟩ <;> rw [Lib.cell_of_heap h] <;> rfl
theorem RqB.frozen {w : World} {b : Nat} {x y z u : Value} (h : RqB w b x y z u) (i : Nat) : w.frozen? ⟨b, i, none⟩ = false := Lib.frozen_of_heap h i
theorem RqB.keep {w w' : World} {b : Nat} {x y z u : Value} (h : RqB w b x y z u) (hb : Below w.heap.size w w') : RqB w' b x y z u := (hb.block b (Array.getElem?_eq_some_iff.1 h).1).trans h
/-- All four cells written. -/
def put4 (w : World) (b : Nat) (x y z u : Value) : World := (((w.setCell ⟨b, 0, none⟩ x).setCell ⟨b, 1, none⟩ y).setCell ⟨b, 2, none⟩ z).setCell ⟨b, 3, none⟩ u
theorem put4_is {w : World} {b : Nat} {x y z u : Value} (h : RqB w b x y z u) (x' y' z' u' : Value) : RqB (put4 w b x' y' z' u') b x' y' z' u' := by
  have s0 : RqB (w.setCell ⟨b, 0, none⟩ x') b x' y z u := by show _ = _; rw [setCell_eq_setRow w b 0 _ _ _ _ h, setRow_heap w b _ _ _ _ h]; rfl
  have s1 : RqB ((w.setCell ⟨b, 0, none⟩ x').setCell ⟨b, 1, none⟩ y') b x' y' z u := by show _ = _; rw [setCell_eq_setRow _ b 1 _ _ _ _ s0, setRow_heap _ b _ _ _ _ s0]; rfl
  have s2 : RqB (((w.setCell ⟨b, 0, none⟩ x').setCell ⟨b, 1, none⟩ y').setCell ⟨b, 2, none⟩ z') b x' y' z' u := by show _ = _; rw [setCell_eq_setRow _ b 2 _ _ _ _ s1, setRow_heap _ b _ _ _ _ s1]; rfl
  show _ = _
  unfold put4
  rw [setCell_eq_setRow _ b 3 _ _ _ _ s2, setRow_heap _ b _ _ _ _ s2]; rfl
theorem put4_below {n : Nat} {w w' : World} (h : Below n w w') {b : Nat} (hb : n ≤ b) (x y z u : Value) : Below n w (put4 w' b x y z u) := (((h.setCell hb _).setCell hb _).setCell hb _).setCell hb _
theorem put4_other {w : World} {b k : Nat} (hk : k ≠ b) (x y z u : Value) : (put4 w b x y z u).heap[k]? = w.heap[k]? :=
  (Below.heap_setCell _ ⟨b, 3, none⟩ _ k hk).trans ((Below.heap_setCell _ ⟨b, 2, none⟩ _ k hk).trans ((Below.heap_setCell _ ⟨b, 1, none⟩ _ k hk).trans (Below.heap_setCell _ ⟨b, 0, none⟩ _ k hk)))
set_option maxHeartbeats 2000000 in
set_option maxRecDepth 100000 in
theorem parseRequest_any (raw : U) (w : World) (hl : raw.length ≤ 9223372036854775807) (E : Env w) :
    Calls Tryz.prog 14 #[.string (str raw)] w fun e w' => PqPost w (parseReqR raw) e w' := by
  obtain ⟨R, hR⟩ : ∃ R, R = parseReqR raw := ⟨_, rfl⟩
  rw [← hR]
  have HR : Hid (R = if 32768 < raw.length then .error (1, 0) else
    match reqLineR raw with
    | .error e => .error e
    | .ok (m, t, k) => match restR raw k with
      | .error e => .error e
      | .ok (fs, b) => .ok ⟨m, t, fs, b⟩) := hR
  have hz := str_size raw
  obtain ⟨N, hN⟩ : ∃ N, N = raw.length := ⟨_, rfl⟩
  have HN := hide hN
  rw [← hN] at hz hl HR
  have HE := hide E
  have HLI := hide (fun (h : raw.length ≤ 32768) W => readRequestLine_any raw W h)
  have HRE := hide (fun k W h1 h2 EE => readRest_any raw k W h1 h2 EE)
  rw [← hN] at HLI HRE
  generalize str raw = s at *
  have hw0 : RqB (w.alloc (.cells #[.string { data := #[] }, .string { data := #[] }, .slice none 0 0, .string { data := #[] }] 27)) w.heap.size (.string { data := #[] }) (.string { data := #[] }) (.slice none 0 0) (.string { data := #[] }) := new_at w _ _ rfl
  have HB0 : Hid (Below w.heap.size w (w.alloc (.cells #[.string { data := #[] }, .string { data := #[] }, .slice none 0 0, .string { data := #[] }] 27))) := below_new w _
  have HW0 := hide hw0
  have HLT : Hid (w.heap.size < (w.alloc (.cells #[.string { data := #[] }, .string { data := #[] }, .slice none 0 0, .string { data := #[] }] 27)).heap.size) := by show _ < _; simp
  clear hR E hN hw0
  go_enter Tryz.func14, Tryz.ntmps14
  go_upto_region 1 with fail
  generalize hA : w.heap.size = A at *
  generalize w.alloc (.cells #[.string { data := #[] }, .string { data := #[] }, .slice none 0 0, .string { data := #[] }] 27) = w0 at *
  by_cases hbig : 32768 < N
  · have HD : Hid (R = .error (1, 0)) := by show _ = _; rw [HR.out, if_pos hbig]
    obtain ⟨c0, c1, c2, c3⟩ := HW0.out.cells
    have f0 := HW0.out.frozen 0
    have f1 := HW0.out.frozen 1
    have f2 := HW0.out.frozen 2
    have f3 := HW0.out.frozen 3
    have HP := hide (put4_is HW0.out (.string { data := #[] }) (.string { data := #[] }) (.slice none 0 0) (.string { data := #[] }))
    have HPB := hide (put4_below HB0.out (Nat.le_refl A) (.string { data := #[] }) (.string { data := #[] }) (.slice none 0 0) (.string { data := #[] }))
    unfold put4 at HP HPB
    clear HR HW0 HB0
    go_wp2
    obtain ⟨d0, d1, d2, d3⟩ := HP.out.cells
    refine bodyPost_ret (v := pqV (.slice none 0 0) (.error (1, 0))) (by simp [results, Tryz.results14, go_sem, pqV, d0, d1, d2, d3]) rfl ?_
    rw [HD.out]
    exact ⟨.slice none 0 0, rfl, (by show (1 : Nat) ≠ 0; decide), hA ▸ HPB.out⟩
  have HE0 : Hid (Env w0) := HE.out.keep (hA ▸ HB0.out)
  have HRR : Hid (R = match reqLineR raw with
    | .error e => .error e
    | .ok (m, t, k) => match restR raw k with
      | .error e => .error e
      | .ok (fs, b) => .ok ⟨m, t, fs, b⟩) := by show _ = _; rw [HR.out, if_neg hbig]
  clear HR
  go_wp2_with fail
  refine (HLI.out (by omega) w0).mono ?_
  rintro e w1 ⟨rfl, hb1⟩
  have HB1 := hide (HB0.out.trans (hb1.mono (by have := HLT.out; omega)))
  have HW1 := hide (HW0.out.keep hb1)
  have HE1 := hide (HE0.out.keep hb1)
  have HL1 : Hid (A < w1.heap.size) := by show _ < _; have := HLT.out; have := hb1.size; omega
  clear hb1 HB0 HW0 HE0 HLT HLI
  cases hline : reqLineR raw with
  | error x =>
    obtain ⟨er, p⟩ := x
    rw [hline] at HRR
    have HD : Hid (R = .error (er, p)) := HRR.out
    have hne := reqLine_err hline
    have hni : ((er : Int) != 0) = true := by rw [bne_iff_ne]; omega
    have HNE := hide hne
    obtain ⟨c0, c1, c2, c3⟩ := HW1.out.cells
    have f0 := HW1.out.frozen 0
    have f1 := HW1.out.frozen 1
    have f2 := HW1.out.frozen 2
    have f3 := HW1.out.frozen 3
    have HP := hide (put4_is HW1.out (.string { data := #[] }) (.string { data := #[] }) (.slice none 0 0) (.string { data := #[] }))
    have HPB := hide (put4_below HB1.out (Nat.le_refl A) (.string { data := #[] }) (.string { data := #[] }) (.slice none 0 0) (.string { data := #[] }))
    unfold put4 at HP HPB
    unfold lineV
    clear HRR HW1 HB1 hline hne
    go_wp2
    obtain ⟨d0, d1, d2, d3⟩ := HP.out.cells
    refine bodyPost_ret (v := pqV (.slice none 0 0) (.error (er, p))) (by simp [results, Tryz.results14, go_sem, pqV, d0, d1, d2, d3]) rfl ?_
    rw [HD.out]
    exact ⟨.slice none 0 0, rfl, HNE.out, hA ▸ HPB.out⟩
  | ok x =>
    obtain ⟨m, t, k⟩ := x
    rw [hline] at HRR
    obtain ⟨hmb, htb, hk⟩ := reqLine_ok hline
    have HRST := hide (HRE.out k w1 (by omega) (by rw [HN.out]; exact hk) HE1.out)
    have HRR2 : Hid (R = match restR raw k with
      | .error e => .error e
      | .ok (fs, b) => .ok ⟨m, t, fs, b⟩) := HRR.out
    have HCM := hide (fun W => clone_any m W (by have := method_lenH hmb; omega))
    have HCT := hide (fun W => clone_any t W (by have := target_lenH htb; omega))
    unfold lineV
    clear HRR hline hmb htb hk HRE HE1
    generalize restR raw k = D at *
    go_wp2_with fail
    refine HRST.out.mono ?_
    rintro e w2 ⟨v, rfl, hp, hb2⟩
    have HB2 := hide (HB1.out.trans (hb2.mono (by have := HL1.out; omega)))
    have HW2 := hide (HW1.out.keep hb2)
    have HL2 : Hid (A < w2.heap.size) := by show _ < _; have := HL1.out; have := hb2.size; omega
    clear hb2 HB1 HW1 HRST
    cases D with
    | error x =>
      obtain ⟨er, p⟩ := x
      have HD : Hid (R = .error (er, p)) := HRR2.out
      have hne : er ≠ 0 := hp
      have hni : ((er : Int) != 0) = true := by rw [bne_iff_ne]; omega
      have HNE := hide hne
      obtain ⟨c0, c1, c2, c3⟩ := HW2.out.cells
      have f0 := HW2.out.frozen 0
      have f1 := HW2.out.frozen 1
      have f2 := HW2.out.frozen 2
      have f3 := HW2.out.frozen 3
      have HP := hide (put4_is HW2.out (.string { data := #[] }) (.string { data := #[] }) (.slice none 0 0) (.string { data := #[] }))
      have HPB := hide (put4_below HB2.out (Nat.le_refl A) (.string { data := #[] }) (.string { data := #[] }) (.slice none 0 0) (.string { data := #[] }))
      unfold put4 at HP HPB
      unfold restV
      clear HRR2 HW2 HB2 hne hp
      go_wp2
      obtain ⟨d0, d1, d2, d3⟩ := HP.out.cells
      refine bodyPost_ret (v := pqV (.slice none 0 0) (.error (er, p))) (by simp [results, Tryz.results14, go_sem, pqV, d0, d1, d2, d3]) rfl ?_
      rw [HD.out]
      exact ⟨.slice none 0 0, rfl, HNE.out, hA ▸ HPB.out⟩
    | ok x =>
      obtain ⟨fs, b⟩ := x
      have HD : Hid (R = .ok ⟨m, t, fs, b⟩) := HRR2.out
      obtain ⟨ho, h64⟩ := hp
      have HO := hide ho
      have H64 := hide h64
      obtain ⟨ao, cap, hv, _, _, _⟩ := ho.shape
      subst hv
      unfold restV
      clear ho h64 HRR2
      go_wp2_with fail
      refine (HCM.out w2).mono ?_
      rintro e w3 ⟨rfl, hb3⟩
      have HB3 := hide (HB2.out.trans (hb3.mono (by have := HL2.out; omega)))
      have HW3 := hide (HW2.out.keep hb3)
      have HO3 := hide (HO.out.keep hb3)
      have HL3 : Hid (A < w3.heap.size) := by show _ < _; have := HL2.out; have := hb3.size; omega
      clear hb3 HB2 HW2 HO HL2 HCM
      go_wp2_with fail
      refine (HCT.out w3).mono ?_
      rintro e w4 ⟨rfl, hb4⟩
      have HB4 := hide (HB3.out.trans (hb4.mono (by have := HL3.out; omega)))
      have HW4 := hide (HW3.out.keep hb4)
      have HO4 := hide (HO3.out.keep hb4)
      clear hb4 HB3 HW3 HO3 HCT
      obtain ⟨c0, c1, c2, c3⟩ := HW4.out.cells
      have f0 := HW4.out.frozen 0
      have f1 := HW4.out.frozen 1
      have f2 := HW4.out.frozen 2
      have f3 := HW4.out.frozen 3
      have HP := hide (put4_is HW4.out (.string (str m)) (.string (str t)) (.slice ao fs.length cap) (.string (str b)))
      have HPB := hide (put4_below HB4.out (Nat.le_refl A) (.string (str m)) (.string (str t)) (.slice ao fs.length cap) (.string (str b)))
      have HOO : Hid (FOwn 78 (put4 w4 A (.string (str m)) (.string (str t)) (.slice ao fs.length cap) (.string (str b))) A (.slice ao fs.length cap) fs) := by
        have h2 := HO4.out.lower (B' := A) (by have := HL1.out; omega)
        refine ⟨h2.1, ?_⟩
        rcases HO4.out.2 with h3 | ⟨g, cap2, cur, e, hg, hh, r⟩
        · exact .inl h3
        · exact .inr ⟨g, cap2, cur, e, by have := HL1.out; omega, (put4_other (by have := HL1.out; omega) _ _ _ _).trans hh, r⟩
      unfold put4 at HP HPB HOO
      clear HW4 HB4 HO4
      go_wp2
      obtain ⟨d0, d1, d2, d3⟩ := HP.out.cells
      refine bodyPost_ret (v := pqV (.slice ao fs.length cap) (.ok ⟨m, t, fs, b⟩)) (by simp [results, Tryz.results14, go_sem, pqV, d0, d1, d2, d3]) rfl ?_
      rw [HD.out]
      exact ⟨.slice ao fs.length cap, rfl, ⟨hA ▸ HOO.out, H64.out⟩, hA ▸ HPB.out⟩
end Go.Proofs.YtaenccjlokiejaaGreatDoor
