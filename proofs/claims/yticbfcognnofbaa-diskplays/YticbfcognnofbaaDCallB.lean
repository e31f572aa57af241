/- The contracts of Remove, Rename and Sync. -/
import Derived.Test.YticbfcognnofbaaDCallA
namespace Go.Proofs.Yticbfcognnofbaa
open Go.RowKit Go.Maps

theorem Aft.under {w w2 w' : World} {dp nx : Nat} {L : Lay} {S' : DS} (h : Aft w2 w' dp L S' nx) (hb : Below w.heap.size w w2) : Aft w w' dp L S' nx := by
  obtain ⟨L', h1, h2, h3⟩ := h
  exact ⟨L', h1, (Fr.of hb).trans h2 (fun x hx => .inl hx), fun b hm => (h3 b hm).imp id (fun e => Nat.le_trans hb.size e)⟩
theorem Aft.same {w w' : World} {dp nx : Nat} {L : Lay} {S : DS} (h : Rep w dp S L nx) (hb : Below w.heap.size w w') : Aft w w' dp L S nx := ⟨L, h.below hb, Fr.of hb, fun _ hm => .inl hm⟩
theorem Aft.dp {w w' : World} {dp nx : Nat} {L : Lay} {S : DS} (h : Rep w' dp S L nx) (hf : Fr [dp] w w') : Aft w w' dp L S nx := ⟨L, h, hf.mono (fun x hx => .inl (by rw [List.mem_singleton.1 hx]; exact (L.mem dp dp).2 (.inl rfl))), fun _ hm => .inl hm⟩
theorem findAns_dead {S : DS} {L : Lay} {nm : Nm} (h : S.dead = true) : findAns S L nm = .tuple #[.pointer none, .int .i64 51] := by unfold findAns; rw [h]; rfl
theorem findAns_none {S : DS} {L : Lay} {nm : Nm} (h : S.dead = false) (hg : dget nm S.dir = none) : findAns S L nm = .tuple #[.pointer none, .int .i64 7] := by unfold findAns; rw [h, hg]; rfl
theorem findAns_some {S : DS} {L : Lay} {nm : Nm} {i b : Nat} (h : S.dead = false) (hg : dget nm S.dir = some i) (hb : L.bs.getD i 0 = b) : findAns S L nm = .tuple #[.pointer (some ⟨b, 0, none⟩), .int .i64 0] := by unfold findAns; rw [h, hg, ← hb]; rfl
set_option maxHeartbeats 1000000 in
set_option maxRecDepth 100000 in
theorem remove_any (dp nx : Nat) (S : DS) (L : Lay) (nm : Nm) (w : World) (h : Rep w dp S L nx) (hO : Ok S) (hl : nm.length ≤ maxLen) :
    Calls Try.prog 46 #[pf dp, .string (str nm)] w fun e w' => e = .returned (.int .i64 ((remove S nm).1 : Int)) ∧ Aft w w' dp L (remove S nm).2 nx := by
  have HC := hide (find_any dp nx S L nm w h hl)
  have H := hide h
  unfold remove
  cases hd : S.dead with
  | true =>
    rw [findAns_dead hd] at HC
    simp only [if_true]
    unfold pf at *
    clear h hO hd
    go_enter Try.func46, Try.ntmps46
    go_wp2_with (go_at_call 54; refine HC.out.mono ?_; rintro e w2 ⟨rfl, rfl⟩)
    go_ret
    exact ⟨rfl, Aft.same H.out (Below.refl _ _)⟩
  | false =>
    simp only [Bool.false_eq_true, if_false]
    cases hg : dget nm S.dir with
    | none =>
      rw [findAns_none hd hg] at HC
      unfold pf at *
      clear h hO hd hg
      go_enter Try.func46, Try.ntmps46
      go_wp2_with (go_at_call 54; refine HC.out.mono ?_; rintro e w2 ⟨rfl, rfl⟩)
      go_ret
      exact ⟨rfl, Aft.same H.out (Below.refl _ _)⟩
    | some i =>
      obtain ⟨b, ao, cap, e1, e2, e3, hb, ho, hr⟩ := h.at (hO.dir.num _ (dget_some hg))
      rw [findAns_some hd hg e2] at HC
      have hn := isNm_ne (hO.dir.name _ (dget_some hg))
      have HCL := hide (clone_any (str nm) w (by rw [str_size]; simp only at hn; omega))
      have HOP : Hid (∀ w2, Below w.heap.size w w2 → Calls Try.prog 55 #[pf dp, .agg #[.string (str nm), .string { data := #[] }, .pointer none]] w2 fun e w' => e = .returned (.int .i64 ((goes S (change ⟨nm, [], 0⟩)).1 : Int)) ∧ Aft w w' dp L (goes S (change ⟨nm, [], 0⟩)).2 nx) := fun w2 hb2 => by
        have := operate_any dp nx S L ⟨nm, [], 0⟩ w2 (h.below hb2) hd ⟨.inl hn.1, hn.2, Nat.zero_le _, fun e => absurd rfl e⟩ (by have := hO.clen; have := hO.ops; omega) hO.dir.len hO.ops hO.armed
        refine this.mono fun e w' ⟨he, L', h1, h2, h3, _, _⟩ => ⟨he, Aft.under ⟨L', h1, h2, h3⟩ hb2⟩
      unfold pf at *
      generalize goes S (change ⟨nm, [], 0⟩) = r at *
      clear h hO hd hg e1 e2 e3 hb ho hr hn
      go_enter Try.func46, Try.ntmps46
      go_wp2_with (first | (go_at_call 54; refine HC.out.mono ?_; rintro e w2 ⟨rfl, rfl⟩) | (go_at_call 53; refine HCL.out.mono ?_; rintro e w3 ⟨rfl, hb3⟩; have H3 := hide hb3; clear hb3) | (go_at_call 55; refine (HOP.out _ H3.out).mono ?_; rintro e w4 ⟨rfl, h4⟩; have H4 := hide h4; clear h4))
      go_ret
      exact ⟨rfl, H4.out⟩
set_option maxHeartbeats 1000000 in
set_option maxRecDepth 100000 in
theorem rename_any (dp nx : Nat) (S : DS) (L : Lay) (a b : Nm) (w : World) (h : Rep w dp S L nx) (hO : Ok S) (hl : a.length ≤ maxLen) (hl2 : b.length ≤ maxLen) :
    Calls Try.prog 44 #[pf dp, .string (str a), .string (str b)] w fun e w' => e = .returned (.int .i64 ((rename S a b).1 : Int)) ∧ Aft w w' dp L (rename S a b).2 nx := by
  have HC := hide (find_any dp nx S L a w h hl)
  have HI := hide (isName_any b w hl2)
  have H := hide h
  unfold rename
  cases hd : S.dead with
  | true =>
    rw [findAns_dead hd] at HC
    simp only [if_true]
    unfold pf at *
    clear h hO hd
    go_enter Try.func44, Try.ntmps44
    go_wp2_with (go_at_call 54; refine HC.out.mono ?_; rintro e w2 ⟨rfl, rfl⟩)
    go_ret
    exact ⟨rfl, Aft.same H.out (Below.refl _ _)⟩
  | false =>
    simp only [Bool.false_eq_true, if_false]
    cases hg : dget a S.dir with
    | none =>
      rw [findAns_none hd hg] at HC
      unfold pf at *
      clear h hO hd hg
      go_enter Try.func44, Try.ntmps44
      go_wp2_with (go_at_call 54; refine HC.out.mono ?_; rintro e w2 ⟨rfl, rfl⟩)
      go_ret
      exact ⟨rfl, Aft.same H.out (Below.refl _ _)⟩
    | some i =>
      obtain ⟨fb, ao, cap, e1, e2, e3, hb, ho, hr⟩ := h.at (hO.dir.num _ (dget_some hg))
      rw [findAns_some hd hg e2] at HC
      have hn := isNm_ne (hO.dir.name _ (dget_some hg))
      simp only
      cases hin : isNm b with
      | false =>
        rw [hin] at HI
        simp only [if_true]
        unfold pf at *
        clear h hO hd hg e1 e2 e3 hb ho hr hn
        go_enter Try.func44, Try.ntmps44
        go_wp2_with (first | (go_at_call 54; refine HC.out.mono ?_; rintro e w2 ⟨rfl, rfl⟩) | (go_at_call 63; refine HI.out.mono ?_; rintro e w3 ⟨rfl, rfl⟩))
        go_ret
        exact ⟨rfl, Aft.same H.out (Below.refl _ _)⟩
      | true =>
        rw [hin] at HI
        have hbn := isNm_ne hin
        simp only [Bool.true_eq_false, if_false]
        by_cases hab : a = b
        · subst hab
          rw [if_pos rfl]
          have HOP : Hid (Calls Try.prog 55 #[pf dp, .agg #[.string { data := #[] }, .string { data := #[] }, .pointer none]] w fun e w' => e = .returned (.int .i64 ((goes S id).1 : Int)) ∧ Aft w w' dp L (goes S id).2 nx) :=
            (operate_zero dp nx S L w h hd hO.ops hO.armed).mono fun e w' ⟨he, h1, h2⟩ => ⟨he, Aft.dp h1 h2⟩
          unfold pf at *
          generalize goes S id = r at *
          clear h hO hd hg e1 e2 e3 hb ho hr hn hin hbn
          go_enter Try.func44, Try.ntmps44
          go_wp2_with (first | (go_at_call 54; refine HC.out.mono ?_; rintro e w2 ⟨rfl, rfl⟩) | (go_at_call 63; refine HI.out.mono ?_; rintro e w3 ⟨rfl, rfl⟩) | (go_at_call 55; refine HOP.out.mono ?_; rintro e w4 ⟨rfl, h4⟩; have H4 := hide h4; clear h4))
          go_ret
          exact ⟨rfl, H4.out⟩
        · rw [if_neg hab]
          have hne : ((str a).toList == (str b).toList) = false := by rw [str_toList, str_toList, beq_eq_false_iff_ne]; exact hab
          have hne2 : ¬ (str a).toList = (str b).toList := by rw [str_toList, str_toList]; exact hab
          have HCL : Hid (∀ W, Calls Try.prog 53 #[.string (str a)] W fun e w' => e = .returned (.string (str a)) ∧ Below W.heap.size W w') := fun W => clone_any (str a) W (by rw [str_size]; simp only at hn; omega)
          have HCM : Hid (∀ W, Calls Try.prog 53 #[.string (str b)] W fun e w' => e = .returned (.string (str b)) ∧ Below W.heap.size W w') := fun W => clone_any (str b) W (by rw [str_size]; omega)
          have HOP : Hid (∀ w2, Below w.heap.size w w2 → Calls Try.prog 55 #[pf dp, .agg #[.string (str a), .string (str b), pf fb]] w2 fun e w' => e = .returned (.int .i64 ((goes S (change ⟨a, b, i⟩)).1 : Int)) ∧ Aft w w' dp L (goes S (change ⟨a, b, i⟩)).2 nx) := fun w2 hb2 => by
            have := operate_any dp nx S L ⟨a, b, i⟩ w2 (h.below hb2) hd ⟨.inl hn.1, hn.2, hbn.2, fun _ => hO.dir.num _ (dget_some hg)⟩ (by have := hO.clen; have := hO.ops; omega) hO.dir.len hO.ops hO.armed
            rw [show (chCells L.bs ⟨a, b, i⟩).toArray = #[.string (str a), .string (str b), pf fb] by simp only [chCells, if_neg hbn.1, e2]] at this
            refine this.mono fun e w' ⟨he, L', h1, h2, h3, _, _⟩ => ⟨he, Aft.under ⟨L', h1, h2, h3⟩ hb2⟩
          unfold pf at *
          generalize goes S (change ⟨a, b, i⟩) = r at *
          clear h hO hd hg e1 e2 e3 hb ho hr hn hin hbn hab
          have tok : True := trivial
          go_enter Try.func44, Try.ntmps44
          go_wp2_with (first | (go_at_call 54; refine HC.out.mono ?_; rintro e w2 ⟨rfl, rfl⟩) | (go_at_call 63; refine HI.out.mono ?_; rintro e w3 ⟨rfl, rfl⟩) | (go_at_call 53; have _t := tok; refine (HCL.out _).mono ?_; rintro e w5 ⟨rfl, hb5⟩; have H5 := hide hb5; clear hb5 tok) | (go_at_call 53; refine (HCM.out _).mono ?_; rintro e w6 ⟨rfl, hb6⟩; have H6 := hide (H5.out.trans (hb6.mono H5.out.size)); clear hb6) | (go_at_call 55; refine (HOP.out _ H6.out).mono ?_; rintro e w4 ⟨rfl, h4⟩; have H4 := hide h4; clear h4))
          go_ret
          exact ⟨rfl, H4.out⟩
end Go.Proofs.Yticbfcognnofbaa
