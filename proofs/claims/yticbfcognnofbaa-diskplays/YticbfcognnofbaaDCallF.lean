/- The walk of Create. -/
import Derived.Test.YticbfcognnofbaaDCallE
namespace Go.Proofs.Yticbfcognnofbaa
open Go.RowKit Go.Maps

theorem law_call {P : Program} {w : World} {ops : Array Oper} {o : Oper} {a : Act} {K : Act → World → Prop} {Q : Exit → Act → World → Prop} {E : Prop} (hgd : o.guard = none) (d : Nat) (hd : o.dst = some d) (f : FuncId) (args : Array Value)
    (hv : (execOp a.eval o).run P w = .ok (.enter f args) w) {Post : Ending → World → Prop} (hC : Calls P f args w Post) (h : ∀ e w', Post e w' → ∃ v, e = .returned v ∧ K (a.put o.dst v) w') : if Region.wanted o (yielded ops a.tmps) = true then Oper.wp P o a w K Q else E := by
  rw [if_pos (by simp [Region.wanted, hgd])]
  unfold Oper.wp
  rw [hv, Oper.upon_enter]
  refine hC.mono ?_
  intro e w' hp
  obtain ⟨v, rfl, hk⟩ := h e w' hp
  simp only [hd] at hk ⊢
  exact hk
theorem clone_first {w w2 : World} (h : Below w.drew.heap.size w.drew w2) (cs : Array Value) (t : TypeId) : Below w.heap.size w w2 ∧ Below w.heap.size w (w2.alloc (.cells cs t)) ∧ w.heap.size ≤ w2.heap.size ∧ Bl (w2.alloc (.cells cs t)) w2.heap.size cs.toList t :=
  ⟨below_undrew h, (below_undrew h).alloc h.size _, h.size, Bl.new w2 cs t⟩
theorem clone_last {w w2 : World} {cs : Array Value} {t : TypeId} (h : Below (w.alloc (.cells cs t)).drew.heap.size (w.alloc (.cells cs t)).drew w2) : Below w.heap.size w w2 ∧ Bl w2 w.heap.size cs.toList t :=
  ⟨(below_new w _).trans ((below_undrew h).mono (by simp)), (Bl.new w cs t).keep (below_undrew h)⟩
theorem create_bad {S : DS} {nm : Nm} (h : S.dead = false) (hn : isNm nm = false) : create S nm = (50, S) := by unfold create; rw [h, hn]; rfl
set_option maxHeartbeats 2000000 in
set_option maxRecDepth 100000 in
theorem create_any (dp : Nat) (S : DS) (L : Lay) (nm : Nm) (w : World) (h : Rep w dp S L S.files.length) (hO : Ok S) (hl : nm.length ≤ maxLen) :
    Calls Try.prog 28 #[pf dp, .string (str nm)] w fun e w' => e = .returned (.int .i64 ((create S nm).1 : Int)) ∧ Aft w w' dp L (create S nm).2 (create S nm).2.files.length := by
  have H := hide h
  have HI := hide (isName_any nm w hl)
  obtain ⟨c0, c1, c2, c3, c4, c5, c6, c7⟩ := h.c
  have hlk := h.names.look hl
  have hln := fun ty => h.names.len ty
  unfold create
  cases hd : S.dead with
  | true =>
    rw [hd] at c7
    simp only [if_true]
    unfold pf at *
    clear h hO hd hlk hln
    go_enter Try.func28, Try.ntmps28
    go_wp2
    go_ret
    exact ⟨rfl, Aft.same H.out (Below.refl _ _)⟩
  | false =>
    rw [hd] at c7
    simp only [Bool.false_eq_true, if_false]
    cases hin : isNm nm with
    | false =>
      rw [hin] at HI
      simp only [if_true]
      unfold pf at *
      clear h hO hd hlk hln
      go_enter Try.func28, Try.ntmps28
      go_wp2_with (go_at_call 63; refine HI.out.mono ?_; rintro e w3 ⟨rfl, rfl⟩)
      go_ret
      exact ⟨rfl, Aft.same H.out (Below.refl _ _)⟩
    | true =>
      rw [hin] at HI
      simp only [Bool.true_eq_false, if_false]
      cases hg : dget nm S.dir with
      | some i =>
        rw [hg] at hlk
        simp only [Option.isSome_some, if_true]
        rw [show ptrOf L.bs (some i) = pf (L.bs.getD i 0) from rfl] at hlk
        generalize L.bs.getD i 0 = b at *
        unfold pf at *
        clear h hO hd hln
        go_enter Try.func28, Try.ntmps28
        go_wp2_with (go_at_call 63; refine HI.out.mono ?_; rintro e w3 ⟨rfl, rfl⟩)
        go_ret
        exact ⟨rfl, Aft.same H.out (Below.refl _ _)⟩
      | none =>
        rw [hg] at hlk
        simp only [Option.isSome_none, Bool.false_eq_true, if_false]
        rw [show ptrOf L.bs none = .pointer none from rfl] at hlk
        by_cases h64 : 64 ≤ S.dir.length
        · rw [if_pos h64]
          have q : decide ((64 : Int) ≤ (S.dir.length : Int)) = true := decide_eq_true (by omega)
          unfold pf at *
          clear h hO hd hg
          go_enter Try.func28, Try.ntmps28
          go_wp2_with (go_at_call 63; refine HI.out.mono ?_; rintro e w3 ⟨rfl, rfl⟩)
          go_ret
          exact ⟨rfl, Aft.same H.out (Below.refl _ _)⟩
        · rw [if_neg h64]
          have q : decide ((64 : Int) ≤ (S.dir.length : Int)) = false := decide_eq_false (by omega)
          have hne := isNm_ne hin
          have HCL : Hid (∀ W, Calls Try.prog 53 #[.string (str nm)] W fun e w' => e = .returned (.string (str nm)) ∧ Below W.heap.size W w') := fun W => clone_any (str nm) W (by rw [str_size]; omega)
          have HOP : Hid (∀ W fb, Below w.heap.size w W → w.heap.size ≤ fb → Bl W fb [.int .i64 (S.files.length : Int), .slice none 0 0, .int .i64 0] 96 → Calls Try.prog 55 #[.pointer (some ⟨dp, 0, none⟩), .agg #[.string { data := #[] }, .string (str nm), .pointer (some ⟨fb, 0, none⟩)]] W fun e w' => e = .returned (.int .i64 ((goes S (made nm)).1 : Int)) ∧ Aft w w' dp L (goes S (made nm)).2 S.files.length) := fun W fb h1 h2 h3 => create_op dp S.files.length fb S L nm w W h hO hd hin h1 h2 h3
          obtain ⟨n, hn⟩ : ∃ n, n = S.files.length := ⟨_, rfl⟩
          have HN := hide hn
          rw [← hn] at HOP c4
          show Calls _ _ _ w fun e w' => e = .returned (.int .i64 ((goes S (made nm)).1 : Int)) ∧ Aft w w' dp L (goes S (made nm)).2 (goes S (made nm)).2.files.length
          have hsp := goes_split S (made nm)
          have HFIN : Hid (∀ w', (goes S (made nm)).1 = 0 → Aft w w' dp L (goes S (made nm)).2 n → w'.cell? ⟨dp, 4, none⟩ = some (.int .i64 (n : Int)) ∧ w'.frozen? ⟨dp, 4, none⟩ = false ∧ Aft w (w'.setCell ⟨dp, 4, none⟩ (.int .i64 ((n : Int) + 1))) dp L (goes S (made nm)).2 (goes S (made nm)).2.files.length) := fun w' e0 hA => by
            obtain ⟨L', k1, k2, k3⟩ := hA
            have e4 : (goes S (made nm)).2.files.length = n + 1 := by
              rcases hsp with ⟨a1, a2⟩ | ⟨a1, a2, a3⟩
              · rw [a2] at e0; exact absurd e0 a1
              · rw [a2, a3, hn]; simp [made, change]
            refine ⟨k1.box.cell 4, k1.box.frozen 4, L', ?_, k2.trans (Fr.setCell _ w' dp 4 _ ((L.mem dp dp).2 (.inl rfl))) (fun x hx => .inl hx), k3⟩
            rw [e4, show ((n : Int) + 1) = ((n + 1 : Nat) : Int) by omega]
            exact k1.setBox (S' := (goes S (made nm)).2) (nx' := n + 1) 4 _ rfl rfl rfl rfl rfl
          have HERR : Hid ((goes S (made nm)).1 ≠ 0 → (goes S (made nm)).2.files.length = n) := fun e0 => by
            rcases hsp with ⟨a1, a2⟩ | ⟨a1, a2, a3⟩
            · rw [a2, hn]
              unfold goes
              by_cases c1 : 1048576 ≤ S.ops
              · rw [if_pos c1]
              · rw [if_neg c1]
                by_cases c2 : S.armed = 1
                · rw [if_pos c2]
                · rw [if_neg c2]; rfl
            · rw [a2] at e0; exact absurd rfl e0
          have hwn : (n : Int) + 1 ≤ 4611686018427387904 := by have := hO.num; have := hO.ops; omega
          unfold pf at *
          clear hsp
          generalize goes S (made nm) = r at *
          clear h hO hd hg hne hn h64
          go_enter Try.func28, Try.ntmps28
          go_wp2_with (first | (go_at_call 63; refine HI.out.mono ?_; rintro e w3 ⟨rfl, hw3⟩; subst hw3) | fail)
          go_region_law (first
            | (refine law_call rfl 30 rfl 53 #[.string (str nm)] (by unfold execOp; simp; go_simp) (HCL.out _) ?_; rintro ε w2 ⟨rfl, hb⟩; refine ⟨_, rfl, ?_⟩; first | (have hcf := clone_first hb #[.int .i64 (n : Int), .slice none 0 0, .int .i64 0] 96; have e4 := cell_kept c4 hcf.1; have HCF := hide hcf; clear hcf hb) | (have hcl := clone_last hb; have HCF := hide hcl; clear hcl hb))
            | (refine law_call rfl 38 rfl 55 #[.pointer (some ⟨dp, 0, none⟩), .agg #[.string { data := #[] }, .string (str nm), .pointer (some ⟨w2.heap.size, 0, none⟩)]] (by unfold execOp; simp; go_simp) (HOP.out _ _ HCF.out.2.1 HCF.out.2.2.1 HCF.out.2.2.2) ?_; rintro ε w5 ⟨rfl, h5⟩; refine ⟨_, rfl, ?_⟩; have H5 := hide h5; clear h5)
            | (refine law_call rfl 38 rfl 55 #[.pointer (some ⟨dp, 0, none⟩), .agg #[.string { data := #[] }, .string (str nm), .pointer (some ⟨w3.heap.size, 0, none⟩)]] (by unfold execOp; simp; go_simp) (HOP.out _ _ HCF.out.1 (Nat.le_refl _) HCF.out.2) ?_; rintro ε w5 ⟨rfl, h5⟩; refine ⟨_, rfl, ?_⟩; have H5 := hide h5; clear h5))
          all_goals
            clear HCF HOP HCL HI hlk hln c0 c1 c2 c3 c4 c5 c6 c7
            by_cases h0 : r.1 = 0
            · have hz : ((r.1 : Int) == 0) = true := by simp; omega
              have hz2 : (r.1 : Int) = 0 := by omega
              obtain ⟨k1, k2, k3⟩ := HFIN.out w5 h0 H5.out
              have K3 := hide k3
              have H0 := hide h0
              clear k3 h0 HFIN
              go_wp2
              go_ret
              exact ⟨ret_int (by have := H0.out; omega), K3.out⟩
            · have hz : ((r.1 : Int) == 0) = false := by simp; omega
              have hz2 : ¬ (r.1 : Int) = 0 := by omega
              have K3 : Hid (Aft w3 w5 dp L r.2 r.2.files.length) := by rw [HERR.out h0]; exact H5.out
              clear h0 HFIN
              go_wp2
              go_ret
              exact ⟨rfl, K3.out⟩
end Go.Proofs.Yticbfcognnofbaa
