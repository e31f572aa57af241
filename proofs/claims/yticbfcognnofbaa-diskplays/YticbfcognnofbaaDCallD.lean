/- The contract of Append. -/
import Derived.Test.YticbfcognnofbaaDCallC
namespace Go.Proofs.Yticbfcognnofbaa
open Go.RowKit Go.Maps

theorem own_shape {w : World} {B : Nat} {v : Value} {xs : List Nat} (h : Own w B v xs) : ∃ ao n cap, v = .slice ao n cap := by
  obtain ⟨ao, cap, hv, _⟩ := h.read
  exact ⟨ao, _, cap, hv⟩
theorem run_append_bytes_at {w : World} {v : Value} {xs ys : List Nat} (hown : Own w 0 v xs) (ao : Option Addr) (c : Nat) (hy : Row w ao ys) (hsz : xs.length + ys.length ≤ 140737488355328) (ty : TypeId) :
    ∃ v' w', (Builtin.append_ #[36, 36] ty #[v, .slice ao ys.length c]).run Try.prog w = .ok v' w' ∧ Own w' 0 v' (xs ++ ys) ∧ w.grownBy w' v.ownBlock ∧ (v'.ownBlock = v.ownBlock ∨ v'.ownBlock = some w.heap.size) := by
  obtain ⟨i0, hi, hz0, hz1, hz2⟩ := info_parts info8
  cases ao with
  | none =>
    rcases hy with rfl | ⟨b, off, h, _⟩
    · refine ⟨v, w, ?_, by rw [List.append_nil]; exact hown, World.grownBy.refl _ _, .inl rfl⟩
      have hc0 : ∀ c', (Builtin.append_ #[36, 36] ty #[v, .slice none 0 c']).run Try.prog w = (Builtin.append_ #[36, 36] ty #[v, .slice none 0 0]).run Try.prog w := fun c' => rfl
      rw [List.length_nil, hc0]
      exact run_append_owned_none (P := Try.prog) (w := w) 0 36 ty 5 i0 1 Try.underlying36 hi v _ _ hown
    · cases h
  | some a =>
    obtain ⟨v', w', h1, h2, h3, _, h5⟩ := run_append_own_at (P := Try.prog) w 0 36 ty 5 i0 (.int .u8 0) 1 1 Try.underlying36 hi hz0 hz1 hz2 rfl (by decide) v xs.length (xs.map bv) hown a ys.length c (ys.map bv) (by simp) hy.cells (bv_one ys) (by unfold maxLen; omega) (by omega) (Nat.zero_le _)
    exact ⟨v', w', h1, by unfold Own; rw [List.length_append, List.map_append]; exact h2, h3, h5⟩
theorem wpList_append_bytes_at {w : World} {ops : Array Oper} {rest : List Oper} {o : Oper} {a : Act} {Q : Exit → Act → World → Prop} (hgd : o.guard = none) (s x : Operand)
    (ho : o.op = .call { callee := .builtin .append, args := #[s, x], argTypes := #[36, 36] }) (v : Value) (xs : List Nat) (hs : a.eval s = v) (hown : Own w 0 v xs)
    (ao : Option Addr) (n c : Nat) (ys : List Nat) (hn : n = ys.length) (hx : a.eval x = .slice ao n c) (hy : Row w ao ys) (hsz : xs.length + ys.length ≤ 140737488355328)
    (h : ∀ v' w', Own w' 0 v' (xs ++ ys) → w.grownBy w' v.ownBlock → (v'.ownBlock = v.ownBlock ∨ v'.ownBlock = some w.heap.size) → wpList Try.prog ops Q rest (a.put o.dst v') w') : wpList Try.prog ops Q (o :: rest) a w := by
  refine wpList_plain hgd fun K hK => ?_
  obtain ⟨v', w', hrun, h1, h2, h3⟩ := run_append_bytes_at hown ao c hy hsz o.type
  subst hn
  unfold Oper.wp
  simp [execOp, ho, resolve, invoke, builtin, hs, hx, hrun, Result.andThen]
  exact hK _ _ (h v' w' h1 h2 h3)
theorem rep_append {w w5 : World} {dp nx i b : Nat} {S : DS} {L : Lay} {v v' : Value} {p : List Nat} (h : Rep w dp S L nx) (h1 : L.bs[i]? = some b) (h2 : L.rv[i]? = some v) (hown : Own w5 0 v' ((flAt S.files i).bys ++ p)) (hg : w.grownBy w5 v.ownBlock) (hl : v'.ownBlock = v.ownBlock ∨ v'.ownBlock = some w.heap.size) :
    Aft w (w5.setCell ⟨b, 1, none⟩ v') dp L (setFile i ⟨(flAt S.files i).bys ++ p, (flAt S.files i).syn⟩ S) nx := by
  have hF := h.file i b _ h1 h2
  obtain ⟨o1, o2, o3, o4, o5, o6, o7, o8⟩ := Lay.off h.nod h1 h2
  have hbw := h.lt b (L.mem_file dp h1)
  have hloc : v'.ownBlock = v.ownBlock ∨ ∃ g, v'.ownBlock = some g ∧ w.heap.size ≤ g := hl.imp id (fun e => ⟨_, e, Nat.le_refl _⟩)
  have hb5 : Bl w5 b (fileCells i v (flAt S.files i)) 96 := (hg.block b hbw (fun e => o5 (mem_vb.2 e.symm))).trans hF.1
  have hvb : ∀ g, v'.ownBlock = some g → g ≠ b := fun g hgv => by
    rcases hl with e | e
    · rw [e] at hgv; intro e2; exact o5 (e2 ▸ mem_vb.2 hgv)
    · rw [e] at hgv; injection hgv with hgv; omega
  have hr := rep_file (v' := v') (f := ⟨(flAt S.files i).bys ++ p, (flAt S.files i).syn⟩) h h1 h2 (w' := w5.setCell ⟨b, 1, none⟩ v') (by have := hg.size; simpa [World.setCell] using this)
    (fun g hgm hne hnv => (heap_setCell_other w5 ⟨b, 1, none⟩ g v' hne).trans (hg.block g (h.lt g hgm) (fun e => hnv (mem_vb.2 e.symm)))) (hb5.set 1 v') (owns_same hown fun g hgv => heap_setCell_other w5 ⟨b, 1, none⟩ g v' (hvb g hgv)) hloc
  refine ⟨_, hr.1, ?_, hr.2⟩
  have h5 : Fr (L.blocks dp) w w5 := Fr.grown hg (fun j hj => L.mem_row dp h2 hj)
  exact h5.trans (Fr.setCell _ w5 b 1 v' (L.mem_file dp h1)) (fun x hx => .inl hx)
set_option maxHeartbeats 2000000 in
set_option maxRecDepth 100000 in
theorem append_any (dp nx : Nat) (S : DS) (L : Lay) (nm : Nm) (ao : Option Addr) (n c : Nat) (p : List Nat) (w : World) (h : Rep w dp S L nx) (hO : Ok S) (hl : nm.length ≤ maxLen) (hn : n = p.length) (hrow : Row w ao p) (hoff : ∀ a, ao = some a → a.block ∉ L.blocks dp) (hnl : n ≤ 140737488355328) :
    Calls Try.prog 29 #[pf dp, .string (str nm), .slice ao n c] w fun e w' => e = .returned (.int .i64 ((append S nm p).1 : Int)) ∧ Aft w w' dp L (append S nm p).2 nx := by
  have HC := hide (find_any dp nx S L nm w h hl)
  have H := hide h
  unfold append
  cases hd : S.dead with
  | true =>
    rw [findAns_dead hd] at HC
    simp only [if_true]
    unfold pf at *
    clear h hO hd
    go_enter Try.func29, Try.ntmps29
    go_wp2_with (go_at_call 54; refine HC.out.mono ?_; rintro e w2 ⟨rfl, rfl⟩)
    go_ret
    exact ⟨rfl, Aft.same H.out (Below.refl _ _)⟩
  | false =>
    simp only [Bool.false_eq_true, if_false]
    cases hg : dget nm S.dir with
    | none =>
      rw [findAns_none hd hg] at HC
      unfold pf at *
      clear h hO hd hg
      go_enter Try.func29, Try.ntmps29
      go_wp2_with (go_at_call 54; refine HC.out.mono ?_; rintro e w2 ⟨rfl, rfl⟩)
      go_ret
      exact ⟨rfl, Aft.same H.out (Below.refl _ _)⟩
    | some i =>
      obtain ⟨b, ao2, cap, e1, e2, e3, hb, ho, hr⟩ := h.at (hO.dir.num _ (dget_some hg))
      rw [findAns_some hd hg e2] at HC
      have HFR := hide (free_any dp nx S L w h hO)
      rw [hd] at HFR
      simp only [Bool.false_eq_true, if_false] at HFR
      have HOP : Hid (∀ w2, Below w.heap.size w w2 → Calls Try.prog 55 #[pf dp, .agg #[.string { data := #[] }, .string { data := #[] }, .pointer none]] w2 fun e w' => e = .returned (.int .i64 ((goes S id).1 : Int)) ∧ Rep w' dp (goes S id).2 L nx ∧ Fr [dp] w w') := fun w2 hb2 => (operate_zero dp nx S L w2 (h.below hb2) hd hO.ops hO.armed).mono fun e w' ⟨e1, e2, e3⟩ => ⟨e1, e2, (Fr.of hb2).trans e3 (fun x hx => .inl hx)⟩
      have HE1 := hide e1
      have HE3 := hide e3
      have b1 : w.cell? ⟨b, 1, none⟩ = some (.slice ao2 (flAt S.files i).bys.length cap) := hb.cell 1
      have HFL := hide (Fok.at hO.file i).len
      obtain ⟨K, hK⟩ : ∃ K : Int, K = 4194304 - ((flAt S.files i).bys.length : Int) := ⟨_, rfl⟩
      obtain ⟨F, hF⟩ : ∃ F : Int, F = (S.room : Int) - (sizes S.files S.dir : Int) := ⟨_, rfl⟩
      rw [← hF] at HFR
      have q : wrap64 (4194304 - ((flAt S.files i).bys.length : Int)) = K := by rw [hK]; have := HFL.out; unfold wrap64; omega
      have HN := hide hn
      have HRW := hide hrow
      have HNL := hide hnl
      have HOFF := hide hoff
      simp only
      have hcond : (4194304 < (flAt S.files i).bys.length + p.length ∨ S.room < sizes S.files S.dir + p.length) ↔ (K < (n : Int) ∨ F < (n : Int)) := by
        have := hO.used
        have := HFL.out
        rw [hK, hF, hn]; omega
      by_cases hk : K < (n : Int)
      · rw [if_pos (hcond.2 (.inl hk))]
        have hkd : decide (K < (n : Int)) = true := decide_eq_true hk
        unfold pf at *
        generalize (flAt S.files i).bys.length = m at *
        clear h hO hd hg e1 e2 e3 hb ho hr hcond hK hF hn hrow hnl hoff
        go_enter Try.func29, Try.ntmps29
        go_wp2_with (first | (go_at_call 54; refine HC.out.mono ?_; rintro e w2 ⟨rfl, rfl⟩))
        go_ret
        exact ⟨rfl, Aft.same H.out (Below.refl _ _)⟩
      have hkd : decide (K < (n : Int)) = false := decide_eq_false hk
      by_cases hf : F < (n : Int)
      · rw [if_pos (hcond.2 (.inr hf))]
        have hfd : decide (F < (n : Int)) = true := decide_eq_true hf
        unfold pf at *
        generalize (flAt S.files i).bys.length = m at *
        clear h hO hd hg e1 e2 e3 hb ho hr hcond hK hF hn hrow hnl hoff
        go_enter Try.func29, Try.ntmps29
        go_wp2_with (first | (go_at_call 54; refine HC.out.mono ?_; rintro e w2 ⟨rfl, rfl⟩) | (go_at_call 36; refine HFR.out.mono ?_; rintro e w3 ⟨rfl, hb3⟩; have H3 := hide hb3; clear hb3))
        go_ret
        exact ⟨rfl, Aft.same H.out H3.out⟩
      have hfd : decide (F < (n : Int)) = false := decide_eq_false hf
      rw [if_neg (fun e => (hcond.1 e).elim hk hf)]
      rcases goes_split S (setFile i ⟨(flAt S.files i).bys ++ p, (flAt S.files i).syn⟩) with ⟨g1, g2⟩ | ⟨g1, g2, g3⟩
      · rw [g2]
        have hne : (((goes S id).1 : Int) != 0) = true := by simp; omega
        have hne2 : ¬ ((goes S id).1 : Int) = 0 := by omega
        generalize goes S id = r at *
        unfold pf at *
        generalize (flAt S.files i).bys.length = m at *
        clear h hO hd hg e1 e2 e3 hb ho hr g1 g2 hcond hK hF hn hrow hnl hoff
        go_enter Try.func29, Try.ntmps29
        go_wp2_with (first | (go_at_call 54; refine HC.out.mono ?_; rintro e w2 ⟨rfl, rfl⟩) | (go_at_call 36; refine HFR.out.mono ?_; rintro e w3 ⟨rfl, hb3⟩; have H3 := hide hb3; clear hb3) | (go_at_call 55; refine (HOP.out _ H3.out).mono ?_; rintro e w4 ⟨rfl, h4, f4⟩; have H4 := hide h4; have F4 := hide f4; clear h4 f4))
        go_ret
        exact ⟨rfl, Aft.dp H4.out F4.out⟩
      · rw [g2]
        rw [g1] at HOP
        obtain ⟨r, hr2⟩ : ∃ r, r = (goes S id).2 := ⟨_, rfl⟩
        rw [← hr2] at HOP ⊢
        have hrf : r.files = S.files := by rw [hr2, g3]
        rw [← hrf] at HE3 HFL q b1 ⊢
        have HFI : Hid (∀ w4, Rep w4 dp r L nx → w4.cell? ⟨b, 1, none⟩ = some (.slice ao2 (flAt r.files i).bys.length cap) ∧ Own w4 0 (.slice ao2 (flAt r.files i).bys.length cap) (flAt r.files i).bys) := fun w4 h4 => by
          have := h4.file i b _ HE1.out HE3.out
          exact ⟨this.1.cell 1, this.2⟩
        have HFZ : Hid (∀ w4 w5, Rep w4 dp r L nx → w4.grownBy w5 (Value.slice ao2 (flAt r.files i).bys.length cap).ownBlock → w5.cell? ⟨b, 1, none⟩ = some (.slice ao2 (flAt r.files i).bys.length cap) ∧ w5.frozen? ⟨b, 1, none⟩ = false) := fun w4 w5 h4 hg4 => by
          have hB := (h4.file i b _ HE1.out HE3.out).1
          obtain ⟨o1, o2, o3, o4, o5, o6, o7, o8⟩ := Lay.off h4.nod HE1.out HE3.out
          have hB5 : Bl w5 b _ _ := (hg4.block b (h4.lt b (L.mem_file dp HE1.out)) (fun e => o5 (mem_vb.2 e.symm))).trans hB
          exact ⟨hB5.cell 1, hB5.frozen 1⟩
        have HFS : Hid (∀ w4 w5 v', Rep w4 dp r L nx → Own w5 0 v' ((flAt r.files i).bys ++ p) → w4.grownBy w5 (Value.slice ao2 (flAt r.files i).bys.length cap).ownBlock → (v'.ownBlock = (Value.slice ao2 (flAt r.files i).bys.length cap).ownBlock ∨ v'.ownBlock = some w4.heap.size) → Aft w4 (w5.setCell ⟨b, 1, none⟩ v') dp L (setFile i ⟨(flAt r.files i).bys ++ p, (flAt r.files i).syn⟩ r) nx) := fun w4 w5 v' h4 h5 h6 h7 => rep_append h4 HE1.out HE3.out h5 h6 h7
        have HRK : Hid (∀ w4, Fr [dp] w w4 → Row w4 ao p) := fun w4 hf4 => by
          rcases HRW.out with e | ⟨rb, off, rfl, hc⟩
          · exact .inl e
          · refine .inr ⟨rb, off, rfl, fun j hj => ?_⟩
            rw [World.cell?_of_block (hf4.block rb (World.block_lt_of_cell? w _ (hc j hj)) (fun e => HOFF.out _ rfl (by rw [List.mem_singleton.1 e]; exact (L.mem dp dp).2 (.inl rfl))))]
            exact hc j hj
        have HSM : Hid ((flAt r.files i).bys.length + p.length ≤ 140737488355328) := by have := HFL.out; show _ ≤ _; omega
        generalize flAt r.files i = f at *
        unfold pf at *
        clear h hO hd hg e1 e2 e3 hb ho hr g1 g2 g3 hr2 hrf HE3 hcond hK hF hn hrow hnl hoff
        obtain ⟨xs, syn⟩ := f
        simp only at *
        obtain ⟨m, hm⟩ : ∃ m, m = xs.length := ⟨_, rfl⟩
        rw [← hm] at q b1 HFI HFZ HFS
        clear hm
        go_enter Try.func29, Try.ntmps29
        go_wp2_with (first | (go_at_call 54; refine HC.out.mono ?_; rintro e w2 ⟨rfl, rfl⟩) | (go_at_call 36; refine HFR.out.mono ?_; rintro e w3 ⟨rfl, hb3⟩; have H3 := hide hb3; clear hb3) | (go_at_call 55; refine (HOP.out _ H3.out).mono ?_; rintro e w4 ⟨rfl, h4, f4⟩; have H4 := hide h4; have F4 := hide f4; have k1 := (HFI.out w4 h4).1; clear h4 f4) | (at_builtin; refine wpList_append_bytes_at rfl _ _ rfl (.slice ao2 m cap) xs rfl (HFI.out w4 H4.out).2 ao n c p HN.out rfl (HRK.out w4 F4.out) HSM.out ?_; intro v' w5 h5 g5 l5; obtain ⟨ao5, n5, cap5, rfl⟩ := own_shape h5; have H5 := hide h5; have G5 := hide g5; have L5 := hide l5; obtain ⟨k2, k3⟩ := HFZ.out w4 w5 H4.out g5; clear h5 g5 l5))
        go_ret
        obtain ⟨L', h1, h2, h3⟩ := HFS.out w4 w5 _ H4.out H5.out G5.out L5.out
        exact ⟨rfl, L', h1, (F4.out.mono (fun x hx => .inl (by rw [List.mem_singleton.1 hx]; exact (L.mem dp dp).2 (.inl rfl)))).trans h2 (fun x hx => .inl hx), fun g hg => (h3 g hg).imp id (fun e => Nat.le_trans F4.out.size e)⟩
end Go.Proofs.Yticbfcognnofbaa
