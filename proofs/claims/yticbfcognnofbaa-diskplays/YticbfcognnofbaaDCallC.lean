/- The contracts of Sync and Append. -/
import Derived.Test.YticbfcognnofbaaDCallB
namespace Go.Proofs.Yticbfcognnofbaa
open Go.RowKit Go.Maps

/-- What an operation that went on has left of a disk, ahead of its own work. -/
theorem goes_split (S : DS) (f : DS → DS) : ((goes S id).1 ≠ 0 ∧ goes S f = goes S id) ∨ ((goes S id).1 = 0 ∧ goes S f = (0, f (goes S id).2) ∧ (goes S id).2 = { S with armed := S.armed - 1, ops := S.ops + 1 }) := by
  unfold goes
  by_cases h1 : 1048576 ≤ S.ops
  · rw [if_pos h1, if_pos h1]; exact .inl ⟨by show (5 : Nat) ≠ 0; decide, rfl⟩
  · rw [if_neg h1, if_neg h1]
    by_cases h2 : S.armed = 1
    · rw [if_pos h2, if_pos h2]; exact .inl ⟨by show (51 : Nat) ≠ 0; decide, rfl⟩
    · rw [if_neg h2, if_neg h2]; exact .inr ⟨rfl, rfl, rfl⟩
theorem rep_syn {w : World} {dp nx i b : Nat} {S : DS} {L : Lay} {ao : Option Addr} {cap m : Nat} (h : Rep w dp S L nx) (h1 : L.bs[i]? = some b) (h2 : L.rv[i]? = some (.slice ao m cap)) (hm : m = (flAt S.files i).bys.length) :
    Aft w (w.setCell ⟨b, 2, none⟩ (.int .i64 (m : Int))) dp L (setFile i ⟨(flAt S.files i).bys, (flAt S.files i).bys.length⟩ S) nx := by
  subst hm
  have hF := h.file i b _ h1 h2
  obtain ⟨o1, o2, o3, o4, o5, o6, o7, o8⟩ := Lay.off h.nod h1 h2
  have hr := rep_file (v' := .slice ao (flAt S.files i).bys.length cap) (f := ⟨(flAt S.files i).bys, (flAt S.files i).bys.length⟩) h h1 h2 (w' := w.setCell ⟨b, 2, none⟩ (.int .i64 ((flAt S.files i).bys.length : Int))) (by simp [World.setCell]) (fun g _ hne _ => heap_setCell_other w ⟨b, 2, none⟩ g _ hne) (hF.1.set 2 _) (owns_same hF.2 fun g hg => heap_setCell_other w ⟨b, 2, none⟩ g _ (fun e => o5 (by rw [show b = g from e.symm]; exact mem_vb.2 hg))) (.inl rfl)
  exact ⟨_, hr.1, Fr.setCell _ w b 2 _ (L.mem_file dp h1), hr.2⟩
set_option maxHeartbeats 1000000 in
set_option maxRecDepth 100000 in
theorem sync_any (dp nx : Nat) (S : DS) (L : Lay) (nm : Nm) (w : World) (h : Rep w dp S L nx) (hO : Ok S) (hl : nm.length ≤ maxLen) :
    Calls Try.prog 20 #[pf dp, .string (str nm)] w fun e w' => e = .returned (.int .i64 ((sync S nm).1 : Int)) ∧ Aft w w' dp L (sync S nm).2 nx := by
  have HC := hide (find_any dp nx S L nm w h hl)
  have H := hide h
  unfold sync
  cases hd : S.dead with
  | true =>
    rw [findAns_dead hd] at HC
    simp only [if_true]
    unfold pf at *
    clear h hO hd
    go_enter Try.func20, Try.ntmps20
    go_wp2_with (go_at_call 54; refine HC.out.mono ?_; rintro e w2 ⟨rfl, rfl⟩)
    go_ret
    exact ⟨rfl, Aft.same H.out (Below.refl _ _)⟩
  | false =>
    simp only [Bool.false_eq_true, if_false]
    cases hg : dget nm S.dir with
    | none =>
      rw [findAns_none hd hg] at HC
      unfold pf at *
      clear h hO hd hg
      go_enter Try.func20, Try.ntmps20
      go_wp2_with (go_at_call 54; refine HC.out.mono ?_; rintro e w2 ⟨rfl, rfl⟩)
      go_ret
      exact ⟨rfl, Aft.same H.out (Below.refl _ _)⟩
    | some i =>
      obtain ⟨b, ao, cap, e1, e2, e3, hb, ho, hr⟩ := h.at (hO.dir.num _ (dget_some hg))
      rw [findAns_some hd hg e2] at HC
      have HOP : Hid (Calls Try.prog 55 #[pf dp, .agg #[.string { data := #[] }, .string { data := #[] }, .pointer none]] w fun e w' => e = .returned (.int .i64 ((goes S id).1 : Int)) ∧ Rep w' dp (goes S id).2 L nx ∧ Fr [dp] w w') := operate_zero dp nx S L w h hd hO.ops hO.armed
      have HE1 := hide e1
      have HE3 := hide e3
      simp only
      rcases goes_split S (setFile i ⟨(flAt S.files i).bys, (flAt S.files i).bys.length⟩) with ⟨g1, g2⟩ | ⟨g1, g2, g3⟩
      · rw [g2]
        have hne : (((goes S id).1 : Int) != 0) = true := by simp; omega
        have hne2 : ¬ ((goes S id).1 : Int) = 0 := by omega
        generalize goes S id = r at *
        unfold pf at *
        clear h hO hd hg e1 e2 e3 hb ho hr g1 g2
        go_enter Try.func20, Try.ntmps20
        go_wp2_with (first | (go_at_call 54; refine HC.out.mono ?_; rintro e w2 ⟨rfl, rfl⟩) | (go_at_call 55; refine HOP.out.mono ?_; rintro e w4 ⟨rfl, h4, f4⟩; have H4 := hide h4; have F4 := hide f4; clear h4 f4))
        go_ret
        exact ⟨rfl, Aft.dp H4.out F4.out⟩
      · rw [g2]
        rw [g1] at HOP
        obtain ⟨r, hr2⟩ : ∃ r, r = (goes S id).2 := ⟨_, rfl⟩
        rw [← hr2] at HOP ⊢
        have hrf : r.files = S.files := by rw [hr2, g3]
        rw [← hrf] at HE3 ⊢
        have HFI : Hid (∀ w4, Rep w4 dp r L nx → w4.cell? ⟨b, 1, none⟩ = some (.slice ao (flAt r.files i).bys.length cap) ∧ w4.cell? ⟨b, 2, none⟩ = some (.int .i64 ((flAt r.files i).syn : Int)) ∧ w4.frozen? ⟨b, 2, none⟩ = false) := fun w4 h4 => by
          have := (h4.file i b _ HE1.out HE3.out).1
          exact ⟨this.cell 1, this.cell 2, this.frozen 2⟩
        have HFS : Hid (∀ w4, Rep w4 dp r L nx → Aft w4 (w4.setCell ⟨b, 2, none⟩ (.int .i64 ((flAt r.files i).bys.length : Int))) dp L (setFile i ⟨(flAt r.files i).bys, (flAt r.files i).bys.length⟩ r) nx) := fun w4 h4 => rep_syn h4 HE1.out HE3.out rfl
        generalize flAt r.files i = f at *
        unfold pf at *
        clear h hO hd hg e1 e2 e3 hb ho hr g1 g2 g3 hr2 hrf HE3
        go_enter Try.func20, Try.ntmps20
        go_wp2_with (first | (go_at_call 54; refine HC.out.mono ?_; rintro e w2 ⟨rfl, rfl⟩) | (go_at_call 55; refine HOP.out.mono ?_; rintro e w4 ⟨rfl, h4, f4⟩; have H4 := hide h4; have F4 := hide f4; obtain ⟨k1, k2, k3⟩ := HFI.out w4 h4; clear h4 f4))
        go_ret
        obtain ⟨L', h1, h2, h3⟩ := HFS.out w4 H4.out
        exact ⟨rfl, L', h1, (F4.out.mono (fun x hx => .inl (by rw [List.mem_singleton.1 hx]; exact (L.mem dp dp).2 (.inl rfl)))).trans h2 (fun x hx => .inl hx), fun g hg => (h3 g hg).imp id (fun e => Nat.le_trans F4.out.size e)⟩
end Go.Proofs.Yticbfcognnofbaa
