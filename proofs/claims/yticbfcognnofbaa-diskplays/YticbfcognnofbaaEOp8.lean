/- A file turned in the document's disk; the contract of its Sync. -/
import Derived.Test.YticbfcognnofbaaEOp7
namespace Go.Proofs.Yticbfcognnofbaa
open Go.RowKit Go.Maps

theorem bcells_set0 : ∀ {fs : List Fl} {us : List Value} (i : Nat) {f f' : Fl} (u' : Value), us.length = fs.length → fs[i]? = some f → f'.syn = f.syn → (bcells fs us).set (i * 2) u' = bcells (fs.set i f') (us.set i u')
  | [], _, i, f, f', u', _, h, _ => by simp at h
  | y :: l, [], i, f, f', u', h, _, _ => by simp at h
  | y :: l, c :: us, 0, f, f', u', _, h, hs => by
    have e : y = f := by simpa using h
    subst e
    simp [bcells, hs]
  | y :: l, c :: us, i + 1, f, f', u', hl, h, hs => by
    have := bcells_set0 (fs := l) (us := us) i (f := f) (f' := f') u' (by simpa using hl) (by simpa using h) hs
    have e : ∀ (y : Fl) (l : List Fl) (c : Value) (us : List Value), bcells (y :: l) (c :: us) = c :: .int .i64 (y.syn : Int) :: bcells l us := fun _ _ _ _ => by simp [bcells]
    rw [List.set_cons_succ, List.set_cons_succ, e, e, show (i + 1) * 2 = i * 2 + 1 + 1 by omega, List.set_cons_succ, List.set_cons_succ, this]
theorem bcells_set1 : ∀ {fs : List Fl} {us : List Value} (i : Nat) (f' : Fl), us.length = fs.length → i < fs.length → (bcells fs us).set (i * 2 + 1) (.int .i64 (f'.syn : Int)) = bcells (fs.set i f') us
  | [], _, i, f', _, h => by simp at h
  | y :: l, [], i, f', h, _ => by simp at h
  | y :: l, c :: us, 0, f', _, h => by simp [bcells]
  | y :: l, c :: us, i + 1, f', hl, h => by
    have := bcells_set1 (fs := l) (us := us) i f' (by simpa using hl) (by simpa using h)
    have e : ∀ (y : Fl) (l : List Fl) (c : Value) (us : List Value), bcells (y :: l) (c :: us) = c :: .int .i64 (y.syn : Int) :: bcells l us := fun _ _ _ _ => by simp [bcells]
    rw [List.set_cons_succ, e, e, show (i + 1) * 2 + 1 = i * 2 + 1 + 1 + 1 by omega, List.set_cons_succ, List.set_cons_succ, this]
theorem RRep.turnF {w : World} {rp : Nat} {S : DS} {L : RL} (h : RRep w rp S L) {g cap : Nat} (hfv : L.fv = .slice (some ⟨g, 0, none⟩) S.files.length cap) (i j : Nat) (v : Value) (us' : List Value) (f' : Fl) (hc : (bcells S.files L.us).set j v = bcells (S.files.set i f') us') (hul : us'.length = S.files.length)
    (hby : ∀ (k : Nat) u f, us'[k]? = some u → (S.files.set i f')[k]? = some f → Own w 0 u f.bys) (him : ∀ u ∈ us', ∀ b, u.ownBlock = some b → b ∉ L.mut rp) : RRep (w.setCell ⟨g, j, none⟩ v) rp (setFile i f' S) { L with us := us' } ∧ Fr (L.mut rp) w (w.setCell ⟨g, j, none⟩ v) := by
  have hgo : L.fv.ownBlock = some g := by rw [hfv]; rfl
  have hgm : g ∈ L.mut rp := (L.mem_mut rp g).2 (.inr (.inl hgo))
  obtain ⟨n1, n2⟩ := h.nod3
  have ho : ∀ b, b ≠ g → (w.setCell ⟨g, j, none⟩ v).heap[b]? = w.heap[b]? := fun b hb => heap_setCell_other w ⟨g, j, none⟩ b v hb
  have hi : ∀ b ∈ ({ L with us := us' } : RL).imm, b ∉ L.mut rp := fun b hb => by
    rcases (RL.mem_imm _ b).1 hb with e | e | ⟨u, hu, e⟩
    · exact h.sep b ((L.mem_imm b).2 (.inl e))
    · exact h.sep b ((L.mem_imm b).2 (.inr (.inl e)))
    · exact him u hu b e
  have hig : ∀ b ∈ ({ L with us := us' } : RL).imm, b ≠ g := fun b hb e => hi b hb (by rw [e]; exact hgm)
  refine ⟨⟨h.nod, hi, h.box.other (Ne.symm (n1 g hgo).1) j v, ?_, ?_, ?_, ?_, ?_, ?_⟩, Fr.setCell _ _ _ _ _ hgm⟩
  · show World.ownsRow _ 0 _ 2 L.fv (S.files.set i f').length (bcells (S.files.set i f') us')
    rw [← hc, List.length_set, hfv]
    have hf := h.files
    rw [hfv] at hf
    exact (World.ownsRow.stored hf j v).1
  · show us'.length = (S.files.set i f').length
    rw [List.length_set]; exact hul
  · intro k u f h1 h2
    exact owns_same (hby k u f h1 h2) fun b hb => ho b (hig b ((RL.mem_imm _ b).2 (.inr (.inr ⟨u, List.mem_of_getElem? h1, hb⟩))))
  · exact owns_same h.dir fun b hb => ho b (hig b ((RL.mem_imm _ b).2 (.inl hb)))
  · exact owns_same h.safe fun b hb => ho b (hig b ((RL.mem_imm _ b).2 (.inr (.inl hb))))
  · exact owns_same h.chg fun b hb => ho b (fun e => (n2 b hb).2 (by rw [e]; exact hgo))
theorem RAft.drewN {w w' : World} {rp : Nat} {L : RL} {S' : DS} (h : RAft w w' rp L S') (n : Nat) : RAft w (w'.drewN n) rp L S' := by
  obtain ⟨L', h1, h2, h3⟩ := h
  exact ⟨L', h1.drewN n, h2.trans (Fr.of (fp := []) (below_drewN (Below.refl _ _) n)) (fun x hx => by cases hx), h3⟩
/-- The file's bytes are all synced. -/
theorem RRep.sync {w : World} {rp : Nat} {S : DS} {L : RL} (h : RRep w rp S L) {g cap : Nat} (hfv : L.fv = .slice (some ⟨g, 0, none⟩) S.files.length cap) {i : Nat} (hi : i < S.files.length) : RRep (w.setCell ⟨g, i * 2 + 1, none⟩ (.int .i64 ((flAt S.files i).bys.length : Int))) rp (setFile i ⟨(flAt S.files i).bys, (flAt S.files i).bys.length⟩ S) L ∧ Fr (L.mut rp) w (w.setCell ⟨g, i * 2 + 1, none⟩ (.int .i64 ((flAt S.files i).bys.length : Int))) :=
  h.turnF hfv i _ _ L.us ⟨(flAt S.files i).bys, (flAt S.files i).bys.length⟩ (bcells_set1 i ⟨(flAt S.files i).bys, (flAt S.files i).bys.length⟩ h.ulen hi) h.ulen (fun k u f h1 h2 => by
    rw [List.getElem?_set] at h2
    by_cases hk : i = k
    · subst hk
      rw [if_pos rfl, if_pos hi] at h2
      injection h2 with h2
      rw [← h2]
      exact h.byte i u (flAt S.files i) h1 (by simp [flAt, List.getD, hi])
    · rw [if_neg hk] at h2
      exact h.byte k u f h1 h2) (fun u hu b hb => h.sep b ((L.mem_imm b).2 (.inr (.inr ⟨u, hu, hb⟩))))
set_option maxHeartbeats 2000000 in
set_option maxRecDepth 100000 in
theorem esync_any (rp : Nat) (S : DS) (L : RL) (nm : Nm) (w : World) (h : RRep w rp S L) (hO : Ok S) :
    Calls Try.prog 43 #[pf rp, .string (str nm)] w fun e w' => e = .returned (.int .i64 ((sync S nm).1 : Int)) ∧ RAft w w' rp L (sync S nm).2 := by
  obtain ⟨c0, c1, c2, c3, c4, c5, c6, c7⟩ := h.c
  have H := hide h
  unfold sync
  cases hd : S.dead with
  | true =>
    rw [hd] at c7
    simp only [if_true]
    unfold pf at *
    clear h hO hd c0 c1 c2 c3 c4 c5 c6
    go_enter Try.func43, Try.ntmps43
    go_wp2
    go_ret
    exact ⟨rfl, RAft.same H.out (Below.refl _ _)⟩
  | false =>
    rw [hd] at c7
    simp only [Bool.false_eq_true, if_false]
    cases hg : dget nm S.dir with
    | none =>
      have HF := hide (efind_none h.dir (by have := hO.dir.len; omega) hg)
      unfold pf at *
      clear h hO hd hg c0 c1 c3 c4 c5 c6
      go_enter Try.func43, Try.ntmps43
      go_wp2_with (go_at_call 65; refine HF.out.mono ?_; rintro e w2 ⟨rfl, hw⟩; subst hw)
      go_ret
      exact ⟨rfl, RAft.same H.out (Below.refl _ _)⟩
    | some i =>
      have HF := hide (efind_some h.dir (by have := hO.dir.len; omega) hg)
      simp only
      by_cases ho : 1048576 ≤ S.ops
      · rw [goes_full _ ho]
        have q : decide ((1048576 : Int) ≤ (S.ops : Int)) = true := decide_eq_true (by omega)
        unfold pf at *
        generalize S.ops = o at *
        clear h hO hd hg c0 c1 c3 c4 c6 ho
        go_enter Try.func43, Try.ntmps43
        go_wp2_with (go_at_call 65; refine HF.out.mono ?_; rintro e w2 ⟨k, hk, rfl, hw⟩; subst hw; clear hk)
        go_ret
        exact ⟨rfl, RAft.same H.out (Below.refl _ _)⟩
      · have q : decide ((1048576 : Int) ≤ (S.ops : Int)) = false := decide_eq_false (by omega)
        have HG := hide (egoes_any rp S L w h (by omega) hO.armed)
        by_cases ha : S.armed = 1
        · rw [goes_one _ ho ha]
          rw [if_pos ha] at HG
          unfold pf at *
          generalize S.ops = o at *
          clear h hO hd hg c0 c1 c3 c4 c6 ho ha
          go_enter Try.func43, Try.ntmps43
          go_wp2_with (first | (go_at_call 65; refine HF.out.mono ?_; rintro e w2 ⟨k, hk, rfl, hw⟩; have hw2 := hw.symm; subst hw2; clear hk hw) | (go_at_call 70; refine HG.out.mono ?_; rintro e w3 ⟨rfl, h3, f3⟩; have H3 := hide h3; have F3 := hide f3; clear h3 f3) | fail)
          go_ret
          exact ⟨rfl, RAft.mk0 H3.out F3.out⟩
        · rw [goes_on _ ho ha]
          rw [if_neg ha] at HG
          obtain ⟨e1, e2, e3, e4, e5⟩ := goneS_eq S
          have hil : i < S.files.length := hO.dir.num _ (dget_some hg)
          have HX : Hid (∀ k w3, S.dir[k]? = some (nm, i) → RRep w3 rp (goneS S) L → Fr (L.mut rp) w w3 → ∃ g cap gf cf ao c, w3.cell? ⟨rp, 2, none⟩ = some (.slice (some ⟨g, 0, none⟩) S.dir.length cap) ∧ w3.cell? ⟨g, k * 2 + 1, none⟩ = some (.int .i64 (i : Int)) ∧ k < S.dir.length ∧ S.dir.length ≤ cap ∧ w3.cell? ⟨rp, 1, none⟩ = some (.slice (some ⟨gf, 0, none⟩) S.files.length cf) ∧ S.files.length ≤ cf ∧ w3.cell? ⟨gf, i * 2, none⟩ = some (.slice ao (flAt S.files i).bys.length c) ∧ w3.cell? ⟨gf, i * 2 + 1, none⟩ = some (.int .i64 ((flAt S.files i).syn : Int)) ∧ w3.frozen? ⟨gf, i * 2 + 1, none⟩ = false ∧ RAft w (w3.setCell ⟨gf, i * 2 + 1, none⟩ (.int .i64 ((flAt S.files i).bys.length : Int))) rp L (setFile i ⟨(flAt S.files i).bys, (flAt S.files i).bys.length⟩ (goneS S))) := fun k w3 hk h3 f3 => by
            obtain ⟨g, cap, x1, x2, x3, x4⟩ := h3.dirAt (k := k) (p := (nm, i)) (by rw [e1]; exact hk)
            obtain ⟨gf, cf, ao, c, y1, y2, y3, y4, y5, y6, y7⟩ := h3.file (i := i) (by rw [e4]; exact hil)
            have hs := h3.sync y1 (i := i) (by rw [e4]; exact hil)
            have hfz : w3.frozen? ⟨gf, i * 2 + 1, none⟩ = false := by
              have hf := h3.files
              rw [y1] at hf
              rcases hf.2 with ⟨e, _⟩ | ⟨g', cap', cur, e, _, hgg, _⟩
              · cases e
              · injection e with e _ _
                injection e with e
                injection e with e _ _
                subst e
                exact frozen_of_row w3 gf _ _ _ hgg
            rw [e1] at x1 x4
            rw [e4] at y1 y2 y4 y5 hs
            exact ⟨g, cap, gf, cf, ao, c, by rw [← x1]; exact h3.c.2.2.1, x3, lt_of_get hk, x4, by rw [← y1]; exact h3.c.2.1, y2, y4, y5, hfz, RAft.after f3 (RAft.mk0 hs.1 hs.2)⟩
          unfold pf at *
          generalize S.ops = o at *
          generalize setFile i ⟨(flAt S.files i).bys, (flAt S.files i).bys.length⟩ (goneS S) = S2 at *
          generalize (flAt S.files i).bys.length = bl at *
          have hfi : (i : Int) < (S.files.length : Int) := by omega
          generalize S.files.length = fl at *
          clear h hO hd hg c0 c1 c3 c4 c6 ho ha e1 e2 e3 e4 e5
          go_enter Try.func43, Try.ntmps43
          go_upto_region 11 with (first | (go_at_call 65; refine HF.out.mono ?_; rintro e w2 ⟨k, hk, rfl, hw⟩; have hw2 := hw.symm; subst hw2; have HK := hide hk; clear hk hw) | (go_at_call 70; refine HG.out.mono ?_; rintro e w4 ⟨rfl, h3, f3⟩; obtain ⟨g, cap, gf, cf, bo, bc, x1, x2, x3, x4, y1, y2, y3, y4, y5, y6⟩ := HX.out k w4 HK.out h3 f3; have x5 : (k : Int) < (S.dir.length : Int) := (by omega); have HE := hide y6; clear h3 f3 y6) | fail)
          go_region
          all_goals
            go_wp2_with fail
            go_ret
            exact ⟨rfl, HE.out.drewN 1⟩
end Go.Proofs.Yticbfcognnofbaa
