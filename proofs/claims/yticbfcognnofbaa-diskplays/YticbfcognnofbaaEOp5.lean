/- The contracts of the document's SyncDir and Rename. -/
import Derived.Test.YticbfcognnofbaaEOp4
namespace Go.Proofs.Yticbfcognnofbaa
open Go.RowKit Go.Maps

theorem RRep.synced {w : World} {rp : Nat} {S : DS} {L : RL} (h : RRep w rp S L) : RRep ((w.setCell ⟨rp, 3, none⟩ L.dv).setCell ⟨rp, 4, none⟩ (.slice none 0 0)) rp { S with safe := S.dir, chg := [] } { L with sv := L.dv, cv := .slice none 0 0 } ∧ RRep (w.setCell ⟨rp, 3, none⟩ L.dv) rp { S with safe := S.dir } { L with sv := L.dv } := by
  have h1 : RRep (w.setCell ⟨rp, 3, none⟩ L.dv) rp { S with safe := S.dir } { L with sv := L.dv } :=
    h.setBox (S' := { S with safe := S.dir }) (L' := { L with sv := L.dv }) 3 L.dv rfl rfl rfl rfl h.dir h.dir rfl rfl (fun b hb => by
      rcases (RL.mem_imm _ b).1 hb with e | e | e
      · exact h.sep b ((L.mem_imm b).2 (.inl e))
      · exact h.sep b ((L.mem_imm b).2 (.inl e))
      · exact h.sep b ((L.mem_imm b).2 (.inr (.inr e))))
  refine ⟨?_, h1⟩
  obtain ⟨n1, n2⟩ := h1.nod3
  have ho : ∀ b, b ≠ rp → ((w.setCell ⟨rp, 3, none⟩ L.dv).setCell ⟨rp, 4, none⟩ (.slice none 0 0)).heap[b]? = (w.setCell ⟨rp, 3, none⟩ L.dv).heap[b]? := fun b hb => heap_setCell_other _ ⟨rp, 4, none⟩ b _ hb
  have hrp : rp ∈ ({ L with sv := L.dv } : RL).mut rp := (RL.mem_mut _ rp rp).2 (.inl rfl)
  have hi : ∀ b ∈ ({ L with sv := L.dv } : RL).imm, b ≠ rp := fun b hb e => h1.sep b hb (by rw [e]; exact hrp)
  refine ⟨RL.nod_of (fun g hg => ⟨(n1 g hg).1, fun e => by simp [Value.ownBlock] at e⟩) (fun g hg => by simp [Value.ownBlock] at hg), fun b hb hm => ?_, h1.box.set 4 _, ?_, h1.ulen, ?_, ?_, ?_, World.ownsRow_nil _ _ _ _⟩
  · refine h1.sep b hb ?_
    rcases (RL.mem_mut _ rp b).1 hm with e | e | e
    · exact (RL.mem_mut _ rp b).2 (.inl e)
    · exact (RL.mem_mut _ rp b).2 (.inr (.inl e))
    · simp [Value.ownBlock] at e
  · exact owns_same h1.files fun g hg => ho g (n1 g hg).1
  · intro i u f a b
    exact owns_same (h1.byte i u f a b) fun g hg => ho g (hi g ((RL.mem_imm _ g).2 (.inr (.inr ⟨u, List.mem_of_getElem? a, hg⟩))))
  · exact owns_same h1.dir fun g hg => ho g (hi g ((RL.mem_imm _ g).2 (.inl hg)))
  · exact owns_same h1.safe fun g hg => ho g (hi g ((RL.mem_imm _ g).2 (.inr (.inl hg))))
theorem RRep.synced_aft {w w2 : World} {rp : Nat} {S : DS} {L : RL} (h : RRep w2 rp S L) (hf : Fr (L.mut rp) w w2) : RAft w ((w2.setCell ⟨rp, 3, none⟩ L.dv).setCell ⟨rp, 4, none⟩ (.slice none 0 0)) rp L { S with safe := S.dir, chg := [] } := by
  refine ⟨{ L with sv := L.dv, cv := .slice none 0 0 }, h.synced.1, (hf.trans (Fr.rp (L := L)) (fun x hx => .inl hx)).trans (Fr.rp (L := L)) (fun x hx => .inl hx), fun b hb => .inl ?_⟩
  rcases List.mem_append.1 hb with hb | hb
  · refine List.mem_append.2 (.inl ((L.mem_mut rp b).2 ?_))
    rcases (RL.mem_mut _ rp b).1 hb with e | e | e
    · exact .inl e
    · exact .inr (.inl e)
    · simp [Value.ownBlock] at e
  · refine List.mem_append.2 (.inr ((L.mem_imm b).2 ?_))
    rcases (RL.mem_imm _ b).1 hb with e | e | e
    · exact .inl e
    · exact .inl e
    · exact .inr (.inr e)
set_option maxHeartbeats 2000000 in
set_option maxRecDepth 100000 in
theorem esyncDir_any (rp : Nat) (S : DS) (L : RL) (w : World) (h : RRep w rp S L) (hO : Ok S) :
    Calls Try.prog 48 #[pf rp] w fun e w' => e = .returned (.int .i64 ((syncDir S).1 : Int)) ∧ RAft w w' rp L (syncDir S).2 := by
  obtain ⟨c0, c1, c2, c3, c4, c5, c6, c7⟩ := h.c
  have H := hide h
  unfold syncDir
  cases hd : S.dead with
  | true =>
    rw [hd] at c7
    simp only [if_true]
    unfold pf at *
    clear h hO hd c0 c1 c2 c3 c4 c5 c6
    go_enter Try.func48, Try.ntmps48
    go_wp2
    go_ret
    exact ⟨rfl, RAft.same H.out (Below.refl _ _)⟩
  | false =>
    rw [hd] at c7
    simp only [Bool.false_eq_true, if_false]
    by_cases ho : 1048576 ≤ S.ops
    · rw [goes_full _ ho]
      have q : decide ((1048576 : Int) ≤ (S.ops : Int)) = true := decide_eq_true (by omega)
      unfold pf at *
      generalize S.ops = o at *
      clear h hO hd c0 c1 c2 c3 c4 c6 ho
      go_enter Try.func48, Try.ntmps48
      go_wp2
      go_ret
      exact ⟨rfl, RAft.same H.out (Below.refl _ _)⟩
    · have q : decide ((1048576 : Int) ≤ (S.ops : Int)) = false := decide_eq_false (by omega)
      have HG := hide (egoes_any rp S L w h (by omega) hO.armed)
      by_cases ha : S.armed = 1
      · rw [goes_one _ ho ha]
        rw [if_pos ha] at HG
        unfold pf at *
        generalize S.ops = o at *
        clear h hO hd c0 c1 c2 c3 c4 c6 ho ha
        go_enter Try.func48, Try.ntmps48
        go_wp2_with (first | (go_at_call 70; refine HG.out.mono ?_; rintro e w3 ⟨rfl, h3, f3⟩; have H3 := hide h3; have F3 := hide f3; clear h3 f3) | fail)
        go_ret
        exact ⟨rfl, RAft.mk0 H3.out F3.out⟩
      · rw [goes_on _ ho ha]
        rw [if_neg ha] at HG
        have HS : Hid (∀ w3, RRep w3 rp (goneS S) L → Fr (L.mut rp) w w3 → RAft w ((w3.setCell ⟨rp, 3, none⟩ L.dv).setCell ⟨rp, 4, none⟩ (.slice none 0 0)) rp L { goneS S with safe := (goneS S).dir, chg := [] } ∧ w3.cell? ⟨rp, 2, none⟩ = some L.dv ∧ w3.cell? ⟨rp, 3, none⟩ = some L.sv ∧ w3.frozen? ⟨rp, 3, none⟩ = false ∧ (w3.setCell ⟨rp, 3, none⟩ L.dv).cell? ⟨rp, 4, none⟩ = some L.cv ∧ (w3.setCell ⟨rp, 3, none⟩ L.dv).frozen? ⟨rp, 4, none⟩ = false) := fun w3 h3 f3 => ⟨h3.synced_aft f3, h3.c.2.2.1, h3.c.2.2.2.1, h3.box.frozen 3, h3.synced.2.c.2.2.2.2.1, h3.synced.2.box.frozen 4⟩
        obtain ⟨dao, dcap, hdv⟩ := ownsRow_slice h.dir
        rw [hdv] at HS
        unfold pf at *
        generalize ({ goneS S with safe := (goneS S).dir, chg := [] } : DS) = S2 at *
        generalize S.dir.length = dn at *
        generalize S.ops = o at *
        clear h hO hd c0 c1 c2 c3 c4 c6 ho ha hdv
        go_enter Try.func48, Try.ntmps48
        go_wp2_with (first | (go_at_call 70; refine HG.out.mono ?_; rintro e w3 ⟨rfl, h3, f3⟩; obtain ⟨k1, k2, k3, k4, k5, k6⟩ := HS.out w3 h3 f3; have HE := hide k1; clear h3 f3 k1) | fail)
        go_ret
        exact ⟨rfl, HE.out⟩
set_option maxHeartbeats 2000000 in
set_option maxRecDepth 100000 in
theorem erename_any (rp : Nat) (S : DS) (L : RL) (a b : Nm) (w : World) (h : RRep w rp S L) (hO : Ok S) (hlb : b.length ≤ maxLen) :
    Calls Try.prog 45 #[pf rp, .string (str a), .string (str b)] w fun e w' => e = .returned (.int .i64 ((rename S a b).1 : Int)) ∧ RAft w w' rp L (rename S a b).2 := by
  obtain ⟨c0, c1, c2, c3, c4, c5, c6, c7⟩ := h.c
  have H := hide h
  have HNM : Hid (∀ W, Calls Try.prog 64 #[.string (str b)] W fun e w' => e = .returned (.bool (isNm b)) ∧ w' = W) := fun W => ename_any b W hlb
  unfold rename
  cases hd : S.dead with
  | true =>
    rw [hd] at c7
    simp only [if_true]
    unfold pf at *
    clear h hO hd c0 c1 c2 c3 c4 c5 c6
    go_enter Try.func45, Try.ntmps45
    go_wp2
    go_ret
    exact ⟨rfl, RAft.same H.out (Below.refl _ _)⟩
  | false =>
    rw [hd] at c7
    simp only [Bool.false_eq_true, if_false]
    cases hg : dget a S.dir with
    | none =>
      have HF := hide (efind_none h.dir (by have := hO.dir.len; omega) hg)
      unfold pf at *
      clear h hO hd hg c0 c1 c3 c4 c5 c6
      go_enter Try.func45, Try.ntmps45
      go_wp2_with (go_at_call 65; refine HF.out.mono ?_; rintro e w2 ⟨rfl, hw⟩; subst hw)
      go_ret
      exact ⟨rfl, RAft.same H.out (Below.refl _ _)⟩
    | some i =>
      have HF := hide (efind_some h.dir (by have := hO.dir.len; omega) hg)
      simp only
      cases hb : isNm b with
      | false =>
        rw [hb] at HNM
        simp only [if_true]
        unfold pf at *
        clear h hO hd hg c0 c1 c3 c4 c5 c6
        go_enter Try.func45, Try.ntmps45
        go_wp2_with (first | (go_at_call 65; refine HF.out.mono ?_; rintro e w2 ⟨k, hk, rfl, hw⟩; have hw2 := hw.symm; subst hw2; clear hk hw) | (go_at_call 64; refine (HNM.out _).mono ?_; rintro e w3 ⟨rfl, hw⟩; have hw2 := hw.symm; subst hw2; clear hw) | fail)
        go_ret
        exact ⟨rfl, RAft.same H.out (Below.refl _ _)⟩
      | true =>
        rw [hb] at HNM
        simp only [Bool.true_eq_false, if_false]
        by_cases ho : 1048576 ≤ S.ops
        · rw [goes_full _ ho, goes_full _ ho]
          have q : decide ((1048576 : Int) ≤ (S.ops : Int)) = true := decide_eq_true (by omega)
          have HFIN : Hid ((if a = b then ((5 : Nat), S) else (5, S)) = (5, S)) := by show _ = _; split <;> rfl
          rw [HFIN.out]
          unfold pf at *
          generalize S.ops = o at *
          clear h hO hd hg c0 c1 c3 c4 c6 ho
          go_enter Try.func45, Try.ntmps45
          go_wp2_with (first | (go_at_call 65; refine HF.out.mono ?_; rintro e w2 ⟨k, hk, rfl, hw⟩; have hw2 := hw.symm; subst hw2; clear hk hw) | (go_at_call 64; refine (HNM.out _).mono ?_; rintro e w3 ⟨rfl, hw⟩; have hw2 := hw.symm; subst hw2; clear hw) | fail)
          go_ret
          exact ⟨rfl, RAft.same H.out (Below.refl _ _)⟩
        · have q : decide ((1048576 : Int) ≤ (S.ops : Int)) = false := decide_eq_false (by omega)
          have HG := hide (egoes_any rp S L w h (by omega) hO.armed)
          have HCH : Hid (∀ w2, RRep w2 rp (goneS S) L → Fr (L.mut rp) w w2 → Calls Try.prog 71 #[.pointer (some ⟨rp, 0, none⟩), .agg #[.string (str a), .string (str b), .int .i64 (i : Int)]] w2 fun e w' => e = .returned (.tuple #[]) ∧ RAft w w' rp L (change ⟨a, b, i⟩ (goneS S))) := fun w2 h1 h2 => echange_gone ⟨a, b, i⟩ hO h1 h2
          by_cases ha : S.armed = 1
          · rw [goes_one _ ho ha, goes_one _ ho ha]
            rw [if_pos ha] at HG
            have HFIN : Hid ((if a = b then ((51 : Nat), goneS S) else (51, goneS S)) = (51, goneS S)) := by show _ = _; split <;> rfl
            rw [HFIN.out]
            unfold pf at *
            generalize S.ops = o at *
            clear h hO hd hg c0 c1 c3 c4 c6 ho ha
            go_enter Try.func45, Try.ntmps45
            go_wp2_with (first | (go_at_call 65; refine HF.out.mono ?_; rintro e w2 ⟨k, hk, rfl, hw⟩; have hw2 := hw.symm; subst hw2; clear hk hw) | (go_at_call 64; refine (HNM.out _).mono ?_; rintro e w3 ⟨rfl, hw⟩; have hw2 := hw.symm; subst hw2; clear hw) | (go_at_call 70; refine HG.out.mono ?_; rintro e w3 ⟨rfl, h3, f3⟩; have H3 := hide h3; have F3 := hide f3; clear h3 f3) | fail)
            go_ret
            exact ⟨rfl, RAft.mk0 H3.out F3.out⟩
          · rw [goes_on _ ho ha, goes_on _ ho ha]
            rw [if_neg ha] at HG
            by_cases hab : a = b
            · rw [if_pos hab]
              subst hab
              unfold pf at *
              generalize S.ops = o at *
              clear h hO hd hg c0 c1 c3 c4 c6 ho ha
              generalize str a = s at *
              go_enter Try.func45, Try.ntmps45
              go_wp2_with (first | (go_at_call 65; refine HF.out.mono ?_; rintro e w2 ⟨k, hk, rfl, hw⟩; have hw2 := hw.symm; subst hw2; clear hk hw) | (go_at_call 64; refine (HNM.out _).mono ?_; rintro e w3 ⟨rfl, hw⟩; have hw2 := hw.symm; subst hw2; clear hw) | (go_at_call 70; refine HG.out.mono ?_; rintro e w3 ⟨rfl, h3, f3⟩; have H3 := hide h3; have F3 := hide f3; clear h3 f3) | fail)
              go_ret
              exact ⟨rfl, RAft.mk0 H3.out F3.out⟩
            · rw [if_neg hab]
              obtain ⟨n1, n2⟩ := str_ne hab
              have HDA : Hid (∀ k w3, S.dir[k]? = some (a, i) → RRep w3 rp (goneS S) L → ∃ g cap, w3.cell? ⟨rp, 2, none⟩ = some (.slice (some ⟨g, 0, none⟩) S.dir.length cap) ∧ w3.cell? ⟨g, k * 2 + 1, none⟩ = some (.int .i64 (i : Int)) ∧ k < S.dir.length ∧ S.dir.length ≤ cap) := fun k w3 hk h3 => by
                obtain ⟨e1, _⟩ := goneS_eq S
                obtain ⟨g, cap, x1, x2, x3, x4⟩ := h3.dirAt (k := k) (p := (a, i)) (by rw [e1]; exact hk)
                rw [e1] at x1 x4
                exact ⟨g, cap, by rw [← x1]; exact h3.c.2.2.1, x3, lt_of_get hk, x4⟩
              unfold pf at *
              generalize S.ops = o at *
              generalize change ⟨a, b, i⟩ (goneS S) = S2 at *
              clear h hO hd hg c0 c1 c3 c4 c6 ho ha hab
              go_enter Try.func45, Try.ntmps45
              go_wp2_with (first | (go_at_call 65; refine HF.out.mono ?_; rintro e w2 ⟨k, hk, rfl, hw⟩; have hw2 := hw.symm; subst hw2; have HK := hide hk; clear hk hw) | (go_at_call 64; refine (HNM.out _).mono ?_; rintro e w3 ⟨rfl, hw⟩; have hw2 := hw.symm; subst hw2; clear hw) | (go_at_call 70; refine HG.out.mono ?_; rintro e w4 ⟨rfl, h3, f3⟩; obtain ⟨g, cap, x1, x2, x3, x4⟩ := HDA.out k w4 HK.out h3; have x5 : (k : Int) < (S.dir.length : Int) := (by omega); have H3 := hide h3; have F3 := hide f3; clear h3 f3) | (go_at_call 71; refine (HCH.out _ H3.out F3.out).mono ?_; rintro e w5 ⟨rfl, h4⟩; have H4 := hide h4; clear h4) | fail)
              go_ret
              exact ⟨rfl, H4.out⟩
end Go.Proofs.Yticbfcognnofbaa
