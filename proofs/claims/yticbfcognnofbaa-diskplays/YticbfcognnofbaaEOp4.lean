/- The contracts of the document's Remove, Rename and SyncDir. -/
import Derived.Test.YticbfcognnofbaaEOp3
namespace Go.Proofs.Yticbfcognnofbaa
open Go.RowKit Go.Maps

theorem efind_none {v : Value} {d : Dir} {B : Nat} {nm : Nm} {w : World} (h : EOwn w B v d) (hl : d.length ≤ 1000000) (hg : dget nm d = none) :
    Calls Try.prog 65 #[v, .string (str nm)] w fun e w' => e = .returned (.int .i64 (-1)) ∧ w' = w :=
  (efind_any v d B nm w h hl).mono fun e w' ⟨h1, h2⟩ => by
    rcases h1 with ⟨_, he⟩ | ⟨k, i, _, h3, _⟩
    · exact ⟨he, h2⟩
    · rw [hg] at h3; cases h3
theorem efind_some {v : Value} {d : Dir} {B : Nat} {nm : Nm} {i : Nat} {w : World} (h : EOwn w B v d) (hl : d.length ≤ 1000000) (hg : dget nm d = some i) :
    Calls Try.prog 65 #[v, .string (str nm)] w fun e w' => ∃ k, d[k]? = some (nm, i) ∧ e = .returned (.int .i64 ((k : Nat) : Int)) ∧ w' = w :=
  (efind_any v d B nm w h hl).mono fun e w' ⟨h1, h2⟩ => by
    rcases h1 with ⟨h3, _⟩ | ⟨k, j, hk, h3, he⟩
    · rw [hg] at h3; cases h3
    · rw [hg] at h3
      injection h3 with h3
      subst h3
      exact ⟨k, hk, he, h2⟩
theorem goneS_eq (S : DS) : (goneS S).dir = S.dir ∧ (goneS S).safe = S.safe ∧ (goneS S).chg = S.chg ∧ (goneS S).files = S.files ∧ (goneS S).room = S.room := by
  unfold goneS
  split <;> exact ⟨rfl, rfl, rfl, rfl, rfl⟩
theorem RAft.after {w w2 w' : World} {rp : Nat} {L : RL} {S' : DS} (hf : Fr (L.mut rp) w w2) (k : RAft w2 w' rp L S') : RAft w w' rp L S' := RAft.then hf (fun _ hb => .inl hb) (fun _ hb => .inl hb) k
/-- goes, then a change of the directory: both ways. -/
theorem echange_gone {rp : Nat} {S : DS} {L : RL} {w w2 : World} (c : Ch) (hO : Ok S) (h2 : RRep w2 rp (goneS S) L) (hf : Fr (L.mut rp) w w2) :
    Calls Try.prog 71 #[pf rp, .agg #[.string (str c.fr), .string (str c.tn), .int .i64 (c.fl : Int)]] w2 fun e w' => e = .returned (.tuple #[]) ∧ RAft w w' rp L (change c (goneS S)) := by
  obtain ⟨e1, e2, e3, e4, e5⟩ := goneS_eq S
  refine (echange_any rp (goneS S) L c w2 h2 (by rw [e1]; have := hO.dir.len; omega) (fun p hp => by rw [e1] at hp; exact (isNm_ne (hO.dir.name p hp)).1) (by rw [e3]; have := hO.clen; have := hO.ops; omega)).mono fun e w' ⟨h3, h4⟩ => ⟨h3, h4.after hf⟩
theorem ops_lt {S : DS} (hO : Ok S) (h : ¬ 1048576 ≤ S.ops) : S.ops < 1048576 ∧ S.armed ≤ 9223372036854775807 := ⟨by omega, hO.armed⟩
theorem goes_full {S : DS} (f : DS → DS) (h : 1048576 ≤ S.ops) : goes S f = (5, S) := by unfold goes; rw [if_pos h]
theorem goes_one {S : DS} (f : DS → DS) (h : ¬ 1048576 ≤ S.ops) (ha : S.armed = 1) : goes S f = (51, goneS S) := by rw [goes_eq f (by omega), if_pos ha]
theorem goes_on {S : DS} (f : DS → DS) (h : ¬ 1048576 ≤ S.ops) (ha : ¬ S.armed = 1) : goes S f = (0, f (goneS S)) := by rw [goes_eq f (by omega), if_neg ha]
set_option maxHeartbeats 2000000 in
set_option maxRecDepth 100000 in
theorem eremove_any (rp : Nat) (S : DS) (L : RL) (nm : Nm) (w : World) (h : RRep w rp S L) (hO : Ok S) :
    Calls Try.prog 47 #[pf rp, .string (str nm)] w fun e w' => e = .returned (.int .i64 ((remove S nm).1 : Int)) ∧ RAft w w' rp L (remove S nm).2 := by
  obtain ⟨c0, c1, c2, c3, c4, c5, c6, c7⟩ := h.c
  have H := hide h
  have HO := hide hO
  unfold remove
  cases hd : S.dead with
  | true =>
    rw [hd] at c7
    simp only [if_true]
    unfold pf at *
    clear h hO hd c0 c1 c2 c3 c4 c5 c6
    go_enter Try.func47, Try.ntmps47
    go_wp2
    go_ret
    exact ⟨rfl, RAft.same H.out (Below.refl _ _)⟩
  | false =>
    rw [hd] at c7
    simp only [Bool.false_eq_true, if_false]
    cases hg : dget nm S.dir with
    | none =>
      have HF := hide (efind_none h.dir (by have := hO.dir.len; omega) hg)
      unfold pf at *
      clear h hO hd hg c0 c1 c3 c4 c5 c6
      go_enter Try.func47, Try.ntmps47
      go_wp2_with (go_at_call 65; refine HF.out.mono ?_; rintro e w2 ⟨rfl, hw⟩; subst hw)
      go_ret
      exact ⟨rfl, RAft.same H.out (Below.refl _ _)⟩
    | some i =>
      have HF := hide (efind_some h.dir (by have := hO.dir.len; omega) hg)
      simp only
      by_cases ho : 1048576 ≤ S.ops
      · rw [goes_full _ ho]
        have q : decide ((1048576 : Int) ≤ (S.ops : Int)) = true := decide_eq_true (by omega)
        unfold pf at *
        generalize S.ops = o at *
        clear h hO hd hg c0 c1 c3 c4 c6 ho
        go_enter Try.func47, Try.ntmps47
        go_wp2_with (go_at_call 65; refine HF.out.mono ?_; rintro e w2 ⟨k, hk, rfl, hw⟩; subst hw; clear hk)
        go_ret
        exact ⟨rfl, RAft.same H.out (Below.refl _ _)⟩
      · have q : decide ((1048576 : Int) ≤ (S.ops : Int)) = false := decide_eq_false (by omega)
        have HG := hide (egoes_any rp S L w h (by omega) hO.armed)
        have HCH : Hid (∀ w2, RRep w2 rp (goneS S) L → Fr (L.mut rp) w w2 → Calls Try.prog 71 #[.pointer (some ⟨rp, 0, none⟩), .agg #[.string (str nm), .string { data := #[] }, .int .i64 0]] w2 fun e w' => e = .returned (.tuple #[]) ∧ RAft w w' rp L (change ⟨nm, [], 0⟩ (goneS S))) := fun w2 h1 h2 => echange_gone ⟨nm, [], 0⟩ hO h1 h2
        by_cases ha : S.armed = 1
        · rw [goes_one _ ho ha]
          rw [if_pos ha] at HG
          unfold pf at *
          generalize S.ops = o at *
          clear h hO hd hg c0 c1 c3 c4 c6 ho ha
          go_enter Try.func47, Try.ntmps47
          go_wp2_with (first | (go_at_call 65; refine HF.out.mono ?_; rintro e w2 ⟨k, hk, rfl, hw⟩; have hw2 := hw.symm; subst hw2; clear hk hw) | (go_at_call 70; refine HG.out.mono ?_; rintro e w3 ⟨rfl, h3, f3⟩; have H3 := hide h3; have F3 := hide f3; clear h3 f3) | fail)
          go_ret
          exact ⟨rfl, RAft.mk0 H3.out F3.out⟩
        · rw [goes_on _ ho ha]
          rw [if_neg ha] at HG
          unfold pf at *
          generalize S.ops = o at *
          clear h hO hd hg c0 c1 c3 c4 c6 ho ha
          go_enter Try.func47, Try.ntmps47
          go_wp2_with (first | (go_at_call 65; refine HF.out.mono ?_; rintro e w2 ⟨k, hk, rfl, hw⟩; have hw2 := hw.symm; subst hw2; clear hk hw) | (go_at_call 70; refine HG.out.mono ?_; rintro e w3 ⟨rfl, h3, f3⟩; have H3 := hide h3; have F3 := hide f3; clear h3 f3) | (go_at_call 71; refine (HCH.out _ H3.out F3.out).mono ?_; rintro e w4 ⟨rfl, h4⟩; have H4 := hide h4; clear h4) | fail)
          go_ret
          exact ⟨rfl, H4.out⟩
end Go.Proofs.Yticbfcognnofbaa
