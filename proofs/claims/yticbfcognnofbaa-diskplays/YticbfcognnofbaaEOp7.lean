/- The contract of the document's Create. -/
import Derived.Test.YticbfcognnofbaaEOp6
namespace Go.Proofs.Yticbfcognnofbaa
open Go.RowKit Go.Maps

theorem fil_one (u : Value) (z : Int) (h : u.oneCell' = true) : ∀ x ∈ [u, .int .i64 z], x.oneCell' = true := by intro x hx; simp only [List.mem_cons, List.not_mem_nil, or_false] at hx; rcases hx with rfl | rfl; exact h; rfl
def madeE (nm : Nm) (T : DS) : DS := change ⟨[], nm, T.files.length⟩ { T with files := T.files ++ [⟨[], 0⟩] }
set_option maxHeartbeats 2000000 in
set_option maxRecDepth 100000 in
theorem ecreate_any (rp : Nat) (S : DS) (L : RL) (nm : Nm) (w : World) (h : RRep w rp S L) (hO : Ok S) (hl : nm.length ≤ maxLen) :
    Calls Try.prog 41 #[pf rp, .string (str nm)] w fun e w' => e = .returned (.int .i64 ((create S nm).1 : Int)) ∧ RAft w w' rp L (create S nm).2 := by
  obtain ⟨c0, c1, c2, c3, c4, c5, c6, c7⟩ := h.c
  have H := hide h
  have HNM : Hid (∀ W, Calls Try.prog 64 #[.string (str nm)] W fun e w' => e = .returned (.bool (isNm nm)) ∧ w' = W) := fun W => ename_any nm W hl
  unfold create
  cases hd : S.dead with
  | true =>
    rw [hd] at c7
    simp only [if_true]
    unfold pf at *
    clear h hO hd c0 c1 c2 c3 c4 c5 c6
    go_enter Try.func41, Try.ntmps41
    go_wp2
    go_ret
    exact ⟨rfl, RAft.same H.out (Below.refl _ _)⟩
  | false =>
    rw [hd] at c7
    simp only [Bool.false_eq_true, if_false]
    cases hb : isNm nm with
    | false =>
      rw [hb] at HNM
      simp only [if_true]
      unfold pf at *
      clear h hO hd c0 c1 c2 c3 c4 c5 c6
      go_enter Try.func41, Try.ntmps41
      go_wp2_with (first | (go_at_call 64; refine (HNM.out _).mono ?_; rintro e w3 ⟨rfl, hw⟩; have hw2 := hw.symm; subst hw2; clear hw) | fail)
      go_ret
      exact ⟨rfl, RAft.same H.out (Below.refl _ _)⟩
    | true =>
      rw [hb] at HNM
      simp only [Bool.true_eq_false, if_false]
      cases hg : dget nm S.dir with
      | some i =>
        have HF := hide (efind_some h.dir (by have := hO.dir.len; omega) hg)
        simp only [Option.isSome_some, if_true]
        unfold pf at *
        clear h hO hd hg c0 c1 c3 c4 c5 c6
        go_enter Try.func41, Try.ntmps41
        go_wp2_with (first | (go_at_call 64; refine (HNM.out _).mono ?_; rintro e w3 ⟨rfl, hw⟩; have hw2 := hw.symm; subst hw2; clear hw) | (go_at_call 65; refine HF.out.mono ?_; rintro e w2 ⟨k, hk, rfl, hw⟩; have hk0 : decide ((0 : Int) ≤ (k : Int)) = true := (decide_eq_true (by omega)); have hw2 := hw.symm; subst hw2; clear hk hw) | fail)
        go_ret
        exact ⟨rfl, RAft.same H.out (Below.refl _ _)⟩
      | none =>
        have HF := hide (efind_none h.dir (by have := hO.dir.len; omega) hg)
        simp only [Option.isSome_none, Bool.false_eq_true, if_false]
        obtain ⟨dao, dcap, hdv⟩ := ownsRow_slice h.dir
        rw [hdv] at c2 HF
        by_cases h64 : 64 ≤ S.dir.length
        · rw [if_pos h64]
          have q : decide ((64 : Int) ≤ (S.dir.length : Int)) = true := decide_eq_true (by omega)
          unfold pf at *
          generalize S.dir.length = dn at *
          clear h hO hd hg c0 c1 c3 c4 c5 c6 hdv h64
          go_enter Try.func41, Try.ntmps41
          go_wp2_with (first | (go_at_call 64; refine (HNM.out _).mono ?_; rintro e w3 ⟨rfl, hw⟩; have hw2 := hw.symm; subst hw2; clear hw) | (go_at_call 65; refine HF.out.mono ?_; rintro e w2 ⟨rfl, hw⟩; have hw2 := hw.symm; subst hw2; clear hw) | fail)
          go_ret
          exact ⟨rfl, RAft.same H.out (Below.refl _ _)⟩
        · rw [if_neg h64]
          have q1 : decide ((64 : Int) ≤ (S.dir.length : Int)) = false := decide_eq_false (by omega)
          show Calls _ _ _ w fun e w' => e = .returned (.int .i64 ((goes S (madeE nm)).1 : Int)) ∧ RAft w w' rp L (goes S (madeE nm)).2
          by_cases ho : 1048576 ≤ S.ops
          · rw [goes_full _ ho]
            have q : decide ((1048576 : Int) ≤ (S.ops : Int)) = true := decide_eq_true (by omega)
            unfold pf at *
            generalize S.ops = o at *
            generalize S.dir.length = dn at *
            clear h hO hd hg c0 c1 c3 c4 c6 hdv h64 ho
            go_enter Try.func41, Try.ntmps41
            go_wp2_with (first | (go_at_call 64; refine (HNM.out _).mono ?_; rintro e w3 ⟨rfl, hw⟩; have hw2 := hw.symm; subst hw2; clear hw) | (go_at_call 65; refine HF.out.mono ?_; rintro e w2 ⟨rfl, hw⟩; have hw2 := hw.symm; subst hw2; clear hw) | fail)
            go_ret
            exact ⟨rfl, RAft.same H.out (Below.refl _ _)⟩
          · have q : decide ((1048576 : Int) ≤ (S.ops : Int)) = false := decide_eq_false (by omega)
            have HG := hide (egoes_any rp S L w h (by omega) hO.armed)
            by_cases ha : S.armed = 1
            · rw [goes_one _ ho ha]
              rw [if_pos ha] at HG
              unfold pf at *
              generalize S.ops = o at *
              generalize S.dir.length = dn at *
              clear h hO hd hg c0 c1 c3 c4 c6 hdv h64 ho ha
              go_enter Try.func41, Try.ntmps41
              go_wp2_with (first | (go_at_call 64; refine (HNM.out _).mono ?_; rintro e w3 ⟨rfl, hw⟩; have hw2 := hw.symm; subst hw2; clear hw) | (go_at_call 65; refine HF.out.mono ?_; rintro e w2 ⟨rfl, hw⟩; have hw2 := hw.symm; subst hw2; clear hw) | (go_at_call 70; refine HG.out.mono ?_; rintro e w4 ⟨rfl, h3, f3⟩; have H3 := hide h3; have F3 := hide f3; clear h3 f3) | fail)
              go_ret
              exact ⟨rfl, RAft.mk0 H3.out F3.out⟩
            · rw [goes_on _ ho ha]
              rw [if_neg ha] at HG
              have hfn : S.files.length ≤ 2000000 := by have := hO.num; have := hO.ops; omega
              have HFN := hide hfn
              obtain ⟨fao, fcap, hfv⟩ := ownsRow_slice h.files
              obtain ⟨e1, e2, e3, e4, e5⟩ := goneS_eq S
              have HX : Hid (∀ w4, RRep w4 rp (goneS S) L → w4.cell? ⟨rp, 1, none⟩ = some (.slice fao S.files.length fcap) ∧ (w4.alloc (.cells #[.slice none 0 0, .int .i64 0] 108)).ownsRow 0 108 2 (.slice fao S.files.length fcap) S.files.length (bcells S.files L.us)) := fun w4 h4 => by
                have h5 := World.ownsRow.alloc h4.files (.cells #[.slice none 0 0, .int .i64 0] 108)
                rw [e4, hfv] at h5
                exact ⟨by rw [← hfv]; exact h4.c.2.1, h5⟩
              have HP : Hid (∀ w4 w9 ao9 cap9, RRep w4 rp (goneS S) L → Fr (L.mut rp) w w4 → w9.ownsRow 0 108 2 (.slice ao9 (S.files.length + 1) cap9) (S.files.length + 1) (bcells S.files L.us ++ [.slice none 0 0, .int .i64 0]) → (w4.alloc (.cells #[.slice none 0 0, .int .i64 0] 108)).grownBy w9 (Value.ownBlock (.slice fao S.files.length fcap)) → (Value.ownBlock (.slice ao9 (S.files.length + 1) cap9) = Value.ownBlock (.slice fao S.files.length fcap) ∨ Value.ownBlock (.slice ao9 (S.files.length + 1) cap9) = some (w4.alloc (.cells #[.slice none 0 0, .int .i64 0] 108)).heap.size) → w9.cell? ⟨rp, 1, none⟩ = some (.slice fao S.files.length fcap) ∧ w9.frozen? ⟨rp, 1, none⟩ = false ∧ (w9.setCell ⟨rp, 1, none⟩ (.slice ao9 (S.files.length + 1) cap9)).cell? ⟨rp, 1, none⟩ = some (.slice ao9 (S.files.length + 1) cap9) ∧
                  Calls Try.prog 71 #[.pointer (some ⟨rp, 0, none⟩), .agg #[.string { data := #[] }, .string (str nm), .int .i64 (S.files.length : Int)]] (w9.setCell ⟨rp, 1, none⟩ (.slice ao9 (S.files.length + 1) cap9)) fun e w' => e = .returned (.tuple #[]) ∧ RAft w w' rp L (madeE nm (goneS S))) := fun w4 w9 ao9 cap9 h4 f4 g1 g2 g3 => by
                have hp := h4.pushF (f := ⟨[], 0⟩) (u := .slice none 0 0) (ao := ao9) (cap := cap9) (o := .cells #[.slice none 0 0, .int .i64 0] 108) (w9 := w9) (own_nil _ _) (fun g hg => by simp [Value.ownBlock] at hg)
                rw [e4, hfv] at hp
                obtain ⟨k1, k2, k3, k4⟩ := hp g1 g2 g3
                have x1 := k4.cell 1
                refine ⟨by rw [← hfv]; exact x1, k4.frozen 1, k1.c.2.1, ?_⟩
                have := echange_any rp _ _ ⟨[], nm, S.files.length⟩ _ k1 (by show (goneS S).dir.length ≤ _; rw [e1]; have := hO.dir.len; omega) (fun p hp => by have hp : p ∈ (goneS S).dir := hp; rw [e1] at hp; exact (isNm_ne (hO.dir.name p hp)).1) (by show (goneS S).chg.length ≤ _; rw [e3]; have := hO.clen; have := hO.ops; omega)
                refine this.mono fun e w' ⟨a1, a2⟩ => ⟨a1, ?_⟩
                have e6 : madeE nm (goneS S) = change ⟨[], nm, S.files.length⟩ { goneS S with files := S.files ++ [⟨[], 0⟩] } := by unfold madeE; rw [e4]
                rw [e6]
                refine RAft.then (f4.trans k2 (fun x hx => .inl hx)) (fun b hb => ?_) (fun b hb => ?_) a2
                · rcases List.mem_append.1 hb with hb | hb
                  · rcases k3 b hb with e | e
                    · exact .inl (List.mem_append.2 (.inl e))
                    · exact .inr (Nat.le_trans f4.size e)
                  · rcases (RL.mem_imm _ b).1 hb with e | e | ⟨u', hu', e⟩
                    · exact .inl (List.mem_append.2 (.inr ((L.mem_imm b).2 (.inl e))))
                    · exact .inl (List.mem_append.2 (.inr ((L.mem_imm b).2 (.inr (.inl e)))))
                    · have hu2 : u' ∈ L.us ++ [.slice none 0 0] := hu'
                      rcases List.mem_append.1 hu2 with hm | hm
                      · exact .inl (List.mem_append.2 (.inr ((L.mem_imm b).2 (.inr (.inr ⟨u', hm, e⟩)))))
                      · rw [List.mem_singleton.1 hm] at e
                        simp [Value.ownBlock] at e
                · rcases k3 b hb with e | e
                  · exact .inl e
                  · exact .inr (Nat.le_trans f4.size e)
              have q3 : wrap64 (S.files.length : Int) = (S.files.length : Int) := by unfold wrap64; omega
              have q4 : IntKind.i64.wrap (S.files.length : Int) = (S.files.length : Int) := by rw [IntKind.wrap_i64]; omega
              unfold pf at *
              generalize S.ops = o at *
              generalize S.dir.length = dn at *
              clear h hO hd hg c0 c1 c3 c4 c6 hdv h64 ho ha hfv e1 e2 e3 e4 e5 hfn
              generalize bcells S.files L.us = bc at *
              generalize S.files.length = fn at *
              go_enter Try.func41, Try.ntmps41
              go_wp2_with (first | (go_at_call 64; refine (HNM.out _).mono ?_; rintro e w3 ⟨rfl, hw⟩; have hw2 := hw.symm; subst hw2; clear hw) | (go_at_call 65; refine HF.out.mono ?_; rintro e w2 ⟨rfl, hw⟩; have hw2 := hw.symm; subst hw2; clear hw) | (go_at_call 70; refine HG.out.mono ?_; rintro e w4 ⟨rfl, h3, f3⟩; obtain ⟨x1, x2⟩ := HX.out w4 h3; have HX2 := hide x2; have H3 := hide h3; have F3 := hide f3; have HXN := hide (Bl.new w4 #[.slice none 0 0, .int .i64 0] 108); clear h3 f3 x2) | (at_builtin; refine wpList_app1 appO rfl _ _ rfl 0 _ _ bc [.slice none 0 0, .int .i64 0] rfl HX2.out w4.heap.size rfl HXN.out rfl (fil_one _ _ rfl) (by have := HFN.out; omega) (Nat.zero_le _) ?_; intro ao9 cap9 w9 g1 g2 g3; obtain ⟨y1, y2, y3, y4⟩ := HP.out w4 w9 ao9 cap9 H3.out F3.out g1 g2 g3; have HY4 := hide y4; clear g1 g2 g3 y4) | (go_at_call 71; refine HY4.out.mono ?_; rintro e w5 ⟨rfl, h4⟩; have H4 := hide h4; clear h4) | fail)
              go_ret
              exact ⟨rfl, H4.out⟩
end Go.Proofs.Yticbfcognnofbaa
