/- The contract of the document's Append. -/
import Derived.Test.YticbfcognnofbaaEOp8
import Derived.Test.YticbfcognnofbaaDCopied
namespace Go.Proofs.Yticbfcognnofbaa
open Go.RowKit Go.Maps

/-- A second append to a row of the call's own. -/
theorem app_more {wr w2 w3 : World} {v1 : Value} {uao : Option Addr} {un ucap : Nat} (hb : Below wr.heap.size wr w2) (hn : ∀ g, v1.ownBlock = some g → wr.heap.size ≤ g) (hg : w2.grownBy w3 v1.ownBlock) (hl : Value.ownBlock (.slice uao un ucap) = v1.ownBlock ∨ Value.ownBlock (.slice uao un ucap) = some w2.heap.size) :
    Below wr.heap.size wr w3 ∧ ∀ g, Value.ownBlock (.slice uao un ucap) = some g → wr.heap.size ≤ g := by
  refine ⟨hb.grown hg hb.size (fun j hj => hn j hj), fun g hgv => ?_⟩
  rcases hl with e | e
  · rw [e] at hgv; exact hn g hgv
  · rw [e] at hgv; injection hgv with hgv; rw [← hgv]; exact hb.size
/-- The file has more bytes. -/
theorem RRep.append {w w3 : World} {rp : Nat} {S : DS} {L : RL} (h : RRep w rp S L) {g cap : Nat} (hfv : L.fv = .slice (some ⟨g, 0, none⟩) S.files.length cap) {i : Nat} (hi : i < S.files.length) (hb : Below w.heap.size w w3) {u : Value} {xs : List Nat} (hu : Own w3 0 u xs) (hn : ∀ b, u.ownBlock = some b → w.heap.size ≤ b) :
    RAft w (w3.setCell ⟨g, i * 2, none⟩ u) rp L (setFile i ⟨xs, (flAt S.files i).syn⟩ S) := by
  have h3 := h.below hb
  have e1 : S.files[i]? = some (flAt S.files i) := by simp [flAt, List.getD, hi]
  have hlu : L.us.length = S.files.length := h.ulen
  obtain ⟨k1, k2⟩ := h3.turnF hfv i (i * 2) u (L.us.set i u) ⟨xs, (flAt S.files i).syn⟩ (bcells_set0 i u h.ulen e1 rfl) (by rw [List.length_set]; exact h.ulen) (fun k u' f h1 h2 => by
    rw [List.getElem?_set] at h1 h2
    by_cases hk : i = k
    · subst hk
      rw [if_pos rfl, if_pos (by omega)] at h1
      rw [if_pos rfl, if_pos hi] at h2
      injection h1 with h1
      injection h2 with h2
      rw [← h1, ← h2]
      exact hu
    · rw [if_neg hk] at h1 h2
      exact h3.byte k u' f h1 h2) (fun u' hu' b hb' hm => by
    rcases List.mem_or_eq_of_mem_set hu' with e | e
    · exact h.sep b ((L.mem_imm b).2 (.inr (.inr ⟨u', e, hb'⟩))) hm
    · rw [e] at hb'
      have := hn b hb'
      have := h.lt b (List.mem_append.2 (.inl hm))
      omega)
  refine ⟨_, k1, (Fr.of hb).trans k2 (fun x hx => .inl hx), fun b hb' => ?_⟩
  rcases List.mem_append.1 hb' with hm | hm
  · exact .inl (List.mem_append.2 (.inl hm))
  · rcases (RL.mem_imm _ b).1 hm with e | e | ⟨u', hu', e⟩
    · exact .inl (List.mem_append.2 (.inr ((L.mem_imm b).2 (.inl e))))
    · exact .inl (List.mem_append.2 (.inr ((L.mem_imm b).2 (.inr (.inl e)))))
    · rcases List.mem_or_eq_of_mem_set hu' with e2 | e2
      · exact .inl (List.mem_append.2 (.inr ((L.mem_imm b).2 (.inr (.inr ⟨u', e2, e⟩)))))
      · rw [e2] at e; exact .inr (hn b e)
theorem RRep.ffrozen {w : World} {rp : Nat} {S : DS} {L : RL} (h : RRep w rp S L) {g cap : Nat} (hfv : L.fv = .slice (some ⟨g, 0, none⟩) S.files.length cap) (j : Nat) : w.frozen? ⟨g, j, none⟩ = false := by
  have hf := h.files
  rw [hfv] at hf
  rcases hf.2 with ⟨e, _⟩ | ⟨g', cap', cur, e, _, hgg, _⟩
  · cases e
  · injection e with e _ _
    injection e with e
    injection e with e _ _
    subst e
    exact frozen_of_row w g _ _ _ hgg
theorem frozen_kept {w w' : World} {g j : Nat} {v : Value} (hc : w.cell? ⟨g, j, none⟩ = some v) (hf : w.frozen? ⟨g, j, none⟩ = false) (hb : Below w.heap.size w w') : w'.frozen? ⟨g, j, none⟩ = false := by
  have := hb.block g (World.block_lt_of_cell? w _ hc)
  unfold World.frozen? at hf ⊢
  simp only [this]
  exact hf
theorem Row.fr {w w' : World} {fp : List Nat} {ao : Option Addr} {xs : List Nat} (h : Row w ao xs) (hf : Fr fp w w') (hn : ∀ a, ao = some a → a.block ∉ fp) : Row w' ao xs := by
  rcases h with h | ⟨b, off, rfl, hc⟩
  · exact .inl h
  · refine .inr ⟨b, off, rfl, fun i hi => ?_⟩
    rw [World.cell?_of_block (hf.block b (World.block_lt_of_cell? w _ (hc i hi)) (hn ⟨b, off, none⟩ rfl))]
    exact hc i hi
set_option maxHeartbeats 4000000 in
set_option maxRecDepth 100000 in
theorem eappend_any (rp : Nat) (S : DS) (L : RL) (nm : Nm) (ao : Option Addr) (pl pc : Nat) (p : List Nat) (w : World) (h : RRep w rp S L) (hO : Ok S) (hn : pl = p.length) (hp : Row w ao p) (hoff : ∀ a, ao = some a → a.block ∉ L.mut rp) (hpl : pl ≤ 140737488351232) :
    Calls Try.prog 42 #[pf rp, .string (str nm), .slice ao pl pc] w fun e w' => e = .returned (.int .i64 ((append S nm p).1 : Int)) ∧ RAft w w' rp L (append S nm p).2 := by
  obtain ⟨c0, c1, c2, c3, c4, c5, c6, c7⟩ := h.c
  have H := hide h
  unfold append
  cases hd : S.dead with
  | true =>
    rw [hd] at c7
    simp only [if_true]
    unfold pf at *
    clear h hO hd c0 c1 c2 c3 c4 c5 c6 hp hn
    go_enter Try.func42, Try.ntmps42
    go_wp2
    go_ret
    exact ⟨rfl, RAft.same H.out (Below.refl _ _)⟩
  | false =>
    rw [hd] at c7
    simp only [Bool.false_eq_true, if_false]
    cases hg : dget nm S.dir with
    | none =>
      have HF := hide (efind_none h.dir (by have := hO.dir.len; omega) hg)
      unfold pf at *
      clear h hO hd hg c0 c1 c3 c4 c5 c6 hp hn
      go_enter Try.func42, Try.ntmps42
      go_wp2_with (go_at_call 65; refine HF.out.mono ?_; rintro e w2 ⟨rfl, hw⟩; subst hw)
      go_ret
      exact ⟨rfl, RAft.same H.out (Below.refl _ _)⟩
    | some i =>
      have HF := hide (efind_some h.dir (by have := hO.dir.len; omega) hg)
      simp only
      have hil : i < S.files.length := hO.dir.num _ (dget_some hg)
      obtain ⟨gf, cf, bo, bc, y1, y2, y3, y4, y5, y6, y7⟩ := h.file hil
      have hal : (flAt S.files i).bys.length ≤ 4194304 := (Fok.at hO.file i).len
      obtain ⟨dao, dcap, hdv⟩ := ownsRow_slice h.dir
      have HX : Hid (∀ k, S.dir[k]? = some (nm, i) → ∃ g, dao = some ⟨g, 0, none⟩ ∧ w.cell? ⟨g, k * 2 + 1, none⟩ = some (.int .i64 (i : Int)) ∧ k < S.dir.length ∧ S.dir.length ≤ dcap) := fun k hk => by
        obtain ⟨g, cap, x1, x2, x3, x4⟩ := h.dirAt hk
        rw [hdv] at x1
        injection x1 with x1 _ x5
        exact ⟨g, x1, x3, lt_of_get hk, by rw [x5]; exact x4⟩
      rw [hdv] at c2 HF
      clear hdv
      have HU : Hid (∀ m, Calls Try.prog 67 #[pf rp] (w.drewN m) fun e w' => e = .returned (.int .i64 (sizes S.files S.dir : Int)) ∧ ∃ q, w' = (w.drewN m).drewN q) := fun m => eused_any rp S L (w.drewN m) (h.drewN m) hO
      have hus := hO.used
      have hrm := hO.room
      have d1 : w.cell? ⟨rp, 1, none⟩ = some (.slice (some ⟨gf, 0, none⟩) S.files.length cf) := by rw [← y1]; exact c1
      have hsum : (((flAt S.files i).bys.length : Nat) : Int) + (pl : Int) ≤ 4611686018427387904 := by omega
      have q1 : wrap64 ((S.room : Int) - (sizes S.files S.dir : Int)) = (S.room : Int) - (sizes S.files S.dir : Int) := by unfold wrap64; omega
      have q2 : IntKind.i64.wrap ((S.room : Int) - (sizes S.files S.dir : Int)) = (S.room : Int) - (sizes S.files S.dir : Int) := by rw [IntKind.wrap_i64]; omega
      have hfi : (i : Int) < (S.files.length : Int) := by omega
      by_cases hA : 4194304 < (flAt S.files i).bys.length + pl
      · rw [if_pos (.inl (by rw [← hn]; exact hA))]
        have t1 : decide ((4194304 : Int) < (((flAt S.files i).bys.length : Nat) : Int) + (pl : Int)) = true := decide_eq_true (by omega)
        clear hA
        unfold pf at *
        generalize S.ops = o at *
        generalize sizes S.files S.dir = z at *
        generalize S.room = room at *
        generalize (flAt S.files i).bys.length = bl at *
        generalize S.files.length = fl at *
        clear h hO hd hg c1 c3 c4 c6 hp hn hoff y1 y3 y5 y6 y7 hal hus hrm
        go_enter Try.func42, Try.ntmps42
        go_upto_region 7 with (first | (go_at_call 65; refine HF.out.mono ?_; rintro e w2 ⟨k, hk, rfl, hw⟩; have hw2 := hw.symm; subst hw2; obtain ⟨g, rfl, x2, x3, x4⟩ := HX.out k hk; have x5 : (k : Int) < (S.dir.length : Int) := (by omega); clear hk hw) | fail)
        go_quiet ((go_at_call 67; exact Calls.quiet_of (HU.out _)))
        go_wp2_with fail
        go_ret
        exact ⟨rfl, RAft.same H.out (below_drewN (Below.refl _ _) _)⟩
      have t1 : decide ((4194304 : Int) < (((flAt S.files i).bys.length : Nat) : Int) + (pl : Int)) = false := decide_eq_false (by omega)
      by_cases hB : S.room < sizes S.files S.dir + pl
      · rw [if_pos (.inr (by rw [← hn]; exact hB))]
        have t2 : decide ((S.room : Int) - (sizes S.files S.dir : Int) < (pl : Int)) = true := decide_eq_true (by omega)
        clear hA hB
        unfold pf at *
        generalize S.ops = o at *
        generalize sizes S.files S.dir = z at *
        generalize S.room = room at *
        generalize (flAt S.files i).bys.length = bl at *
        generalize S.files.length = fl at *
        clear h hO hd hg c1 c3 c4 c6 hp hn hoff y1 y3 y5 y6 y7 hal hus hrm
        go_enter Try.func42, Try.ntmps42
        go_upto_region 7 with (first | (go_at_call 65; refine HF.out.mono ?_; rintro e w2 ⟨k, hk, rfl, hw⟩; have hw2 := hw.symm; subst hw2; obtain ⟨g, rfl, x2, x3, x4⟩ := HX.out k hk; have x5 : (k : Int) < (S.dir.length : Int) := (by omega); clear hk hw) | fail)
        go_quiet ((go_at_call 67; exact Calls.quiet_of (HU.out _)))
        go_wp2_with fail
        go_ret
        exact ⟨rfl, RAft.same H.out (below_drewN (Below.refl _ _) _)⟩
      have t2 : decide ((S.room : Int) - (sizes S.files S.dir : Int) < (pl : Int)) = false := decide_eq_false (by omega)
      rw [if_neg (by rw [← hn]; omega)]
      by_cases ho : 1048576 ≤ S.ops
      · rw [goes_full _ ho]
        have t3 : decide ((1048576 : Int) ≤ (S.ops : Int)) = true := decide_eq_true (by omega)
        clear hA hB ho
        unfold pf at *
        generalize S.ops = o at *
        generalize sizes S.files S.dir = z at *
        generalize S.room = room at *
        generalize (flAt S.files i).bys.length = bl at *
        generalize S.files.length = fl at *
        clear h hO hd hg c1 c3 c4 c6 hp hn hoff y1 y3 y5 y6 y7 hal hus hrm
        go_enter Try.func42, Try.ntmps42
        go_upto_region 7 with (first | (go_at_call 65; refine HF.out.mono ?_; rintro e w2 ⟨k, hk, rfl, hw⟩; have hw2 := hw.symm; subst hw2; obtain ⟨g, rfl, x2, x3, x4⟩ := HX.out k hk; have x5 : (k : Int) < (S.dir.length : Int) := (by omega); clear hk hw) | fail)
        go_quiet ((go_at_call 67; exact Calls.quiet_of (HU.out _)))
        go_wp2_with fail
        go_ret
        exact ⟨rfl, RAft.same H.out (below_drewN (Below.refl _ _) _)⟩
      have t3 : decide ((1048576 : Int) ≤ (S.ops : Int)) = false := decide_eq_false (by omega)
      have HG : Hid (∀ m, Calls Try.prog 70 #[pf rp] (w.drewN m) fun e w' => e = .returned (.int .i64 (if S.armed = 1 then 51 else 0)) ∧ RRep w' rp (goneS S) L ∧ Fr (L.mut rp) w w') := fun m => (egoes_any rp S L (w.drewN m) (h.drewN m) (by omega) hO.armed).mono fun e w' ⟨a1, a2, a3⟩ => ⟨a1, a2, (Fr.of (fp := []) (below_drewN (Below.refl _ _) m)).mono (fun x hx => by cases hx) |>.trans a3 (fun x hx => .inl hx)⟩
      by_cases ha : S.armed = 1
      · rw [goes_one _ ho ha]
        rw [if_pos ha] at HG
        unfold pf at *
        generalize S.ops = o at *
        generalize sizes S.files S.dir = z at *
        generalize S.room = room at *
        generalize (flAt S.files i).bys.length = bl at *
        generalize S.files.length = fl at *
        clear h hO hd hg c1 c3 c4 c6 hp hn hoff y1 y3 y5 y6 y7 hal hus hrm hA hB ho ha
        go_enter Try.func42, Try.ntmps42
        go_upto_region 7 with (first | (go_at_call 65; refine HF.out.mono ?_; rintro e w2 ⟨k, hk, rfl, hw⟩; have hw2 := hw.symm; subst hw2; obtain ⟨g, rfl, x2, x3, x4⟩ := HX.out k hk; have x5 : (k : Int) < (S.dir.length : Int) := (by omega); clear hk hw) | fail)
        go_quiet ((go_at_call 67; exact Calls.quiet_of (HU.out _)))
        go_wp2_with (first | (go_at_call 70; refine (HG.out _).mono ?_; rintro e w3 ⟨rfl, h3, f3⟩; have H3 := hide h3; have F3 := hide f3; clear h3 f3) | fail)
        go_ret
        exact ⟨rfl, RAft.mk0 H3.out F3.out⟩
      · rw [goes_on _ ho ha]
        rw [if_neg ha] at HG
        obtain ⟨e1, e2, e3, e4, e5⟩ := goneS_eq S
        have HY : Hid (∀ w3, RRep w3 rp (goneS S) L → Fr (L.mut rp) w w3 → w3.cell? ⟨rp, 1, none⟩ = some (.slice (some ⟨gf, 0, none⟩) S.files.length cf) ∧ w3.cell? ⟨gf, i * 2, none⟩ = some (.slice bo (flAt S.files i).bys.length bc) ∧ w3.frozen? ⟨gf, i * 2, none⟩ = false ∧ Row w3 bo (flAt S.files i).bys ∧ Row w3 ao p ∧ ∀ w5 u, Below w3.heap.size w3 w5 → Own w5 0 u ((flAt S.files i).bys ++ p) → (∀ b, u.ownBlock = some b → w3.heap.size ≤ b) → RAft w (w5.setCell ⟨gf, i * 2, none⟩ u) rp L (setFile i ⟨(flAt S.files i).bys ++ p, (flAt S.files i).syn⟩ (goneS S))) := fun w3 h3 f3 => by
          obtain ⟨gf', cf', bo', bc', z1, z2, z3, z4, z5, z6, z7⟩ := h3.file (i := i) (by rw [e4]; exact hil)
          rw [e4] at z1 z3 z4 z6
          rw [y1] at z1
          injection z1 with z1 _ z8
          injection z1 with z1
          injection z1 with z1 _ _
          subst z1; subst z8
          rw [y3] at z3
          injection z3 with z3
          injection z3 with z3 _ z9
          subst z3; subst z9
          have hfv3 : L.fv = .slice (some ⟨gf, 0, none⟩) (goneS S).files.length cf := by rw [e4]; exact y1
          refine ⟨by rw [← y1]; exact h3.c.2.1, z4, h3.ffrozen hfv3 _, z6, hp.fr f3 hoff, fun w5 u b5 o5 n5 => ?_⟩
          have := h3.append hfv3 (i := i) (by rw [e4]; exact hil) b5 o5 n5
          rw [e4] at this
          exact this.after f3
        have HN := hide hn
        have HAL := hide hal
        unfold pf at *
        generalize setFile i ⟨(flAt S.files i).bys ++ p, (flAt S.files i).syn⟩ (goneS S) = S2 at *
        obtain ⟨bl, hbl⟩ : ∃ bl, bl = (flAt S.files i).bys.length := ⟨_, rfl⟩
        have HBL := hide hbl
        have HNA : Hid (bl + pl ≤ 4194304) := by show _ ≤ _; rw [hbl]; omega
        rw [← hbl] at HY HAL y4 hsum t1
        generalize (flAt S.files i).bys = xs at *
        generalize S.ops = o at *
        generalize sizes S.files S.dir = z at *
        generalize S.room = room at *
        generalize S.files.length = fl at *
        clear h hO hd hg c1 c3 c4 c6 hp hn hoff y1 y3 y5 y6 y7 hal hus hrm hA hB ho ha e1 e2 e3 e4 e5 hbl
        go_enter Try.func42, Try.ntmps42
        go_upto_region 7 with (first | (go_at_call 65; refine HF.out.mono ?_; rintro e w2 ⟨k, hk, rfl, hw⟩; have hw2 := hw.symm; subst hw2; obtain ⟨g, rfl, x2, x3, x4⟩ := HX.out k hk; have x5 : (k : Int) < (S.dir.length : Int) := (by omega); clear hk hw) | fail)
        go_quiet ((go_at_call 67; exact Calls.quiet_of (HU.out _)))
        go_upto_region 11 with (first | (go_at_call 70; refine (HG.out _).mono ?_; rintro e w3 ⟨rfl, h3, f3⟩; obtain ⟨k1, k2, k3, k4, k5, k6⟩ := HY.out w3 h3 f3; have K4 := hide k4; have K5 := hide k5; have K6 := hide k6; clear h3 f3 k4 k5 k6) | fail)
        have HE := hide (own_new w3 0 [] (Nat.zero_le _) (Nat.zero_le _))
        have HK4 := hide (K4.out.keep (below_new w3 (.cells #[] 5)))
        have l1 := cell_kept k1 (below_new w3 (.cells #[] 5))
        have l2 := cell_kept k2 (below_new w3 (.cells #[] 5))
        go_region_law (first
          | (refine law_appB rfl (.tmp 71) (.tmp 79) rfl (.slice (some ⟨w3.heap.size, 0, none⟩) 0 0) [] rfl HE.out bo bl bc xs HBL.out rfl HK4.out (by have := HAL.out; have := HBL.out; simp; omega) ?_; intro uao un ucap w4 h2 g2 l2; have HOU := hide (show Own w4 0 (.slice uao un ucap) xs from h2); have han := app_new (grown_undrew g2) l2; have HCUR := hide han.1; have HNG := hide han.2; have z1 := cell_kept k1 han.1; have z2 := cell_kept k2 han.1; clear h2 g2 l2 han)
          | (refine law_appB rfl (.tmp 80) (.tmp 81) rfl (.slice uao un ucap) xs rfl HOU.out ao pl pc p HN.out rfl (K5.out.keep HCUR.out) (by have := HNA.out; have := HBL.out; have := HN.out; omega) ?_; intro vao vn vcap w5 h2 g2 l2; have han := app_more HCUR.out HNG.out (by first | exact g2 | exact grown_undrew g2) l2; have m1 := cell_kept k1 han.1; have m2 := cell_kept k2 han.1; have m3 : w5.frozen? ⟨gf, i * 2, none⟩ = false := (frozen_kept k2 k3 han.1); have HFI := hide (K6.out w5 _ han.1 h2 han.2); clear h2 g2 l2 han))
        all_goals
          go_wp2_with fail
          go_ret
          first | exact ⟨rfl, HFI.out⟩ | exact ⟨rfl, HFI.out.drewN 1⟩
end Go.Proofs.Yticbfcognnofbaa
