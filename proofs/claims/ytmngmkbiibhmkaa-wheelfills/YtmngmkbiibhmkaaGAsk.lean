/- A region that draws its order and only reads, inside a round of a range over a function. -/
import Derived.BigQuiet
import Derived.Test.YtmngmkbiibhmkaaVTimers
import Derived.Sort.QuietIn
import Derived.Test.YtmngmkbiibhmkaaVRefA
import Derived.Test.YtmngmkbiibhmkaaVBase
import Derived.ChangeKeysEq
import Derived.Test.YtmngmkbiibhmkaaVGuard
import Derived.Test.YtmngmkbiibhmkaaVOnceF
import Derived.Test.YtmngmkbiibhmkaaVSpreadL
import Derived.Deep.RegionHeld
import Derived.Test.YtmngmkbiibhmkaaGDuo
namespace Go.Proofs.Ytmngmkbiibhmkaa
open Go.RowKit

section
variable {P : Program} {ops : Array Oper} {Q : Exit → Act → World → Prop} {md : Region.Mode} {l n : Nat}
theorem op_in {o : Oper} {a : Act} {w : World} {K : Act → World → Prop} (hd : ∀ c, o.op ≠ .defer c) (hQ : ¬ LetsOut Q) (h : o.wp P a w K Q ∨ (o.asks P a w ∧ LetsOut Q)) : o.wpIn (Fence.wide.inRound l) n P a w K Q := by
  rcases h with h | ⟨_, h⟩
  · refine ⟨fun _ _ => trivial, ?_⟩
    rw [Oper.semAt_eq _ _ _ hd]
    unfold Oper.wp at h
    generalize (execOp a.eval o).run P w = r at h ⊢
    cases r with
    | ok x w' =>
      cases x with
      | value v => exact h
      | skip => exact h
      | defer d => exact h
      | enter f args => exact ⟨fun h => (by cases h), CallsIn.inRound l (callsIn_wide.2 h)⟩
      | row row args => exact ⟨fun h => (by cases h), fun c cs _ => by obtain ⟨v, w'', r, s⟩ := h c cs; exact ⟨v, w'', r, stepsIn_wide.2 s⟩⟩
      | _ => exact h.elim
    | halt x w' => cases x <;> first | exact h | exact h.elim
  · exact absurd h hQ
theorem any_in (hd : ∀ (i : Nat) (o : Oper), ops[i]? = some o → ∀ c, o.op ≠ .defer c) (hQ : ¬ LetsOut Q) : ∀ (fuel : Nat) (listed : Array Bool) (a : Act) (w : World), wpAny P md ops Q fuel listed a w → wpAnyIn (Fence.wide.inRound l) n P md ops Q fuel listed a w
  | 0, _, _, _, h => h
  | fuel + 1, _, a, w, h => ⟨h.1, fun i hi => by
    have hk := h.2 i hi
    unfold wpOp at hk
    unfold wpOpIn
    cases ho : ops[i]? with
    | none => simp only [ho] at hk; exact any_in hd hQ fuel _ a w hk
    | some o =>
      simp only [ho] at hk ⊢
      by_cases hw : Region.wanted o (yielded ops a.tmps) = true
      · rw [if_pos hw] at hk ⊢
        exact Oper.wpIn_mono (fun a' w' h' => any_in hd hQ fuel _ a' w' h') (op_in (hd i o ho) hQ hk)
      · rw [if_neg hw] at hk ⊢
        exact ⟨fun _ _ => trivial, any_in hd hQ fuel _ _ _ hk⟩⟩
/-- What is shown of it in the text's order, outside of every round, holds of every order in one. -/
theorem round_quiet {id : Nat} {a : Act} {w : World} {os : List Oper} (hm : P.follows .mixedOrders = true) (hd : os.toArray.all (fun o => match o.op with | .defer _ => false | _ => true) = true) (hQ : ¬ LetsOut Q) (hB : Region.lexB .any os.toArray = true)
    (h : wpQuiet P os.toArray (fun w' => ∃ n, w' = w.drewN n) (fun a' => ∀ w', (∃ n, w' = w.drewN n) → Q .normal a' w') os a) : (Code.region id os.toArray true).wpIn (Fence.wide.inRound l) n P Q a w := by
  simp only [Region.lexB, Bool.and_eq_true] at hB
  refine wpIn_region_any hm (any_in (fun i o ho c hc => ?_) hQ _ _ _ _ (wpAny_of_quiet (C := fun w' => ∃ n, w' = w.drewN n) (Q := fun a' => ∀ w', (∃ n, w' = w.drewN n) → Q .normal a' w') (fun _ w' hw' h => h w' hw') _ _ _ _ ⟨1, rfl⟩ ?_))
  · have hmem : o ∈ os.toArray := Array.mem_of_getElem? ho
    have := Array.all_eq_true'.1 hd o hmem
    rw [hc] at this
    cases this
  · have := wpAnyQ_lex (C := fun w' => ∃ n, w' = w.drewN n) (md := .any) hB.1 os.toArray.toList 0 (Array.replicate os.toArray.size false) a (by simp) (by simpa using hB.2) (by simpa using h)
    simpa using this
end
end Go.Proofs.Ytmngmkbiibhmkaa
/- The law's each: two ranges over what wheel.Each hands back, held against the document's list. -/
namespace Go.Proofs.Ytmngmkbiibhmkaa
open Go.RowKit Go.Shelf Go.Maps

attribute [local go_sem] Oper.semAt_some

/-- Between the rounds: the number at M is i, all else is as it was. -/
def LI (w2 : World) (M i : Nat) (W : World) : Prop := Bl W M [.int .i64 (i : Int)] 3 ∧ But M w2 W
theorem LI.out {w2 : World} {M i : Nat} {W W' : World} (h : LI w2 M i W) (hM : M < w2.heap.size) (k : Out2 w2.heap.size W W') : LI w2 M i W' := by
  obtain ⟨h1, h3⟩ := h
  have hs := h3.size
  exact ⟨(k.block M (by omega) (.inl hM)).trans h1, k.os.trans h3.os, k.tape.trans h3.tape, k.output.trans h3.output, Nat.le_trans hs k.size, fun j hj hjn => (k.block j (by omega) (.inl hj)).trans (h3.block j hj hjn)⟩
/-- A range that may be left: what stands behind it is walked once. -/
theorem range_left {ps : Array Tmp} {assign body : Code} {K : Act → World → Prop} {Q : Exit → Act → World → Prop} {b : Nat} {a : Act} {w : World} {g : Operand} {n Bk kc : Nat} {ko : Option Addr} {ds : List Tm}
    (hl : ds.length ≤ 1000000)
    (hg : a.eval g = .func (.func 50) #[] #[.pointer (some ⟨Bk, 0, none⟩)]) (hps : ps.size = 2)
    (I : Nat → World → Prop) (J : World → Prop) (hI : ∀ i W W', I i W → Out2 w.heap.size W W' → I i W') (hJ : ∀ W W', J W → Out2 w.heap.size W W' → J W') (hIJ : ∀ W, I ds.length W → J W)
    (hK : ∀ i W, I i W → W.cell? ⟨Bk, 0, none⟩ = some (.slice ko ds.length kc) ∧ RRow W ko ds) (h0 : I 0 w) (A1 : Tm → Act)
    (hassign : ∀ (l : Nat) (x : Tm) (W1 : World) (K : Act → World → Prop), K (A1 x) W1 →
      assign.wpIn (Fence.wide.inRound l) (n - 1 - 1) Try.prog (Exit.then K (fun _ _ _ => False)) { tmps := (ps.zip #[.int .u64 (x.1 : Int), .int .u64 (x.2 : Int)]).foldl (fun t (p, v) => t.setIfInBounds p v) a.tmps, defers := [] } W1)
    (hbody : ∀ (i : Nat) (x : Tm) (W : World), ds[i]? = some x → I i W → w.heap.size + 2 ≤ W.heap.size → (∃ r, W.heap[w.heap.size + 1]? = some (.loop r)) →
      body.wpIn (Fence.wide.inRound (w.heap.size + 1)) (n - 1 - 1) Try.prog (postE w.heap.size 2 I (fun c _ W => c = .exit b ∧ J W) (i + 1) W) (A1 x) W)
    (hrest : ∀ (W : World), J W → w.heap.size + 2 ≤ W.heap.size → W.heap[w.heap.size]? = some (.deferred (some [])) → K { a with defers := { target := .collected w.heap.size, args := #[] } :: a.defers } W) :
    (Code.rangeFunc g ps assign body).wpIn Fence.wide n Try.prog (Exit.inBlock b (Exit.then K Q)) a w := by
  refine range_outer2 hl hg hps I (fun c _ W => c = .exit b ∧ J W) hI (fun c i W W' h k => ⟨h.1, hJ W W' h.2 k⟩) hK h0 A1 hassign hbody (fun W h1 h2 h3 => ?_) ?_
  · have := hrest W (hIJ W h1) h2 h3
    simpa [Exit.inBlock, Exit.then] using this
  · rintro c i W _ ⟨rfl, hj⟩ h2 h3
    refine wpIn_exit ?_
    have := hrest W hj h2 h3
    simpa [Exit.inBlock, Exit.then] using this
set_option maxRecDepth 100000 in
set_option maxHeartbeats 3200000 in
theorem each_in (wp rp now n2 stop : Nat) (L : List Tm) (Y : Lay) (v : Value) (w : World) (h : Whl w wp now L Y) (hr : RefAt w rp n2 v L) (hst : stop < 18446744073709551616) : CallsIn Fence.wide 9 Try.prog 31 #[pw wp, pw rp, .int .u64 (stop : Int)] w fun e w' => e = .returned (.bool true) ∧ Below w.heap.size w w' := by
  have hlen : L.length ≤ 8192 := by obtain ⟨S, _, h2⟩ := h; exact h2.len
  refine callsIn_of_wp_marks Try.func31 rfl trivial ?_ rfl
  simp only [Try.ntmps31, List.size_toArray, List.length_cons, List.length_nil, Nat.reduceAdd, Nat.reduceSub, Array.replicate_succ, Array.replicate_zero, List.push_toArray, List.append_toArray, List.nil_append, List.cons_append]
  have HC := hide (fun W (hb : Below w.heap.size w W) => (callsIn_wide.2 (each_any wp now L Y W (h.below hb)) : CallsIn Fence.wide 8 Try.prog _ _ _ _))
  have HRF := hide (fun W (hb : Below w.heap.size w W) => hr.keep hb)
  have hrl := hr.lt
  have hvl : ∀ g, v.ownBlock = some g → g < w.heap.size := fun g hg => (hr.own.lt g hg).2
  have HST := hide hst
  clear h hr hst
  unfold pw at HC ⊢
  gi_wp2_with fail
  have HBW : Hid (Below w.heap.size w (((w.alloc (.cells #[.pointer (some ⟨rp, 0, none⟩)] 28)).alloc (.cells #[.int .u64 (stop : Int)] 22)).alloc (.cells #[.bool false] 4))) := hide (((below_new w _).trans ((below_new _ _).mono (by simp))).trans ((below_new _ _).mono (by simp; omega)))
  have HB0 : Hid (Bl (((w.alloc (.cells #[.pointer (some ⟨rp, 0, none⟩)] 28)).alloc (.cells #[.int .u64 (stop : Int)] 22)).alloc (.cells #[.bool false] 4)) w.heap.size [.pointer (some ⟨rp, 0, none⟩)] 28) := hide (((Bl.new w _ _).alloc _).alloc _)
  have HB1 : Hid (Bl (((w.alloc (.cells #[.pointer (some ⟨rp, 0, none⟩)] 28)).alloc (.cells #[.int .u64 (stop : Int)] 22)).alloc (.cells #[.bool false] 4)) (w.heap.size + 1) [.int .u64 (stop : Int)] 22) := hide (by
    have := (Bl.new (w.alloc (.cells #[.pointer (some ⟨rp, 0, none⟩)] 28)) #[.int .u64 (stop : Int)] 22).alloc (.cells #[.bool false] 4)
    rw [World.size_alloc] at this
    exact this)
  have HB2 : Hid (Bl (((w.alloc (.cells #[.pointer (some ⟨rp, 0, none⟩)] 28)).alloc (.cells #[.int .u64 (stop : Int)] 22)).alloc (.cells #[.bool false] 4)) (w.heap.size + 1 + 1) [.bool false] 4) := hide (by
    have := Bl.new ((w.alloc (.cells #[.pointer (some ⟨rp, 0, none⟩)] 28)).alloc (.cells #[.int .u64 (stop : Int)] 22)) #[.bool false] 4
    rw [World.size_alloc, World.size_alloc] at this
    exact this)
  have hsz : (((w.alloc (.cells #[.pointer (some ⟨rp, 0, none⟩)] 28)).alloc (.cells #[.int .u64 (stop : Int)] 22)).alloc (.cells #[.bool false] 4)).heap.size = w.heap.size + 3 := by simp
  generalize hbN : w.heap.size = N at *
  generalize ((w.alloc (.cells #[.pointer (some ⟨rp, 0, none⟩)] 28)).alloc (.cells #[.int .u64 (stop : Int)] 22)).alloc (.cells #[.bool false] 4) = W0 at *
  refine ⟨trivial, (HC.out W0 HBW.out).mono ?_⟩
  rintro e w1 ⟨rfl, hb1, hek⟩
  rw [hsz] at hb1 hek ⊢
  obtain ⟨ko, kc, b1, b2, b3⟩ := hek
  have HKB : Hid (L = [] ∨ ∀ a, ko = some a → a.block < w1.heap.size) := hide (by
    rcases b2 with h0 | ⟨b, off, h0, hcc⟩
    · exact .inl h0
    · cases L with
      | nil => exact .inl rfl
      | cons x r => exact .inr fun a ha => by rw [h0] at ha; cases ha; exact cell_lt (hcc 0 x rfl).1)
  have hfn := func_neG (N + 3)
  have hM1 : N + 3 < w1.heap.size := b1.lt
  have HK1 := hide (b1.alloc (.cells #[.int .i64 0] 3))
  have HK2 := hide (b2.keep (below_new w1 (.cells #[.int .i64 0] 3)))
  have HW1 := hide (HBW.out.trans (hb1.mono (by omega)))
  have HM0 := hide (Bl.new w1 #[.int .i64 0] 3)
  have HW2 := hide (HW1.out.trans ((below_new w1 (.cells #[.int .i64 0] 3)).mono (by omega)))
  have HD0 := hide ((HB0.out.below hb1 (by omega)).alloc (.cells #[.int .i64 0] 3))
  have HD1 := hide ((HB1.out.below hb1 (by omega)).alloc (.cells #[.int .i64 0] 3))
  have HD2 := hide ((HB2.out.below hb1 (by omega)).alloc (.cells #[.int .i64 0] 3))
  have hs2 : (w1.alloc (.cells #[.int .i64 0] 3)).heap.size = w1.heap.size + 1 := by simp
  clear HC b1 b2 b3 hb1 HB0 HB1 HB2
  gi_wp2_with fail
  generalize hM : w1.heap.size = M at *
  generalize w1.alloc (.cells #[.int .i64 0] 3) = w2 at *
  clear hfn
  have HRE := hide (HRF.out w2 HW2.out)
  obtain ⟨lo, lc, hv, _, hrow, c0, c1⟩ := HRE.out.form
  obtain ⟨nl, hnl⟩ : ∃ nl, nl = L.length := ⟨_, rfl⟩
  have HNL := hide hnl
  rw [← hnl] at c0 hlen
  have HCE : Hid (∀ W q, LI w2 M q W → W.cell? ⟨N, 0, none⟩ = some (.pointer (some ⟨rp, 0, none⟩)) ∧ W.cell? ⟨N + 1, 0, none⟩ = some (.int .u64 (stop : Int)) ∧ W.cell? ⟨rp, 0, none⟩ = some (.slice lo nl lc) ∧ RRow W lo L ∧ W.cell? ⟨N + 3, 0, none⟩ = some (.slice ko L.length kc) ∧ RRow W ko L) := hide (by
    rintro W q ⟨_, h3⟩
    have hc : ∀ b o x, w2.cell? ⟨b, o, none⟩ = some x → b ≠ M → W.cell? ⟨b, o, none⟩ = some x := fun b o x hx hb => (World.cell?_of_block (h3.block b (cell_lt hx) hb)).trans hx
    refine ⟨hc _ _ _ (HD0.out.cell 0) (by omega), hc _ _ _ (HD1.out.cell 0) (by omega), hc _ _ _ c0 (by omega), ?_, hc _ _ _ (HK1.out.cell 0) (by omega), ?_⟩
    · rcases hrow with h0 | ⟨b, off, h0, hcc⟩
      · exact .inl h0
      · have hbn : b < N := hvl b (by rw [hv, h0]; rfl)
        exact .inr ⟨b, off, h0, fun j x hx => ⟨hc _ _ _ (hcc j x hx).1 (by omega), hc _ _ _ (hcc j x hx).2 (by omega)⟩⟩
    · rcases HK2.out with h0 | ⟨b, off, h0, hcc⟩
      · exact .inl h0
      · rcases HKB.out with h4 | h4
        · exact .inl h4
        have hbn : b ≠ M := fun e => by have := h4 _ h0; simp only at this; omega
        exact .inr ⟨b, off, h0, fun j x hx => ⟨hc _ _ _ (hcc j x hx).1 hbn, hc _ _ _ (hcc j x hx).2 hbn⟩⟩)
  have hsw := HW2.out.size
  clear hnl
  refine range_left (A1 := ?A) (ko := ko) (ds := L) (kc := kc) (Bk := N + 3) (by have := HNL.out; omega) rfl rfl
    (fun i W => LI w2 M i W) (fun W => ∃ q, LI w2 M q W) (fun i W W' h k => h.out (by omega) k) (fun W W' ⟨q, h⟩ k => ⟨q, h.out (by omega) k⟩) (fun W h => ⟨_, h⟩)
    (fun i W h => ⟨(HCE.out W i h).2.2.2.2.1, (HCE.out W i h).2.2.2.2.2⟩) ⟨HM0.out, But.refl _ _⟩ ?hassign ?hbody ?hrest
  case hassign =>
    intro l x W1 K hK
    gi_wp2
    exact hK
  case hbody =>
    rintro i x W hx hLI hs _
    obtain ⟨d0, d1, d2, d3, -, -⟩ := HCE.out W i hLI
    obtain ⟨b, off, e0, k0, k1⟩ := d3.at hx
    subst e0
    have hin : i < nl := by have := (List.getElem?_eq_some_iff.1 hx).1; have := HNL.out; omega
    have hil : (i : Int) < (nl : Int) := by omega
    have hd1 : decide (nl ≤ i) = false := decide_eq_false (by omega)
    have hd2 : decide ((nl : Int) ≤ (i : Int)) = false := decide_eq_false (by omega)
    have m0 : W.cell? ⟨M, 0, none⟩ = some (.int .i64 (i : Int)) := hLI.1.cell 0
    have HLI := hide hLI
    obtain ⟨x1, x2⟩ := x
    simp only at k0 k1
    clear hx d3 hLI
    gi_wp2_with fail
    refine round_quiet (by kernel_rfl) (by kernel_rfl) (fun ⟨_, _, h⟩ => h) (by kernel_rfl) ?_
    repeat (go_big_quiet_step (fail))
    refine wpQuiet_nil ?_
    intro _ hw'
    obtain ⟨nq, hw''⟩ := hw'
    subst hw''
    have HL5 : Hid (LI w2 M i (W.drewN nq)) := hide ⟨HLI.out.1.drewN nq, HLI.out.2.trans (But.drewN M W nq)⟩
    have HRK : Hid (RecKept w2.heap.size 2 W (W.drewN nq)) := hide (fun _ _ _ => rfl)
    have HSZ : Hid (W.heap.size ≤ (W.drewN nq).heap.size) := hide (Nat.le_refl _)
    have d1' : (W.drewN nq).cell? ⟨N + 1, 0, none⟩ = some (.int .u64 (stop : Int)) := d1
    have m0' : (W.drewN nq).cell? ⟨M, 0, none⟩ = some (.int .i64 (i : Int)) := m0
    generalize W.drewN nq = W5 at *
    clear d0 d1 d2 k0 k1 m0 HLI
    have fm := HL5.out.1.frozen 0
    have hi8 : (i : Int) ≤ 8192 := by omega
    have hMs : M < w2.heap.size := by omega
    have hs5 : w2.heap.size + 2 ≤ W5.heap.size := Nat.le_trans hs HSZ.out
    by_cases hst : i = stop
    · have hst1 : ((i : Int) == (stop : Int)) = true := by simp; omega
      have HFIN : Hid (∃ q, LI w2 M q W5) := hide ⟨i, HL5.out⟩
      clear hst
      gi_wp2
      exact ⟨HRK.out, HSZ.out, rfl, HFIN.out⟩
    · have hst1 : ((i : Int) == (stop : Int)) = false := by simp; omega
      have HFIN : Hid (LI w2 M (i + 1) (W5.setCell ⟨M, 0, none⟩ (.int .i64 ((i : Int) + 1)))) := hide ⟨by have := HL5.out.1.set 0 (.int .i64 ((i + 1 : Nat) : Int)); simpa using this, HL5.out.2.trans (But.setCell _ _ _ _)⟩
      have HRK2 := hide (HRK.out.trans (RecKept.setCell W5 ⟨M, 0, none⟩ (.int .i64 ((i : Int) + 1)) (.inl hMs)))
      clear hst
      gi_wp2
      exact ⟨HRK2.out, by simpa [World.setCell] using HSZ.out, HFIN.out⟩
  case hrest =>
    rintro W ⟨q, hq⟩ hs hD
    have m0 : W.cell? ⟨M, 0, none⟩ = some (.int .i64 (q : Int)) := hq.1.cell 0
    have fm := hq.1.frozen 0
    have HL5 : Hid (LI w2 M 0 (W.setCell ⟨M, 0, none⟩ (.int .i64 0))) := hide ⟨hq.1.set 0 _, hq.2.trans (But.setCell _ _ _ _)⟩
    have HD5 : Hid ((W.setCell ⟨M, 0, none⟩ (.int .i64 0)).heap[w2.heap.size]? = some (.deferred (some []))) := hide ((heap_setCell_other W ⟨M, 0, none⟩ w2.heap.size _ (by show w2.heap.size ≠ M; omega)).trans hD)
    have HS5 : Hid (w2.heap.size + 2 ≤ (W.setCell ⟨M, 0, none⟩ (.int .i64 0)).heap.size) := hide (by simpa [World.setCell] using hs)
    clear hq hD hs
    gi_wp2_with fail
    generalize W.setCell ⟨M, 0, none⟩ (.int .i64 0) = w5 at *
    clear m0 fm
    have hMs : M < w2.heap.size := by omega
    have hs5 := HS5.out
    have HUP : Hid (∀ i W, LI w5 M i W → LI w2 M i W) := hide fun i W h => ⟨h.1, HL5.out.2.trans h.2⟩
    refine range_outer2 (A1 := ?A2) (ko := ko) (ds := L) (kc := kc) (Bk := N + 3) (by have := HNL.out; omega) rfl rfl
      (fun i W => LI w5 M i W) (fun _ _ _ => False) (fun i W W' h k => h.out (by omega) k) (fun _ _ _ _ h _ => h.elim)
      (fun i W h => ⟨(HCE.out W i (HUP.out i W h)).2.2.2.2.1, (HCE.out W i (HUP.out i W h)).2.2.2.2.2⟩) ⟨HL5.out.1, But.refl _ _⟩ ?hassign ?hbody ?hdone ?hstop
    case hstop => exact fun _ _ _ _ h => h.elim
    case hassign =>
      intro l x W1 K hK
      gi_wp2
      exact hK
    case hbody =>
      rintro i x W hx hLI hs _
      obtain ⟨d0, d1, d2, d3, -, -⟩ := HCE.out W i (HUP.out i W hLI)
      obtain ⟨b, off, e0, k0, k1⟩ := d3.at hx
      subst e0
      have hin : i < nl := by have := (List.getElem?_eq_some_iff.1 hx).1; have := HNL.out; omega
      have hil : (i : Int) < (nl : Int) := by omega
      have hd1 : decide (nl ≤ i) = false := decide_eq_false (by omega)
      have hd2 : decide ((nl : Int) ≤ (i : Int)) = false := decide_eq_false (by omega)
      have m0 : W.cell? ⟨M, 0, none⟩ = some (.int .i64 (i : Int)) := hLI.1.cell 0
      have HLI := hide hLI
      obtain ⟨x1, x2⟩ := x
      simp only at k0 k1
      clear hx d3 hLI
      gi_wp2_with fail
      refine round_quiet (by kernel_rfl) (by kernel_rfl) (fun ⟨_, _, h⟩ => h) (by kernel_rfl) ?_
      repeat (go_big_quiet_step (fail))
      refine wpQuiet_nil ?_
      intro _ hw'
      obtain ⟨nq, hw''⟩ := hw'
      subst hw''
      have HL6 : Hid (LI w5 M i (W.drewN nq)) := hide ⟨HLI.out.1.drewN nq, HLI.out.2.trans (But.drewN M W nq)⟩
      have HRK : Hid (RecKept w5.heap.size 2 W (W.drewN nq)) := hide (fun _ _ _ => rfl)
      have HSZ : Hid (W.heap.size ≤ (W.drewN nq).heap.size) := hide (Nat.le_refl _)
      have m0' : (W.drewN nq).cell? ⟨M, 0, none⟩ = some (.int .i64 (i : Int)) := m0
      generalize W.drewN nq = W5 at *
      clear d0 d1 d2 k0 k1 m0 HLI
      have fm := HL6.out.1.frozen 0
      have hi8 : (i : Int) ≤ 8192 := by omega
      have HFIN : Hid (LI w5 M (i + 1) (W5.setCell ⟨M, 0, none⟩ (.int .i64 ((i : Int) + 1)))) := hide ⟨by have := HL6.out.1.set 0 (.int .i64 ((i + 1 : Nat) : Int)); simpa using this, HL6.out.2.trans (But.setCell _ _ _ _)⟩
      have HRK2 := hide (HRK.out.trans (RecKept.setCell W5 ⟨M, 0, none⟩ (.int .i64 ((i : Int) + 1)) (.inl (show M < w5.heap.size by omega))))
      gi_wp2
      exact ⟨HRK2.out, by simpa [World.setCell] using HSZ.out, HFIN.out⟩
    case hdone =>
      intro W hLI hs hD
      obtain ⟨d0, d1, d2, d3, -, -⟩ := HCE.out W _ (HUP.out _ W hLI)
      rw [← HNL.out] at hLI
      have m0 : W.cell? ⟨M, 0, none⟩ = some (.int .i64 (nl : Int)) := hLI.1.cell 0
      have HB2 : Hid (Bl W (N + 1 + 1) [.bool false] 4) := hide (HD2.out.but (HUP.out _ W hLI).2 (by omega))
      have r0 : W.cell? ⟨N + 1 + 1, 0, none⟩ = some (.bool false) := HB2.out.cell 0
      have rf := HB2.out.frozen 0
      have hDa : W.heap[w2.heap.size]? = some (.deferred (some [])) := (hLI.2.block w2.heap.size (by omega) (by omega)).trans HD5.out
      have HDa := hide hDa
      have HDb := hide hD
      have HLF := hide (HUP.out _ W hLI)
      clear hDa hD hLI d1 d3
      gi_wp2_with fail
      have HF1 : Hid ((W.setCell ⟨N + 1 + 1, 0, none⟩ (.bool true)).drew.heap[w5.heap.size]? = some (.deferred (some []))) := hide ((heap_setCell_other W ⟨N + 1 + 1, 0, none⟩ w5.heap.size _ (by show w5.heap.size ≠ N + 1 + 1; omega)).trans HDb.out)
      have HF2 : Hid (((W.setCell ⟨N + 1 + 1, 0, none⟩ (.bool true)).drew.putObj w5.heap.size (.deferred none)).heap[M + 1]? = some (.deferred (some []))) := hide (by
        rw [World.putObj_heap_other (by omega)]
        rw [← hs2]
        exact (heap_setCell_other W ⟨N + 1 + 1, 0, none⟩ w2.heap.size _ (by show w2.heap.size ≠ N + 1 + 1; omega)).trans HDa.out)
      have HF3 : Hid (Bl (((W.setCell ⟨N + 1 + 1, 0, none⟩ (.bool true)).drew.putObj w5.heap.size (.deferred none)).putObj (M + 1) (.deferred none)) (N + 1 + 1) [.bool true] 4) := hide (by
        unfold Bl
        rw [World.putObj_heap_other (by omega), World.putObj_heap_other (by omega)]
        exact HB2.out.set 0 _)
      have hc5 : (((W.setCell ⟨N + 1 + 1, 0, none⟩ (.bool true)).drew.putObj w5.heap.size (.deferred none)).putObj (M + 1) (.deferred none)).cell? ⟨N + 1 + 1, 0, none⟩ = some (.bool true) := HF3.out.cell 0
      have HBF : Hid (Below N w (((W.setCell ⟨N + 1 + 1, 0, none⟩ (.bool true)).drew.putObj w5.heap.size (.deferred none)).putObj (M + 1) (.deferred none))) := hide (by
        have h1 : Below N w W := HW2.out.trans (HLF.out.2.below (by omega) (by omega))
        have h2 : Below N W (W.setCell ⟨N + 1 + 1, 0, none⟩ (.bool true)).drew := below_drewN ((But.setCell (N + 1 + 1) W 0 (.bool true)).below (by omega) (by have := HLF.out.2.size; omega)) 1
        exact ((h1.trans h2).trans (putObj_below _ _ (by omega))).trans (putObj_below _ _ (by omega)))
      gi_region
      all_goals gi_wp2
      refine ⟨by simp, .inl ⟨_, _, rfl, run_takeDeferred HF1.out, ?_⟩⟩
      refine ⟨by simp, .inl ⟨_, _, rfl, run_takeDeferred HF2.out, ?_⟩⟩
      refine ⟨.bool true, ?_, rfl, by rw [hbN]; exact HBF.out⟩
      simp [results, Try.results31, go_sem, hc5]
theorem each_law (wp rp now n2 stop : Nat) (L : List Tm) (Y : Lay) (v : Value) (w : World) (h : Whl w wp now L Y) (hr : RefAt w rp n2 v L) (hst : stop < 18446744073709551616) : Calls Try.prog 31 #[pw wp, pw rp, .int .u64 (stop : Int)] w fun e w' => e = .returned (.bool true) ∧ Below w.heap.size w w' := callsIn_wide.1 (each_in wp rp now n2 stop L Y v w h hr hst)
end Go.Proofs.Ytmngmkbiibhmkaa
/- Two arrays of five numbers, compared. -/
namespace Go.Proofs.Ytmngmkbiibhmkaa
open Go.RowKit

def nv (n : Nat) : Value := .int .i64 (n : Int)
theorem infoI : (Try.prog.info? 3).map (fun i => (i.zero, i.size, i.bytes)) = some (some (.int .i64 0), 1, 8) := by kernel_rfl
theorem cellsOfI : Try.prog.cellsOf 3 = 1 := by kernel_rfl
theorem isAggI (w : World) : (isAgg 3).run Try.prog w = .ok false w := by
  unfold isAgg
  rw [Sem.run_bind, run_underlying Try.underlying3 w]
  rfl
theorem partI (xs : List Nat) (i : Nat) (hi : i < xs.length) (w : World) : (part 3 (xs.map nv).toArray (i * 1)).run Try.prog w = .ok (nv (xs.getD i 0)) w := by
  unfold part
  rw [Sem.run_bind, isAggI]
  simp [hi, List.getD]
theorem itemsI (d : Nat) (xs ys : List Nat) (w : World) : ∀ (is : List Nat), (∀ i ∈ is, i < xs.length ∧ i < ys.length) → (Op.eqItems (d + 1) 3 (Try.prog.cellsOf 3) (xs.map nv).toArray (ys.map nv).toArray is).run Try.prog w = .ok (is.all fun i => xs.getD i 0 == ys.getD i 0) w
  | [], _ => by simp [Op.eqItems]
  | i :: is, h => by
    have hi := h i (by simp)
    have ih := itemsI d xs ys w is (fun j hj => h j (by simp [hj]))
    rw [cellsOfI] at ih ⊢
    simp only [Op.eqItems, Sem.run_bind, partI xs i hi.1, partI ys i hi.2, Result.andThen_ok]
    have he : (Op.equalIn (d + 1) 3 (nv (xs.getD i 0)) (nv (ys.getD i 0))).run Try.prog w = .ok (((xs.getD i 0 : Nat) : Int) == ((ys.getD i 0 : Nat) : Int)) w := run_equalIn_int w d 3 .i64 .i64 _ _ Try.underlying3
    have hc : (((xs.getD i 0 : Nat) : Int) == ((ys.getD i 0 : Nat) : Int)) = (xs.getD i 0 == ys.getD i 0) := by rw [Bool.eq_iff_iff]; simp only [beq_iff_eq]; omega
    rw [he, hc]
    simp only [Result.andThen_ok, List.all_cons]
    cases hq : (xs.getD i 0 == ys.getD i 0)
    · simp
    · simpa using ih
theorem all_eq (n : Nat) (xs ys : List Nat) (hx : xs.length = n) (hy : ys.length = n) : ((List.range n).all fun i => xs.getD i 0 == ys.getD i 0) = decide (xs = ys) := by
  rw [Bool.eq_iff_iff]
  simp only [List.all_eq_true, List.mem_range, beq_iff_eq, decide_eq_true_eq]
  constructor
  · intro h
    apply List.ext_getElem (by omega)
    intro i h1 h2
    have := h i (by omega)
    simpa [List.getD, List.getElem?_eq_getElem h1, List.getElem?_eq_getElem h2] using this
  · intro h i _
    rw [h]
theorem arr5_eq (xs ys : List Nat) (w : World) (hx : xs.length = 5) (hy : ys.length = 5) : (Op.equalIn 10000 46 (.agg (xs.map nv).toArray) (.agg (ys.map nv).toArray)).run Try.prog w = .ok (decide (xs = ys)) w := by
  obtain ⟨i0, hi, _, _, _⟩ := info_parts infoI
  rw [run_equalIn_array w 9999 _ _ Try.underlying46 hi, itemsI 9998 xs ys w _ (fun i h => by have := List.mem_range.1 h; omega), all_eq 5 xs ys hx hy]
end Go.Proofs.Ytmngmkbiibhmkaa
/- Two wheels side by side, and a row of timers beside both. -/
namespace Go.Proofs.Ytmngmkbiibhmkaa
open Go.RowKit Go.Shelf Go.Maps

/-- Two wheels, made since u, in blocks of their own. -/
structure Two (u w : World) (wp xp n1 n2 : Nat) (L1 L2 : List Tm) (Y1 Y2 : Lay) : Prop where
  one : Whl w wp n1 L1 Y1
  two : Whl w xp n2 L2 Y2
  ge1 : ∀ b ∈ Y1.blocks wp, u.heap.size ≤ b
  ge2 : ∀ b ∈ Y2.blocks xp, u.heap.size ≤ b
  dis : ∀ b ∈ Y1.blocks wp, b ∉ Y2.blocks xp
  bel : Below u.heap.size u w
theorem Two.symm {u w : World} {wp xp n1 n2 : Nat} {L1 L2 : List Tm} {Y1 Y2 : Lay} (h : Two u w wp xp n1 n2 L1 L2 Y1 Y2) : Two u w xp wp n2 n1 L2 L1 Y2 Y1 := ⟨h.two, h.one, h.ge2, h.ge1, fun b h1 h2 => h.dis b h2 h1, h.bel⟩
theorem Two.below {u w w' : World} {wp xp n1 n2 : Nat} {L1 L2 : List Tm} {Y1 Y2 : Lay} (h : Two u w wp xp n1 n2 L1 L2 Y1 Y2) (hb : Below w.heap.size w w') : Two u w' wp xp n1 n2 L1 L2 Y1 Y2 := ⟨h.one.below hb, h.two.below hb, h.ge1, h.ge2, h.dis, h.bel.trans (hb.mono h.bel.size)⟩
theorem Two.adv {u w w' : World} {wp xp n1 n2 n3 : Nat} {L1 L2 L3 : List Tm} {Y1 Y2 Y3 : Lay} (h : Two u w wp xp n1 n2 L1 L2 Y1 Y2) (k : Whl w' wp n3 L3 Y3) (hA : Aft wp Y1 Y3 w w') : Two u w' wp xp n3 n2 L3 L2 Y3 Y2 := by
  have hlt := h.two.lt
  refine ⟨k, h.two.apart hA.fr fun b hb hm => h.dis b hm hb, fun b hb => ?_, h.ge2, fun b hb hm => ?_, h.bel.trans (hA.fr.below _ h.bel.size h.ge1)⟩
  · rcases hA.new b hb with h1 | h1
    · exact h.ge1 b h1
    · exact Nat.le_trans h.bel.size h1
  · rcases hA.new b hb with h1 | h1
    · exact h.dis b h1 hm
    · have := hlt b hm; omega
theorem two_made {w1 w2 w3 : World} {wp xp n1 n2 : Nat} {L1 L2 : List Tm} (h : MineG w1 w2 wp n1 L1 []) (k : MineG w2 w3 xp n2 L2 []) : ∃ Y1 Y2, Two w1 w3 wp xp n1 n2 L1 L2 Y1 Y2 := by
  obtain ⟨⟨Y1, h1, h2, _⟩, h3⟩ := h
  obtain ⟨⟨Y2, k1, k2, _⟩, k3⟩ := k
  have hlt := h1.lt
  exact ⟨Y1, Y2, h1.below k3, k1, h2, fun b hb => Nat.le_trans h3.size (k2 b hb), fun b hb hm => by have := hlt b hb; have := k2 b hm; omega, h3.trans (k3.mono h3.size)⟩
theorem own_fr {w w' : World} {B : Nat} {v : Value} {xs fp : List Nat} (h : Own w B v xs) (hf : Fr fp w w') (hn : ∀ g, v.ownBlock = some g → g ∉ fp) : Own w' B v xs := h.same fun g hg => hf.block g (h.lt g hg).2 (hn g hg)
theorem spread_form (now : Nat) (L : List Tm) : ∃ y0 y1 y2 y3 y4 : Nat, spreadV now L = .agg #[.int .i64 (y0 : Int), .int .i64 (y1 : Int), .int .i64 (y2 : Int), .int .i64 (y3 : Int), .int .i64 (y4 : Int)] := ⟨_, _, _, _, _, rfl⟩
theorem five_eq (y0 y1 y2 y3 y4 : Nat) (V : World) : (Op.equalIn 10000 46 (.agg #[.int .i64 (y0 : Int), .int .i64 (y1 : Int), .int .i64 (y2 : Int), .int .i64 (y3 : Int), .int .i64 (y4 : Int)]) (.agg #[.int .i64 (y0 : Int), .int .i64 (y1 : Int), .int .i64 (y2 : Int), .int .i64 (y3 : Int), .int .i64 (y4 : Int)])).run Try.prog V = .ok true V := by
  have := arr5_eq [y0, y1, y2, y3, y4] [y0, y1, y2, y3, y4] V rfl rfl
  rw [decide_eq_true rfl] at this
  exact this
/-- Two wheels at one time, and a row of timers beside both. -/
structure OrdI (u w : World) (ap bp now : Nat) (La Lb : List Tm) (v : Value) (T : List Tm) : Prop where
  two : ∃ Y1 Y2, Two u w ap bp now now La Lb Y1 Y2 ∧ ∀ g, v.ownBlock = some g → g ∉ Y1.blocks ap ∧ g ∉ Y2.blocks bp
  own : ROwn w u.heap.size v T
theorem OrdI.bel {u w : World} {ap bp now : Nat} {La Lb : List Tm} {v : Value} {T : List Tm} (h : OrdI u w ap bp now La Lb v T) : Below u.heap.size u w := by
  obtain ⟨_, _, h, _⟩ := h.two
  exact h.bel
theorem OrdI.okA {u w : World} {ap bp now : Nat} {La Lb : List Tm} {v : Value} {T : List Tm} (h : OrdI u w ap bp now La Lb v T) : Rise La ∧ La.length ≤ 8192 ∧ ∀ p ∈ La, p.1 < 18446744073709551616 ∧ p.2 < 18446744073709551616 ∧ now < p.2 := by
  obtain ⟨_, _, h, _⟩ := h.two
  obtain ⟨S, _, hs⟩ := h.one
  exact ⟨hs.rise, hs.len, hs.big⟩
theorem OrdI.okB {u w : World} {ap bp now : Nat} {La Lb : List Tm} {v : Value} {T : List Tm} (h : OrdI u w ap bp now La Lb v T) : Rise Lb := by
  obtain ⟨_, _, h, _⟩ := h.two
  obtain ⟨S, _, hs⟩ := h.two
  exact hs.rise
theorem OrdI.below {u w w' : World} {ap bp now : Nat} {La Lb : List Tm} {v : Value} {T : List Tm} (h : OrdI u w ap bp now La Lb v T) (hb : Below w.heap.size w w') : OrdI u w' ap bp now La Lb v T := by
  obtain ⟨⟨Y1, Y2, h1, h2⟩, h3⟩ := h
  exact ⟨⟨Y1, Y2, h1.below hb, h2⟩, h3.keep hb⟩
theorem OrdI.addA {u w : World} {ap bp now : Nat} {La Lb : List Tm} {v : Value} {T : List Tm} (h : OrdI u w ap bp now La Lb v T) (id a : Nat) (hid : id < 18446744073709551616) (ha : a < 18446744073709551616) :
    Calls Try.prog 14 #[pw ap, .int .u64 (id : Int), .int .u64 (a : Int)] w fun e w' => e = .returned (.int .i64 (addE now La id a : Int)) ∧ OrdI u w' ap bp now (addL now La id a) Lb v T := by
  obtain ⟨⟨Y1, Y2, h1, h2⟩, h3⟩ := h
  refine (add_any ap now id a La Y1 w h1.one hid ha).mono fun _ w' ⟨he, Y', k1, k2⟩ => ⟨he, ⟨Y', Y2, h1.adv k1 k2, fun g hg => ⟨fun hm => ?_, (h2 g hg).2⟩⟩, h3.same fun g hg => k2.fr.block g (h3.lt g hg).2 (h2 g hg).1⟩
  rcases k2.new g hm with h | h
  · exact (h2 g hg).1 h
  · have := (h3.lt g hg).2; omega
theorem OrdI.addB {u w : World} {ap bp now : Nat} {La Lb : List Tm} {v : Value} {T : List Tm} (h : OrdI u w ap bp now La Lb v T) (id a : Nat) (hid : id < 18446744073709551616) (ha : a < 18446744073709551616) :
    Calls Try.prog 14 #[pw bp, .int .u64 (id : Int), .int .u64 (a : Int)] w fun e w' => e = .returned (.int .i64 (addE now Lb id a : Int)) ∧ OrdI u w' ap bp now La (addL now Lb id a) v T := by
  obtain ⟨⟨Y1, Y2, h1, h2⟩, h3⟩ := h
  refine (add_any bp now id a Lb Y2 w h1.two hid ha).mono fun _ w' ⟨he, Y', k1, k2⟩ => ⟨he, ⟨Y1, Y', (h1.symm.adv k1 k2).symm, fun g hg => ⟨(h2 g hg).1, fun hm => ?_⟩⟩, h3.same fun g hg => k2.fr.block g (h3.lt g hg).2 (h2 g hg).2⟩
  rcases k2.new g hm with h | h
  · exact (h2 g hg).2 h
  · have := (h3.lt g hg).2; omega
theorem OrdI.remB {u w : World} {ap bp now : Nat} {La Lb : List Tm} {v : Value} {T : List Tm} (h : OrdI u w ap bp now La Lb v T) (id : Nat) (hid : id < 18446744073709551616) :
    Calls Try.prog 23 #[pw bp, .int .u64 (id : Int)] w fun e w' => e = .returned (.int .i64 (remE Lb id : Int)) ∧ OrdI u w' ap bp now La (tdel id Lb) v T := by
  obtain ⟨⟨Y1, Y2, h1, h2⟩, h3⟩ := h
  refine (remove_any bp now id Lb Y2 w h1.two hid).mono fun _ w' ⟨he, Y', k1, k2⟩ => ⟨he, ⟨Y1, Y', (h1.symm.adv k1 k2).symm, fun g hg => ⟨(h2 g hg).1, fun hm => ?_⟩⟩, h3.same fun g hg => k2.fr.block g (h3.lt g hg).2 (h2 g hg).2⟩
  rcases k2.new g hm with h | h
  · exact (h2 g hg).2 h
  · have := (h3.lt g hg).2; omega
/-- The row grows by a timer. -/
theorem OrdI.grow {u w w4 : World} {ap bp now : Nat} {La Lb : List Tm} {v v' : Value} {T T' : List Tm} (h : OrdI u w ap bp now La Lb v T) (o : Obj) (hg : (w.alloc o).grownBy w4 v.ownBlock) (h3 : ROwn w4 u.heap.size v' T') (hl : v'.ownBlock = v.ownBlock ∨ v'.ownBlock = some (w.alloc o).heap.size) : OrdI u w4 ap bp now La Lb v' T' := by
  obtain ⟨⟨Y1, Y2, h1, h2⟩, h4⟩ := h
  have hf := fr_new_grown o hg
  have l1 := h1.one.lt
  have l2 := h1.two.lt
  have hn1 : ∀ b ∈ Y1.blocks ap, b ∉ vb v := fun b hb hm => (h2 b (mem_vb.1 hm)).1 hb
  have hn2 : ∀ b ∈ Y2.blocks bp, b ∉ vb v := fun b hb hm => (h2 b (mem_vb.1 hm)).2 hb
  refine ⟨⟨Y1, Y2, ⟨h1.one.apart hf hn1, h1.two.apart hf hn2, h1.ge1, h1.ge2, h1.dis, h1.bel.trans (hf.below _ h1.bel.size fun b hb => (h4.lt b (mem_vb.1 hb)).1)⟩, fun g hg => ?_⟩, h3⟩
  rcases new_or o hl g hg with h | h
  · exact h2 g h
  · exact ⟨fun hm => by have := l1 g hm; omega, fun hm => by have := l2 g hm; omega⟩
/- The mathematics of the order. -/
theorem tdel_tins {L : List Tm} (hL : Rise L) {x : Tm} (hx : ∀ p ∈ L, p.1 ≠ x.1) : tdel x.1 (tins x L) = L := rise_ext (rise_del (rise_ins hL hx)) hL fun p => by
  rw [tdel_mem, tins_mem]
  constructor
  · rintro ⟨rfl | h, h2⟩
    · exact absurd rfl h2
    · exact h
  · intro h
    exact ⟨.inr h, hx p h⟩
theorem addE_zero {now : Nat} {L : List Tm} {id a : Nat} (h1 : ∀ p ∈ L, p.1 ≠ id) (h2 : now < a) (h3 : L.length < 8192) : addE now L id a = 0 := by
  unfold addE
  rw [tget_none_of h1, if_neg (by simp), if_neg (by omega), if_neg (by omega)]
theorem drop_len {T La Lb : List Tm} {j : Nat} {x : Tm} (hp : T.Perm La) (hl : La.length ≤ 8192) (hb : Lb.Perm (T.drop (j + 1))) (hx : T[j]? = some x) : Lb.length < 8192 := by
  have h1 := (List.getElem?_eq_some_iff.1 hx).1
  rw [hb.length_eq, List.length_drop]
  have := hp.length_eq
  omega
theorem ord_gone {now : Nat} {T La Lb : List Tm} {j : Nat} {x : Tm} {g : Nat} (hp : T.Perm La) (ha : La.length ≤ 8192 ∧ ∀ p ∈ La, p.1 < 18446744073709551616 ∧ p.2 < 18446744073709551616 ∧ now < p.2) (hb : Lb.Perm (T.drop (j + 1))) (hrb : Rise Lb) (hx : T[j]? = some x) (hg : tget g T = none) :
    addE now Lb g x.2 = 0 ∧ remE (addL now Lb g x.2) g = 0 ∧ tdel g (addL now Lb g x.2) = Lb := by
  have h1 : ∀ p ∈ Lb, p.1 ≠ g := fun p hm => tget_none hg p (List.mem_of_mem_drop (hb.mem_iff.1 hm))
  have h0 := addE_zero (a := x.2) h1 (ha.2 x (hp.mem_iff.1 (List.mem_of_getElem? hx))).2.2 (drop_len hp ha.1 hb hx)
  refine ⟨h0, ?_, ?_⟩
  · unfold addL remE
    rw [if_pos h0]
    have : tget g (tins (g, x.2) Lb) = some x.2 := tget_mem (rise_ins hrb h1) (p := (g, x.2)) ((tins_mem _ _ _).2 (.inl rfl))
    rw [this]
    rfl
  · unfold addL
    rw [if_pos h0]
    exact tdel_tins (x := (g, x.2)) hrb h1
theorem ord_add {now : Nat} {T La Lb : List Tm} {j : Nat} {x : Tm} (hp : T.Perm La) (hra : Rise La) (ha : La.length ≤ 8192 ∧ ∀ p ∈ La, p.1 < 18446744073709551616 ∧ p.2 < 18446744073709551616 ∧ now < p.2) (hb : Lb.Perm (T.drop (j + 1))) (hx : T[j]? = some x) :
    addE now Lb x.1 x.2 = 0 ∧ (addL now Lb x.1 x.2).Perm (T.drop j) := by
  obtain ⟨hj, hjx⟩ := List.getElem?_eq_some_iff.1 hx
  have e : T.drop j = x :: T.drop (j + 1) := by rw [← hjx]; exact List.drop_eq_getElem_cons hj
  have nd : (T.map (·.1)).Nodup := ((hp.map _).nodup_iff).2 (rise_nodup hra)
  have nd2 : ((T.drop j).map (·.1)).Nodup := nd.sublist ((List.drop_sublist j T).map _)
  rw [e, List.map_cons, List.nodup_cons] at nd2
  have h1 : ∀ p ∈ Lb, p.1 ≠ x.1 := fun p hm he => nd2.1 (List.mem_map.2 ⟨p, hb.mem_iff.1 hm, he⟩)
  have h0 := addE_zero (a := x.2) h1 (ha.2 x (hp.mem_iff.1 (List.mem_of_getElem? hx))).2.2 (drop_len hp ha.1 hb hx)
  refine ⟨h0, ?_⟩
  unfold addL
  rw [if_pos h0, e]
  exact (tins_perm _ _).trans (hb.cons x)
theorem ord_end {T La Lb : List Tm} (hp : T.Perm La) (hra : Rise La) (hb : Lb.Perm (T.drop 0)) (hrb : Rise Lb) : Lb = La := rise_ext hrb hra fun p => by
  rw [hb.mem_iff, List.drop_zero, hp.mem_iff]
theorem ord_some {now : Nat} {L T : List Tm} {id a : Nat} (hp : T.Perm L) (h : addE now L id a = 0) : (T ++ [(id, a)]).Perm (addL now L id a) := by
  unfold addL
  rw [if_pos h]
  exact ((hp.append_right _).trans (List.perm_append_singleton _ _)).trans (tins_perm _ _).symm
theorem ord_none {now : Nat} {L : List Tm} {id a : Nat} (h : addE now L id a ≠ 0) : addL now L id a = L := by
  unfold addL
  rw [if_neg h]
end Go.Proofs.Ytmngmkbiibhmkaa
/- The law's whole and asks: what both wheels tell. -/
namespace Go.Proofs.Ytmngmkbiibhmkaa
open Go.RowKit Go.Shelf Go.Maps

theorem each_d {u w : World} {wp rp n1 n2 : Nat} {L : List Tm} {G : List Nat} (h : Duo u w wp rp n1 n2 L L G) (stop : Nat) (hst : stop < 18446744073709551616) : Calls Try.prog 31 #[pw wp, pw rp, .int .u64 (stop : Int)] w fun e w' => e = .returned (.bool true) ∧ Below w.heap.size w w' := by
  obtain ⟨⟨Y, v, h1, h2, _⟩, _⟩ := h
  exact each_law wp rp n1 n2 stop L Y v w h1 h2 hst
structure Facts (now : Nat) (L : List Tm) : Prop where
  len : L.length ≤ 8192
  big : ∀ p ∈ L, p.2 < 18446744073709551616
  nowb : now < 18446744073709551616
theorem Duo.facts {u w : World} {wp rp n1 n2 : Nat} {L1 L2 : List Tm} {G : List Nat} (h : Duo u w wp rp n1 n2 L1 L2 G) : Facts n1 L1 := by
  obtain ⟨S, hs⟩ := h.ok
  exact ⟨hs.len, fun p hp => (hs.big p hp).2.1, hs.nowb⟩
set_option maxHeartbeats 4000000 in
set_option maxRecDepth 100000 in
theorem whole_any (wp rp now : Nat) (L : List Tm) (G : List Nat) (u w : World) (h : Duo u w wp rp now now L L G) :
    Calls Try.prog 12 #[pw wp, pw rp] w fun e w' => e = .returned (.bool true) ∧ Below w.heap.size w w' := by
  have D0 := hide h
  have HF := hide h.facts
  have HC1 := hide (next_d h)
  have HC2 : Hid (∀ m b, NextIs L m b → Calls Try.prog 30 #[pw rp] w fun e w' => e = .returned (.tuple #[.int .u64 (m : Int), .bool b]) ∧ w' = w) := hide fun m b hm => rnext_d h HF.out.len hm
  have HNW : Hid (∀ W, Duo u W wp rp now now L L G → Calls Try.prog 25 #[pw wp] W fun e w' => e = .returned (.int .u64 (now : Int)) ∧ w' = W) := hide fun W hW => now_d hW
  have HLE : Hid (∀ W, Duo u W wp rp now now L L G → Calls Try.prog 16 #[pw wp] W fun e w' => e = .returned (.int .i64 (L.length : Int)) ∧ w' = W) := hide fun W hW => len_d hW
  have HSP : Hid (∀ W, Duo u W wp rp now now L L G → Calls Try.prog 17 #[pw wp] W fun e w' => e = .returned (spreadV now L) ∧ Below W.heap.size W w') := hide fun W hW => spread_d hW
  have HRS : Hid (∀ W, Duo u W wp rp now now L L G → Calls Try.prog 18 #[pw rp] W fun e w' => e = .returned (spreadV now L) ∧ Below W.heap.size W w') := hide fun W hW => rspread_d hW HF.out.len HF.out.big HF.out.nowb
  have HEA : Hid (∀ W, Duo u W wp rp now now L L G → Calls Try.prog 31 #[pw wp, pw rp, .int .u64 1] W fun e w' => e = .returned (.bool true) ∧ Below W.heap.size W w') := hide fun W hW => each_d hW 1 (by omega)
  obtain ⟨ao, c, c0, c1⟩ := h.cells
  obtain ⟨n, hn⟩ : ∃ n, n = L.length := ⟨_, rfl⟩
  rw [← hn] at c0 HLE
  obtain ⟨y0, y1, y2, y3, y4, hsv⟩ := spread_form now L
  have hse := five_eq y0 y1 y2 y3 y4
  rw [hsv] at HSP HRS
  have hn8 : (n : Int) ≤ 8192 := by have := HF.out.len; omega
  clear hsv h hn
  unfold pw at HC1 HC2 HNW HLE HSP HRS HEA ⊢
  go_enter Try.func12, Try.ntmps12
  go_upto_region 3 with (first
    | (go_at_call 29; refine HC1.out.mono ?_; rintro e wx ⟨m, b, rfl, hwx, HM⟩; have hwy := hwx.symm; subst hwy; clear hwx)
    | (go_at_call 30; refine (HC2.out m b HM.out).mono ?_; rintro e wx ⟨rfl, hwx⟩; have hwy := hwx.symm; subst hwy; clear hwx))
  have hbb : (b == b) = true := by simp
  have D1 := hide (D0.out.drewN 1)
  go_region_held (fun W => W.cell? ⟨rp, 0, none⟩ = some (.slice ao n c) ∧ W.cell? ⟨rp, 1, none⟩ = some (.int .u64 (now : Int))) (go_keep) (first
    | (go_at_call 25; refine (HNW.out _ D1.out).mono ?_; rintro e wx ⟨rfl, hwx⟩; have hwy := hwx.symm; subst hwy; clear hwx)
    | (go_at_call 16; refine (HLE.out _ D1.out).mono ?_; rintro e wx ⟨rfl, hwx⟩; have hwy := hwx.symm; subst hwy; clear hwx)
    | (go_at_call 17; refine (HSP.out _ D1.out).mono ?_; rintro e w2 ⟨rfl, hb2⟩; have hb2' : Below w.heap.size w w2 := (below_drewN (Below.refl w.heap.size w) 1).trans hb2; have d0 := cell_kept c0 hb2'; have d1 := cell_kept c1 hb2'; have B2 := hide hb2'; have D2 := hide (D0.out.below hb2'); clear hb2 hb2')
    | (go_at_call 18; refine (HRS.out w2 D2.out).mono ?_; rintro e w3 ⟨rfl, hb3⟩; have f0 := cell_kept d0 hb3; have f1 := cell_kept d1 hb3; have B3 := hide (B2.out.trans (hb3.mono B2.out.size)); have D3 := hide (D2.out.below hb3); clear hb3)
    | (go_at_call 31; refine (HEA.out w3 D3.out).mono ?_; rintro e w4 ⟨rfl, hb4⟩; have g0 := cell_kept f0 hb4; have g1 := cell_kept f1 hb4; have B4 := hide (B3.out.trans (hb4.mono B3.out.size)); clear hb4))
  all_goals
    (try go_wp2_with fail)
    go_ret
    exact ⟨rfl, B4.out⟩
set_option maxHeartbeats 4000000 in
set_option maxRecDepth 100000 in
theorem asks_any (wp rp now : Nat) (L : List Tm) (k : Int) (id a : Nat) (u w : World) (h : Duo u w wp rp now now L L []) (hid : id < 18446744073709551616) (ha : a < 18446744073709551616) :
    Calls Try.prog 11 #[pw wp, pw rp, .agg #[.int .i64 k, .int .u64 (id : Int), .int .u64 (a : Int)]] w fun e w' => e = .returned (.bool true) ∧ Below w.heap.size w w' := by
  have HB0 := hide (Bl.new w #[.int .i64 k, .int .u64 (id : Int), .int .u64 (a : Int)] 33)
  have HBW := hide (below_new w (.cells #[.int .i64 k, .int .u64 (id : Int), .int .u64 (a : Int)] 33))
  have D0 := hide (h.below HBW.out)
  have HF := hide h.facts
  have HID := hide hid
  have HA := hide ha
  clear h hid ha
  unfold pw
  go_enter Try.func11, Try.ntmps11
  go_upto_region 1 with fail
  obtain ⟨A, hA⟩ : ∃ A, A = w.heap.size := ⟨_, rfl⟩
  rw [← hA] at HB0 ⊢
  have HAA := hide hA
  clear hA
  generalize w.alloc (.cells #[.int .i64 k, .int .u64 (id : Int), .int .u64 (a : Int)] 33) = w0 at *
  have b0 : w0.cell? ⟨A, 0, none⟩ = some (.int .i64 k) := HB0.out.cell 0
  have b1 : w0.cell? ⟨A, 1, none⟩ = some (.int .u64 (id : Int)) := HB0.out.cell 1
  have b2 : w0.cell? ⟨A, 2, none⟩ = some (.int .u64 (a : Int)) := HB0.out.cell 2
  obtain ⟨ao, c, c0, c1⟩ := D0.out.cells
  by_cases h3 : k = 3
  · subst h3
    have HC1 := hide (at_d D0.out id HID.out)
    have HC2 := hide (rat_d D0.out HF.out.len id)
    generalize (tget id L).getD 0 = q at *
    generalize (tget id L).isSome = z at *
    have hzz : (z == z) = true := by simp
    unfold pw at HC1 HC2
    go_wp2_with (first
      | (go_at_call 27; refine HC1.out.mono ?_; rintro e wx ⟨rfl, hwx⟩; have hwy := hwx.symm; subst hwy; clear hwx)
      | (go_at_call 28; refine HC2.out.mono ?_; rintro e wx ⟨rfl, hwx⟩; have hwy := hwx.symm; subst hwy; clear hwx))
    go_ret
    exact ⟨rfl, HBW.out⟩
  have hk3 : (k == 3) = false := by simpa using h3
  by_cases h5 : k = 5
  · subst h5
    have HC1 := hide (next_d D0.out)
    have HC2 : Hid (∀ m b, NextIs L m b → Calls Try.prog 30 #[pw rp] w0 fun e w' => e = .returned (.tuple #[.int .u64 (m : Int), .bool b]) ∧ w' = w0) := hide fun m b hm => rnext_d D0.out HF.out.len hm
    unfold pw at HC1 HC2
    go_upto_region 9 with (first
      | (go_at_call 29; refine HC1.out.mono ?_; rintro e wx ⟨m, b, rfl, hwx, HM⟩; have hwy := hwx.symm; subst hwy; clear hwx)
      | (go_at_call 30; refine (HC2.out m b HM.out).mono ?_; rintro e wx ⟨rfl, hwx⟩; have hwy := hwx.symm; subst hwy; clear hwx))
    have hbb : (b == b) = true := by simp
    go_wp2_with fail
    go_ret
    exact ⟨rfl, HBW.out⟩
  have hk5 : (k == 5) = false := by simpa using h5
  by_cases h6 : k = 6
  · subst h6
    have HC1 : Hid (∀ q, Calls Try.prog 25 #[pw wp] (w0.drewN q) fun e w' => e = .returned (.int .u64 (now : Int)) ∧ w' = w0.drewN q) := hide fun q => now_d (D0.out.drewN q)
    unfold pw at HC1
    go_upto_region 11 with fail
    go_quiet ((go_at_call 25; exact Calls.quiet_of_same (HC1.out _)))
    have HBQ := hide (below_drewN HBW.out nq)
    go_wp2_with fail
    go_ret
    exact ⟨rfl, HBQ.out⟩
  have hk6 : (k == 6) = false := by simpa using h6
  by_cases h7 : k = 7
  · subst h7
    have HC1 : Hid (∀ q, Calls Try.prog 16 #[pw wp] (w0.drewN q) fun e w' => e = .returned (.int .i64 (L.length : Int)) ∧ w' = w0.drewN q) := hide fun q => len_d (D0.out.drewN q)
    have hn8 := HF.out.len
    generalize L.length = n at *
    unfold pw at HC1
    go_upto_region 13 with fail
    go_quiet ((go_at_call 16; exact Calls.quiet_of_same (HC1.out _)))
    have HBQ := hide (below_drewN HBW.out nq)
    go_wp2_with fail
    go_ret
    exact ⟨rfl, HBQ.out⟩
  have hk7 : (k == 7) = false := by simpa using h7
  by_cases h8 : k = 8
  · subst h8
    have HC1 := hide (spread_d D0.out)
    have HC2 : Hid (∀ W, Below w0.heap.size w0 W → Calls Try.prog 18 #[pw rp] W fun e w' => e = .returned (spreadV now L) ∧ Below W.heap.size W w') := hide fun W hW => rspread_d (D0.out.below hW) HF.out.len HF.out.big HF.out.nowb
    obtain ⟨y0, y1, y2, y3, y4, hsv⟩ := spread_form now L
    have hse := five_eq y0 y1 y2 y3 y4
    rw [hsv] at HC1 HC2
    clear hsv
    unfold pw at HC1 HC2
    go_wp2_with (first
      | (go_at_call 17; refine HC1.out.mono ?_; rintro e w2 ⟨rfl, hb2⟩; have B2 := hide hb2; clear hb2)
      | (go_at_call 18; refine (HC2.out w2 B2.out).mono ?_; rintro e w3 ⟨rfl, hb3⟩; have B3 := hide (HBW.out.trans ((B2.out.trans (hb3.mono B2.out.size)).mono HBW.out.size)); clear hb3))
    go_ret
    exact ⟨rfl, B3.out⟩
  have hk8 : (k == 8) = false := by simpa using h8
  by_cases h9 : k = 9
  · subst h9
    have HC1 := hide (each_d D0.out a HA.out)
    unfold pw at HC1
    go_wp2_with (go_at_call 31; refine HC1.out.mono ?_; rintro e w2 ⟨rfl, hb2⟩; have B2 := hide (HBW.out.trans (hb2.mono HBW.out.size)); clear hb2)
    go_ret
    exact ⟨rfl, B2.out⟩
  have hk9 : (k == 9) = false := by simpa using h9
  go_wp2_with fail
  go_ret
  exact ⟨rfl, HBW.out⟩
end Go.Proofs.Ytmngmkbiibhmkaa
