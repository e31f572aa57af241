/- A range over what wheel.Each hands back, whose rounds may make rows of their own. -/
import Derived.Test.YtmngmkbiibhmkaaVEachW
namespace Go.Proofs.Ytmngmkbiibhmkaa
open Go.RowKit Go.Shelf Go.Maps

attribute [local go_sem] Oper.semAt_some

/-- Of the old blocks only those two from B on may have turned. -/
structure Out2 (B : Nat) (W W' : World) : Prop where
  os : W'.os = W.os
  tape : W'.tape = W.tape
  output : W'.output = W.output
  size : W.heap.size ≤ W'.heap.size
  block : ∀ k, k < W.heap.size → (k < B ∨ B + 2 ≤ k) → W'.heap[k]? = W.heap[k]?
theorem Out2.of {B : Nat} {W W' : World} (h : Below W.heap.size W W') : Out2 B W W' := ⟨h.os, h.tape, h.output, h.size, fun k hk _ => h.block k hk⟩
theorem Out2.put {B r : Nat} (W : World) (o : Obj) (h1 : B ≤ r) (h2 : r < B + 2) : Out2 B W (W.putObj r o) := ⟨rfl, rfl, rfl, by simp, fun k _ hb => World.putObj_heap_other (by omega)⟩
theorem Out2.trans {B : Nat} {A C D : World} (h : Out2 B A C) (k : Out2 B C D) : Out2 B A D := ⟨k.os.trans h.os, k.tape.trans h.tape, k.output.trans h.output, Nat.le_trans h.size k.size, fun j hj hb => (k.block j (Nat.lt_of_lt_of_le hj h.size) hb).trans (h.block j hj hb)⟩
theorem range_outer2 {ps : Array Tmp} {assign body : Code} {Q : Exit → Act → World → Prop} {a : Act} {w : World} {g : Operand} {n Bk kc : Nat} {ko : Option Addr} {ds : List Tm}
    (hl : ds.length ≤ 1000000)
    (hg : a.eval g = .func (.func 50) #[] #[.pointer (some ⟨Bk, 0, none⟩)]) (hps : ps.size = 2)
    (I : Nat → World → Prop) (Ix : Code → Nat → World → Prop) (hI : ∀ i W W', I i W → Out2 w.heap.size W W' → I i W') (hIx : ∀ c i W W', Ix c i W → Out2 w.heap.size W W' → Ix c i W')
    (hK : ∀ i W, I i W → W.cell? ⟨Bk, 0, none⟩ = some (.slice ko ds.length kc) ∧ RRow W ko ds) (h0 : I 0 w) (A1 : Tm → Act)
    (hassign : ∀ (l : Nat) (x : Tm) (W1 : World) (K : Act → World → Prop), K (A1 x) W1 →
      assign.wpIn (Fence.wide.inRound l) (n - 1 - 1) Try.prog (Exit.then K (fun _ _ _ => False)) { tmps := (ps.zip #[.int .u64 (x.1 : Int), .int .u64 (x.2 : Int)]).foldl (fun t (p, v) => t.setIfInBounds p v) a.tmps, defers := [] } W1)
    (hbody : ∀ (i : Nat) (x : Tm) (W : World), ds[i]? = some x → I i W → w.heap.size + 2 ≤ W.heap.size → (∃ r, W.heap[w.heap.size + 1]? = some (.loop r)) →
      body.wpIn (Fence.wide.inRound (w.heap.size + 1)) (n - 1 - 1) Try.prog (postE w.heap.size 2 I Ix (i + 1) W) (A1 x) W)
    (hdone : ∀ (W : World), I ds.length W → w.heap.size + 2 ≤ W.heap.size → W.heap[w.heap.size]? = some (.deferred (some [])) → Q .normal { a with defers := { target := .collected w.heap.size, args := #[] } :: a.defers } W)
    (hstop : ∀ (c : Code) (i : Nat) (W : World), i ≤ ds.length → Ix c i W → w.heap.size + 2 ≤ W.heap.size → W.heap[w.heap.size]? = some (.deferred (some [])) → c.wpIn Fence.wide n Try.prog Q { a with defers := { target := .collected w.heap.size, args := #[] } :: a.defers } W) :
    (Code.rangeFunc g ps assign body).wpIn Fence.wide n Try.prog Q a w := by
  refine wpIn_rangeFunc ?_
  intro fn _
  obtain ⟨rec, hrec⟩ : ∃ rec : LoopState → Option Code → Loop, rec = fun st pe => { state := st, pending := pe, fn, tmps := a.tmps, params := ps, assign, body, defers := w.heap.size } := ⟨_, rfl⟩
  have hnew : ∀ o, ((w.alloc (.deferred (some []))).alloc o).heap[w.heap.size + 1]? = some o := fun o => by
    have h := World.alloc_heap_new (w.alloc (.deferred (some []))) o
    rwa [World.size_alloc] at h
  have hdef : ∀ o, ((w.alloc (.deferred (some []))).alloc o).heap[w.heap.size]? = some (.deferred (some [])) := fun o => (Below.heap_alloc _ _ _ (by simp)).trans (World.alloc_heap_new w _)
  have how : ∀ o, Out2 w.heap.size w ((w.alloc (.deferred (some []))).alloc o) := fun o => (Out2.of (below_new _ _)).trans (Out2.of (below_new _ _))
  refine ⟨w.heap.size + 1, [{ target := .collected w.heap.size, args := #[] }], (w.alloc (.deferred (some []))).alloc (.loop (rec .ready none)), { target := .fn (.func 50) #[.pointer (some ⟨Bk, 0, none⟩)], args := #[.func (.yield (w.heap.size + 1)) #[] #[]] },
    (w.alloc (.deferred (some []))).alloc (.loop (rec .ready none)), 50, #[.func (.yield (w.heap.size + 1)) #[] #[], .pointer (some ⟨Bk, 0, none⟩)], (w.alloc (.deferred (some []))).alloc (.loop (rec .ready none)), ?_, ?_, fun _ _ => trivial, ?_, fun h => (by cases h), ?_⟩
  · rw [hrec]; exact run_enterLoop_outer _ _ _ _ _
  · simp only [resolve, hg]
    simp [go_sem]
  · simp [invoke, go_sem]
  · refine (each1_in (n - 1) (w.heap.size + 1) Bk kc ko ds
      (fun i W => I i W ∧ w.heap.size + 2 ≤ W.heap.size ∧ W.heap[w.heap.size + 1]? = some (.loop (rec .ready none)) ∧ W.heap[w.heap.size]? = some (.deferred (some [])))
      (fun i W => ∃ c, Ix c i W ∧ w.heap.size + 2 ≤ W.heap.size ∧ W.heap[w.heap.size + 1]? = some (.loop (rec .done (some c))) ∧ W.heap[w.heap.size]? = some (.deferred (some [])))
      hl ?_ (fun i W h => hK i W h.1) ?_ _ ⟨hI _ _ _ h0 (how _), by simp, hnew _, hdef _⟩).mono ?_
    · rintro i W W' ⟨h1, h2, h3, h4⟩ hb
      exact ⟨hI _ _ _ h1 (Out2.of hb), Nat.le_trans h2 hb.size, (hb.block _ (by omega)).trans h3, (hb.block _ (by omega)).trans h4⟩
    · rintro i x W1 hfi ⟨k1, k2, k3, k4⟩
      have hy := run_yield (P := Try.prog) (args := #[.int .u64 (x.1 : Int), .int .u64 (x.2 : Int)]) k3 (by rw [hrec]; exact hps.symm)
      refine ⟨_, _, _, _, hy, roundIn_of_wpIn trivial ?_⟩
      rw [show (rec .ready none).assign = assign by rw [hrec], show (rec .ready none).body = body by rw [hrec], show (rec .ready none).tmps = a.tmps by rw [hrec], show (rec .ready none).params = ps by rw [hrec]]
      refine hassign _ x W1 _ ?_
      refine ⟨_, run_beginRound k3 (by rw [hrec]), ?_⟩
      have hbb : Out2 w.heap.size W1 (W1.putObj (w.heap.size + 1) (.loop { rec .ready none with state := .busy })) := Out2.put _ _ (by omega) (by omega)
      have r2 : (W1.putObj (w.heap.size + 1) (.loop { rec .ready none with state := .busy })).heap[w.heap.size + 1]? = some (.loop { rec .ready none with state := .busy }) := World.putObj_heap_same (by omega)
      have d2 : (W1.putObj (w.heap.size + 1) (.loop { rec .ready none with state := .busy })).heap[w.heap.size]? = some (.deferred (some [])) := (World.putObj_heap_other (by omega)).trans k4
      refine wpIn_mono (hbody i x _ hfi (hI _ _ _ k1 hbb) (by simpa using k2) ⟨_, r2⟩) ?_
      have fin : ∀ (jump : Option Code) (W3 : World), RecKept w.heap.size 2 (W1.putObj (w.heap.size + 1) (.loop { rec .ready none with state := .busy })) W3 → w.heap.size + 2 ≤ W3.heap.size →
          (Instr.endRound (w.heap.size + 1) jump).run Try.prog W3 = .ok (.bool jump.isNone) (W3.putObj (w.heap.size + 1) (.loop (rec (if jump.isNone then .ready else .done) jump))) ∧
          (W3.putObj (w.heap.size + 1) (.loop (rec (if jump.isNone then .ready else .done) jump))).heap[w.heap.size + 1]? = some (.loop (rec (if jump.isNone then .ready else .done) jump)) ∧
          (W3.putObj (w.heap.size + 1) (.loop (rec (if jump.isNone then .ready else .done) jump))).heap[w.heap.size]? = some (.deferred (some [])) := fun jump W3 hk hs => by
        have r3 := (hk (w.heap.size + 1) (by omega) (by omega)).trans r2
        have hr := run_endRound (P := Try.prog) jump r3
        refine ⟨?_, World.putObj_heap_same (by omega), (World.putObj_heap_other (by omega)).trans ((hk w.heap.size (by omega) (by omega)).trans d2)⟩
        rw [hrec] at hr ⊢
        exact hr
      have hsz2 : w.heap.size + 2 ≤ (W1.putObj (w.heap.size + 1) (.loop { rec .ready none with state := .busy })).heap.size := by simpa using k2
      rintro e a3 W3 hp
      cases e with
      | normal =>
        obtain ⟨q1, q2, q3⟩ := hp
        obtain ⟨e1, e2, e3⟩ := fin none W3 q1 (Nat.le_trans hsz2 q2)
        exact ⟨_, _, e1, .inl ⟨rfl, hI _ _ _ q3 (Out2.put _ _ (by omega) (by omega)), by simpa using Nat.le_trans hsz2 q2, e2, e3⟩⟩
      | ret =>
        obtain ⟨q1, q2, q3⟩ := hp
        obtain ⟨e1, e2, e3⟩ := fin (some .ret) W3 q1 (Nat.le_trans hsz2 q2)
        exact ⟨_, _, e1, .inr ⟨rfl, .ret, hIx _ _ _ _ q3 (Out2.put _ _ (by omega) (by omega)), by simpa using Nat.le_trans hsz2 q2, e2, e3⟩⟩
      | exit id =>
        obtain ⟨q1, q2, q3⟩ := hp
        obtain ⟨e1, e2, e3⟩ := fin (some (.exit id)) W3 q1 (Nat.le_trans hsz2 q2)
        exact ⟨_, _, e1, .inr ⟨rfl, .exit id, hIx _ _ _ _ q3 (Out2.put _ _ (by omega) (by omega)), by simpa using Nat.le_trans hsz2 q2, e2, e3⟩⟩
      | goto t =>
        obtain ⟨q1, q2, q3⟩ := hp
        obtain ⟨e1, e2, e3⟩ := fin (some (.goto t)) W3 q1 (Nat.le_trans hsz2 q2)
        exact ⟨_, _, e1, .inr ⟨rfl, .goto t, hIx _ _ _ _ q3 (Out2.put _ _ (by omega) (by omega)), by simpa using Nat.le_trans hsz2 q2, e2, e3⟩⟩
      | panic ch => exact hp.elim
      | outgrown => exact hp.elim
    · rintro e W2 ⟨⟨v, rfl⟩, (⟨h1, h2, h3, h4⟩ | ⟨i, hi, c, h1, h2, h3, h4⟩)⟩
      · have he := run_endLoop (P := Try.prog) h3 (by rw [hrec]; simp)
        refine ⟨none, _, by rw [hrec] at he; exact he, hdone _ (hI _ _ _ h1 (Out2.put _ _ (by omega) (by omega))) (by simpa using h2) ((World.putObj_heap_other (by omega)).trans h4)⟩
      · have he := run_endLoop (P := Try.prog) h3 (by rw [hrec]; simp)
        refine ⟨some c, _, by rw [hrec] at he; exact he, hstop c i _ hi (hIx _ _ _ _ h1 (Out2.put _ _ (by omega) (by omega))) (by simpa using h2) ((World.putObj_heap_other (by omega)).trans h4)⟩
end Go.Proofs.Ytmngmkbiibhmkaa
