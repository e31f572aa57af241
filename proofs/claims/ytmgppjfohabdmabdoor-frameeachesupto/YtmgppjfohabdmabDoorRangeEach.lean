/- A range over what frame.Each handed back: the round's body is told the frame, its place, and that its load lies in a block of its own; the loop's record and the block for deferred calls are kept out of sight. -/
import Derived.Test.YtmgppjfohabdmabDoorEachIt
namespace Go.Proofs.YtmgppjfohabdmabDoor
open Go.RowKit Go.Shelf

/-- The blocks from b on, m of them, are as they were. -/
def RecKept (b m : Nat) (W W' : World) : Prop := ∀ g, b ≤ g → g < b + m → W'.heap[g]? = W.heap[g]?
theorem RecKept.refl (b m : Nat) (W : World) : RecKept b m W W := fun _ _ _ => rfl
theorem RecKept.trans {b m : Nat} {A B C : World} (h : RecKept b m A B) (k : RecKept b m B C) : RecKept b m A C := fun g h1 h2 => (k g h1 h2).trans (h g h1 h2)
theorem RecKept.below {b m B : Nat} {A C : World} (h : Below B A C) (hB : b + m ≤ B) : RecKept b m A C := fun g _ h2 => h.block g (by omega)
theorem RecKept.setCell {b m : Nat} (W : World) (p : Addr) (v : Value) (hp : p.block < b ∨ b + m ≤ p.block) : RecKept b m W (W.setCell p v) := fun g h1 h2 => Below.heap_setCell _ _ _ _ (by omega)

theorem putObj_below {b r : Nat} (W : World) (o : Obj) (h : b ≤ r) : Below b W (W.putObj r o) :=
  ⟨rfl, rfl, rfl, by simp, fun g hg => World.putObj_heap_other (by omega)⟩

/-- How a round's body may be left. -/
def postE (b m : Nat) (I : Nat → World → Prop) (Ix : Code → Nat → World → Prop) (i : Nat) (W : World) : Exit → Act → World → Prop
  | .normal, _, W' => RecKept b m W W' ∧ W.heap.size ≤ W'.heap.size ∧ I i W'
  | .ret, _, W' => RecKept b m W W' ∧ W.heap.size ≤ W'.heap.size ∧ Ix .ret i W'
  | .exit id, _, W' => RecKept b m W W' ∧ W.heap.size ≤ W'.heap.size ∧ Ix (.exit id) i W'
  | .goto t, _, W' => RecKept b m W W' ∧ W.heap.size ≤ W'.heap.size ∧ Ix (.goto t) i W'
  | .panic _, _, _ => False
  | .outgrown, _, _ => False

theorem putObj_own {W : World} {B r : Nat} {v : Value} {xs : List Nat} {o : Obj} (h : Own W B v xs) (hr : r < B) : Own (W.putObj r o) B v xs := by
  refine ⟨h.1, ?_⟩
  rcases h.2 with h2 | ⟨g, cap, cur, e, hg, hh, rest⟩
  · exact .inl h2
  · exact .inr ⟨g, cap, cur, e, hg, (World.putObj_heap_other (by omega)).trans hh, rest⟩

theorem range_outer {ps : Array Tmp} {assign body : Code} {Q : Exit → Act → World → Prop} {a : Act} {w : World} {g : Operand} {n Bk kc en er : Nat} {ko : Option Addr} {xs : List Nat} {fr : List (Nat × List Nat)}
    (hl : xs.length ≤ 1073741824) (hnc : xs.length ≤ kc) (hx : ∀ x ∈ xs, x < 256) (hsc : scanR xs.length xs = (fr, en, er))
    (hg : a.eval g = .func (.func 30) #[] #[.pointer (some ⟨Bk, 0, none⟩)]) (hps : ps.size = 2)
    (I : Nat → World → Prop) (Ix : Code → Nat → World → Prop) (hI : ∀ i W W', I i W → Below w.heap.size W W' → I i W') (hIx : ∀ c i W W', Ix c i W → Below w.heap.size W W' → Ix c i W')
    (hK : ∀ i W, I i W → W.cell? ⟨Bk, 0, none⟩ = some (.slice ko xs.length kc) ∧ Row W ko xs ∧ Tab W) (h0 : I 0 w) (A1 : Nat → Nat → Option Addr → Nat → Nat → Nat → Act)
    (hassign : ∀ (l : Nat) (W1 : World) (p k : Nat) (ao : Option Addr) (ln lc bx : Nat) (K : Act → World → Prop), W1.heap.size = bx → K (A1 p k ao ln lc bx) (W1.alloc (.cells #[.int .u8 (k : Int), .slice ao ln lc] 43)) →
      assign.wpIn (Fence.wide.inRound l) (n - 1 - 1) Tryd.prog (Exit.then K (fun _ _ _ => False)) { tmps := (ps.zip #[.int .i64 (p : Int), .agg #[.int .u8 (k : Int), .slice ao ln lc]]).foldl (fun t (p, v) => t.setIfInBounds p v) a.tmps, defers := [] } W1)
    (hbody : ∀ (bx i k : Nat) (bs : List Nat) (lo : Option Addr) (lc : Nat) (W : World), fr[i]? = some (k, bs) → I i W → w.heap.size + 2 ≤ bx → Own W (w.heap.size + 2) (.slice lo bs.length lc) bs → (∀ r, (Value.slice lo bs.length lc).ownBlock = some r → r < bx) →
      W.heap[bx]? = some (.cells #[.int .u8 (k : Int), .slice lo bs.length lc] 43 (0, 0)) → (∃ r, W.heap[w.heap.size + 1]? = some (.loop r)) →
      body.wpIn (Fence.wide.inRound (w.heap.size + 1)) (n - 1 - 1) Tryd.prog (postE w.heap.size 2 I Ix (i + 1) W) (A1 (endOf (fr.take i)) k lo bs.length lc bx) W)
    (hdone : ∀ (W : World), I fr.length W → w.heap.size + 2 ≤ W.heap.size → W.heap[w.heap.size]? = some (.deferred (some [])) → Q .normal { a with defers := { target := .collected w.heap.size, args := #[] } :: a.defers } W)
    (hstop : ∀ (c : Code) (i : Nat) (W : World), i ≤ fr.length → Ix c i W → w.heap.size + 2 ≤ W.heap.size → W.heap[w.heap.size]? = some (.deferred (some [])) → c.wpIn Fence.wide n Tryd.prog Q { a with defers := { target := .collected w.heap.size, args := #[] } :: a.defers } W) :
    (Code.rangeFunc g ps assign body).wpIn Fence.wide n Tryd.prog Q a w := by
  refine wpIn_rangeFunc ?_
  intro fn _
  obtain ⟨rec, hrec⟩ : ∃ rec : LoopState → Option Code → Loop, rec = fun st pe => { state := st, pending := pe, fn, tmps := a.tmps, params := ps, assign, body, defers := w.heap.size } := ⟨_, rfl⟩
  have hnew : ∀ o, ((w.alloc (.deferred (some []))).alloc o).heap[w.heap.size + 1]? = some o := fun o => by
    have h := World.alloc_heap_new (w.alloc (.deferred (some []))) o
    rwa [World.size_alloc] at h
  have hdef : ∀ o, ((w.alloc (.deferred (some []))).alloc o).heap[w.heap.size]? = some (.deferred (some [])) := fun o => (Below.heap_alloc _ _ _ (by simp)).trans (World.alloc_heap_new w _)
  have hbw : ∀ o, Below w.heap.size w ((w.alloc (.deferred (some []))).alloc o) := fun o => ((Below.refl _ w).alloc (Nat.le_refl _) _).alloc (by simp) _
  refine ⟨w.heap.size + 1, [{ target := .collected w.heap.size, args := #[] }], (w.alloc (.deferred (some []))).alloc (.loop (rec .ready none)), { target := .fn (.func 30) #[.pointer (some ⟨Bk, 0, none⟩)], args := #[.func (.yield (w.heap.size + 1)) #[] #[]] },
    (w.alloc (.deferred (some []))).alloc (.loop (rec .ready none)), 30, #[.func (.yield (w.heap.size + 1)) #[] #[], .pointer (some ⟨Bk, 0, none⟩)], (w.alloc (.deferred (some []))).alloc (.loop (rec .ready none)), ?_, ?_, fun _ _ => trivial, ?_, fun h => (by cases h), ?_⟩
  · rw [hrec]; exact run_enterLoop_outer _ _ _ _ _
  · simp only [resolve, hg]
    simp [go_sem]
  · simp [invoke, go_sem]
  · refine (each1_in (n - 1) (w.heap.size + 1) Bk kc en er ko xs fr
      (fun i W => I i W ∧ w.heap.size + 2 ≤ W.heap.size ∧ W.heap[w.heap.size + 1]? = some (.loop (rec .ready none)) ∧ W.heap[w.heap.size]? = some (.deferred (some [])))
      (fun i W => ∃ c, Ix c i W ∧ w.heap.size + 2 ≤ W.heap.size ∧ W.heap[w.heap.size + 1]? = some (.loop (rec .done (some c))) ∧ W.heap[w.heap.size]? = some (.deferred (some [])))
      hl hnc hx hsc ?_ (fun i W h => hK i W h.1) ?_ _ ⟨hI _ _ _ h0 (hbw _), by simp, hnew _, hdef _⟩).mono ?_
    · rintro i W W' ⟨h1, h2, h3, h4⟩ hb
      exact ⟨hI _ _ _ h1 (hb.mono (by omega)), Nat.le_trans h2 hb.size, (hb.block _ (by omega)).trans h3, (hb.block _ (by omega)).trans h4⟩
    · rintro i k bs W0 W1 lo lc hfi ⟨h1, h2, h3, h4⟩ hb hown
      have k1 : I i W1 := hI _ _ _ h1 (hb.mono (by omega))
      have k2 : w.heap.size + 2 ≤ W1.heap.size := Nat.le_trans h2 hb.size
      have k3 := (hb.block (w.heap.size + 1) (by omega)).trans h3
      have k4 := (hb.block w.heap.size (by omega)).trans h4
      have hy := run_yield (P := Tryd.prog) (args := #[.int .i64 ((endOf (fr.take i) : Nat) : Int), .agg #[.int .u8 (k : Int), .slice lo bs.length lc]]) k3 (by rw [hrec]; exact hps.symm)
      refine ⟨_, _, _, _, hy, roundIn_of_wpIn trivial ?_⟩
      rw [show (rec .ready none).assign = assign by rw [hrec], show (rec .ready none).body = body by rw [hrec], show (rec .ready none).tmps = a.tmps by rw [hrec], show (rec .ready none).params = ps by rw [hrec]]
      refine hassign _ W1 (endOf (fr.take i)) k lo bs.length lc _ _ rfl ?_
      have m3 : (W1.alloc (.cells #[.int .u8 (k : Int), .slice lo bs.length lc] 43)).heap[w.heap.size + 1]? = some (.loop (rec .ready none)) := (Below.heap_alloc _ _ _ (by omega)).trans k3
      refine ⟨_, run_beginRound m3 (by rw [hrec]), ?_⟩
      have hbb : Below w.heap.size W1 ((W1.alloc (.cells #[.int .u8 (k : Int), .slice lo bs.length lc] 43)).putObj (w.heap.size + 1) (.loop { rec .ready none with state := .busy })) :=
        ((below_new W1 _).mono (by omega)).trans (putObj_below _ _ (by omega))
      have r2 : ((W1.alloc (.cells #[.int .u8 (k : Int), .slice lo bs.length lc] 43)).putObj (w.heap.size + 1) (.loop { rec .ready none with state := .busy })).heap[w.heap.size + 1]? = some (.loop { rec .ready none with state := .busy }) := World.putObj_heap_same (by simp; omega)
      have d2 : ((W1.alloc (.cells #[.int .u8 (k : Int), .slice lo bs.length lc] 43)).putObj (w.heap.size + 1) (.loop { rec .ready none with state := .busy })).heap[w.heap.size]? = some (.deferred (some [])) :=
        (World.putObj_heap_other (by omega)).trans ((Below.heap_alloc _ _ _ (by omega)).trans k4)
      have hO : Own ((W1.alloc (.cells #[.int .u8 (k : Int), .slice lo bs.length lc] 43)).putObj (w.heap.size + 1) (.loop { rec .ready none with state := .busy })) (w.heap.size + 2) (.slice lo bs.length lc) bs :=
        putObj_own ((hown.lower h2).alloc _) (by omega)
      refine wpIn_mono (hbody W1.heap.size i k bs lo lc _ hfi (hI _ _ _ k1 hbb) k2 hO (fun r hr => (World.ownsRow.lt hown r hr).2) ((World.putObj_heap_other (by omega)).trans (World.alloc_heap_new W1 _)) ⟨_, r2⟩) ?_
      have fin : ∀ (jump : Option Code) (W3 : World), RecKept w.heap.size 2 ((W1.alloc (.cells #[.int .u8 (k : Int), .slice lo bs.length lc] 43)).putObj (w.heap.size + 1) (.loop { rec .ready none with state := .busy })) W3 → w.heap.size + 2 ≤ W3.heap.size →
          (Instr.endRound (w.heap.size + 1) jump).run Tryd.prog W3 = .ok (.bool jump.isNone) (W3.putObj (w.heap.size + 1) (.loop (rec (if jump.isNone then .ready else .done) jump))) ∧
          (W3.putObj (w.heap.size + 1) (.loop (rec (if jump.isNone then .ready else .done) jump))).heap[w.heap.size + 1]? = some (.loop (rec (if jump.isNone then .ready else .done) jump)) ∧
          (W3.putObj (w.heap.size + 1) (.loop (rec (if jump.isNone then .ready else .done) jump))).heap[w.heap.size]? = some (.deferred (some [])) := fun jump W3 hk hs => by
        have r3 := (hk (w.heap.size + 1) (by omega) (by omega)).trans r2
        have hr := run_endRound (P := Tryd.prog) jump r3
        refine ⟨?_, World.putObj_heap_same (by omega), (World.putObj_heap_other (by omega)).trans ((hk w.heap.size (by omega) (by omega)).trans d2)⟩
        rw [hrec] at hr ⊢
        exact hr
      have hsz2 : w.heap.size + 2 ≤ ((W1.alloc (.cells #[.int .u8 (k : Int), .slice lo bs.length lc] 43)).putObj (w.heap.size + 1) (.loop { rec .ready none with state := .busy })).heap.size := by simp; omega
      rintro e a3 W3 hp
      cases e with
      | normal =>
        obtain ⟨q1, q2, q3⟩ := hp
        obtain ⟨e1, e2, e3⟩ := fin none W3 q1 (Nat.le_trans hsz2 q2)
        exact ⟨_, _, e1, .inl ⟨rfl, hI _ _ _ q3 (putObj_below _ _ (by omega)), by simpa using Nat.le_trans hsz2 q2, e2, e3⟩⟩
      | ret =>
        obtain ⟨q1, q2, q3⟩ := hp
        obtain ⟨e1, e2, e3⟩ := fin (some .ret) W3 q1 (Nat.le_trans hsz2 q2)
        exact ⟨_, _, e1, .inr ⟨rfl, .ret, hIx _ _ _ _ q3 (putObj_below _ _ (by omega)), by simpa using Nat.le_trans hsz2 q2, e2, e3⟩⟩
      | exit id =>
        obtain ⟨q1, q2, q3⟩ := hp
        obtain ⟨e1, e2, e3⟩ := fin (some (.exit id)) W3 q1 (Nat.le_trans hsz2 q2)
        exact ⟨_, _, e1, .inr ⟨rfl, .exit id, hIx _ _ _ _ q3 (putObj_below _ _ (by omega)), by simpa using Nat.le_trans hsz2 q2, e2, e3⟩⟩
      | goto t =>
        obtain ⟨q1, q2, q3⟩ := hp
        obtain ⟨e1, e2, e3⟩ := fin (some (.goto t)) W3 q1 (Nat.le_trans hsz2 q2)
        exact ⟨_, _, e1, .inr ⟨rfl, .goto t, hIx _ _ _ _ q3 (putObj_below _ _ (by omega)), by simpa using Nat.le_trans hsz2 q2, e2, e3⟩⟩
      | panic ch => exact hp.elim
      | outgrown => exact hp.elim
    · rintro e W2 ⟨⟨v, rfl⟩, (⟨h1, h2, h3, h4⟩ | ⟨i, hi, c, h1, h2, h3, h4⟩)⟩
      · have he := run_endLoop (P := Tryd.prog) h3 (by rw [hrec]; simp)
        refine ⟨none, _, by rw [hrec] at he; exact he, hdone _ (hI _ _ _ h1 (putObj_below _ _ (by omega))) (by simpa using h2) ((World.putObj_heap_other (by omega)).trans h4)⟩
      · have he := run_endLoop (P := Tryd.prog) h3 (by rw [hrec]; simp)
        refine ⟨some c, _, by rw [hrec] at he; exact he, hstop c i _ hi (hIx _ _ _ _ h1 (putObj_below _ _ (by omega))) (by simpa using h2) ((World.putObj_heap_other (by omega)).trans h4)⟩
theorem range_inner {ps : Array Tmp} {assign body : Code} {Q : Exit → Act → World → Prop} {a : Act} {w : World} {g : Operand} {n Bk kc en er l0 : Nat} {r0 : Loop} {ko : Option Addr} {xs : List Nat} {fr : List (Nat × List Nat)}
    (hl0 : w.heap[l0]? = some (.loop r0)) (hl : xs.length ≤ 1073741824) (hnc : xs.length ≤ kc) (hx : ∀ x ∈ xs, x < 256) (hsc : scanR xs.length xs = (fr, en, er))
    (hg : a.eval g = .func (.func 30) #[] #[.pointer (some ⟨Bk, 0, none⟩)]) (hps : ps.size = 2)
    (I : Nat → World → Prop) (Ix : Code → Nat → World → Prop) (hI : ∀ i W W', I i W → Below w.heap.size W W' → I i W') (hIx : ∀ c i W W', Ix c i W → Below w.heap.size W W' → Ix c i W')
    (hK : ∀ i W, I i W → W.cell? ⟨Bk, 0, none⟩ = some (.slice ko xs.length kc) ∧ Row W ko xs ∧ Tab W) (h0 : I 0 w) (A1 : Nat → Nat → Option Addr → Nat → Nat → Nat → Act)
    (hassign : ∀ (l : Nat) (W1 : World) (p k : Nat) (ao : Option Addr) (ln lc bx : Nat) (K : Act → World → Prop), W1.heap.size = bx → K (A1 p k ao ln lc bx) (W1.alloc (.cells #[.int .u8 (k : Int), .slice ao ln lc] 43)) →
      assign.wpIn (Fence.wide.inRound l) (n - 1 - 1) Tryd.prog (Exit.then K (fun _ _ _ => False)) { tmps := (ps.zip #[.int .i64 (p : Int), .agg #[.int .u8 (k : Int), .slice ao ln lc]]).foldl (fun t (p, v) => t.setIfInBounds p v) a.tmps, defers := [] } W1)
    (hbody : ∀ (bx i k : Nat) (bs : List Nat) (lo : Option Addr) (lc : Nat) (W : World), fr[i]? = some (k, bs) → I i W → w.heap.size + 1 ≤ bx → Own W (w.heap.size + 1) (.slice lo bs.length lc) bs → (∀ r, (Value.slice lo bs.length lc).ownBlock = some r → r < bx) →
      W.heap[bx]? = some (.cells #[.int .u8 (k : Int), .slice lo bs.length lc] 43 (0, 0)) → (∃ r, W.heap[w.heap.size]? = some (.loop r)) →
      body.wpIn (Fence.wide.inRound (w.heap.size)) (n - 1 - 1) Tryd.prog (postE w.heap.size 1 I Ix (i + 1) W) (A1 (endOf (fr.take i)) k lo bs.length lc bx) W)
    (hdone : ∀ (W : World), I fr.length W → w.heap.size + 1 ≤ W.heap.size → Q .normal a W)
    (hstop : ∀ (c : Code) (i : Nat) (W : World), i ≤ fr.length → Ix c i W → w.heap.size + 1 ≤ W.heap.size → c.wpIn (Fence.wide.inRound l0) n Tryd.prog Q a W) :
    (Code.rangeFunc g ps assign body).wpIn (Fence.wide.inRound l0) n Tryd.prog Q a w := by
  refine wpIn_rangeFunc ?_
  intro fn _
  obtain ⟨rec, hrec⟩ : ∃ rec : LoopState → Option Code → Loop, rec = fun st pe => { state := st, pending := pe, fn, tmps := a.tmps, params := ps, assign, body, defers := r0.defers } := ⟨_, rfl⟩
  have hnew : ∀ o, (w.alloc o).heap[w.heap.size]? = some o := fun o => World.alloc_heap_new w o
  refine ⟨w.heap.size, [], w.alloc (.loop (rec .ready none)), { target := .fn (.func 30) #[.pointer (some ⟨Bk, 0, none⟩)], args := #[.func (.yield (w.heap.size)) #[] #[]] },
    w.alloc (.loop (rec .ready none)), 30, #[.func (.yield (w.heap.size)) #[] #[], .pointer (some ⟨Bk, 0, none⟩)], w.alloc (.loop (rec .ready none)), ?_, ?_, fun _ _ => trivial, ?_, fun h => (by cases h), ?_⟩
  · rw [hrec]; exact run_enterLoop_inner hl0 _ _ _ _ _
  · simp only [resolve, hg]
    simp [go_sem]
  · simp [invoke, go_sem]
  · refine (CallsIn.inRound l0 (each1_in (n - 1) (w.heap.size) Bk kc en er ko xs fr
      (fun i W => I i W ∧ w.heap.size + 1 ≤ W.heap.size ∧ W.heap[w.heap.size]? = some (.loop (rec .ready none)))
      (fun i W => ∃ c, Ix c i W ∧ w.heap.size + 1 ≤ W.heap.size ∧ W.heap[w.heap.size]? = some (.loop (rec .done (some c))))
      hl hnc hx hsc ?_ (fun i W h => hK i W h.1) ?_ _ ⟨hI _ _ _ h0 (below_new w _), by simp, hnew _⟩)).mono ?_
    · rintro i W W' ⟨h1, h2, h3⟩ hb
      exact ⟨hI _ _ _ h1 (hb.mono (by omega)), Nat.le_trans h2 hb.size, (hb.block _ (by omega)).trans h3⟩
    · rintro i k bs W0 W1 lo lc hfi ⟨h1, h2, h3⟩ hb hown
      have k1 : I i W1 := hI _ _ _ h1 (hb.mono (by omega))
      have k2 : w.heap.size + 1 ≤ W1.heap.size := Nat.le_trans h2 hb.size
      have k3 := (hb.block (w.heap.size) (by omega)).trans h3
      have hy := run_yield (P := Tryd.prog) (args := #[.int .i64 ((endOf (fr.take i) : Nat) : Int), .agg #[.int .u8 (k : Int), .slice lo bs.length lc]]) k3 (by rw [hrec]; exact hps.symm)
      refine ⟨_, _, _, _, hy, roundIn_of_wpIn trivial ?_⟩
      rw [show (rec .ready none).assign = assign by rw [hrec], show (rec .ready none).body = body by rw [hrec], show (rec .ready none).tmps = a.tmps by rw [hrec], show (rec .ready none).params = ps by rw [hrec]]
      refine hassign _ W1 (endOf (fr.take i)) k lo bs.length lc _ _ rfl ?_
      have m3 : (W1.alloc (.cells #[.int .u8 (k : Int), .slice lo bs.length lc] 43)).heap[w.heap.size]? = some (.loop (rec .ready none)) := (Below.heap_alloc _ _ _ (by omega)).trans k3
      refine ⟨_, run_beginRound m3 (by rw [hrec]), ?_⟩
      have hbb : Below w.heap.size W1 ((W1.alloc (.cells #[.int .u8 (k : Int), .slice lo bs.length lc] 43)).putObj (w.heap.size) (.loop { rec .ready none with state := .busy })) :=
        ((below_new W1 _).mono (by omega)).trans (putObj_below _ _ (by omega))
      have r2 : ((W1.alloc (.cells #[.int .u8 (k : Int), .slice lo bs.length lc] 43)).putObj (w.heap.size) (.loop { rec .ready none with state := .busy })).heap[w.heap.size]? = some (.loop { rec .ready none with state := .busy }) := World.putObj_heap_same (by simp; omega)
      have hO : Own ((W1.alloc (.cells #[.int .u8 (k : Int), .slice lo bs.length lc] 43)).putObj (w.heap.size) (.loop { rec .ready none with state := .busy })) (w.heap.size + 1) (.slice lo bs.length lc) bs :=
        putObj_own ((hown.lower h2).alloc _) (by omega)
      refine wpIn_mono (hbody W1.heap.size i k bs lo lc _ hfi (hI _ _ _ k1 hbb) k2 hO (fun r hr => (World.ownsRow.lt hown r hr).2) ((World.putObj_heap_other (by omega)).trans (World.alloc_heap_new W1 _)) ⟨_, r2⟩) ?_
      have fin : ∀ (jump : Option Code) (W3 : World), RecKept w.heap.size 1 ((W1.alloc (.cells #[.int .u8 (k : Int), .slice lo bs.length lc] 43)).putObj (w.heap.size) (.loop { rec .ready none with state := .busy })) W3 → w.heap.size + 1 ≤ W3.heap.size →
          (Instr.endRound (w.heap.size) jump).run Tryd.prog W3 = .ok (.bool jump.isNone) (W3.putObj (w.heap.size) (.loop (rec (if jump.isNone then .ready else .done) jump))) ∧
          (W3.putObj (w.heap.size) (.loop (rec (if jump.isNone then .ready else .done) jump))).heap[w.heap.size]? = some (.loop (rec (if jump.isNone then .ready else .done) jump)) := fun jump W3 hk hs => by
        have r3 := (hk (w.heap.size) (by omega) (by omega)).trans r2
        have hr := run_endRound (P := Tryd.prog) jump r3
        refine ⟨?_, World.putObj_heap_same (by omega)⟩
        rw [hrec] at hr ⊢
        exact hr
      have hsz2 : w.heap.size + 1 ≤ ((W1.alloc (.cells #[.int .u8 (k : Int), .slice lo bs.length lc] 43)).putObj (w.heap.size) (.loop { rec .ready none with state := .busy })).heap.size := by simp; omega
      rintro e a3 W3 hp
      cases e with
      | normal =>
        obtain ⟨q1, q2, q3⟩ := hp
        obtain ⟨e1, e2⟩ := fin none W3 q1 (Nat.le_trans hsz2 q2)
        exact ⟨_, _, e1, .inl ⟨rfl, hI _ _ _ q3 (putObj_below _ _ (by omega)), by simpa using Nat.le_trans hsz2 q2, e2⟩⟩
      | ret =>
        obtain ⟨q1, q2, q3⟩ := hp
        obtain ⟨e1, e2⟩ := fin (some .ret) W3 q1 (Nat.le_trans hsz2 q2)
        exact ⟨_, _, e1, .inr ⟨rfl, .ret, hIx _ _ _ _ q3 (putObj_below _ _ (by omega)), by simpa using Nat.le_trans hsz2 q2, e2⟩⟩
      | exit id =>
        obtain ⟨q1, q2, q3⟩ := hp
        obtain ⟨e1, e2⟩ := fin (some (.exit id)) W3 q1 (Nat.le_trans hsz2 q2)
        exact ⟨_, _, e1, .inr ⟨rfl, .exit id, hIx _ _ _ _ q3 (putObj_below _ _ (by omega)), by simpa using Nat.le_trans hsz2 q2, e2⟩⟩
      | goto t =>
        obtain ⟨q1, q2, q3⟩ := hp
        obtain ⟨e1, e2⟩ := fin (some (.goto t)) W3 q1 (Nat.le_trans hsz2 q2)
        exact ⟨_, _, e1, .inr ⟨rfl, .goto t, hIx _ _ _ _ q3 (putObj_below _ _ (by omega)), by simpa using Nat.le_trans hsz2 q2, e2⟩⟩
      | panic ch => exact hp.elim
      | outgrown => exact hp.elim
    · rintro e W2 ⟨⟨v, rfl⟩, (⟨h1, h2, h3⟩ | ⟨i, hi, c, h1, h2, h3⟩)⟩
      · have he := run_endLoop (P := Tryd.prog) h3 (by rw [hrec]; simp)
        refine ⟨none, _, by rw [hrec] at he; exact he, hdone _ (hI _ _ _ h1 (putObj_below _ _ (by omega))) (by simpa using h2)⟩
      · have he := run_endLoop (P := Tryd.prog) h3 (by rw [hrec]; simp)
        refine ⟨some c, _, by rw [hrec] at he; exact he, hstop c i _ hi (hIx _ _ _ _ h1 (putObj_below _ _ (by omega))) (by simpa using h2)⟩
end Go.Proofs.YtmgppjfohabdmabDoor
