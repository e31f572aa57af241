/- The contract of the iterator that wheel.Each hands back: each timer is told in its order, while the rounds say so; a range over it. -/
import Derived.RangeFuncNested
import Derived.RangeFuncBound
import Derived.RangeFuncCalls
import Derived.RangeFuncLeaves
import Derived.Shelf.Abstract
import Derived.Shelf.RegionOpen
import Derived.OwnWalkIn
import Derived.TacticsInMore
import Derived.LoopNIn
import Derived.LoopIn
import Derived.Test.YtmngmkbiibhmkaaVOnceF
namespace Go.Proofs.Ytmngmkbiibhmkaa
open Go.RowKit Go.Shelf Go.Maps

attribute [local go_sem] Oper.semAt_some

set_option maxRecDepth 100000 in
set_option maxHeartbeats 1600000 in
theorem each1_in (n l Bk kc : Nat) (ko : Option Addr) (ds : List Tm) (J Jx : Nat → World → Prop) (hl : ds.length ≤ 1000000)
    (hJ : ∀ i W W', J i W → Below W.heap.size W W' → J i W') (hK : ∀ i W, J i W → W.cell? ⟨Bk, 0, none⟩ = some (.slice ko ds.length kc) ∧ RRow W ko ds)
    (hY : ∀ (i : Nat) (x : Tm) W, ds[i]? = some x → J i W → YieldAt Fence.wide (n - 1) Try.prog l #[.int .u64 (x.1 : Int), .int .u64 (x.2 : Int)] W fun e W' => (e = .returned (.bool true) ∧ J (i + 1) W') ∨ (e = .returned (.bool false) ∧ Jx (i + 1) W'))
    (W : World) (h0 : J 0 W) :
    CallsIn Fence.wide n Try.prog 50 #[.func (.yield l) #[] #[], .pointer (some ⟨Bk, 0, none⟩)] W fun e W' => (∃ v, e = .returned v) ∧ (J ds.length W' ∨ ∃ i, i ≤ ds.length ∧ Jx i W') := by
  have HJ := hide hJ
  have HK := hide hK
  have HY := hide hY
  have H0 := hide h0
  have hk0 := (hK 0 W h0).1
  clear hJ hK hY h0
  obtain ⟨m, hm⟩ : ∃ m, m = ds.length := ⟨_, rfl⟩
  have HM := hide hm
  rw [← hm] at hl hk0
  clear hm
  refine callsIn_of_wp Try.func50 rfl trivial ?_ rfl
  simp only [Try.ntmps50, List.size_toArray, List.length_cons, List.length_nil, Nat.reduceAdd, Nat.reduceSub, Array.replicate_succ, Array.replicate_zero, List.push_toArray, List.append_toArray, List.nil_append, List.cons_append]
  gi_wp2
  gi_loopw [7] (fun v7 wr => ∃ i : Nat, i ≤ m ∧ v7 = .int .i64 (i : Int) ∧ Hid (J i wr)) (fun v7 _ => m - (intOf v7).toNat)
  case atStart => exact ⟨0, by omega, rfl, H0⟩
  case round =>
    obtain ⟨i, hi, rfl, HJi⟩ := hrel
    by_cases hin : i < m
    · obtain ⟨x, hx⟩ : ∃ x, ds[i]? = some x := ⟨_, List.getElem?_eq_getElem (by have := HM.out; omega)⟩
      obtain ⟨b, off, e0, c0, c1⟩ := (HK.out i wr HJi.out).2.at hx
      subst e0
      have hil : (i : Int) < (m : Int) := by omega
      obtain ⟨fn, tmps, assign, body, hy, hR⟩ := HY.out i x (wr.alloc (.cells #[.int .u64 (x.1 : Int), .int .u64 (x.2 : Int)] 80)) hx (HJ.out i wr _ HJi.out (below_new _ _))
      have HR := hide hR
      clear hR hx hk0
      gi_wp2
      refine ⟨fun h => (by cases h), ?_⟩
      refine HR.out.mono ?_
      clear HR hy
      rintro e W3 (⟨rfl, hJ3⟩ | ⟨rfl, hJx3⟩)
      · have HJ3 := hide hJ3
        clear hJ3
        gi_wp2
        go_roundw
        case rel => exact ⟨i + 1, by omega, by simp, HJ3⟩
        case measure => simp [intOf]; omega
      · have HJx3 := hide hJx3
        clear hJx3
        gi_wp2
        refine bodyPost_ret (results_none rfl _ _ _) rfl ?_
        exact ⟨⟨_, rfl⟩, .inr ⟨i + 1, by have := HM.out; omega, HJx3.out⟩⟩
    · have hil : ¬ (i : Int) < (m : Int) := by omega
      have HE : Hid (J ds.length wr) := by
        have hie : i = ds.length := by have := HM.out; omega
        rw [← hie]; exact HJi.out
      gi_wp2
      go_end0
      exact ⟨⟨_, rfl⟩, .inl HE.out⟩
/-- The blocks from b on, m of them, are as they were. -/
def RecKept (b m : Nat) (W W' : World) : Prop := ∀ g, b ≤ g → g < b + m → W'.heap[g]? = W.heap[g]?
theorem RecKept.refl (b m : Nat) (W : World) : RecKept b m W W := fun _ _ _ => rfl
theorem RecKept.trans {b m : Nat} {A B C : World} (h : RecKept b m A B) (k : RecKept b m B C) : RecKept b m A C := fun g h1 h2 => (k g h1 h2).trans (h g h1 h2)
theorem RecKept.below {b m B : Nat} {A C : World} (h : Below B A C) (hB : b + m ≤ B) : RecKept b m A C := fun g _ h2 => h.block g (by omega)
theorem RecKept.setCell {b m : Nat} (W : World) (p : Addr) (v : Value) (hp : p.block < b ∨ b + m ≤ p.block) : RecKept b m W (W.setCell p v) := fun g h1 h2 => Below.heap_setCell _ _ _ _ (by omega)

theorem putObj_below {b r : Nat} (W : World) (o : Obj) (h : b ≤ r) : Below b W (W.putObj r o) :=
  ⟨rfl, rfl, rfl, by simp, fun g hg => World.putObj_heap_other (by omega)⟩

/-- How a round's body may be left. -/
def postE (b m : Nat) (I : Nat → World → Prop) (Ix : Code → Nat → World → Prop) (i : Nat) (W : World) : Exit → Act → World → Prop
  | .normal, _, W' => RecKept b m W W' ∧ W.heap.size ≤ W'.heap.size ∧ I i W'
  | .ret, _, W' => RecKept b m W W' ∧ W.heap.size ≤ W'.heap.size ∧ Ix .ret i W'
  | .exit id, _, W' => RecKept b m W W' ∧ W.heap.size ≤ W'.heap.size ∧ Ix (.exit id) i W'
  | .goto t, _, W' => RecKept b m W W' ∧ W.heap.size ≤ W'.heap.size ∧ Ix (.goto t) i W'
  | .panic _, _, _ => False
  | .outgrown, _, _ => False

theorem range_outer {ps : Array Tmp} {assign body : Code} {Q : Exit → Act → World → Prop} {a : Act} {w : World} {g : Operand} {n Bk kc : Nat} {ko : Option Addr} {ds : List Tm}
    (hl : ds.length ≤ 1000000)
    (hg : a.eval g = .func (.func 50) #[] #[.pointer (some ⟨Bk, 0, none⟩)]) (hps : ps.size = 2)
    (I : Nat → World → Prop) (Ix : Code → Nat → World → Prop) (hI : ∀ i W W', I i W → Below w.heap.size W W' → I i W') (hIx : ∀ c i W W', Ix c i W → Below w.heap.size W W' → Ix c i W')
    (hK : ∀ i W, I i W → W.cell? ⟨Bk, 0, none⟩ = some (.slice ko ds.length kc) ∧ RRow W ko ds) (h0 : I 0 w) (A1 : Tm → Act)
    (hassign : ∀ (l : Nat) (x : Tm) (W1 : World) (K : Act → World → Prop), K (A1 x) W1 →
      assign.wpIn (Fence.wide.inRound l) (n - 1 - 1) Try.prog (Exit.then K (fun _ _ _ => False)) { tmps := (ps.zip #[.int .u64 (x.1 : Int), .int .u64 (x.2 : Int)]).foldl (fun t (p, v) => t.setIfInBounds p v) a.tmps, defers := [] } W1)
    (hbody : ∀ (i : Nat) (x : Tm) (W : World), ds[i]? = some x → I i W → w.heap.size + 2 ≤ W.heap.size → (∃ r, W.heap[w.heap.size + 1]? = some (.loop r)) →
      body.wpIn (Fence.wide.inRound (w.heap.size + 1)) (n - 1 - 1) Try.prog (postE w.heap.size 2 I Ix (i + 1) W) (A1 x) W)
    (hdone : ∀ (W : World), I ds.length W → w.heap.size + 2 ≤ W.heap.size → W.heap[w.heap.size]? = some (.deferred (some [])) → Q .normal { a with defers := { target := .collected w.heap.size, args := #[] } :: a.defers } W)
    (hstop : ∀ (c : Code) (i : Nat) (W : World), i ≤ ds.length → Ix c i W → w.heap.size + 2 ≤ W.heap.size → W.heap[w.heap.size]? = some (.deferred (some [])) → c.wpIn Fence.wide n Try.prog Q { a with defers := { target := .collected w.heap.size, args := #[] } :: a.defers } W) :
    (Code.rangeFunc g ps assign body).wpIn Fence.wide n Try.prog Q a w := by
  refine wpIn_rangeFunc ?_
  intro fn _
  obtain ⟨rec, hrec⟩ : ∃ rec : LoopState → Option Code → Loop, rec = fun st pe => { state := st, pending := pe, fn, tmps := a.tmps, params := ps, assign, body, defers := w.heap.size } := ⟨_, rfl⟩
  have hnew : ∀ o, ((w.alloc (.deferred (some []))).alloc o).heap[w.heap.size + 1]? = some o := fun o => by
    have h := World.alloc_heap_new (w.alloc (.deferred (some []))) o
    rwa [World.size_alloc] at h
  have hdef : ∀ o, ((w.alloc (.deferred (some []))).alloc o).heap[w.heap.size]? = some (.deferred (some [])) := fun o => (Below.heap_alloc _ _ _ (by simp)).trans (World.alloc_heap_new w _)
  have hbw : ∀ o, Below w.heap.size w ((w.alloc (.deferred (some []))).alloc o) := fun o => ((Below.refl _ w).alloc (Nat.le_refl _) _).alloc (by simp) _
  refine ⟨w.heap.size + 1, [{ target := .collected w.heap.size, args := #[] }], (w.alloc (.deferred (some []))).alloc (.loop (rec .ready none)), { target := .fn (.func 50) #[.pointer (some ⟨Bk, 0, none⟩)], args := #[.func (.yield (w.heap.size + 1)) #[] #[]] },
    (w.alloc (.deferred (some []))).alloc (.loop (rec .ready none)), 50, #[.func (.yield (w.heap.size + 1)) #[] #[], .pointer (some ⟨Bk, 0, none⟩)], (w.alloc (.deferred (some []))).alloc (.loop (rec .ready none)), ?_, ?_, fun _ _ => trivial, ?_, fun h => (by cases h), ?_⟩
  · rw [hrec]; exact run_enterLoop_outer _ _ _ _ _
  · simp only [resolve, hg]
    simp [go_sem]
  · simp [invoke, go_sem]
  · refine (each1_in (n - 1) (w.heap.size + 1) Bk kc ko ds
      (fun i W => I i W ∧ w.heap.size + 2 ≤ W.heap.size ∧ W.heap[w.heap.size + 1]? = some (.loop (rec .ready none)) ∧ W.heap[w.heap.size]? = some (.deferred (some [])))
      (fun i W => ∃ c, Ix c i W ∧ w.heap.size + 2 ≤ W.heap.size ∧ W.heap[w.heap.size + 1]? = some (.loop (rec .done (some c))) ∧ W.heap[w.heap.size]? = some (.deferred (some [])))
      hl ?_ (fun i W h => hK i W h.1) ?_ _ ⟨hI _ _ _ h0 (hbw _), by simp, hnew _, hdef _⟩).mono ?_
    · rintro i W W' ⟨h1, h2, h3, h4⟩ hb
      exact ⟨hI _ _ _ h1 (hb.mono (by omega)), Nat.le_trans h2 hb.size, (hb.block _ (by omega)).trans h3, (hb.block _ (by omega)).trans h4⟩
    · rintro i x W1 hfi ⟨k1, k2, k3, k4⟩
      have hy := run_yield (P := Try.prog) (args := #[.int .u64 (x.1 : Int), .int .u64 (x.2 : Int)]) k3 (by rw [hrec]; exact hps.symm)
      refine ⟨_, _, _, _, hy, roundIn_of_wpIn trivial ?_⟩
      rw [show (rec .ready none).assign = assign by rw [hrec], show (rec .ready none).body = body by rw [hrec], show (rec .ready none).tmps = a.tmps by rw [hrec], show (rec .ready none).params = ps by rw [hrec]]
      refine hassign _ x W1 _ ?_
      refine ⟨_, run_beginRound k3 (by rw [hrec]), ?_⟩
      have hbb : Below w.heap.size W1 (W1.putObj (w.heap.size + 1) (.loop { rec .ready none with state := .busy })) := putObj_below _ _ (by omega)
      have r2 : (W1.putObj (w.heap.size + 1) (.loop { rec .ready none with state := .busy })).heap[w.heap.size + 1]? = some (.loop { rec .ready none with state := .busy }) := World.putObj_heap_same (by omega)
      have d2 : (W1.putObj (w.heap.size + 1) (.loop { rec .ready none with state := .busy })).heap[w.heap.size]? = some (.deferred (some [])) := (World.putObj_heap_other (by omega)).trans k4
      refine wpIn_mono (hbody i x _ hfi (hI _ _ _ k1 hbb) (by simpa using k2) ⟨_, r2⟩) ?_
      have fin : ∀ (jump : Option Code) (W3 : World), RecKept w.heap.size 2 (W1.putObj (w.heap.size + 1) (.loop { rec .ready none with state := .busy })) W3 → w.heap.size + 2 ≤ W3.heap.size →
          (Instr.endRound (w.heap.size + 1) jump).run Try.prog W3 = .ok (.bool jump.isNone) (W3.putObj (w.heap.size + 1) (.loop (rec (if jump.isNone then .ready else .done) jump))) ∧
          (W3.putObj (w.heap.size + 1) (.loop (rec (if jump.isNone then .ready else .done) jump))).heap[w.heap.size + 1]? = some (.loop (rec (if jump.isNone then .ready else .done) jump)) ∧
          (W3.putObj (w.heap.size + 1) (.loop (rec (if jump.isNone then .ready else .done) jump))).heap[w.heap.size]? = some (.deferred (some [])) := fun jump W3 hk hs => by
        have r3 := (hk (w.heap.size + 1) (by omega) (by omega)).trans r2
        have hr := run_endRound (P := Try.prog) jump r3
        refine ⟨?_, World.putObj_heap_same (by omega), (World.putObj_heap_other (by omega)).trans ((hk w.heap.size (by omega) (by omega)).trans d2)⟩
        rw [hrec] at hr ⊢
        exact hr
      have hsz2 : w.heap.size + 2 ≤ (W1.putObj (w.heap.size + 1) (.loop { rec .ready none with state := .busy })).heap.size := by simpa using k2
      rintro e a3 W3 hp
      cases e with
      | normal =>
        obtain ⟨q1, q2, q3⟩ := hp
        obtain ⟨e1, e2, e3⟩ := fin none W3 q1 (Nat.le_trans hsz2 q2)
        exact ⟨_, _, e1, .inl ⟨rfl, hI _ _ _ q3 (putObj_below _ _ (by omega)), by simpa using Nat.le_trans hsz2 q2, e2, e3⟩⟩
      | ret =>
        obtain ⟨q1, q2, q3⟩ := hp
        obtain ⟨e1, e2, e3⟩ := fin (some .ret) W3 q1 (Nat.le_trans hsz2 q2)
        exact ⟨_, _, e1, .inr ⟨rfl, .ret, hIx _ _ _ _ q3 (putObj_below _ _ (by omega)), by simpa using Nat.le_trans hsz2 q2, e2, e3⟩⟩
      | exit id =>
        obtain ⟨q1, q2, q3⟩ := hp
        obtain ⟨e1, e2, e3⟩ := fin (some (.exit id)) W3 q1 (Nat.le_trans hsz2 q2)
        exact ⟨_, _, e1, .inr ⟨rfl, .exit id, hIx _ _ _ _ q3 (putObj_below _ _ (by omega)), by simpa using Nat.le_trans hsz2 q2, e2, e3⟩⟩
      | goto t =>
        obtain ⟨q1, q2, q3⟩ := hp
        obtain ⟨e1, e2, e3⟩ := fin (some (.goto t)) W3 q1 (Nat.le_trans hsz2 q2)
        exact ⟨_, _, e1, .inr ⟨rfl, .goto t, hIx _ _ _ _ q3 (putObj_below _ _ (by omega)), by simpa using Nat.le_trans hsz2 q2, e2, e3⟩⟩
      | panic ch => exact hp.elim
      | outgrown => exact hp.elim
    · rintro e W2 ⟨⟨v, rfl⟩, (⟨h1, h2, h3, h4⟩ | ⟨i, hi, c, h1, h2, h3, h4⟩)⟩
      · have he := run_endLoop (P := Try.prog) h3 (by rw [hrec]; simp)
        refine ⟨none, _, by rw [hrec] at he; exact he, hdone _ (hI _ _ _ h1 (putObj_below _ _ (by omega))) (by simpa using h2) ((World.putObj_heap_other (by omega)).trans h4)⟩
      · have he := run_endLoop (P := Try.prog) h3 (by rw [hrec]; simp)
        refine ⟨some c, _, by rw [hrec] at he; exact he, hstop c i _ hi (hIx _ _ _ _ h1 (putObj_below _ _ (by omega))) (by simpa using h2) ((World.putObj_heap_other (by omega)).trans h4)⟩
end Go.Proofs.Ytmngmkbiibhmkaa
