/- maps.Keys of a map from numbers to numbers, and its iterator: every key comes, once, in some order. -/
import Derived.RangeFuncSeq
import Derived.Sort.MapsRangeIn
import Derived.WalkKit
import Derived.RegionIn
import Derived.Test.YtmngmkbiibhmkaaVIter
import Derived.Test.YtmngmkbiibhmkaaVPdq
namespace Go.Proofs.Ytmngmkbiibhmkaa
open Go.RowKit Go.Shelf Go.Maps

theorem key_inv {key : Value} {kl : Lit} (h : keyOf Try.prog 22 key = some kl) : ∃ x : Nat, x < 18446744073709551616 ∧ key = .int .u64 (x : Int) ∧ kl = .int .u64 (x : Int) := by
  cases key <;> simp [keyOf, Try.underlying22, mapKey] at h
  rename_i q a
  obtain ⟨⟨rfl, hw⟩, rfl⟩ := h
  simp [Lit.wf, IntKind.min, IntKind.max, IntKind.signed, IntKind.bits] at hw
  exact ⟨a.toNat, by omega, by rw [Int.toNat_of_nonneg hw.1], by rw [Int.toNat_of_nonneg hw.1]⟩
/-- What has come: no key twice; the map's own, and no longer to come. -/
def Come {H : Type} (D : DataW H) (left : Lit → Bool) (ss : List Nat) : Prop := ss.Nodup ∧ ∀ x : Nat, x ∈ ss ↔ has D (.int .u64 (x : Int)) = true ∧ left (.int .u64 (x : Int)) = false
theorem Come.start {H : Type} (D : DataW H) : Come D (has D) [] := ⟨List.nodup_nil, fun x => by cases has D (.int .u64 (x : Int)) <;> simp⟩
theorem Come.step {H : Type} {D : DataW H} {left : Lit → Bool} {ss : List Nat} (h : Come D left ss) {x : Nat} {y : DataW H} (hlk : left (.int .u64 (x : Int)) = true) (hat : ∀ zd, D.atKey (.int .u64 (x : Int)) zd = y) : Come D (fun z => left z && !z.sameKey (.int .u64 (x : Int))) (ss ++ [x]) := by
  have hh : has D (.int .u64 (x : Int)) = true := has_true_of_atKey hat
  have hnew : x ∉ ss := fun hx => by have := ((h.2 x).1 hx).2; rw [hlk] at this; cases this
  refine ⟨List.nodup_append.2 ⟨h.1, by simp, fun a ha b hb => by simp at hb; subst hb; exact fun e => hnew (e ▸ ha)⟩, fun y => ?_⟩
  rw [List.mem_append, h.2 y, List.mem_singleton]
  by_cases hy : y = x
  · subst hy; simp [hh, Lit.sameKey]
  · have : ¬ (y : Int) = (x : Int) := by omega
    simp [hy, Lit.sameKey, this]
theorem come_perm {L : List Tm} {left : Lit → Bool} {ss : List Nat} (h : Come (DT L) left ss) (hn : (L.map Prod.fst).Nodup) (hl : ∀ kl, left kl = false) (hhas : ∀ x : Nat, has (DT L) (.int .u64 (x : Int)) = true ↔ x ∈ L.map Prod.fst) : ss.Perm (L.map Prod.fst) :=
  (List.perm_ext_iff_of_nodup h.1 hn).2 fun x => by rw [h.2 x, hhas x, hl]; simp
theorem holesN : ∀ (l1 l2 : List Nat), l1.Nodup → (∀ x ∈ l1, x ∈ l2) → l1.length ≤ l2.length
  | [], _, _, _ => Nat.zero_le _
  | x :: t, l2, hd, hs => by
    have h1 := holesN t (l2.erase x) (List.nodup_cons.1 hd).2 (fun y hy => (List.mem_erase_of_ne (fun e => (List.nodup_cons.1 hd).1 (by rw [← e]; exact hy))).2 (hs y (List.mem_cons_of_mem _ hy)))
    have h2 := List.length_erase_of_mem (hs x (List.mem_cons_self ..))
    have h3 : 0 < l2.length := List.length_pos_of_mem (hs x (List.mem_cons_self ..))
    simp only [List.length_cons]
    omega
theorem But.of_grown {W W' : World} {r : Nat} (h : W.grownBy W' (some r)) : But r W W' := ⟨h.os, h.tape, h.output, h.size, fun k hk hne => h.block k hk (by simpa using hne)⟩
theorem But.of_grown0 {W W' : World} (r : Nat) (h : W.grownBy W' none) : But r W W' := ⟨h.os, h.tape, h.output, h.size, fun k hk _ => h.block k hk (by simp)⟩

set_option maxRecDepth 100000 in
set_option maxHeartbeats 1600000 in
theorem keys1_in (n l Bm b : Nat) (L : List Tm) (hn : (L.map Prod.fst).Nodup) (hhas : ∀ x : Nat, has (DT L) (.int .u64 (x : Int)) = true ↔ x ∈ L.map Prod.fst) (J : List Nat → World → Prop) (W : World)
    (hJ : ∀ ss V V', J ss V → But W.heap.size V V' → J ss V')
    (hY : ∀ pre (x : Nat) V, J pre V → W.heap.size < V.heap.size → pre.length < L.length → YieldAt Fence.wide (n - 1) Try.prog l #[.int .u64 (x : Int)] V fun e V' => e = .returned (.bool true) ∧ J (pre ++ [x]) V' ∧ KeepsWalks V V')
    (hm : W.cell? ⟨Bm, 0, none⟩ = some (.map (some b))) (hown : MapAt W b L) (h0 : J [] W) :
    CallsIn Fence.wide n Try.prog 56 #[.func (.yield l) #[] #[], .pointer (some ⟨Bm, 0, none⟩)] W fun e W' => (∃ v, e = .returned v) ∧ ∃ ss : List Nat, ss.Perm (L.map Prod.fst) ∧ J ss W' := by
  refine callsIn_of_wp Try.func56 rfl trivial ?_ rfl
  simp only [Try.ntmps56, List.size_toArray, List.length_cons, List.length_nil, Nat.reduceAdd, Nat.reduceSub, Array.replicate_succ, Array.replicate_zero, List.push_toArray, List.append_toArray, List.nil_append, List.cons_append]
  have HN := hide hn
  have HH := hide hhas
  have HJ := hide hJ
  have HY := hide hY
  have HO := hide hown
  have H0 := hide h0
  clear hn hhas hJ hY hown h0
  gi_wp2_with (first
    | (gi_at_range; refine wpListIn_range_own _ rfl _ 64 rfl 22 22 law Try.underlying64 ru b L.length (DT L) rfl HO.out ?_; intro w0 hrg0 hg0 hs0)
    | gi_in)
  go_frame
  have HR0 := hide hrg0
  have HG0 := hide hg0
  clear hrg0 hg0
  gi_loopw [3] (fun _ wr => Hid (∃ (left : Lit → Bool) (cnt : Nat) (ss : List Nat), wr.ranges Try.prog 22 ru b W.heap.size L.length (DT L) left cnt ∧ Come (DT L) left ss ∧ J ss wr))
    (fun _ wr => wr.rangeLeft b W.heap.size)
  case atStart => exact ⟨_, _, [], HR0.out, Come.start _, HJ.out [] W w0 H0.out (But.of_grown0 _ HG0.out)⟩
  case round =>
    clear HR0 HG0
    obtain ⟨left, cnt, ss, hrg, hC, hJs⟩ := hrel.out
    clear hrel
    gi_wp2_with (first
      | (gi_at_next; refine wpListIn_next_ranges _ rfl _ rfl 22 law ru (fun x : Nat => Value.int .u64 (x : Int)) id (fun key kl hk => by obtain ⟨x, _, hx, _⟩ := key_inv hk; exact ⟨x, hx⟩) (fun v _ _ => ⟨v, rfl⟩) b W.heap.size L.length _ _ _ rfl hrg ?_ ?_)
      | gi_in)
    · intro hc0 hl0
      gi_wp2
      go_end0
      exact ⟨⟨_, rfl⟩, ss, come_perm hC HN.out hl0 HH.out, hJs⟩
    · intro x c kl yd yp w2 cnt2 hkey hlk hv hat hrg2 hlt hg2 hs2 hen
      obtain ⟨x', _, ex, rfl⟩ := key_inv hkey
      obtain rfl : x = x' := by have e2 : (x : Int) = (x' : Int) := by simpa using ex
                                omega
      have hJ2 : J ss w2 := HJ.out ss wr w2 hJs (But.of_grown hg2)
      obtain ⟨fn, tmps, assign, body, hy, hR⟩ := HY.out ss x w2 hJ2 (by obtain ⟨o, ho, _⟩ := hrg2.iter_walk; exact (Array.getElem?_eq_some_iff.1 ho).1) (by
        have h1 := hC.step hlk hat
        have h2 := holesN _ (L.map Prod.fst) h1.1 (fun y hy => (HH.out y).1 ((h1.2 y).1 hy).1)
        simp at h2; omega)
      clear hs2
      gi_wp2
      refine ⟨fun h => (by cases h), ?_⟩
      refine hR.mono ?_
      rintro e W3 ⟨rfl, hJ3, hk3⟩
      gi_wp2
      have hrg3 := hrg2.of_walks hk3
      go_roundw
      case rel => exact ⟨_, cnt2, ss ++ [x], hrg3, hC.step hlk hat, hJ3⟩
      case measure => rw [hrg3.left_eq, hrg.left_eq]; exact hlt

/-- Of the old blocks only those three from B on may have turned. -/
structure Out3 (B : Nat) (W W' : World) : Prop where
  os : W'.os = W.os
  tape : W'.tape = W.tape
  output : W'.output = W.output
  size : W.heap.size ≤ W'.heap.size
  block : ∀ k, k < W.heap.size → (k < B ∨ B + 3 ≤ k) → W'.heap[k]? = W.heap[k]?
theorem Out3.but {B r : Nat} {W W' : World} (h : But r W W') (h1 : B ≤ r) (h2 : r < B + 3) : Out3 B W W' := ⟨h.os, h.tape, h.output, h.size, fun k hk hb => h.block k hk (by omega)⟩
theorem Out3.put {B r : Nat} (W : World) (o : Obj) (h1 : B ≤ r) (h2 : r < B + 3) : Out3 B W (W.putObj r o) := ⟨rfl, rfl, rfl, by simp, fun k hk hb => World.putObj_heap_other (by omega)⟩
theorem Out3.alloc {B : Nat} (W : World) (o : Obj) : Out3 B W (W.alloc o) := ⟨rfl, rfl, rfl, by simp, fun k hk _ => Below.heap_alloc W o k hk⟩
theorem Out3.trans {B : Nat} {A C D : World} (h : Out3 B A C) (k : Out3 B C D) : Out3 B A D := ⟨k.os.trans h.os, k.tape.trans h.tape, k.output.trans h.output, Nat.le_trans h.size k.size, fun j hj hb => (k.block j (Nat.lt_of_lt_of_le hj h.size) hb).trans (h.block j hj hb)⟩
theorem range_keys {ps : Array Tmp} {assign body : Code} {Q : Exit → Act → World → Prop} {a : Act} {w : World} {g : Operand} {n Bm b : Nat} {L : List Tm} (hn : (L.map Prod.fst).Nodup) (hhas : ∀ x : Nat, has (DT L) (.int .u64 (x : Int)) = true ↔ x ∈ L.map Prod.fst)
    (hg : a.eval g = .func (.func 56) #[] #[.pointer (some ⟨Bm, 0, none⟩)]) (hps : ps.size = 1)
    (hBm : Bm < w.heap.size) (hm : w.cell? ⟨Bm, 0, none⟩ = some (.map (some b))) (hown : MapAt w b L)
    (I : List Nat → World → Prop) (hI : ∀ ss W W', I ss W → Out3 w.heap.size W W' → I ss W') (h0 : I [] w) (A1 : Nat → Act)
    (hassign : ∀ (l : Nat) (x : Nat) (W1 : World) (K : Act → World → Prop), K (A1 x) W1 →
      assign.wpIn (Fence.wide.inRound l) (n - 1 - 1) Try.prog (Exit.then K (fun _ _ _ => False)) { tmps := (ps.zip #[.int .u64 (x : Int)]).foldl (fun t (p, v) => t.setIfInBounds p v) a.tmps, defers := [] } W1)
    (hbody : ∀ (pre : List Nat) (x : Nat) (W : World), I pre W → w.heap.size + 3 ≤ W.heap.size → pre.length < L.length →
      body.wpIn (Fence.wide.inRound (w.heap.size + 1)) (n - 1 - 1) Try.prog (fun e _ W' => e = .normal ∧ RecKept w.heap.size 2 W W' ∧ W.heap.size ≤ W'.heap.size ∧ KeepsWalks W W' ∧ I (pre ++ [x]) W') (A1 x) W)
    (hdone : ∀ (ss : List Nat) (W : World), ss.Perm (L.map Prod.fst) → I ss W → W.heap[w.heap.size]? = some (.deferred (some [])) → Q .normal { a with defers := { target := .collected w.heap.size, args := #[] } :: a.defers } W) :
    (Code.rangeFunc g ps assign body).wpIn Fence.wide n Try.prog Q a w := by
  refine wpIn_rangeFunc ?_
  intro fn _
  obtain ⟨rec, hrec⟩ : ∃ rec : LoopState → Option Code → Loop, rec = fun st pe => { state := st, pending := pe, fn, tmps := a.tmps, params := ps, assign, body, defers := w.heap.size } := ⟨_, rfl⟩
  have hnew : ∀ o, ((w.alloc (.deferred (some []))).alloc o).heap[w.heap.size + 1]? = some o := fun o => by
    have h := World.alloc_heap_new (w.alloc (.deferred (some []))) o
    rwa [World.size_alloc] at h
  have hdef : ∀ o, ((w.alloc (.deferred (some []))).alloc o).heap[w.heap.size]? = some (.deferred (some [])) := fun o => (Below.heap_alloc _ _ _ (by simp)).trans (World.alloc_heap_new w _)
  have hbw : ∀ o, Below w.heap.size w ((w.alloc (.deferred (some []))).alloc o) := fun o => ((Below.refl _ w).alloc (Nat.le_refl _) _).alloc (by simp) _
  have how : ∀ o, Out3 w.heap.size w ((w.alloc (.deferred (some []))).alloc o) := fun o => (Out3.alloc _ _).trans (Out3.alloc _ _)
  have hsz : ∀ o, ((w.alloc (.deferred (some []))).alloc o).heap.size = w.heap.size + 2 := fun o => by simp
  refine ⟨w.heap.size + 1, [{ target := .collected w.heap.size, args := #[] }], (w.alloc (.deferred (some []))).alloc (.loop (rec .ready none)), { target := .fn (.func 56) #[.pointer (some ⟨Bm, 0, none⟩)], args := #[.func (.yield (w.heap.size + 1)) #[] #[]] },
    (w.alloc (.deferred (some []))).alloc (.loop (rec .ready none)), 56, #[.func (.yield (w.heap.size + 1)) #[] #[], .pointer (some ⟨Bm, 0, none⟩)], (w.alloc (.deferred (some []))).alloc (.loop (rec .ready none)), ?_, ?_, fun _ _ => trivial, ?_, fun h => (by cases h), ?_⟩
  · rw [hrec]; exact run_enterLoop_outer _ _ _ _ _
  · simp only [resolve, hg]
    simp [go_sem]
  · simp [invoke, go_sem]
  · refine (keys1_in (n - 1) (w.heap.size + 1) Bm b L hn hhas
      (fun ss W => I ss W ∧ W.heap[w.heap.size + 1]? = some (.loop (rec .ready none)) ∧ W.heap[w.heap.size]? = some (.deferred (some [])))
      ((w.alloc (.deferred (some []))).alloc (.loop (rec .ready none))) ?_ ?_ ?_ ?_ ⟨hI _ _ _ h0 (how _), hnew _, hdef _⟩).mono ?_
    · rintro ss V V' ⟨h1, h3, h4⟩ hb
      rw [hsz] at hb
      have hlt := (Array.getElem?_eq_some_iff.1 h3).1
      exact ⟨hI _ _ _ h1 (Out3.but hb (by omega) (by omega)), (hb.block _ hlt (by omega)).trans h3, (hb.block _ (by omega) (by omega)).trans h4⟩
    · rintro pre x W1 ⟨k1, k3, k4⟩ hsz1 hlen
      rw [hsz] at hsz1
      have hy := run_yield (P := Try.prog) (args := #[.int .u64 (x : Int)]) k3 (by rw [hrec]; exact hps.symm)
      refine ⟨_, _, _, _, hy, roundIn_of_wpIn trivial ?_⟩
      rw [show (rec .ready none).assign = assign by rw [hrec], show (rec .ready none).body = body by rw [hrec], show (rec .ready none).tmps = a.tmps by rw [hrec], show (rec .ready none).params = ps by rw [hrec]]
      refine hassign _ x W1 _ ?_
      refine ⟨_, run_beginRound k3 (by rw [hrec]), ?_⟩
      have hbb : Out3 w.heap.size W1 (W1.putObj (w.heap.size + 1) (.loop { rec .ready none with state := .busy })) := Out3.put _ _ (by omega) (by omega)
      have r2 : (W1.putObj (w.heap.size + 1) (.loop { rec .ready none with state := .busy })).heap[w.heap.size + 1]? = some (.loop { rec .ready none with state := .busy }) := World.putObj_heap_same (by omega)
      have kw : KeepsWalks W1 (W1.putObj (w.heap.size + 1) (.loop { rec .ready none with state := .busy })) := KeepsWalks.putObj _ k3 rfl
      have hsz2 : w.heap.size + 3 ≤ (W1.putObj (w.heap.size + 1) (.loop { rec .ready none with state := .busy })).heap.size := by simp; omega
      refine wpIn_mono (hbody pre x _ (hI _ _ _ k1 hbb) hsz2 hlen) ?_
      rintro e a3 W3 ⟨rfl, q1, q2, q3, q4⟩
      have r3 := (q1 (w.heap.size + 1) (by omega) (by omega)).trans r2
      have hr := run_endRound (P := Try.prog) none r3
      refine ⟨.bool true, W3.putObj (w.heap.size + 1) (.loop (rec .ready none)), by rw [hrec] at hr ⊢; exact hr, rfl, ⟨hI _ _ _ q4 (Out3.put _ _ (by omega) (by omega)), ?_, ?_⟩, (kw.trans q3).trans (KeepsWalks.putObj _ r3 rfl)⟩
      · have q5 := Nat.le_trans hsz2 q2
        exact World.putObj_heap_same (by omega)
      · exact (World.putObj_heap_other (by omega)).trans ((q1 w.heap.size (by omega) (by omega)).trans ((World.putObj_heap_other (by omega)).trans k4))
    · rw [(hbw _).cell hBm]
      exact hm
    · exact hown.same ((hbw _).block _ hown.lt)
    · rintro e W2 ⟨⟨v, rfl⟩, ss, hp, h1, h3, h4⟩
      have hlt := (Array.getElem?_eq_some_iff.1 h3).1
      have he := run_endLoop (P := Try.prog) h3 (by rw [hrec]; simp)
      refine ⟨none, _, by rw [hrec] at he; exact he, hdone ss _ hp (hI _ _ _ h1 (Out3.put _ _ (by omega) (by omega))) ((World.putObj_heap_other (by omega)).trans h4)⟩
end Go.Proofs.Ytmngmkbiibhmkaa
