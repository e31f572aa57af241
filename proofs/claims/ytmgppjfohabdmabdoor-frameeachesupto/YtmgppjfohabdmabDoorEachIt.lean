/- The contract of the iterator that frame.Each hands back: each frame is told at its place, its load in a block of its own, while the rounds say so. -/
import Derived.RangeFuncNested
import Derived.RangeFuncBound
import Derived.RangeFuncCalls
import Derived.RangeFuncLeaves
import Derived.Shelf.Abstract
import Derived.Shelf.RegionOpen
import Derived.WalkKit
import Derived.OwnWalkIn
import Derived.TacticsInMore
import Derived.LoopNIn
import Derived.LoopIn
import Derived.Test.YtmgppjfohabdmabDoorRefScan
namespace Go.Proofs.YtmgppjfohabdmabDoor
open Go.RowKit Go.Shelf

attribute [local go_sem] Oper.semAt_some

theorem drop_none {α : Type} {l : List α} {i : Nat} (h : l.drop i = []) (hi : i ≤ l.length) : i = l.length := by
  have := congrArg List.length h
  simp at this
  omega
theorem drop_cons {α : Type} {l : List α} {i : Nat} {x : α} {r : List α} (h : x :: r = l.drop i) : i < l.length ∧ l[i]? = some x ∧ l.drop (i + 1) = r ∧ l.take (i + 1) = l.take i ++ [x] := by
  have hlt : i < l.length := by
    have := congrArg List.length h
    simp at this
    omega
  have e := List.drop_eq_getElem_cons hlt
  rw [← h] at e
  simp only [List.cons.injEq] at e
  refine ⟨hlt, by rw [List.getElem?_eq_getElem hlt, e.1], e.2.symm, ?_⟩
  rw [List.take_succ_eq_append_getElem hlt, ← e.1]

set_option maxRecDepth 100000 in
set_option maxHeartbeats 1600000 in
theorem each1_in (n l Bk kc en er : Nat) (ko : Option Addr) (xs : List Nat) (fr : List (Nat × List Nat)) (J Jx : Nat → World → Prop) (hl : xs.length ≤ 1073741824) (hnc : xs.length ≤ kc) (hx : ∀ x ∈ xs, x < 256) (hsc : scanR xs.length xs = (fr, en, er))
    (hJ : ∀ i W W', J i W → Below W.heap.size W W' → J i W') (hK : ∀ i W, J i W → W.cell? ⟨Bk, 0, none⟩ = some (.slice ko xs.length kc) ∧ Row W ko xs ∧ Tab W)
    (hY : ∀ i k bs W0 W1 lo lc, fr[i]? = some (k, bs) → J i W0 → Below W0.heap.size W0 W1 → Own W1 W0.heap.size (.slice lo bs.length lc) bs →
      YieldAt Fence.wide (n - 1) Tryd.prog l #[.int .i64 ((endOf (fr.take i) : Nat) : Int), .agg #[.int .u8 (k : Int), .slice lo bs.length lc]] W1 fun e W' =>
        (e = .returned (.bool true) ∧ J (i + 1) W') ∨ (e = .returned (.bool false) ∧ Jx (i + 1) W'))
    (W : World) (h0 : J 0 W) :
    CallsIn Fence.wide n Tryd.prog 30 #[.func (.yield l) #[] #[], .pointer (some ⟨Bk, 0, none⟩)] W fun e W' => (∃ v, e = .returned v) ∧ (J fr.length W' ∨ ∃ i, i ≤ fr.length ∧ Jx i W') := by
  have HX : Hid (∀ x ∈ xs, x < 256) := hx
  have HJ : Hid (∀ i W W', J i W → Below W.heap.size W W' → J i W') := hJ
  have HK : Hid (∀ i W, J i W → W.cell? ⟨Bk, 0, none⟩ = some (.slice ko xs.length kc) ∧ Row W ko xs ∧ Tab W) := hK
  have HY : Hid (∀ i k bs W0 W1 lo lc, fr[i]? = some (k, bs) → J i W0 → Below W0.heap.size W0 W1 → Own W1 W0.heap.size (.slice lo bs.length lc) bs →
      YieldAt Fence.wide (n - 1) Tryd.prog l #[.int .i64 ((endOf (fr.take i) : Nat) : Int), .agg #[.int .u8 (k : Int), .slice lo bs.length lc]] W1 fun e W' =>
        (e = .returned (.bool true) ∧ J (i + 1) W') ∨ (e = .returned (.bool false) ∧ Jx (i + 1) W')) := hY
  have HS : Hid (scanR xs.length xs = (fr, en, er)) := hsc
  have H0 : Hid (J 0 W) := h0
  clear hx hJ hK hY hsc h0
  obtain ⟨m, hm⟩ : ∃ m, m = xs.length := ⟨_, rfl⟩
  have HM : Hid (m = xs.length) := hm
  rw [← hm] at hl hnc
  clear hm
  refine callsIn_of_wp Tryd.func30 rfl trivial ?_ rfl
  simp only [Tryd.ntmps30, List.size_toArray, List.length_cons, List.length_nil, Nat.reduceAdd, Nat.reduceSub, Array.replicate_succ, Array.replicate_zero, List.push_toArray, List.append_toArray, List.nil_append, List.cons_append]
  gi_wp2
  gi_loopw [3] (fun p wr => ∃ (i q f : Nat), (q ≤ m ∧ m - q ≤ f ∧ i ≤ fr.length) ∧ p = .int .i64 (q : Int) ∧ Hid (J i wr) ∧ Hid (q = endOf (fr.take i)) ∧ Hid ((scanR f (xs.drop q)).1 = fr.drop i)) (fun p _ => m - (intOf p).toNat)
  case atStart => exact ⟨0, 0, m, ⟨by omega, by omega, by omega⟩, rfl, H0, by show _ = _; simp [endOf], by show _ = _; simp [HM.out, HS.out]⟩
  case round =>
    obtain ⟨i, q, f, hq, rfl, HJi, HQ, HD⟩ := hrel
    obtain ⟨hk1, hk2, hk3⟩ := HK.out i wr HJi.out
    rw [← HM.out] at hk1
    have HR : Hid (Row wr ko xs) := hk2
    have HT : Hid (Tab wr) := hk3
    clear hk2 hk3
    by_cases hlt : q < m
    · obtain ⟨b, off, rfl⟩ := HR.out.form (by rw [← HM.out]; omega)
      obtain ⟨ys, HYS⟩ : ∃ ys, Hid (ys = xs.drop q) := ⟨_, rfl⟩
      have hyl : ys.length = m - q := by rw [HYS.out, List.length_drop, ← HM.out]
      have HYX : Hid (∀ x ∈ ys, x < 256) := by rw [HYS.out]; exact lt_drop HX.out q
      have HYR : Hid (Row wr (some ⟨b, off + q, none⟩) ys) := by show Row wr _ ys; rw [HYS.out]; exact HR.out.dropN q
      obtain ⟨sa, hsl, hsa⟩ := slice_from b off m kc (m - q) (kc - q) q q rfl (by omega) rfl rfl
      rw [hsa (by omega)] at hsl
      clear hsa
      obtain ⟨er, HER⟩ : ∃ er, Hid (er = openErr ys) := ⟨_, rfl⟩
      obtain ⟨kd, HKD⟩ : ∃ kd, Hid (kd = openKind ys) := ⟨_, rfl⟩
      obtain ⟨en, HEN⟩ : ∃ en, Hid (en = openEnd ys) := ⟨_, rfl⟩
      obtain ⟨out, HOU⟩ : ∃ out, Hid (out = openOut ys) := ⟨_, rfl⟩
      gi_wp2_with fail
      refine ⟨trivial, fun h => (by cases h), ?_⟩
      refine (callsIn_wide.2 (open_all (m - q) (kc - q) (some ⟨b, off + q, none⟩) ys wr (by omega) (by omega) (by omega) HYX.out HYR.out HT.out)).mono ?_
      rintro e w2 ⟨lo, ln, lc, rfl, h2⟩
      rw [← HER.out, ← HKD.out, ← HEN.out]
      have hM : Made wr w2 lo ln lc out := by rw [HOU.out]; exact h2.out
      obtain ⟨rfl, hlc, _, hO, hB⟩ := hM
      have HB2 : Hid (Below wr.heap.size wr w2) := hB
      have HO2 : Hid (Own w2 wr.heap.size (.slice lo out.length lc) out) := hO
      clear h2 hO hB HYR hsl HT HR
      by_cases h0 : er = 0
      · subst h0
        have hok : openErr ys = 0 := HER.out.symm
        obtain ⟨f', rfl, hsc⟩ := scan_good (f := f) (by omega) (by omega) hok
        have hen : 9 ≤ en ∧ en ≤ m - q := by
          have h := openEnd_good hok
          rw [← HEN.out, hyl] at h
          omega
        have HOL : Hid (en = 9 + out.length) := by
          have h := openEnd_good hok
          show en = _
          rw [HEN.out, h.1, HOU.out]
          unfold openOut
          rw [if_pos hok, openLoad_length h.2]
        have hd := HD.out
        rw [← HYS.out, hsc, ← HEN.out, ← HKD.out, ← HOU.out, HYS.out, List.drop_drop] at hd
        obtain ⟨hil, hfi, hdr, htk⟩ := drop_cons hd
        have HD2 : Hid ((scanR f' (xs.drop (q + en))).1 = fr.drop (i + 1)) := hdr.symm
        have HQ2 : Hid (q + en = endOf (fr.take (i + 1))) := by show _ = _; rw [htk, endOf_snoc, ← HQ.out, HOL.out]
        obtain ⟨fn, tmps, assign, body, hy, hR⟩ := HY.out i kd out wr (w2.alloc (.cells #[.int .u8 (kd : Int), .slice lo out.length lc] 43)) lo lc hfi HJi.out (HB2.out.trans ((below_new _ _).mono HB2.out.size)) (HO2.out.alloc _)
        rw [← HQ.out] at hy
        have HRo : Hid (RoundIn Fence.wide (n - 1) Tryd.prog l fn tmps assign body (w2.alloc (.cells #[.int .u8 (kd : Int), .slice lo out.length lc] 43)) fun e W' => (e = .returned (.bool true) ∧ J (i + 1) W') ∨ (e = .returned (.bool false) ∧ Jx (i + 1) W')) := hR
        clear hd hdr htk hsc hok hR HD
        gi_wp2
        refine ⟨fun h => (by cases h), ?_⟩
        refine HRo.out.mono ?_
        clear HRo hy
        rintro e W3 (⟨rfl, hJ3⟩ | ⟨rfl, hJx3⟩)
        · have HJ3 : Hid (J (i + 1) W3) := hJ3
          clear hJ3
          gi_wp2
          go_roundw
          case rel => exact ⟨i + 1, q + en, f', ⟨by omega, by omega, by omega⟩, rfl, HJ3, HQ2, HD2⟩
          case measure => simp [intOf]; omega
        · have HJx3 : Hid (Jx (i + 1) W3) := hJx3
          clear hJx3
          gi_wp2
          refine bodyPost_ret (results_none rfl _ _ _) rfl ?_
          exact ⟨⟨_, rfl⟩, .inr ⟨i + 1, by omega, HJx3.out⟩⟩
      · have hne : ((er : Int) == 0) = false := by rw [beq_eq_false_iff_ne]; omega
        have hie : i = fr.length := by
          have h := HD.out
          rw [← HYS.out, scan_bad (by omega) (by omega) (by rw [← HER.out]; exact h0)] at h
          exact drop_none h.symm hq.2.2
        have HE : Hid (J fr.length (w2.alloc (.cells #[.int .u8 (kd : Int), .slice lo out.length lc] 43))) := by rw [← hie]; exact HJ.out i wr _ HJi.out (HB2.out.trans ((below_new _ _).mono HB2.out.size))
        clear hie
        gi_wp2
        refine ⟨fun _ h => (by cases h), ?_⟩
        gi_wp2
        refine bodyPost_ret (results_none rfl _ _ _) rfl ?_
        exact ⟨⟨_, rfl⟩, .inl HE.out⟩
    · have hie : i = fr.length := by
        have h := HD.out
        rw [scan_done (by rw [List.length_drop, ← HM.out]; omega)] at h
        exact drop_none h.symm hq.2.2
      have HE : Hid (J fr.length wr) := by rw [← hie]; exact HJi.out
      gi_wp2
      go_end0
      exact ⟨⟨_, rfl⟩, .inl HE.out⟩
end Go.Proofs.YtmgppjfohabdmabDoor
