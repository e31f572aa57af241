/- The law's form: a list of pairs as the document has it; steps of a drawn region over pairs. -/
import Derived.Test.YtmmcgfikmcppfaaGreatDoorXPar
import Derived.Test.YtmmcgfikmcppfaaGreatDoorXApp
import Derived.Test.YtmmcgfikmcppfaaGreatDoorXStep
import Derived.OrdersHeld
namespace Go.Proofs.YtmmcgfikmcppfaaGreatDoor
open Go.RowKit

section
variable {P : Program} {ops : Array Oper} {Q : Exit → Act → World → Prop} {md : Region.Mode} {S : World → Prop}
theorem region_held_var {id : Nat} {a : Act} {w : World} (S : World → Prop) (hm : P.follows .mixedOrders = true)
    (h : ∀ A, A = a → wpAnyH P .any ops Q S ops.size (Array.replicate ops.size false) A w.drew) : (Code.region id ops true).wp P Q a w :=
  wp_region_any hm (wpAny_of_held _ _ _ _ (h a rfl))
theorem heldRun {i : Nat} {oi : Oper} {fuel : Nat} {listed : Array Bool} {a : Act} {w : World} (d : Nat) (v : Value) (hi : ops[i]? = some oi) (hd : oi.dst = some d)
    (hs : Region.noSelect ops = true) (hf : Region.free md ops listed i = true) (hr : (Region.ready md ops listed).contains i = true)
    (hQ : ∀ c a w, Q (.panic c) (a.put oi.dst v) w → Q (.panic c) a w) (hw : Region.wanted oi (yielded ops a.tmps) = true) (hv : ∀ w, S w → (execOp a.eval oi).run P w = .ok (.value v) w) (hS : S w)
    (h : wpAnyH P md ops Q S fuel (listed.setIfInBounds i true) (a.put (some d) v) w) : wpAnyH P md ops Q S (fuel + 1) listed a w :=
  wpAnyH_take hi hs hf hr hQ (.inl ⟨hw, hv⟩) hS (by rw [hd]; exact h)
theorem heldMove {i : Nat} {oi : Oper} {fuel : Nat} {listed : Array Bool} {a : Act} {w : World} (d t : Nat) (v : Value) (hi : ops[i]? = some oi) (hd : oi.dst = some d) (ho : oi.op = .move (.tmp t))
    (hs : Region.noSelect ops = true) (hf : Region.free md ops listed i = true) (hr : (Region.ready md ops listed).contains i = true)
    (hQ : ∀ c a w, Q (.panic c) (a.put oi.dst v) w → Q (.panic c) a w) (hw : Region.wanted oi (yielded ops a.tmps) = true) (hv : a.eval (.tmp t) = v) (hS : S w)
    (h : wpAnyH P md ops Q S fuel (listed.setIfInBounds i true) (a.put (some d) v) w) : wpAnyH P md ops Q S (fuel + 1) listed a w :=
  heldRun d v hi hd hs hf hr hQ hw (fun w _ => by rw [← hv]; unfold execOp; rw [ho]; rfl) hS h
theorem heldCall {i : Nat} {oi : Oper} {fuel : Nat} {listed : Array Bool} {a : Act} {w : World} (d : Nat) (f : FuncId) (args : Array Value) (hi : ops[i]? = some oi) (hd : oi.dst = some d)
    (hr : Region.ready md ops listed = [i]) (hw : Region.wanted oi (yielded ops a.tmps) = true) (hv : (execOp a.eval oi).run P w = .ok (.enter f args) w)
    (h : Calls P f args w fun e w' => ∃ v, e = .returned v ∧ S w' ∧ wpAnyH P md ops Q S fuel (listed.setIfInBounds i true) (a.put (some d) v) w') : wpAnyH P md ops Q S (fuel + 1) listed a w := by
  refine wpAnyH_all hr (by simp) ?_
  intro j hj
  obtain rfl : j = i := by simpa using hj
  unfold wpOp
  simp only [hi]
  rw [if_pos hw]
  refine .inl ?_
  unfold Oper.wp
  rw [hv, Oper.upon_enter]
  refine h.mono ?_
  rintro e w' ⟨v, rfl, h⟩
  simp only [hd]
  exact h
theorem heldSkip {i : Nat} {oi : Oper} {fuel : Nat} {listed : Array Bool} {a : Act} {w : World} (d : Nat) (hi : ops[i]? = some oi) (hd : oi.dst = some d)
    (hs : Region.noSelect ops = true) (hf : Region.free md ops listed i = true) (hr : (Region.ready md ops listed).contains i = true)
    (hQ : ∀ c a w, Q (.panic c) (a.put oi.dst undef) w → Q (.panic c) a w) (hw : Region.wanted oi (yielded ops a.tmps) = false) (hS : S w)
    (h : wpAnyH P md ops Q S fuel (listed.setIfInBounds i true) (a.put (some d) undef) w) : wpAnyH P md ops Q S (fuel + 1) listed a w :=
  wpAnyH_take hi hs hf hr hQ (.inr ⟨hw, rfl⟩) hS (by rw [hd]; exact h)
theorem heldOne {i : Nat} {oi : Oper} {fuel : Nat} {listed : Array Bool} {a : Act} {w w' : World} (d : Nat) (v : Value) (hi : ops[i]? = some oi) (hd : oi.dst = some d)
    (hr : Region.ready md ops listed = [i]) (hw : Region.wanted oi (yielded ops a.tmps) = true) (hv : (execOp a.eval oi).run P w = .ok (.value v) w') (hS : S w')
    (h : wpAnyH P md ops Q S fuel (listed.setIfInBounds i true) (a.put (some d) v) w') : wpAnyH P md ops Q S (fuel + 1) listed a w := by
  refine wpAnyH_all hr (by simp) ?_
  intro j hj
  obtain rfl : j = i := by simpa using hj
  unfold wpOp
  simp only [hi]
  rw [if_pos hw]
  refine .inl ?_
  unfold Oper.wp
  rw [hv, Oper.upon_value]
  simp only [hd]
  exact ⟨hS, h⟩
end
section
variable {ops : Array Oper} {Q : Exit → Act → World → Prop} {md : Region.Mode} {S : World → Prop}
theorem run_append_pair {w : World} {B : Nat} {v : Value} {l : List Two} {t st : TypeId} {i0 : TypeInfo} (hst : Tryz.prog.underlying st = some (.slice t)) (hi : Tryz.prog.info? t = some i0) (hz0 : i0.zero = some (.agg #[.string { data := #[] }, .string { data := #[] }])) (hz1 : i0.size = 2) (hz2 : i0.bytes = 32)
    (hown : POwn t w B v l) (a : Addr) (x y : ByteArray) (ha : ∀ j u, [Value.string x, .string y][j]? = some u → w.cell? (a.add j) = some u) (hsz : (l.length + 1) * 32 ≤ 140737488355328) (hB : B ≤ w.heap.size) (ty : TypeId) :
    ∃ v' w', (Builtin.append_ #[st, st] ty #[v, .slice (some a) 1 1]).run Tryz.prog w = .ok v' w' ∧ w'.ownsRow B t 2 v' (l.length + 1) (flat2 l ++ [.string x, .string y]) ∧ w.grownBy w' v.ownBlock := by
  obtain ⟨v', w', h1, h2, h3, _⟩ := run_append_own (P := Tryz.prog) w B st ty t i0 (.agg #[.string { data := #[] }, .string { data := #[] }]) 2 32 hst hi hz0 hz1 hz2 rfl (by decide) v l.length (flat2 l) hown a 1 1 [.string x, .string y] (by simp) ha (by intro u hu; simp at hu; rcases hu with rfl | rfl <;> rfl) (by unfold maxLen; omega) (by omega) hB
  exact ⟨v', w', h1, h2, h3⟩
theorem heldAppend2 {i : Nat} {o : Oper} {fuel : Nat} {listed : Array Bool} {a : Act} {w : World} {t st : TypeId} {i0 : TypeInfo} (d : Nat) (hi : ops[i]? = some o) (hd : o.dst = some d)
    (hr : Region.ready md ops listed = [i]) (hw : Region.wanted o (yielded ops a.tmps) = true) (s x : Operand)
    (ho : o.op = .call { callee := .builtin .append, args := #[s, x], argTypes := #[st, st] }) (hst : Tryz.prog.underlying st = some (.slice t)) (hinf : Tryz.prog.info? t = some i0) (hz0 : i0.zero = some (.agg #[.string { data := #[] }, .string { data := #[] }])) (hz1 : i0.size = 2) (hz2 : i0.bytes = 32)
    (B : Nat) (v : Value) (l : List Two) (q : Two) (hs : a.eval s = v) (hown : POwn t w B v l)
    (ad : Addr) (hx : a.eval x = .slice (some ad) 1 1) (ha : ∀ j u, [Value.string (bstr q.1), .string (bstr q.2)][j]? = some u → w.cell? (ad.add j) = some u) (hsz : (l.length + 1) * 32 ≤ 140737488355328) (hB : B ≤ w.heap.size)
    (h : ∀ v' w', POwn t w' B v' (l ++ [q]) → w.grownBy w' v.ownBlock → S w' ∧ wpAnyH Tryz.prog md ops Q S fuel (listed.setIfInBounds i true) (a.put (some d) v') w') : wpAnyH Tryz.prog md ops Q S (fuel + 1) listed a w := by
  refine wpAnyH_all hr (by simp) ?_
  intro j hj
  obtain rfl : j = i := by simpa using hj
  unfold wpOp
  simp only [hi]
  rw [if_pos hw]
  refine .inl ?_
  obtain ⟨v', w', hrun, h1, h2⟩ := run_append_pair hst hinf hz0 hz1 hz2 hown ad (bstr q.1) (bstr q.2) ha hsz hB o.type
  unfold Oper.wp
  simp [execOp, ho, resolve, invoke, builtin, hs, hx, hrun, Result.andThen]
  rw [Oper.upon_value]
  simp only [hd]
  refine h v' w' ?_ h2
  unfold POwn
  rw [List.length_append, flat2_snoc]
  exact h1
end
end Go.Proofs.YtmmcgfikmcppfaaGreatDoor
namespace Go.Proofs.YtmmcgfikmcppfaaGreatDoor
open Go.RowKit

set_option linter.unusedSimpArgs false in
set_option maxHeartbeats 1000000 in
set_option maxRecDepth 100000 in
theorem form_any (n c : Nat) (ao : Option Addr) (l : List Two) (w : World) (hn : n = l.length) (hl : n ≤ 4398046511104) (hr : PRow w ao l) :
    Calls Tryz.prog 28 #[.slice ao n c] w fun e w' => ∃ v, e = .returned v ∧ Hid (POwn 108 w' w.heap.size v l ∧ Below w.heap.size w w') := by
  have HN : Hid (n = l.length) := hn
  have HR : Hid (PRow w ao l) := hr
  obtain ⟨i0, hi, hz0, hz1, hz2⟩ := info_parts infoRPair
  clear hn hr
  go_enter Tryz.func28, Tryz.ntmps28
  go_wp2
  go_loopw [3, 4] (fun v i wr => ∃ k : Nat, k ≤ n ∧ i = .int .i64 k ∧ Hid (POwn 108 wr w.heap.size v (l.take k)) ∧ Hid (Below w.heap.size w wr)) (fun _ i _ => n - (intOf i).toNat)
  case atStart => exact ⟨0, Nat.zero_le _, rfl, pown_nil _ _ _, Below.refl _ _⟩
  case round =>
    obtain ⟨k, hk, rfl, HO, HB⟩ := hrel
    have hs := HB.out.size
    by_cases hlt : k < n
    · obtain ⟨b, off, rfl⟩ := HR.out.form (by rw [← HN.out]; omega)
      obtain ⟨q, hq⟩ : ∃ q, l[k]? = some q := ⟨_, List.getElem?_eq_getElem (by rw [← HN.out]; exact hlt)⟩
      have HT : Hid (l.take (k + 1) = l.take k ++ [q]) := by show _ = _; rw [List.take_add_one, hq]; rfl
      obtain ⟨x, HXq⟩ : ∃ x, Hid (x = bstr q.1) := ⟨_, rfl⟩
      obtain ⟨y, HYq⟩ : ∃ y, Hid (y = bstr q.2) := ⟨_, rfl⟩
      have HQ : Hid (x = bstr q.1 ∧ y = bstr q.2) := ⟨HXq.out, HYq.out⟩
      have HCW : Hid (∀ W, Below w.heap.size w W → W.cell? ⟨b, off + k * 2, none⟩ = some (.string x) ∧ W.cell? ⟨b, off + k * 2 + 1, none⟩ = some (.string y)) := fun W hW => by
        have h := (HR.out.keep hW).cell hq
        rw [Nat.mul_comm 2 k, ← HXq.out, ← HYq.out] at h
        exact h
      have HC : Hid (wr.cell? ⟨b, off + k * 2, none⟩ = some (.string x) ∧ wr.cell? ⟨b, off + k * 2 + 1, none⟩ = some (.string y)) := HCW.out wr HB.out
      clear hq HXq HYq
      go_wp2
      refine region_held_var (fun W => W.cell? ⟨b, off + k * 2, none⟩ = some (.string x) ∧ W.cell? ⟨b, off + k * 2 + 1, none⟩ = some (.string y)) (by kernel_rfl) ?_
      intro A hA
      have hsz : A.tmps.size = 26 := by rw [hA]; rfl
      have e0 : A.eval (.tmp 0) = .slice (some ⟨b, off, none⟩) n c := by rw [hA]; rfl
      have e3 : A.eval (.tmp 3) = u3 := by rw [hA]; rfl
      have e4 : A.eval (.tmp 4) = .int .i64 (k : Int) := by rw [hA]; rfl
      have HS : wr.drew.cell? ⟨b, off + k * 2, none⟩ = some (.string x) ∧ wr.drew.cell? ⟨b, off + k * 2 + 1, none⟩ = some (.string y) := ⟨HC.out.1, HC.out.2⟩
      refine heldMove (i := 0) 11 3 (u3) rfl rfl rfl (by kernel_rfl) (by kernel_rfl) (by kernel_rfl) (fun _ _ _ h => h) rfl (by simp [ev_put, hsz, sz_put, e0, e3, e4]) HS ?_
      refine heldMove (i := 1) 12 0 (.slice (some ⟨b, off, none⟩) n c) rfl rfl rfl (by kernel_rfl) (by kernel_rfl) (by kernel_rfl) (fun _ _ _ h => h) rfl (by simp [ev_put, hsz, sz_put, e0, e3, e4]) HS ?_
      refine heldMove (i := 2) 13 4 (.int .i64 (k : Int)) rfl rfl rfl (by kernel_rfl) (by kernel_rfl) (by kernel_rfl) (fun _ _ _ h => h) rfl (by simp [ev_put, hsz, sz_put, e0, e3, e4]) HS ?_
      refine heldRun (i := 3) 14 (.pointer (some ⟨b, off + k * 2, none⟩)) rfl rfl (by kernel_rfl) (by kernel_rfl) (by kernel_rfl) (fun _ _ _ h => h) rfl (fun w hSw => by obtain ⟨s1, s2⟩ := hSw; unfold execOp; simp [ev_put, hsz, sz_put, e0, e3, e4] <;> go_simp) HS ?_
      refine heldRun (i := 4) 15 (.pointer (some ⟨b, off + k * 2, none⟩)) rfl rfl (by kernel_rfl) (by kernel_rfl) (by kernel_rfl) (fun _ _ _ h => h) rfl (fun w hSw => by obtain ⟨s1, s2⟩ := hSw; unfold execOp; simp [ev_put, hsz, sz_put, e0, e3, e4] <;> go_simp) HS ?_
      refine heldRun (i := 5) 16 (.string x) rfl rfl (by kernel_rfl) (by kernel_rfl) (by kernel_rfl) (fun _ _ _ h => h) rfl (fun w hSw => by obtain ⟨s1, s2⟩ := hSw; unfold execOp; simp [ev_put, hsz, sz_put, e0, e3, e4] <;> go_simp) HS ?_
      refine heldMove (i := 6) 17 0 (.slice (some ⟨b, off, none⟩) n c) rfl rfl rfl (by kernel_rfl) (by kernel_rfl) (by kernel_rfl) (fun _ _ _ h => h) rfl (by simp [ev_put, hsz, sz_put, e0, e3, e4]) HS ?_
      refine heldMove (i := 7) 18 4 (.int .i64 (k : Int)) rfl rfl rfl (by kernel_rfl) (by kernel_rfl) (by kernel_rfl) (fun _ _ _ h => h) rfl (by simp [ev_put, hsz, sz_put, e0, e3, e4]) HS ?_
      refine heldRun (i := 8) 19 (.pointer (some ⟨b, off + k * 2, none⟩)) rfl rfl (by kernel_rfl) (by kernel_rfl) (by kernel_rfl) (fun _ _ _ h => h) rfl (fun w hSw => by obtain ⟨s1, s2⟩ := hSw; unfold execOp; simp [ev_put, hsz, sz_put, e0, e3, e4] <;> go_simp) HS ?_
      refine heldRun (i := 9) 20 (.pointer (some ⟨b, off + k * 2 + 1, none⟩)) rfl rfl (by kernel_rfl) (by kernel_rfl) (by kernel_rfl) (fun _ _ _ h => h) rfl (fun w hSw => by obtain ⟨s1, s2⟩ := hSw; unfold execOp; simp [ev_put, hsz, sz_put, e0, e3, e4] <;> go_simp) HS ?_
      refine heldRun (i := 10) 21 (.string y) rfl rfl (by kernel_rfl) (by kernel_rfl) (by kernel_rfl) (fun _ _ _ h => h) rfl (fun w hSw => by obtain ⟨s1, s2⟩ := hSw; unfold execOp; simp [ev_put, hsz, sz_put, e0, e3, e4] <;> go_simp) HS ?_
      refine heldRun (i := 11) 22 (.agg #[.string x, .string y]) rfl rfl (by kernel_rfl) (by kernel_rfl) (by kernel_rfl) (fun _ _ _ h => h) rfl (fun w hSw => by obtain ⟨s1, s2⟩ := hSw; unfold execOp; simp [ev_put, hsz, sz_put, e0, e3, e4] <;> go_simp) HS ?_
      have HS2 : (wr.drew.alloc (Obj.cells #[.string x, .string y] 108)).cell? ⟨b, off + k * 2, none⟩ = some (.string x) ∧ (wr.drew.alloc (Obj.cells #[.string x, .string y] 108)).cell? ⟨b, off + k * 2 + 1, none⟩ = some (.string y) := ⟨cell_kept HC.out.1 (below_undrewN1 (below_new _ _)), cell_kept HC.out.2 (below_undrewN1 (below_new _ _))⟩
      refine heldOne (i := 12) (w' := wr.drew.alloc (Obj.cells #[.string x, .string y] 108)) 23 (.slice (some ⟨wr.heap.size, 0, none⟩) 1 1) rfl rfl (by kernel_rfl) rfl (by unfold execOp; simp [ev_put, hsz, sz_put, e0, e3, e4] <;> go_simp <;> rfl) HS2 ?_
      refine heldAppend2 (i := 13) 24 rfl rfl (by kernel_rfl) rfl (.tmp 11) (.tmp 23) rfl Tryz.underlying60 hi hz0 hz1 hz2 w.heap.size u3 (l.take k) q (by simp [ev_put, hsz, sz_put, e0, e3, e4]) (HO.out.keep (below_undrewN1 (below_new _ _))) ⟨wr.heap.size, 0, none⟩ (by simp [ev_put, hsz, sz_put, e0, e3, e4]) (by rw [← HQ.out.1, ← HQ.out.2]; exact two_new _ _ (by simp) _ _ _) (by rw [List.length_take, Nat.min_eq_left (by rw [← HN.out]; omega)]; omega) (by simp; omega) ?_
      intro v1 w1 hown1 hgr1
      have HB1 : Hid (Below w.heap.size w w1) := ((below_drewN HB.out 1).alloc (by simp; omega) _).grown hgr1 (by simp; omega) HO.out.ge
      have HS1 : w1.cell? ⟨b, off + k * 2, none⟩ = some (.string x) ∧ w1.cell? ⟨b, off + k * 2 + 1, none⟩ = some (.string y) := HCW.out w1 HB1.out
      refine ⟨HS1, ?_⟩
      refine heldRun (i := 14) 3 (v1) rfl rfl (by kernel_rfl) (by kernel_rfl) (by kernel_rfl) (fun _ _ _ h => h) rfl (fun w hSw => by obtain ⟨s1, s2⟩ := hSw; unfold execOp; simp [ev_put, hsz, sz_put, e0, e3, e4] <;> go_simp) HS1 ?_
      refine wpAnyH_done (by kernel_rfl) ?_ _
      subst hA
      simp only [put_mk, List.set_cons_succ, List.set_cons_zero]
      have HO1 : Hid (POwn 108 w1 w.heap.size v1 (l.take (k + 1))) := by rw [HT.out]; exact hown1
      clear hown1 hgr1
      go_wp2
      go_roundw
      case rel => exact ⟨k + 1, by omega, by go_num, HO1, HB1⟩
      case measure => simp [intOf]; omega
    · have HT : Hid (l.take k = l) := by show _ = _; rw [List.take_of_length_le (by rw [← HN.out]; omega)]
      rw [HT.out] at HO
      go_wp2
      go_ret
      exact ⟨_, rfl, HO.out, HB.out⟩
end Go.Proofs.YtmmcgfikmcppfaaGreatDoor
