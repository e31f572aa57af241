/- The contracts of Remove and New. -/
import Derived.Test.YtmngmkbiibhmkaaVCallA
namespace Go.Proofs.Ytmngmkbiibhmkaa
open Go.RowKit Go.Maps

set_option maxHeartbeats 4000000 in
set_option maxRecDepth 100000 in
theorem remove_any (wp now id : Nat) (L : List Tm) (Y : Lay) (w : World) (h : Whl w wp now L Y) (hid : id < 18446744073709551616) :
    Calls Try.prog 23 #[pw wp, .int .u64 (id : Int)] w fun e w' => e = .returned (.int .i64 (remE L id : Int)) ∧ ∃ Y', Whl w' wp now (tdel id L) Y' ∧ Aft wp Y Y' w w' := by
  obtain ⟨S, h1, h2⟩ := h
  have c0 := h1.now
  have c1 := h1.mapc
  have hlk := h1.map.look2 hid
  have HH := hide h1
  have HO := hide h2
  unfold remE
  cases hg : tget id L with
  | none =>
    rw [hg] at hlk
    simp only [Option.isSome_none, Bool.false_eq_true, if_false, Option.getD_none] at hlk ⊢
    have HD := hide (tdel_none (tget_none hg))
    clear hg h1 h2
    unfold pw
    go_enter Try.func23, Try.ntmps23
    go_wp2
    go_ret
    exact ⟨rfl, Y, by rw [HD.out]; exact ⟨S, HH.out, HO.out⟩, Aft.refl _ _ _⟩
  | some a =>
    rw [hg] at hlk
    simp only [Option.isSome_some, if_true, Option.getD_some] at hlk ⊢
    have ha : a < 18446744073709551616 := (h2.big _ (tget_some hg)).2.1
    obtain ⟨v, xs, hv, hx, ho, hcell, hfz⟩ := h1.get (slotN_lt now a)
    have HC := hide (slotOf_any wp now a w c0 h2.nowb ha)
    have HR := hide (fun (xs' : List Nat) (hp : xs'.Perm (xs.erase id)) => h2.remove hg hx hp)
    have HW := hide (fun W (hW : Own W 0 v xs) => without_any v id xs W hW (by have := h2.short hx; omega) (h2.mem hg hx))
    have HOW := hide ho
    have HV := hide hv
    have HID := hide hid
    generalize slotN now a = k at *
    clear hg h1 h2 hx hv ho ha hid
    unfold pw ps at *
    go_enter Try.func23, Try.ntmps23
    go_upto_region 7 with (go_at_call 37; refine HC.out.mono ?_; rintro e w2 ⟨rfl, hw2⟩; have HW2 := hide hw2; clear hw2)
    obtain ⟨q, hq⟩ := HW2.out
    subst hq
    have hcell2 : (w.drewN q).cell? ⟨wp, 2 + k, none⟩ = some v := hcell
    have HH2 := hide (HH.out.drewN q)
    have HCW := hide (HW.out (w.drewN q) (HOW.out.drewN q))
    have HA2 := hide (Aft.of (wp := wp) (Y := Y) (w := w) (w' := w.drewN q) (below_drewN (Below.refl _ _) q))
    clear hcell hfz HC HH HOW HW2 HW c0 c1 hlk
    generalize w.drewN q = w2 at *
    go_wp2_with (first | (go_at_call 38; refine HCW.out.mono ?_; rintro e w3 ⟨v', xs', rfl, h3, p3, n3, f3⟩; obtain ⟨vao3, vn3, vc3, rfl⟩ := own_shape h3; have HQ3 := hide (HR.out xs' p3); have HRP := hide (HH2.out.put HV.out f3 h3 (fun g e => .inl (n3 g e))); obtain ⟨hcell3, hfz3⟩ := HH2.out.cellFr HV.out f3; have c13 := HRP.out.1.mapc; have HM3 := hide HRP.out.1.map; clear h3 p3 n3 f3 hcell2) | (at_delete; refine wpList_map_del rfl _ _ rfl Y.mp L id rfl HM3.out rfl HID.out ?_; intro w4 h4 f4; have hm := HRP.out.1.map' h4 f4; have H4 := hide hm.1; have HA4 := hide hm.2; clear h4 f4 hm))
    go_ret
    exact ⟨rfl, _, ⟨_, H4.out, HQ3.out⟩, HA2.out.trans (HRP.out.2.trans HA4.out)⟩
theorem wpList_build_eq {ops : Array Oper} {rest : List Oper} {o : Oper} {a : Act} {w : World} {Q : Exit → Act → World → Prop} (hg : o.guard = none) (t : TypeId) (parts : Array (Nat × Operand)) (ho : o.op = .build t parts) (cells : Array Value)
    (hf : Try.prog.built t (parts.map fun (i, x) => (i, a.eval x)).toList = some cells) (h : wpList Try.prog ops Q rest (a.put o.dst (.agg cells)) w) : wpList Try.prog ops Q (o :: rest) a w :=
  wpList_build hg t parts ho (by rw [hf]; rfl) (by rw [hf]; exact h)
def nils : List Value := List.replicate 257 (.slice none 0 0)
theorem nils_len : nils.length = 257 := List.length_replicate
theorem get_nils (k : Nat) (v : Value) (h : nils[k]? = some v) : v = .slice none 0 0 := by
  rw [nils, List.getElem?_replicate] at h
  split at h
  · exact (Option.some.inj h).symm
  · cases h
theorem whl_new (w : World) (now : Nat) (h : now < 18446744073709551616) : Whl ((w.alloc (.map #[] 0)).alloc (.cells (wcells now ⟨w.heap.size, nils⟩).toArray 70)) (w.heap.size + 1) now [] ⟨w.heap.size, nils⟩ := by
  refine ⟨List.replicate 257 [], ⟨?_, ?_, nils_len, List.length_replicate, ?_, by show w.heap.size ≠ w.heap.size + 1; omega, ?_, ?_⟩, ok_new now h⟩
  · have := Bl.new (w.alloc (.map #[] 0)) (wcells now ⟨w.heap.size, nils⟩).toArray 70
    rw [show (w.alloc (.map #[] 0)).heap.size = w.heap.size + 1 by simp, List.toList_toArray] at this
    exact this
  · exact MapAt.same (World.ownsMap_made w Try.prog 22 ru) ((below_new _ _).block _ (by simp))
  · intro k v xs h1 h2
    rw [get_nils k v h1]
    rw [List.getElem?_replicate] at h2
    split at h2
    · cases h2; exact own_nil _ _
    · cases h2
  · intro k v g h1 h2
    rw [get_nils k v h1] at h2
    cases h2
  · intro i j v u g h1 _ _ h2
    rw [get_nils i v h1] at h2
    cases h2
set_option maxHeartbeats 1000000 in
set_option maxRecDepth 100000 in
theorem new_any (now : Nat) (w : World) (hn : now < 18446744073709551616) : Calls Try.prog 7 #[.int .u64 (now : Int)] w fun e w' => ∃ wp Y, e = .returned (pw wp) ∧ Whl w' wp now [] Y ∧ Below w.heap.size w w' ∧ ∀ b ∈ Y.blocks wp, w.heap.size ≤ b := by
  have HN := hide hn
  have hmm := @run_makeMap Try.prog
  clear hn
  go_enter Try.func7, Try.ntmps7
  go_wp2_with (first | (refine wpList_build_eq rfl 70 _ rfl (wcells now ⟨w.heap.size, nils⟩).toArray (by kernel_rfl) ?_) | fail)
  go_ret
  refine ⟨w.heap.size + 1, _, ?_, whl_new w now HN.out, (below_new w _).trans ((below_new _ _).mono (by simp)), fun b hb => ?_⟩
  · simp [pw]
  · rcases (Lay.mem _ _ b).1 hb with h | h | ⟨k, v, h1, h2⟩
    · omega
    · rw [h]; exact Nat.le_refl _
    · rw [get_nils k v h1] at h2; cases h2
end Go.Proofs.Ytmngmkbiibhmkaa
