/- What a scan tells of frames that were sealed, with whatever stands behind them; and of a proper beginning of a frame. -/
import Derived.Test.YtmgppjfohabdmabDoorScanMath
import Derived.Test.YtmgppjfohabdmabDoorTurnMath
import Derived.Test.YtmgppjfohabdmabDoorMadeFn
namespace Go.Proofs.YtmgppjfohabdmabDoor
open Go.RowKit

theorem sealed_num' {kind : Nat} {load : List Nat} (hl : load.length ≤ 2097152) : num4 (sealed kind load) = load.length := by
  unfold sealed
  rw [num4_append (four_length _), num4_four (by omega)]
theorem num4_more {ys : List Nat} (h : 4 ≤ ys.length) (x : List Nat) : num4 (ys ++ x) = num4 ys := by
  match ys, h with
  | a :: b :: c :: d :: r, _ => rfl
theorem open_more {ys x : List Nat} (h : openErr ys = 0) (hl : ys.length = 9 + num4 ys) : openErr (ys ++ x) = 0 ∧ openKind (ys ++ x) = openKind ys ∧ openOut (ys ++ x) = openOut ys ∧ openEnd (ys ++ x) = ys.length := by
  have hn : num4 (ys ++ x) = num4 ys := num4_more (by omega) x
  have ht : (ys ++ x).take (9 + num4 ys) = ys := by rw [← hl, List.take_left]
  have ht2 : ys.take (9 + num4 ys) = ys := List.take_of_length_le (by omega)
  have hd : num4 ((ys ++ x).drop 4) = num4 (ys.drop 4) := by rw [List.drop_append_of_le_length (by omega)]; exact num4_more (by rw [List.length_drop]; omega) x
  have hg : (ys ++ x).getD 8 0 = ys.getD 8 0 := by simp only [List.getD_eq_getElem?_getD]; rw [List.getElem?_append_left (by omega)]
  have he : openErr (ys ++ x) = 0 := by
    have h2 := h
    unfold openErr at h2 ⊢
    rw [hn, ht, hd, hg]
    rw [ht2] at h2
    rw [if_neg (by omega)] at h2
    rw [if_neg (by rw [List.length_append]; omega)]
    split at h2
    · cases h2
    · rename_i hb
      rw [if_neg hb]
      rw [if_neg (by omega)] at h2
      rw [if_neg (by rw [List.length_append]; omega)]
      exact h2
  refine ⟨he, ?_, ?_, ?_⟩
  · unfold openKind; rw [if_pos he, if_pos h, hg]
  · unfold openOut openLoad; rw [if_pos he, if_pos h, hn, ht, ht2]
  · unfold openEnd; rw [if_pos he, hn, hl]
theorem open_sealed_more {k : Nat} {l : List Nat} (hk : 0 < k) (hl : l.length ≤ 2097152) (x : List Nat) : openErr (sealed k l ++ x) = 0 ∧ openKind (sealed k l ++ x) = k ∧ openOut (sealed k l ++ x) = l ∧ openEnd (sealed k l ++ x) = 9 + l.length := by
  have h0 := sealed_open (kind := k) (load := l) hk hl
  obtain ⟨h1, h2, h3, h4⟩ := open_more (x := x) h0 (by rw [sealed_num' hl, sealed_length])
  refine ⟨h1, ?_, ?_, ?_⟩
  · rw [h2]; unfold openKind; rw [if_pos h0]; rfl
  · rw [h3]; unfold openOut; rw [if_pos h0]; unfold openLoad
    rw [sealed_num' hl, List.take_of_length_le (by rw [sealed_length]; exact Nat.le_refl _)]
    show (four l.length ++ (four (fsumOf k l) ++ (k :: l))).drop 9 = l
    rfl
  · rw [h4, sealed_length]
theorem scan_file : ∀ (fr : List (Nat × List Nat)) (f : Nat) (t : List Nat), (∀ x ∈ fr, 0 < x.1 ∧ x.2.length ≤ 2097152) → (fileOf fr ++ t).length ≤ f →
    ∃ f', t.length ≤ f' ∧ scanR f (fileOf fr ++ t) = (fr ++ (scanR f' t).1, (fileOf fr).length + (scanR f' t).2.1, (scanR f' t).2.2)
  | [], f, t, _, hf => ⟨f, by simpa [fileOf] using hf, by simp [fileOf]⟩
  | (k, l) :: r, f, t, hx, hf => by
    have hkl := hx (k, l) (by simp)
    obtain ⟨h0, h1, h2, h3⟩ := open_sealed_more (k := k) (l := l) hkl.1 hkl.2 (fileOf r ++ t)
    have e : fileOf ((k, l) :: r) ++ t = sealed k l ++ (fileOf r ++ t) := by simp [fileOf]
    have hlen : (sealed k l ++ (fileOf r ++ t)).length = (9 + l.length) + (fileOf r ++ t).length := by rw [List.length_append, sealed_length]
    rw [e, hlen] at hf
    obtain ⟨f1, rfl, hs⟩ := scan_good (f := f) (ys := sealed k l ++ (fileOf r ++ t)) (by rw [hlen]; exact hf) (by rw [hlen]; omega) h0
    have hd : (sealed k l ++ (fileOf r ++ t)).drop (9 + l.length) = fileOf r ++ t := by rw [← sealed_length k l, List.drop_left]
    obtain ⟨f', hf', ih⟩ := scan_file r f1 t (fun x hx' => hx x (by simp [hx'])) (by omega)
    refine ⟨f', hf', ?_⟩
    rw [e, hs, h1, h2, h3, hd, ih]
    simp [fileOf, sealed_length, Nat.add_assoc]
theorem torn_short {k : Nat} {l : List Nat} {c : Nat} (hl : l.length ≤ 2097152) (hc : c < 9 + l.length) : openErr ((sealed k l).take c) = 3 := by
  have hlen : ((sealed k l).take c).length = c := by rw [List.length_take, sealed_length]; omega
  by_cases h9 : c < 9
  · unfold openErr; rw [hlen, if_pos h9]
  · have hn : num4 ((sealed k l).take c) = l.length := by
      have h := num4_more (ys := (sealed k l).take c) (by rw [hlen]; omega) ((sealed k l).drop c)
      rw [List.take_append_drop, sealed_num' hl] at h
      exact h.symm
    unfold openErr
    rw [hlen, hn, if_neg h9, if_neg (by omega), if_pos hc]
theorem scan_torn {fr : List (Nat × List Nat)} {k c : Nat} {l : List Nat} (hx : ∀ x ∈ fr, 0 < x.1 ∧ x.2.length ≤ 2097152) (hl : l.length ≤ 2097152) (hc : c < 9 + l.length) (h0 : 0 < c) :
    scanR (fileOf fr ++ (sealed k l).take c).length (fileOf fr ++ (sealed k l).take c) = (fr, (fileOf fr).length, 3) := by
  obtain ⟨f', hf', h⟩ := scan_file fr _ ((sealed k l).take c) hx (Nat.le_refl _)
  have hlen : ((sealed k l).take c).length = c := by rw [List.length_take, sealed_length]; omega
  have h3 := torn_short (k := k) hl hc
  rw [h, scan_bad hf' (by omega) (by rw [h3]; decide), h3]
  simp
theorem scan_whole {fr : List (Nat × List Nat)} (hx : ∀ x ∈ fr, 0 < x.1 ∧ x.2.length ≤ 2097152) : scanR (fileOf fr).length (fileOf fr) = (fr, (fileOf fr).length, 0) := by
  obtain ⟨f', hf', h⟩ := scan_file fr (fileOf fr).length [] hx (by simp)
  rw [List.append_nil, scan_done (f := f') (ys := []) rfl] at h
  rw [h]
  simp
/-- append, and a call, as steps of a region that draws. -/
theorem law_append {w : World} {ops : Array Oper} {o : Oper} {a : Act} {K : Act → World → Prop} {Q : Exit → Act → World → Prop} {E : Prop} (hgd : o.guard = none) (s x : Operand)
    (ho : o.op = .call { callee := .builtin .append, args := #[s, x], argTypes := #[22, 22] }) (B : Nat) (v : Value) (xs : List Nat) (hs : a.eval s = v) (hown : Own w B v xs)
    (ao : Option Addr) (n c : Nat) (ys : List Nat) (hn : n = ys.length) (hx : a.eval x = .slice ao n c) (hy : Row w ao ys) (hsz : xs.length + ys.length ≤ 140737488355328) (hB : B ≤ w.heap.size)
    (h : ∀ v' w', Own w' B v' (xs ++ ys) → w.grownBy w' v.ownBlock → K (a.put o.dst v') w') : if Region.wanted o (yielded ops a.tmps) = true then Oper.wp Tryd.prog o a w K Q else E := by
  rw [if_pos (by simp [Region.wanted, hgd])]
  obtain ⟨v', w', hrun, h1, h2⟩ := run_append_bytes hown ao c hy hsz hB o.type
  subst hn
  unfold Oper.wp
  simp [execOp, ho, resolve, invoke, builtin, hs, hx, hrun, Result.andThen]
  exact h v' w' h1 h2
theorem law_call {w : World} {ops : Array Oper} {o : Oper} {a : Act} {K : Act → World → Prop} {Q : Exit → Act → World → Prop} {E : Prop} (hgd : o.guard = none) (f : FuncId) (args : Array Value)
    (hv : (execOp a.eval o).run Tryd.prog w = .ok (.enter f args) w) (h : Calls Tryd.prog f args w fun e w' => ∃ v, e = .returned v ∧ K (a.put o.dst v) w') : if Region.wanted o (yielded ops a.tmps) = true then Oper.wp Tryd.prog o a w K Q else E := by
  rw [if_pos (by simp [Region.wanted, hgd])]
  unfold Oper.wp
  rw [hv, Oper.upon_enter]
  refine h.mono ?_
  rintro e w' ⟨v, rfl, h⟩
  exact h
end Go.Proofs.YtmgppjfohabdmabDoor
