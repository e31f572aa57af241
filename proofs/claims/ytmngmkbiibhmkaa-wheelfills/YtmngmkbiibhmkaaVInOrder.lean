/- Rows of timers; the contract of inOrder. -/
import Derived.Test.YtmngmkbiibhmkaaVSort
namespace Go.Proofs.Ytmngmkbiibhmkaa
open Go.RowKit Go.Maps Go.Shelf Go.Lib Go.Sort

def TOwn (w : World) (B : Nat) (v : Value) (ds : List Tm) : Prop := w.ownsRow B 80 2 v ds.length (ds.flatMap encT)
theorem infoT : (Try.prog.info? 80).map (fun i => (i.zero, i.size, i.bytes)) = some (some (.agg #[.int .u64 0, .int .u64 0]), 2, 16) := by kernel_rfl
theorem encT_one (ds : List Tm) : ∀ u ∈ ds.flatMap encT, u.oneCell' = true := by
  intro u hu
  obtain ⟨x, _, h⟩ := List.mem_flatMap.1 hu
  simp only [encT, List.mem_cons, List.not_mem_nil, or_false] at h
  rcases h with rfl | rfl <;> rfl
theorem flat_len (ds : List Tm) : (ds.flatMap encT).length = ds.length * 2 := by
  induction ds with
  | nil => rfl
  | cons x r ih => rw [List.flatMap_cons, List.length_append, ih, List.length_cons]; simp [encT]; omega
theorem flat_get : ∀ (ds : List Tm) (i : Nat) (x : Tm), ds[i]? = some x → (ds.flatMap encT)[i * 2]? = some (.int .u64 (x.1 : Int)) ∧ (ds.flatMap encT)[i * 2 + 1]? = some (.int .u64 (x.2 : Int))
  | y :: r, 0, x, h => by
    have : y = x := by simpa using h
    subst this
    exact ⟨rfl, rfl⟩
  | y :: r, i + 1, x, h => by
    have := flat_get r i x (by simpa using h)
    rw [List.flatMap_cons, show (i + 1) * 2 = i * 2 + 2 by omega]
    exact this
theorem TOwn.lt {w : World} {B : Nat} {v : Value} {ds : List Tm} (h : TOwn w B v ds) : ∀ g, v.ownBlock = some g → B ≤ g ∧ g < w.heap.size := fun g hg => World.ownsRow.lt h g hg
theorem TOwn.same {w w' : World} {B : Nat} {v : Value} {ds : List Tm} (h : TOwn w B v ds) (hb : ∀ g, v.ownBlock = some g → w'.heap[g]? = w.heap[g]?) : TOwn w' B v ds := owns_same h hb
theorem TOwn.keep {w w' : World} {B : Nat} {v : Value} {ds : List Tm} (h : TOwn w B v ds) (hb : Below w.heap.size w w') : TOwn w' B v ds := h.same fun g hg => hb.block g (h.lt g hg).2
theorem town_nil (w : World) (B : Nat) : TOwn w B (.slice none 0 0) [] := World.ownsRow_nil _ _ _ _
theorem TOwn.shape {w : World} {B : Nat} {v : Value} {ds : List Tm} (h : TOwn w B v ds) : ∃ ao cap, v = .slice ao ds.length cap ∧ (ds ≠ [] → ∃ g, ao = some ⟨g, 0, none⟩) := by
  rcases h.2 with ⟨rfl, hn⟩ | ⟨g, cap, cur, rfl, _⟩
  · exact ⟨none, 0, by rw [hn], fun h => absurd (List.length_eq_zero_iff.1 hn) h⟩
  · exact ⟨_, cap, rfl, fun _ => ⟨g, rfl⟩⟩
theorem town_shape {w : World} {B : Nat} {v : Value} {ds : List Tm} (h : TOwn w B v ds) : ∃ ao n cap, v = .slice ao n cap := by
  obtain ⟨ao, cap, h, _⟩ := h.shape
  exact ⟨ao, _, cap, h⟩
theorem TOwn.lower {w : World} {B B' : Nat} {v : Value} {ds : List Tm} (h : TOwn w B v ds) (hb : B' ≤ B) : TOwn w B' v ds := by
  refine ⟨h.1, ?_⟩
  rcases h.2 with h2 | ⟨g, cap, cur, e, hg, r⟩
  · exact .inl h2
  · exact .inr ⟨g, cap, cur, e, Nat.le_trans hb hg, r⟩
theorem leT_trans (a b c : Tm) (h1 : leT a b = true) (h2 : leT b c = true) : leT a c = true := by
  simp only [leT, Bool.or_eq_true, Bool.and_eq_true, decide_eq_true_eq] at *; omega
theorem leT_total (a b : Tm) : (leT a b || leT b a) = true := by
  simp only [leT, Bool.or_eq_true, Bool.and_eq_true, decide_eq_true_eq]; omega
theorem leT_eq {a b : Tm} (h1 : leT a b = true) (h2 : leT b a = true) : a = b := by
  simp only [leT, Bool.or_eq_true, Bool.and_eq_true, decide_eq_true_eq] at *
  exact Prod.ext (by omega) (by omega)
theorem sorted_eq {l l' : List Tm} (h1 : l.Pairwise fun a b => leT a b = true) (h2 : l'.Pairwise fun a b => leT a b = true) (h : l.Perm l') : l = l' :=
  List.Perm.eq_of_pairwise (le := fun a b => leT a b = true) (fun _ _ _ _ h1 h2 => leT_eq h1 h2) h1 h2 h
theorem merge_sorted (l : List Tm) : (l.mergeSort leT).Pairwise fun a b => leT a b = true := List.pairwise_mergeSort leT_trans leT_total l
theorem merge_perm {l l' : List Tm} (h : l.Perm l') : l.mergeSort leT = l'.mergeSort leT :=
  sorted_eq (merge_sorted l) (merge_sorted l') (((List.mergeSort_perm l leT).trans h).trans (List.mergeSort_perm l' leT).symm)
theorem TOwn.cell {w : World} {B g n cap : Nat} {ds : List Tm} (h : TOwn w B (.slice (some ⟨g, 0, none⟩) n cap) ds) {i : Nat} {x : Tm} (hx : ds[i]? = some x) : w.cell? ⟨g, i * 2, none⟩ = some (.int .u64 (x.1 : Int)) ∧ w.cell? ⟨g, i * 2 + 1, none⟩ = some (.int .u64 (x.2 : Int)) := by
  have hc := World.ownsRow.cells h (g := g) rfl
  obtain ⟨h1, h2⟩ := flat_get ds i x hx
  have k1 := hc _ _ h1
  have k2 := hc _ _ h2
  rw [add_none, Nat.zero_add] at k1 k2
  exact ⟨k1, k2⟩
theorem TOwn.holds {w : World} {B g n cap : Nat} {ds : List Tm} (h : TOwn w B (.slice (some ⟨g, 0, none⟩) n cap) ds) : HoldsK encT 2 w g 0 ds.toArray := by
  intro j hj
  rw [size_flatK] at hj
  have hj2 : j < ds.length * 2 := by simpa using hj
  rw [get_flatK _ _ _ _ hj, Nat.zero_add]
  obtain ⟨x, hx⟩ : ∃ x, ds[j / 2]? = some x := ⟨_, List.getElem?_eq_getElem (by omega)⟩
  have hx2 : ds.toArray[j / 2]! = x := by
    rw [getElem!_pos _ _ (by simp; omega)]
    simpa using (List.getElem?_eq_some_iff.1 hx).2
  obtain ⟨c1, c2⟩ := h.cell hx
  rw [hx2]
  refine ⟨?_, ?_⟩
  · rcases (by omega : j % 2 = 0 ∨ j % 2 = 1) with e | e
    · rw [e, show j = j / 2 * 2 by omega]
      exact c1
    · rw [e, show j = j / 2 * 2 + 1 by omega]
      exact c2
  · rcases h.2 with ⟨e, _⟩ | ⟨g', cap', cur, e, _, hb, _⟩
    · cases e
    · cases e
      exact frozen_of_row w g j _ _ hb
theorem fr_sort (w : World) (g n : Nat) (d : Array Tm) (os : Array Obj) : Fr [g] w (sortWorldK encT 2 w g 0 n d os) := by
  refine ⟨rfl, rfl, rfl, ?_, fun k hk hn => ?_⟩
  · simp [sortWorldK, grow, putRowK, putRow, mapBlock, Sort.ahead]
  · have hkg : g ≠ k := fun e => hn (by simp [e])
    simp only [sortWorldK, grow, putRowK, putRow, mapBlock, Sort.ahead]
    rw [Array.getElem?_append_left (by simpa using hk), Array.getElem?_modify, if_neg hkg]
theorem sorted_cell {w : World} {g n : Nat} {ds es : List Tm} {os : Array Obj} (hH : HoldsK encT 2 w g 0 ds.toArray) (hg : g < w.heap.size) (hl : es.length = ds.length) {i : Nat} {x : Tm} (hx : es[i]? = some x) :
    (sortWorldK encT 2 w g 0 n es.toArray os).cell? ⟨g, i * 2, none⟩ = some (.int .u64 (x.1 : Int)) ∧ (sortWorldK encT 2 w g 0 n es.toArray os).cell? ⟨g, i * 2 + 1, none⟩ = some (.int .u64 (x.2 : Int)) := by
  have h1 := holdsK_putRowK encT 2 (Sort.ahead w n) g 0 ds.toArray es.toArray (holdsK_ahead encT 2 w n g 0 _ hH) (by simpa using hl)
  have h2 := holdsK_grow encT 2 (putRowK encT 2 (Sort.ahead w n) g 0 es.toArray) os g 0 _ (by simpa [putRowK, putRow, mapBlock, Sort.ahead] using hg) h1
  have hi : i < es.toArray.size := by simpa using (List.getElem?_eq_some_iff.1 hx).1
  have hx2 : es.toArray[i]! = x := by
    rw [getElem!_pos es.toArray i hi]
    simpa using (List.getElem?_eq_some_iff.1 hx).2
  have k1 := (h2.cell hi (c := 0) (by omega)).1
  have k2 := (h2.cell hi (c := 1) (by omega)).1
  rw [hx2, Nat.zero_add] at k1 k2
  exact ⟨k1, k2⟩
/-- append(v, t) of a timer that was just laid. -/
theorem wpList_append_tm {w : World} {ops : Array Oper} {rest : List Oper} {o : Oper} {a : Act} {Q : Exit → Act → World → Prop} (hgd : o.guard = none) (s x : Operand)
    (ho : o.op = .call { callee := .builtin .append, args := #[s, x], argTypes := #[78, 78] }) (B : Nat) (v : Value) (ds : List Tm) (hs : a.eval s = v) (hown : TOwn w B v ds)
    (g : Nat) (t : Tm) (hx : a.eval x = .slice (some ⟨g, 0, none⟩) 1 1) (hc0 : w.cell? ⟨g, 0, none⟩ = some (.int .u64 (t.1 : Int))) (hc1 : w.cell? ⟨g, 1, none⟩ = some (.int .u64 (t.2 : Int))) (hsz : ds.length ≤ 1000000) (hB : B ≤ w.heap.size)
    (h : ∀ v' w', TOwn w' B v' (ds ++ [t]) → w.grownBy w' v.ownBlock → (v'.ownBlock = v.ownBlock ∨ v'.ownBlock = some w.heap.size) → wpList Try.prog ops Q rest (a.put o.dst v') w') : wpList Try.prog ops Q (o :: rest) a w := by
  obtain ⟨i0, hi, hz0, hz1, hz2⟩ := info_parts infoT
  refine wpList_append_own_at w hgd s x 78 ho B 80 i0 _ 2 16 Try.underlying78 hi hz0 hz1 hz2 rfl (by decide) v ds.length (ds.flatMap encT) hs hown ⟨g, 0, none⟩ 1 1 (encT t) hx rfl ?_ (fun u hu => encT_one [t] u (by simpa using hu)) (by unfold maxLen; omega) (by omega) hB ?_
  · intro j u hu
    rw [add_none, Nat.zero_add]
    match j, hu with
    | 0, hu => cases hu; exact hc0
    | 1, hu => cases hu; exact hc1
  · intro v' w' h1 h2 _ h3
    refine h v' w' ?_ h2 h3
    unfold TOwn
    rw [List.length_append, List.flatMap_append]
    simpa using h1
theorem mergeT_len (ds : List Tm) : (ds.mergeSort leT).length = ds.length := List.length_mergeSort ds
set_option maxHeartbeats 4000000 in
set_option maxRecDepth 100000 in
theorem inOrder_any (v : Value) (ds : List Tm) (w : World) (h : TOwn w 0 v ds) (hl : ds.length ≤ 1000000) :
    Calls Try.prog 36 #[v] w fun e w' => ∃ ao n c, e = .returned (.slice ao n c) ∧ Own w' w.heap.size (.slice ao n c) ((ds.mergeSort leT).map (·.1)) ∧ Fr (vb v) w w' := by
  obtain ⟨ao, cap, rfl, hs⟩ := h.shape
  by_cases he : ds = []
  · subst he
    have HC := hide (sort_none ao cap w)
    rw [show ([] : List Tm).mergeSort leT = [] by simp]
    clear h hs hl
    go_enter Try.func36, Try.ntmps36
    go_wp2_with (go_at_call 43; refine HC.out.mono ?_; rintro e w2 ⟨rfl, hw2⟩; have h := hw2.symm; subst h)
    go_loop [10, 3] (fun v10 v3 => v10 = .int .i64 0 ∧ v3 = .slice none 0 0) (fun _ _ => 0)
    case atStart => exact ⟨rfl, rfl⟩
    case round =>
      obtain ⟨rfl, rfl⟩ := hrel
      go_wp2_with fail
      go_ret
      exact ⟨_, _, _, rfl, own_nil _ _, Fr.refl _ _⟩
  · obtain ⟨g, rfl⟩ := hs he
    have hg : g < w.heap.size := (h.lt g rfl).2
    have HC := hide (sort_any g cap ds w h.holds hg hl)
    have HS := hide (fun n os (i : Nat) (x : Tm) (hx : (ds.mergeSort leT)[i]? = some x) => sorted_cell (n := n) (os := os) h.holds hg (mergeT_len ds) hx)
    have HF := hide (fun n os => fr_sort w g n (ds.mergeSort leT).toArray os)
    have HLE := hide (mergeT_len ds)
    have HL := hide hl
    generalize ds.mergeSort leT = es at *
    generalize hn : ds.length = n at *
    clear h hs he hl hn
    go_enter Try.func36, Try.ntmps36
    go_wp2_with (go_at_call 43; refine HC.out.mono ?_; rintro e w2 ⟨rfl, q, os, hw2⟩; have HF2 := hide (HF.out q os); have HS2 := hide (HS.out q os); rw [← hw2] at HF2 HS2; clear hw2)
    clear HC HS HF
    have hg2 : g < w2.heap.size := by have := HF2.out.size; omega
    go_loopw [10, 3] (fun v10 v3 wr => ∃ (j : Nat) (ao : Option Addr) (m c : Nat), j ≤ n ∧ v10 = .int .i64 (j : Int) ∧ v3 = .slice ao m c ∧ Hid (Own wr w2.heap.size (.slice ao m c) ((es.take j).map (·.1))) ∧ Hid (Below w2.heap.size w2 wr)) (fun v10 _ _ => n - (intOf v10).toNat)
    case atStart => exact ⟨0, none, 0, 0, by omega, rfl, rfl, own_nil _ _, Below.refl _ _⟩
    case round =>
      obtain ⟨j, ao, m, c, hj, rfl, rfl, HO, HB⟩ := hrel
      by_cases hjn : j < n
      · obtain ⟨x, hx⟩ : ∃ x, es[j]? = some x := ⟨_, List.getElem?_eq_getElem (by have := HLE.out; omega)⟩
        obtain ⟨k0, k1⟩ := HS2.out j x hx
        have c0 := cell_kept k0 HB.out
        have c1 := cell_kept k1 HB.out
        have HT : Hid ((es.take (j + 1)).map (·.1) = (es.take j).map (·.1) ++ [x.1]) := by show _ = _; rw [List.take_add_one, hx]; simp
        have hjl : (j : Int) < (n : Int) := by omega
        have hnb : (n : Int) ≤ 1000000 := by have := HL.out; omega
        have hTL : ((es.take j).map (·.1)).length ≤ 1000000 := by simp; have := HLE.out; have := HL.out; omega
        have HTL := hide hTL
        obtain ⟨x1, x2⟩ := x
        simp only at HT c0 c1
        clear hx k0 k1 hTL
        have HW2 := hide ((below_new wr (.cells #[.int .u64 (x1 : Int), .int .u64 (x2 : Int)] 80)).trans ((below_new (wr.alloc (.cells #[.int .u64 (x1 : Int), .int .u64 (x2 : Int)] 80)) (.cells #[.int .u64 (x1 : Int)] 22)).mono (by simp)))
        have HO2 := hide (HO.out.keep HW2.out)
        have HRW := hide (row_one (wr.alloc (.cells #[.int .u64 (x1 : Int), .int .u64 (x2 : Int)] 80)) x1 22)
        rw [show (wr.alloc (.cells #[.int .u64 (x1 : Int), .int .u64 (x2 : Int)] 80)).heap.size = wr.heap.size + 1 by simp] at HRW
        have HSZ : Hid (w2.heap.size ≤ ((wr.alloc (.cells #[.int .u64 (x1 : Int), .int .u64 (x2 : Int)] 80)).alloc (.cells #[.int .u64 (x1 : Int)] 22)).heap.size) := by
          have h1 := HW2.out.size
          have h2 := HB.out.size
          show _ ≤ _
          omega
        go_wp2_with (at_builtin; refine wpList_append_nums rfl _ _ 48 48 Try.underlying48 Try.underlying48 rfl w2.heap.size (.slice ao m c) _ rfl HO2.out (some ⟨wr.heap.size + 1, 0, none⟩) 1 1 [x1] rfl rfl HRW.out (by have := HTL.out; simp at this ⊢; omega) HSZ.out ?_; intro v2 w3 h3 g3 l3; obtain ⟨ao3, n3, c3, rfl⟩ := own_shape h3; rw [← HT.out] at h3; have HO3 := hide h3; have HG3 := hide g3; clear h3 g3 l3)
        go_roundw
        case rel =>
          refine ⟨j + 1, ao3, n3, c3, by omega, by simp, rfl, HO3, ?_⟩
          exact (HB.out.trans (HW2.out.mono HB.out.size)).grown HG3.out HSZ.out (fun k hk => (HO.out.lt k hk).1)
        case measure => simp [intOf]; omega
      · have hjl : ¬ (j : Int) < (n : Int) := by omega
        have HT : Hid ((es.take j).map (·.1) = es.map (·.1)) := by show _ = _; rw [List.take_of_length_le (by have := HLE.out; omega)]
        go_wp2_with fail
        go_ret
        exact ⟨_, _, _, rfl, by rw [← HT.out]; exact HO.out.lower HF2.out.size, HF2.out.trans (fq := []) (Fr.of HB.out) (fun x hx => by cases hx)⟩
end Go.Proofs.Ytmngmkbiibhmkaa
