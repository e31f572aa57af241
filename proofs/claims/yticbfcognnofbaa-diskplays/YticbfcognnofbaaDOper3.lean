/- The contract of operate at a change of the directory. -/
import Derived.Test.YticbfcognnofbaaDOper2
namespace Go.Proofs.Yticbfcognnofbaa
open Go.RowKit Go.Maps

theorem infoCh : (Try.prog.info? 94).map (fun i => (i.zero, i.size, i.bytes)) = some (some (.agg #[.string ⟨#[]⟩, .string ⟨#[]⟩, .pointer none]), 3, 40) := by kernel_rfl
theorem chCells_one (bs : List Nat) (c : Ch) : ∀ u ∈ chCells bs c, u.oneCell' = true := by
  intro u hu
  simp only [chCells, List.mem_cons, List.not_mem_nil, or_false] at hu
  rcases hu with rfl | rfl | rfl
  · rfl
  · rfl
  · split <;> rfl
theorem ownsRow_slice {w : World} {B : Nat} {e : TypeId} {sz n : Nat} {v : Value} {xs : List Value} (h : w.ownsRow B e sz v n xs) : ∃ ao cap, v = .slice ao n cap := by
  rcases h.2 with ⟨rfl, rfl⟩ | ⟨g, cap, cur, rfl, _⟩
  · exact ⟨none, 0, rfl⟩
  · exact ⟨_, _, rfl⟩
/-- append of one change, as a step of a region that draws. -/
theorem law_appCh {w : World} {ops : Array Oper} {o : Oper} {a : Act} {K : Act → World → Prop} {Q : Exit → Act → World → Prop} {E : Prop} (hgd : o.guard = none) (s x : Operand)
    (ho : o.op = .call { callee := .builtin .append, args := #[s, x], argTypes := #[85, 85] }) (v : Value) (n : Nat) (xs cs : List Value) (hs : a.eval s = v) (hown : w.ownsRow 0 94 3 v n xs)
    (b : Nat) (hx : a.eval x = .slice (some ⟨b, 0, none⟩) 1 1) (hy : Bl w b cs 94) (hcl : cs.length = 3) (hc1 : ∀ u ∈ cs, u.oneCell' = true) (hsz : n ≤ 2000000)
    (h : ∀ ao cap w', w'.ownsRow 0 94 3 (.slice ao (n + 1) cap) (n + 1) (xs ++ cs) → w.grownBy w' v.ownBlock → (Value.ownBlock (.slice ao (n + 1) cap) = v.ownBlock ∨ Value.ownBlock (.slice ao (n + 1) cap) = some w.heap.size) → K (a.put o.dst (.slice ao (n + 1) cap)) w') : if Region.wanted o (yielded ops a.tmps) = true then Oper.wp Try.prog o a w K Q else E := by
  obtain ⟨i0, hi, hz0, hz1, hz2⟩ := info_parts infoCh
  rw [if_pos (by simp [Region.wanted, hgd])]
  obtain ⟨v', w', hrun, h1, h2, h3, h4⟩ := run_append_own_at (P := Try.prog) w 0 85 o.type 94 i0 _ 3 40 Try.underlying85 hi hz0 hz1 hz2 rfl (by decide) v n xs hown ⟨b, 0, none⟩ 1 1 cs (by rw [hcl]) (fun j u hu => by rw [add_none, Nat.zero_add, hy.cell]; exact hu) hc1 (by unfold maxLen; omega) (by omega) (Nat.zero_le _)
  unfold Oper.wp
  simp [execOp, ho, resolve, invoke, builtin, hs, hx, hrun, Result.andThen]
  obtain ⟨ao, cap, rfl⟩ := ownsRow_slice h1
  exact h ao cap w' h1 h2 h4
theorem nodup_kv {L : Lay} {dp m : Nat} {v : Value} (h : (L.blocks dp).Nodup) (hm : ∀ b ∈ L.blocks dp, b < m) (hl : v.ownBlock = L.kv.ownBlock ∨ ∃ g, v.ownBlock = some g ∧ m ≤ g) : (({ L with kv := v } : Lay).blocks dp).Nodup := by
  rcases hl with e | ⟨g, e, hg⟩
  · have : vb v = vb L.kv := by unfold vb; rw [e]
    unfold Lay.blocks at h ⊢
    simp only
    rw [this]
    exact h
  · have e1 : vb v = [g] := by unfold vb; rw [e]; rfl
    have hn : ∀ b ∈ L.blocks dp, b ≠ g := fun b hb e => by have := hm b hb; omega
    unfold Lay.blocks at h hn ⊢
    simp only
    rw [e1]
    simp only [List.nodup_cons, List.mem_cons, List.mem_append, List.nodup_append, List.singleton_append, not_or] at h hn ⊢
    obtain ⟨⟨a1, a2, a3, a4⟩, ⟨b1, b2, b3⟩, ⟨c1, c2⟩, d1, d2, d3⟩ := h
    refine ⟨⟨a1, a2, fun e => hn dp (.inl rfl) e, a4⟩, ⟨b1, fun e => hn L.bn (.inr (.inl rfl)) e, b3⟩, ⟨fun e => hn L.sf (.inr (.inr (.inl rfl))) e, c2⟩, ⟨fun hb => hn g (.inr (.inr (.inr (.inr (.inl hb))))) rfl, fun hb => hn g (.inr (.inr (.inr (.inr (.inr hb))))) rfl⟩, d2⟩
theorem rep_change {W w3 w4 : World} {dp nx : Nat} {T : DS} {L : Lay} {c : Ch} {v' : Value} {o : Obj} (h : Rep W dp T L nx) (hd : DirAt w3 L.bn L.bs (chd c T.dir)) (f3 : Fr [L.bn] W w3)
    (hown : w4.ownsRow 0 94 3 v' (T.chg.length + 1) (T.chg.flatMap (chCells L.bs) ++ chCells L.bs c)) (hg : (w3.alloc o).grownBy w4 L.kv.ownBlock) (hl : v'.ownBlock = L.kv.ownBlock ∨ v'.ownBlock = some (w3.alloc o).heap.size) :
    Rep (w4.setCell ⟨dp, 2, none⟩ v') dp (change c T) { L with kv := v' } nx ∧ Fr (L.blocks dp) W (w4.setCell ⟨dp, 2, none⟩ v') ∧ ∀ b ∈ ({ L with kv := v' } : Lay).blocks dp, b ∈ L.blocks dp ∨ W.heap.size ≤ b := by
  have hs3 := f3.size
  have hz : (w3.alloc o).heap.size = w3.heap.size + 1 := by simp
  have hs4 := hg.size
  have hloc : v'.ownBlock = L.kv.ownBlock ∨ ∃ g, v'.ownBlock = some g ∧ W.heap.size ≤ g := by
    rcases hl with e | e
    · exact .inl e
    · exact .inr ⟨_, e, by omega⟩
  have hnod := h.nod
  -- a block that is neither the names' map nor the kept row
  have same : ∀ b ∈ L.blocks dp, b ≠ L.bn → b ∉ vb L.kv → w4.heap[b]? = W.heap[b]? := fun b hb h1 h2 => by
    have hlt := h.lt b hb
    rw [hg.block b (by omega) (fun e => h2 (mem_vb.2 e.symm)), Below.heap_alloc w3 o b (by omega), f3.block b hlt (by simpa using h1)]
  have hbn : L.bn ∉ vb L.kv ∧ L.bn ≠ dp ∧ dp ∉ vb L.kv ∧ L.sf ≠ L.bn ∧ L.sf ∉ vb L.kv ∧ L.sf ≠ dp := by
    unfold Lay.blocks at hnod
    simp only [List.nodup_cons, List.mem_cons, List.mem_append, not_or] at hnod
    obtain ⟨⟨a1, a2, a3, a4⟩, ⟨b1, b2, b3⟩, ⟨c1, c2⟩, d⟩ := hnod
    exact ⟨b2, fun e => a1 e.symm, a3, fun e => b1 e.symm, c1, fun e => a2 e.symm⟩
  have hbs : ∀ b ∈ L.bs, b ≠ dp ∧ b ≠ L.bn ∧ b ∉ vb L.kv := fun b hb => by
    unfold Lay.blocks at hnod
    simp only [List.nodup_cons, List.mem_cons, List.mem_append, List.nodup_append, not_or] at hnod
    obtain ⟨⟨a1, a2, a3, a4, a5⟩, ⟨b1, b2, b3, b4⟩, ⟨c1, c2⟩, d1, d2, d3⟩ := hnod
    exact ⟨fun e => a4 (e ▸ hb), fun e => b3 (e ▸ hb), fun hv => d3 b hv b (.inl hb) rfl⟩
  have hrv : ∀ v ∈ L.rv, ∀ g ∈ vb v, g ≠ dp ∧ g ≠ L.bn ∧ g ∉ vb L.kv := fun v hv g hgv => by
    have hm : g ∈ L.rv.flatMap vb := List.mem_flatMap.2 ⟨v, hv, hgv⟩
    unfold Lay.blocks at hnod
    simp only [List.nodup_cons, List.mem_cons, List.mem_append, List.nodup_append, not_or] at hnod
    obtain ⟨⟨a1, a2, a3, a4, a5⟩, ⟨b1, b2, b3, b4⟩, ⟨c1, c2⟩, d1, d2, d3⟩ := hnod
    exact ⟨fun e => a5 (e ▸ hm), fun e => b4 (e ▸ hm), fun hk => d3 g hk g (.inr hm) rfl⟩
  have box4 : Bl w4 dp (diskCells L T nx) 87 := (same dp ((L.mem dp dp).2 (.inl rfl)) (fun e => hbn.2.1 e.symm) hbn.2.2.1).trans h.box
  have set : ∀ b, b ≠ dp → (w4.setCell ⟨dp, 2, none⟩ v').heap[b]? = w4.heap[b]? := fun b hb => heap_setCell_other w4 ⟨dp, 2, none⟩ b v' hb
  have hvb : ∀ g, v'.ownBlock = some g → g ≠ dp := fun g hgv => by
    rcases hloc with e | ⟨g2, e, hge⟩
    · rw [e] at hgv; exact fun e2 => hbn.2.2.1 (e2 ▸ mem_vb.2 hgv)
    · rw [e] at hgv; injection hgv with hgv; have := h.lt dp ((L.mem dp dp).2 (.inl rfl)); omega
  have hsz : (w4.setCell ⟨dp, 2, none⟩ v').heap.size = w4.heap.size := by simp [World.setCell]
  have hnew : ∀ b ∈ ({ L with kv := v' } : Lay).blocks dp, b ∈ L.blocks dp ∨ (W.heap.size ≤ b ∧ b < w4.heap.size) := fun b hb => by
    rw [Lay.mem] at hb
    simp only at hb
    rcases hb with e | e | e | e | e | e
    · exact .inl ((L.mem dp b).2 (.inl e))
    · exact .inl ((L.mem dp b).2 (.inr (.inl e)))
    · exact .inl ((L.mem dp b).2 (.inr (.inr (.inl e))))
    · rcases hloc with e2 | ⟨g, e2, hge⟩
      · exact .inl ((L.mem dp b).2 (.inr (.inr (.inr (.inl (by rw [mem_vb] at e ⊢; rw [← e2]; exact e))))))
      · rw [mem_vb, e2] at e
        injection e with e
        subst e
        exact .inr ⟨hge, (World.ownsRow.lt hown _ e2).2⟩
    · exact .inl ((L.mem dp b).2 (.inr (.inr (.inr (.inr (.inl e))))))
    · exact .inl ((L.mem dp b).2 (.inr (.inr (.inr (.inr (.inr e))))))
  refine ⟨⟨nodup_kv h.nod h.lt hloc, fun b hb => ?_, ?_, ?_, ?_, ?_, h.blen, h.rlen, fun i b v h1 h2 => ⟨?_, ?_⟩⟩, ?_, fun b hb => (hnew b hb).imp id And.left⟩
  · rw [hsz]
    rcases hnew b hb with hb | hb
    · have := h.lt b hb; omega
    · exact hb.2
  · exact box4.set 2 v'
  · show DirAt _ L.bn L.bs (chd c T.dir)
    refine hd.same ?_
    rw [set _ hbn.2.1, hg.block L.bn (by have := hd.lt; omega) (fun e => hbn.1 (mem_vb.2 e.symm)), Below.heap_alloc w3 o L.bn hd.lt]
  · refine h.safe.same ?_
    rw [set _ hbn.2.2.2.2.2]
    exact same _ ((L.mem dp _).2 (.inr (.inr (.inl rfl)))) hbn.2.2.2.1 hbn.2.2.2.2.1
  · show World.ownsRow _ _ _ _ v' (T.chg ++ [c]).length ((T.chg ++ [c]).flatMap (chCells L.bs))
    rw [List.length_append, List.flatMap_append, List.flatMap_singleton]
    exact owns_same hown fun g hgv => set g (hvb g hgv)
  · have hb := hbs b (List.mem_of_getElem? h1)
    exact ((set b hb.1).trans (same b (L.mem_file dp h1) hb.2.1 hb.2.2)).trans (h.file i b v h1 h2).1
  · refine owns_same (h.file i b v h1 h2).2 fun g hgv => ?_
    have hb := hrv v (List.mem_of_getElem? h2) g (mem_vb.2 hgv)
    rw [set g hb.1]
    exact same g (L.mem_row dp h2 hgv) hb.2.1 hb.2.2
  · have hal := (Fr.alloc (L.blocks dp) w3 o)
    have h4 : Fr (L.blocks dp) (w3.alloc o) w4 := Fr.grown hg (fun j hj => (L.mem dp j).2 (.inr (.inr (.inr (.inl (mem_vb.2 hj))))))
    have h3 : Fr (L.blocks dp) W w3 := f3.mono (fun x hx => .inl (by rw [List.mem_singleton.1 hx]; exact (L.mem dp _).2 (.inr (.inl rfl))))
    exact ((h3.trans hal (fun x hx => .inl hx)).trans h4 (fun x hx => .inl hx)).trans (Fr.setCell _ w4 dp 2 v' ((L.mem dp dp).2 (.inl rfl))) (fun x hx => .inl hx)
end Go.Proofs.Yticbfcognnofbaa
