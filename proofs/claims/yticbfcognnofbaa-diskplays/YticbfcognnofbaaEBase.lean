/- The document's lists in memory: append of one element to a row of the call's own; directories. -/
import Derived.Test.YticbfcognnofbaaDSmall
import Derived.Test.YticbfcognnofbaaDOper3
namespace Go.Proofs.Yticbfcognnofbaa
open Go.RowKit Go.Maps

/-- A slice type, its element's, and how many cells that has. -/
def AppT (t e : TypeId) (sz : Nat) : Prop := ∃ (z : Value) (byt : Nat), Try.prog.underlying t = some (.slice e) ∧ (Try.prog.info? e).map (fun i => (i.zero, i.size, i.bytes)) = some (some z, sz, byt) ∧ z.cells.size = sz ∧ 0 < sz ∧ byt ≤ 64
theorem appE : AppT 70 110 2 := ⟨.agg #[.string ⟨#[]⟩, .int .i64 0], 24, Try.underlying70, by kernel_rfl, rfl, by decide, by decide⟩
theorem appO : AppT 69 108 2 := ⟨.agg #[.slice none 0 0, .int .i64 0], 32, Try.underlying69, by kernel_rfl, rfl, by decide, by decide⟩
theorem appC : AppT 71 113 3 := ⟨.agg #[.string ⟨#[]⟩, .string ⟨#[]⟩, .int .i64 0], 40, Try.underlying71, by kernel_rfl, rfl, by decide, by decide⟩
theorem appS : AppT 44 9 1 := ⟨.string ⟨#[]⟩, 16, Try.underlying44, by kernel_rfl, rfl, by decide, by decide⟩
theorem run_app1 {w : World} {t e : TypeId} {sz : Nat} (hT : AppT t e sz) (ty : TypeId) (B : Nat) (v : Value) (n : Nat) (xs cs : List Value) (hown : w.ownsRow B e sz v n xs) (b : Nat) (hy : Bl w b cs e) (hcl : cs.length = sz) (hc1 : ∀ u ∈ cs, u.oneCell' = true) (hn : n ≤ 1000000000000) (hB : B ≤ w.heap.size) :
    ∃ ao cap w', (Builtin.append_ #[t, t] ty #[v, .slice (some ⟨b, 0, none⟩) 1 1]).run Try.prog w = .ok (.slice ao (n + 1) cap) w' ∧ w'.ownsRow B e sz (.slice ao (n + 1) cap) (n + 1) (xs ++ cs) ∧ w.grownBy w' v.ownBlock ∧ (Value.ownBlock (.slice ao (n + 1) cap) = v.ownBlock ∨ Value.ownBlock (.slice ao (n + 1) cap) = some w.heap.size) := by
  obtain ⟨z, byt, hu, hinf, hzs, hs0, hbt⟩ := hT
  obtain ⟨i0, hi, hz0, hz1, hz2⟩ := info_parts hinf
  have hbb : (n + 1) * byt ≤ 140737488355328 := by
    have : (n + 1) * byt ≤ (n + 1) * 64 := Nat.mul_le_mul_left _ hbt
    omega
  obtain ⟨v', w', hrun, h1, h2, h3, h4⟩ := run_append_own_at (P := Try.prog) w B t ty e i0 z sz byt hu hi hz0 hz1 hz2 hzs hs0 v n xs hown ⟨b, 0, none⟩ 1 1 cs (by rw [hcl, Nat.one_mul]) (fun j u hu => by rw [add_none, Nat.zero_add, hy.cell]; exact hu) hc1 (by unfold maxLen; omega) hbb hB
  obtain ⟨ao, cap, rfl⟩ := ownsRow_slice h1
  exact ⟨ao, cap, w', hrun, h1, h2, h4⟩
theorem wpList_app1 {w : World} {ops : Array Oper} {rest : List Oper} {o : Oper} {a : Act} {Q : Exit → Act → World → Prop} {t e : TypeId} {sz : Nat} (hT : AppT t e sz) (hgd : o.guard = none) (s x : Operand)
    (ho : o.op = .call { callee := .builtin .append, args := #[s, x], argTypes := #[t, t] }) (B : Nat) (v : Value) (n : Nat) (xs cs : List Value) (hs : a.eval s = v) (hown : w.ownsRow B e sz v n xs)
    (b : Nat) (hx : a.eval x = .slice (some ⟨b, 0, none⟩) 1 1) (hy : Bl w b cs e) (hcl : cs.length = sz) (hc1 : ∀ u ∈ cs, u.oneCell' = true) (hn : n ≤ 1000000000000) (hB : B ≤ w.heap.size)
    (h : ∀ ao cap w', w'.ownsRow B e sz (.slice ao (n + 1) cap) (n + 1) (xs ++ cs) → w.grownBy w' v.ownBlock → (Value.ownBlock (.slice ao (n + 1) cap) = v.ownBlock ∨ Value.ownBlock (.slice ao (n + 1) cap) = some w.heap.size) → wpList Try.prog ops Q rest (a.put o.dst (.slice ao (n + 1) cap)) w') : wpList Try.prog ops Q (o :: rest) a w := by
  refine wpList_plain hgd fun K hK => ?_
  obtain ⟨ao, cap, w', hrun, h1, h2, h4⟩ := run_app1 hT o.type B v n xs cs hown b hy hcl hc1 hn hB
  unfold Oper.wp
  simp [execOp, ho, resolve, invoke, builtin, hs, hx, hrun, Result.andThen]
  exact hK _ _ (h ao cap w' h1 h2 h4)
theorem law_app1 {w : World} {ops : Array Oper} {o : Oper} {a : Act} {K : Act → World → Prop} {Q : Exit → Act → World → Prop} {E : Prop} {t e : TypeId} {sz : Nat} (hT : AppT t e sz) (hgd : o.guard = none) (s x : Operand)
    (ho : o.op = .call { callee := .builtin .append, args := #[s, x], argTypes := #[t, t] }) (B : Nat) (v : Value) (n : Nat) (xs cs : List Value) (hs : a.eval s = v) (hown : w.ownsRow B e sz v n xs)
    (b : Nat) (hx : a.eval x = .slice (some ⟨b, 0, none⟩) 1 1) (hy : Bl w b cs e) (hcl : cs.length = sz) (hc1 : ∀ u ∈ cs, u.oneCell' = true) (hn : n ≤ 1000000000000) (hB : B ≤ w.heap.size)
    (h : ∀ ao cap w', w'.ownsRow B e sz (.slice ao (n + 1) cap) (n + 1) (xs ++ cs) → w.grownBy w' v.ownBlock → (Value.ownBlock (.slice ao (n + 1) cap) = v.ownBlock ∨ Value.ownBlock (.slice ao (n + 1) cap) = some w.heap.size) → K (a.put o.dst (.slice ao (n + 1) cap)) w') : if Region.wanted o (yielded ops a.tmps) = true then Oper.wp Try.prog o a w K Q else E := by
  rw [if_pos (by simp [Region.wanted, hgd])]
  obtain ⟨ao, cap, w', hrun, h1, h2, h4⟩ := run_app1 hT o.type B v n xs cs hown b hy hcl hc1 hn hB
  unfold Oper.wp
  simp [execOp, ho, resolve, invoke, builtin, hs, hx, hrun, Result.andThen]
  exact h ao cap w' h1 h2 h4

/-- A directory in a row of the call's own. -/
def ecells (d : Dir) : List Value := d.flatMap fun p => [.string (str p.1), .int .i64 (p.2 : Int)]
def EOwn (w : World) (B : Nat) (v : Value) (d : Dir) : Prop := w.ownsRow B 110 2 v d.length (ecells d)
theorem eown_nil (w : World) (B : Nat) : EOwn w B (.slice none 0 0) [] := World.ownsRow_nil _ _ _ _
theorem ecells_snoc (d : Dir) (p : Nm × Nat) : ecells (d ++ [p]) = ecells d ++ [.string (str p.1), .int .i64 (p.2 : Int)] := by simp [ecells]
theorem ecells_get : ∀ {d : Dir} (i : Nat) {p : Nm × Nat}, d[i]? = some p → (ecells d)[i * 2]? = some (.string (str p.1)) ∧ (ecells d)[i * 2 + 1]? = some (.int .i64 (p.2 : Int))
  | [], i, _, h => by simp at h
  | q :: d, 0, p, h => by
    have e1 : q = p := by simpa using h
    subst e1
    simp [ecells]
  | q :: d, i + 1, p, h => by
    have := ecells_get (d := d) i (p := p) (by simpa using h)
    have e : ecells (q :: d) = [.string (str q.1), .int .i64 (q.2 : Int)] ++ ecells d := by simp [ecells]
    rw [e, show (i + 1) * 2 = 2 + i * 2 by omega, show 2 + i * 2 + 1 = 2 + (i * 2 + 1) by omega, List.getElem?_append_right (by simp), List.getElem?_append_right (by simp)]
    simpa using this
theorem EOwn.at {w : World} {B : Nat} {ao : Option Addr} {n cap : Nat} {d : Dir} (h : EOwn w B (.slice ao n cap) d) {i : Nat} {p : Nm × Nat} (hp : d[i]? = some p) : ∃ g, ao = some ⟨g, 0, none⟩ ∧ w.cell? ⟨g, i * 2, none⟩ = some (.string (str p.1)) ∧ w.cell? ⟨g, i * 2 + 1, none⟩ = some (.int .i64 (p.2 : Int)) ∧ n = d.length ∧ n ≤ cap := by
  have hi : i < d.length := by
    rcases Nat.lt_or_ge i d.length with h1 | h1
    · exact h1
    · rw [List.getElem?_eq_none h1] at hp; cases hp
  obtain ⟨c1, c2⟩ := ecells_get i hp
  rcases h.2 with ⟨_, e⟩ | ⟨g, cap', cur, e, _, _, hle, _⟩
  · omega
  · injection e with e e2 e3
    subst e
    have hc := World.ownsRow.cells h (g := g) rfl
    have k1 := hc _ _ c1
    have k2 := hc _ _ c2
    rw [add_none, Nat.zero_add] at k1 k2
    exact ⟨g, rfl, k1, k2, e2, by rw [e2, e3]; exact hle⟩
theorem EOwn.len {w : World} {B : Nat} {ao : Option Addr} {n cap : Nat} {d : Dir} (h : EOwn w B (.slice ao n cap) d) : n = d.length := by
  rcases h.2 with ⟨e, e2⟩ | ⟨g, cap', cur, e, _⟩
  · injection e with _ e _; omega
  · injection e
theorem owns_lower {w : World} {B B' : Nat} {e : TypeId} {sz n : Nat} {v : Value} {xs : List Value} (h : w.ownsRow B e sz v n xs) (hb : B' ≤ B) : w.ownsRow B' e sz v n xs := by
  refine ⟨h.1, ?_⟩
  rcases h.2 with h2 | ⟨g, cap, cur, e, hg, r⟩
  · exact .inl h2
  · exact .inr ⟨g, cap, cur, e, Nat.le_trans hb hg, r⟩
theorem owns_keep {w w' : World} {B : Nat} {e : TypeId} {sz n : Nat} {v : Value} {xs : List Value} (h : w.ownsRow B e sz v n xs) (hb : Below w.heap.size w w') : w'.ownsRow B e sz v n xs := owns_same h fun g hg => hb.block g (World.ownsRow.lt h g hg).2
theorem owns_ge {w : World} {B : Nat} {e : TypeId} {sz n : Nat} {v : Value} {xs : List Value} (h : w.ownsRow B e sz v n xs) : ∀ g, v.ownBlock = some g → B ≤ g := fun g hg => (World.ownsRow.lt h g hg).1
/-- One element more: of what was there ahead of block B nothing has turned. -/
theorem app_below {wr w' : World} {o : Obj} {B : Nat} {v : Value} {e : TypeId} {sz n : Nat} {xs : List Value} (hown : wr.ownsRow B e sz v n xs) (hB : B ≤ wr.heap.size) (hg : (wr.alloc o).grownBy w' v.ownBlock) : Below B wr w' :=
  ((Below.refl B wr).alloc hB o).grown hg (by simp; omega) (fun j hj => (World.ownsRow.lt hown j hj).1)
end Go.Proofs.Yticbfcognnofbaa
