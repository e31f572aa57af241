/- Rows of clients whose lists of scopes are the call's own, each in a block of its own; where an append lays what it makes. -/
import Derived.Test.YtjehbdekipmllaaGreatDoorLRow
import Derived.Test.YtjehbdekipmllaaGreatDoorXApp
namespace Go.Proofs.YtjehbdekipmllaaGreatDoor
open Go.RowKit

/-- Two rows of one's own of different kinds lie in different blocks. -/
theorem own_apart {w : World} {B B' e e' size size' n n' : Nat} {v v' : Value} {xs xs' : List Value} (h : w.ownsRow B e size v n xs) (h' : w.ownsRow B' e' size' v' n' xs') (hne : e ≠ e') : v.ownBlock = none ∨ v.ownBlock ≠ v'.ownBlock := by
  rcases h.2 with ⟨rfl, _⟩ | ⟨g, cap, cur, rfl, _, hg, _⟩
  · exact .inl rfl
  · rcases h'.2 with ⟨rfl, _⟩ | ⟨g', cap', cur', rfl, _, hg', _⟩
    · exact .inr (by simp [Value.ownBlock])
    · refine .inr (fun e => ?_)
      simp only [Value.ownBlock, Option.some.injEq] at e
      subst e
      rw [hg] at hg'
      simp at hg'
      exact hne hg'.2
/-- Of n clients in a row: each one's list of scopes is one's own, and no two lie in one block. -/
def Scs (w : World) (B : Nat) (cs : List Value) (n : Nat) : Prop :=
  (∀ i, i < n → ∃ l v, cs[i * 6 + 5]? = some v ∧ SOwn w B v l) ∧
  (∀ i j v v', i < j → j < n → cs[i * 6 + 5]? = some v → cs[j * 6 + 5]? = some v' → v.ownBlock = none ∨ v.ownBlock ≠ v'.ownBlock)
theorem scs_nil (w : World) (B : Nat) : Scs w B [] 0 := ⟨fun i h => by omega, fun i j v v' _ h => by omega⟩
theorem Scs.keep {w w' : World} {B n : Nat} {cs : List Value} (h : Scs w B cs n) (hb : Below w.heap.size w w') : Scs w' B cs n := by
  refine ⟨fun i hi => ?_, h.2⟩
  obtain ⟨l, v, h1, h2⟩ := h.1 i hi
  exact ⟨l, v, h1, h2.keep hb⟩
theorem Scs.off {w w' : World} {B B' n m e size : Nat} {v : Value} {cs xs : List Value} (h : Scs w B cs n) (ho : w.ownsRow B' e size v m xs) (he : 9 ≠ e) (hg : w.grownBy w' v.ownBlock) : Scs w' B cs n := by
  refine ⟨fun i hi => ?_, h.2⟩
  obtain ⟨l, u, h1, h2⟩ := h.1 i hi
  exact ⟨l, u, h1, World.ownsRow.kept h2 hg (own_apart h2 ho he)⟩
theorem Scs.snoc {w : World} {B M n : Nat} {cs : List Value} (h : Scs w B cs n) (hl : cs.length = n * 6) (hM : ∀ i v k, i < n → cs[i * 6 + 5]? = some v → v.ownBlock = some k → k < M) {c : Cl} {so : Option Addr} {m cp : Nat} (ho : SOwn w B (.slice so m cp) c.scopes) (hm : ∀ k, (Value.slice so m cp).ownBlock = some k → M ≤ k) : Scs w B (cs ++ clCells c so m cp) (n + 1) := by
  have hlast : (cs ++ clCells c so m cp)[n * 6 + 5]? = some (.slice so m cp) := by
    rw [List.getElem?_append_right (by omega), hl, show n * 6 + 5 - n * 6 = 5 by omega]; rfl
  have hold : ∀ i, i < n → (cs ++ clCells c so m cp)[i * 6 + 5]? = cs[i * 6 + 5]? := fun i hi => List.getElem?_append_left (by omega)
  refine ⟨fun i hi => ?_, fun i j v v' hij hj hv hv' => ?_⟩
  · by_cases hlt : i < n
    · obtain ⟨l, u, h1, h2⟩ := h.1 i hlt
      exact ⟨l, u, by rw [hold i hlt]; exact h1, h2⟩
    · obtain rfl : i = n := by omega
      exact ⟨_, _, hlast, ho⟩
  · rw [hold i (by omega)] at hv
    by_cases hlt : j < n
    · rw [hold j hlt] at hv'
      exact h.2 i j v v' hij hlt hv hv'
    · obtain rfl : j = n := by omega
      rw [hlast] at hv'
      cases hv'
      cases hk : v.ownBlock with
      | none => exact .inl rfl
      | some k =>
        refine .inr (fun e => ?_)
        have h1 := hM i v k (by omega) hv hk
        have h2 := hm k e.symm
        omega
/-- A row of clients of one's own, whose lists of scopes are one's own too, all in blocks from B up to M. -/
def COwnS (w : World) (B M : Nat) (v : Value) (l : List Cl) : Prop := ∃ cs, w.ownsRow B 47 6 v l.length cs ∧ Flat w cs l ∧ Scs w B cs l.length ∧ (∀ i v k, i < l.length → cs[i * 6 + 5]? = some v → v.ownBlock = some k → k < M) ∧ ∀ k, v.ownBlock = some k → k < M
theorem COwnS.own {w : World} {B M : Nat} {v : Value} {l : List Cl} (h : COwnS w B M v l) : COwn w B v l := by
  obtain ⟨cs, h1, h2, _⟩ := h
  exact ⟨cs, h1, h2⟩
theorem cowns_nil (w : World) (B M : Nat) : COwnS w B M (.slice none 0 0) [] := ⟨[], World.ownsRow_nil _ _ _ _, flat_nil w, scs_nil _ _, fun i v k h => by simp at h, fun k h => by cases h⟩
theorem COwnS.keep {w w' : World} {B M : Nat} {v : Value} {l : List Cl} (h : COwnS w B M v l) (hb : Below w.heap.size w w') : COwnS w' B M v l := by
  obtain ⟨cs, ho, hf, hs, hm, hr⟩ := h
  refine ⟨cs, ⟨ho.1, ?_⟩, hf.sats fun _ _ _ _ h => h.keep hb, hs.keep hb, hm, hr⟩
  rcases ho.2 with h2 | ⟨g, cap, cur, e, hg, hh, r⟩
  · exact .inl h2
  · exact .inr ⟨g, cap, cur, e, hg, (hb.block g (Array.getElem?_eq_some_iff.1 hh).1).trans hh, r⟩
theorem COwnS.upto {w : World} {B M : Nat} {v : Value} {l : List Cl} (h : COwnS w B M v l) {M' : Nat} (hm : w.heap.size ≤ M') : COwnS w B M' v l := by
  obtain ⟨cs, ho, hf, hs, _, _⟩ := h
  refine ⟨cs, ho, hf, hs, fun i u k hi hu hk => ?_, fun k hk => by have := (World.ownsRow.lt ho k hk).2; omega⟩
  obtain ⟨x, u', h1, h2⟩ := hs.1 i hi
  rw [h1] at hu
  cases hu
  have := (World.ownsRow.lt h2 k hk).2
  omega
theorem COwnS.lower {w : World} {B B' M : Nat} {v : Value} {l : List Cl} (h : COwnS w B M v l) (hB : B' ≤ B) : COwnS w B' M v l := by
  obtain ⟨cs, ho, hf, hs, hm, hr⟩ := h
  refine ⟨cs, ⟨ho.1, ?_⟩, hf, ⟨fun i hi => ?_, hs.2⟩, hm, hr⟩
  · rcases ho.2 with h2 | ⟨g, cap, cur, e, hg, r⟩
    · exact .inl h2
    · exact .inr ⟨g, cap, cur, e, by omega, r⟩
  · obtain ⟨x, u, h1, h2⟩ := hs.1 i hi
    exact ⟨x, u, h1, h2.lower hB⟩
theorem wpList_append_clientS {w : World} {ops : Array Oper} {rest : List Oper} {o : Oper} {a : Act} {Q : Exit → Act → World → Prop} {i0 : TypeInfo} (hgd : o.guard = none) (s x : Operand)
    (ho : o.op = .call { callee := .builtin .append, args := #[s, x], argTypes := #[22, 22] }) (hi : Tryz.prog.info? 47 = some i0) (hz0 : i0.zero = some (.agg #[.string { data := #[] }, .string { data := #[] }, .int .i64 0, .bool false, .string { data := #[] }, .slice none 0 0])) (hz1 : i0.size = 6) (hz2 : i0.bytes = 88)
    (B M : Nat) (v : Value) (l : List Cl) (c : Cl) (so : Option Addr) (n cp : Nat) (hs : a.eval s = v) (hown : COwnS w B M v l)
    (N : Nat) (hx : a.eval x = .slice (some ⟨N, 0, none⟩) 1 1) (hr : C6 w N (.string c.id) (.string c.secret) (.int .i64 c.grants) (.bool c.ping) (.string c.url) (.slice so n cp)) (hsat : SAt w so n cp c.scopes) (hsow : SOwn w M (.slice so n cp) c.scopes)
    (hsz : (l.length + 1) * 88 ≤ 140737488355328) (hB : B ≤ w.heap.size) (hBM : B ≤ M)
    (h : ∀ v' w', COwnS w' B w'.heap.size v' (l ++ [c]) → w.grownBy w' v.ownBlock → wpList Tryz.prog ops Q rest (a.put o.dst v') w') : wpList Tryz.prog ops Q (o :: rest) a w := by
  refine wpList_plain hgd fun K hK => ?_
  obtain ⟨cs, ho1, hf, hsc, hm, hr2⟩ := hown
  obtain ⟨v', w', hrun, h1, h2, _⟩ := run_append_own (P := Tryz.prog) w B 22 o.type 47 i0 (.agg #[.string { data := #[] }, .string { data := #[] }, .int .i64 0, .bool false, .string { data := #[] }, .slice none 0 0]) 6 88 Tryz.underlying22 hi hz0 hz1 hz2 rfl (by decide) v l.length cs ho1 ⟨N, 0, none⟩ 1 1 (clCells c so n cp) (by simp [clCells])
    (by
      intro j u hj
      rw [add_none, Nat.zero_add, cell_of_row w N j _ 47 (0, 0) hr, ← Array.getElem?_toList]
      exact hj)
    (by
      intro u hu
      simp only [clCells, List.mem_cons, List.not_mem_nil, or_false] at hu
      rcases hu with rfl | rfl | rfl | rfl | rfl | rfl <;> rfl) (by unfold maxLen; omega) (by omega) hB
  unfold Oper.wp
  simp [execOp, ho, resolve, invoke, builtin, hs, hx, hrun, Result.andThen]
  have hlt := h2.size
  have hsn : Scs w B (cs ++ clCells c so n cp) (l.length + 1) := hsc.snoc hf.1 hm (hsow.lower hBM) hsow.ge
  have hnew : COwnS w' B w'.heap.size v' (l ++ [c]) := by
    have h3 : Scs w' B (cs ++ clCells c so n cp) (l.length + 1) := hsn.off ho1 (by decide) h2
    refine ⟨_, by rw [List.length_append]; exact h1, (hf.snoc hsat).sats fun _ _ _ _ hq => hq.off ho1 h2, by rw [List.length_append]; exact h3, fun i u k hi2 hu hk => ?_, fun k hk => (World.ownsRow.lt h1 k hk).2⟩
    rw [List.length_append] at hi2
    obtain ⟨x2, u', h4, h5⟩ := h3.1 i hi2
    rw [h4] at hu
    cases hu
    exact (World.ownsRow.lt h5 k hk).2
  exact hK _ _ (h v' w' hnew h2)
/-- An append lays what it makes where it was, or in a new block. -/
theorem append_where {w : World} {B : Nat} {v : Value} {l : List U} {u : U} {i0 : TypeInfo} (hi : Tryz.prog.info? 9 = some i0) (hz0 : i0.zero = some (.string { data := #[] })) (hz1 : i0.size = 1) (hz2 : i0.bytes = 16)
    (hown : SOwn w B v l) (a : Addr) (c : Nat) (hr : SRow w (some a) [u]) (hsz : (l.length + 1) * 16 ≤ 140737488355328) (ty : TypeId) {v' : Value} {w' : World}
    (hrun : (Builtin.append_ #[44, 44] ty #[v, .slice (some a) 1 c]).run Tryz.prog w = .ok v' w') : v'.ownBlock = v.ownBlock ∨ v'.ownBlock = some w.heap.size := by
  have hlu : ([u].map encStr).length = 1 * i0.size := by rw [hz1]; rfl
  rcases hown.2 with ⟨rfl, h0⟩ | ⟨g, cap, cur, rfl, hb, hh, hle, hcm, hcs, ht⟩
  · have hr2 := run_append_nil (P := Tryz.prog) w 44 ty 9 i0 (.string { data := #[] }) Tryz.underlying44 hi hz0 a 1 c ([u].map encStr) hlu hr.cells (by omega) (by omega) (by rw [hz2]; omega)
    rw [hr2] at hrun
    injection hrun with e1 e2
    rw [← e1]
    exact .inr rfl
  · by_cases hroom : l.length + 1 ≤ cap
    · have hr2 := run_append_room (P := Tryz.prog) w 44 ty 9 i0 Tryz.underlying44 hi g l.length cap cur hh a 1 c ([u].map encStr) hlu hr.cells (encStr_one [u]) hroom (by rw [hz1, hcs]; simp; omega)
      rw [hr2] at hrun
      injection hrun with e1 e2
      rw [← e1]
      exact .inl rfl
    · have holds : ∀ j x, (l.map encStr)[j]? = some x → w.cell? ((⟨g, 0, none⟩ : Addr).add j) = some x := World.ownsRow.cells hown (g := g) rfl
      have hr2 := run_append_grow (P := Tryz.prog) w 44 ty 9 i0 (.string { data := #[] }) Tryz.underlying44 hi hz0 ⟨g, 0, none⟩ l.length cap (l.map encStr) (by rw [hz1]; simp) holds a 1 c ([u].map encStr) hlu hr.cells (by omega) (by omega) (growslice_fits (by omega) (by rw [hz2]; omega))
      rw [hr2] at hrun
      injection hrun with e1 e2
      rw [← e1]
      exact .inr rfl
theorem wpList_append_one {w : World} {ops : Array Oper} {rest : List Oper} {o : Oper} {a : Act} {Q : Exit → Act → World → Prop} {i0 : TypeInfo} (hgd : o.guard = none) (s x : Operand)
    (ho : o.op = .call { callee := .builtin .append, args := #[s, x], argTypes := #[44, 44] }) (hi : Tryz.prog.info? 9 = some i0) (hz0 : i0.zero = some (.string { data := #[] })) (hz1 : i0.size = 1) (hz2 : i0.bytes = 16)
    (B : Nat) (v : Value) (l : List U) (u : U) (hs : a.eval s = v) (hown : SOwn w B v l)
    (ad : Addr) (c : Nat) (hx : a.eval x = .slice (some ad) 1 c) (hr : SRow w (some ad) [u]) (hsz : (l.length + 1) * 16 ≤ 140737488355328) (hB : B ≤ w.heap.size)
    (h : ∀ v' w', SOwn w' B v' (l ++ [u]) → w.grownBy w' v.ownBlock → (v'.ownBlock = v.ownBlock ∨ v'.ownBlock = some w.heap.size) → wpList Tryz.prog ops Q rest (a.put o.dst v') w') : wpList Tryz.prog ops Q (o :: rest) a w := by
  refine wpList_plain hgd fun K hK => ?_
  obtain ⟨v', w', hrun, h1, h2⟩ := run_append_strs hi hz0 hz1 hz2 hown (some ad) c hr hsz hB o.type
  have hwh := append_where hi hz0 hz1 hz2 hown ad c hr hsz o.type hrun
  unfold Oper.wp
  have hrun2 : (Builtin.append_ #[44, 44] o.type #[v, .slice (some ad) 1 c]).run Tryz.prog w = .ok v' w' := hrun
  simp [execOp, ho, resolve, invoke, builtin, hs, hx, hrun2, Result.andThen]
  exact hK _ _ (h v' w' h1 h2 hwh)
end Go.Proofs.YtjehbdekipmllaaGreatDoor
