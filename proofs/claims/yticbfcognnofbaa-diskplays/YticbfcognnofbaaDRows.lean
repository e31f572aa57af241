/- The cells of rows of files and names; rows that a store elsewhere leaves as they are. -/
import Derived.Test.YticbfcognnofbaaDDsk
namespace Go.Proofs.Yticbfcognnofbaa
open Go.RowKit Go.Maps

/-- The cells of one file of a list. -/
theorem FOwn.at {w : World} {B : Nat} {vao : Option Addr} {n cap : Nat} {l : List Fi} {us : List Value} (h : FOwn w B (.slice vao n cap) l us) {i : Nat} {x : Fi} (hx : l[i]? = some x) :
    ∃ g bao bc, vao = some ⟨g, 0, none⟩ ∧ w.cell? ⟨g, i * 2, none⟩ = some (.string (str x.1)) ∧ w.cell? ⟨g, i * 2 + 1, none⟩ = some (.slice bao x.2.length bc) ∧ Row w bao x.2 ∧ x.2.length ≤ bc ∧ (bao = none → bc = 0) ∧ n ≤ cap := by
  have hi : i < l.length := by
    rcases Nat.lt_or_ge i l.length with h1 | h1
    · exact h1
    · rw [List.getElem?_eq_none h1] at hx; cases hx
  obtain ⟨u, hu⟩ : ∃ u, us[i]? = some u := ⟨_, List.getElem?_eq_getElem (by rw [h.len]; exact hi)⟩
  obtain ⟨c1, c2⟩ := fcells_get i hx hu
  rcases h.row.2 with ⟨_, e⟩ | ⟨g, cap', cur, e, _, _, hle, _⟩
  · omega
  · injection e with e1 e2 e3
    subst e1; subst e3
    have hc := World.ownsRow.cells h.row (g := g) rfl
    have k1 := hc _ _ c1
    have k2 := hc _ _ c2
    rw [add_none, Nat.zero_add] at k1 k2
    have ho := h.own i u x hu hx
    obtain ⟨bao, c, hv, hlc, hr⟩ := ho.read
    refine ⟨g, bao, c, rfl, k1, by rw [← hv]; exact k2, hr, hlc, fun hn => ?_, by rw [e2]; exact hle⟩
    rcases ho.2 with ⟨e, _⟩ | ⟨g', cap', cur', e, _⟩
    · rw [hv] at e; injection e
    · rw [hv] at e; injection e with e _ _; rw [hn] at e; cases e
theorem FOwn.poke {w : World} {B : Nat} {v : Value} {l : List Fi} {us : List Value} (h : FOwn w B v l us) (a : Addr) (x : Value) (ha : a.block < B) : FOwn (w.setCell a x) B v l us :=
  ⟨h.len, owns_same h.row fun g hg => heap_setCell_other w a g x (by have := (World.ownsRow.lt h.row g hg).1; omega), fun i u y h1 h2 => owns_same (h.own i u y h1 h2) fun g hg => heap_setCell_other w a g x (by have := (h.new i u g h1 hg).1; omega), h.new⟩
theorem TOwn.at' {w : World} {ao : Option Addr} {n cap : Nat} {ns : List Nm} (h : TOwn w (.slice ao n cap) ns) {i : Nat} {x : Nm} (hx : ns[i]? = some x) : ∃ g, ao = some ⟨g, 0, none⟩ ∧ w.cell? ⟨g, i, none⟩ = some (.string (str x)) ∧ n ≤ cap := by
  rcases h.2 with ⟨_, e⟩ | ⟨g, cap', cur, e, _, _, hle, _⟩
  · rw [List.length_eq_zero_iff.1 e] at hx; simp at hx
  · have h0 := h
    injection e with e1 e2 e3
    subst e1; subst e3
    exact ⟨g, rfl, h0.at hx, by rw [e2]; exact hle⟩
theorem TOwn.keep {w w' : World} {v : Value} {ns : List Nm} (h : TOwn w v ns) (hb : Below w.heap.size w w') : TOwn w' v ns := owns_same h fun g hg => hb.block g (World.ownsRow.lt h g hg).2
theorem TOwn.poke {w : World} {v : Value} {ns : List Nm} (h : TOwn w v ns) {B : Nat} (hg : ∀ g, v.ownBlock = some g → B ≤ g) (a : Addr) (x : Value) (ha : a.block < B) : TOwn (w.setCell a x) v ns := owns_same h fun g h1 => heap_setCell_other w a g x (by have := hg g h1; omega)
theorem Dsk.poke {w u wr : World} {dp : Nat} {S : DS} (h : Dsk u wr dp S) (hb : Below w.heap.size w u) (a : Addr) (v : Value) (h1 : w.heap.size ≤ a.block) (h2 : a.block < u.heap.size) : Dsk w (wr.setCell a v) dp S := by
  obtain ⟨L, hR, hL⟩ := h.rep
  refine ⟨⟨L, hR.keep (by simp [World.setCell]) (fun b hm => heap_setCell_other wr a b v (by have := hL b hm; omega)), fun b hm => Nat.le_trans hb.size (hL b hm)⟩, h.ok, (hb.trans (h.bel.mono hb.size)).setCell h1 v⟩
end Go.Proofs.Yticbfcognnofbaa
