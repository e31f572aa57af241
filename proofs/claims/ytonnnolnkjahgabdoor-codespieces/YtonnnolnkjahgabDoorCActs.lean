/- Acts in memory; the law's draw, whatever the act. -/
import Derived.Test.YtonnnolnkjahgabDoorCDuoF
import Derived.Test.YtonnnolnkjahgabDoorCLive
namespace Go.Proofs.YtonnnolnkjahgabDoor
open Go.RowKit Go.Shelf

/-- An act: its kind, where its bytes lie, their capacity, the bytes. -/
structure At where
  k : Int
  po : Option Addr
  pc : Nat
  ps : List Nat
/-- Acts in memory, from a place on. -/
def ASee (w : World) (ao : Option Addr) (l : List At) : Prop := l = [] ∨ ∃ b off, ao = some ⟨b, off, none⟩ ∧ ∀ (i : Nat) (x : At), l[i]? = some x → w.cell? ⟨b, off + i * 2, none⟩ = some (.int .i64 x.k) ∧ w.cell? ⟨b, off + i * 2 + 1, none⟩ = some (.slice x.po x.ps.length x.pc) ∧ Row w x.po x.ps
def AOk (l : List At) : Prop := ∀ x ∈ l, x.ps.length ≤ x.pc ∧ x.ps.length ≤ 140737488351232 ∧ ∀ y ∈ x.ps, y < 256
theorem ASee.at {w : World} {ao : Option Addr} {l : List At} (h : ASee w ao l) {i : Nat} {x : At} (hx : l[i]? = some x) : ∃ b off, ao = some ⟨b, off, none⟩ ∧ w.cell? ⟨b, off + i * 2, none⟩ = some (.int .i64 x.k) ∧ w.cell? ⟨b, off + i * 2 + 1, none⟩ = some (.slice x.po x.ps.length x.pc) ∧ Row w x.po x.ps := by
  rcases h with rfl | ⟨b, off, rfl, h⟩
  · simp at hx
  · exact ⟨b, off, rfl, h i x hx⟩
theorem ASee.keep {w w' : World} {ao : Option Addr} {l : List At} (h : ASee w ao l) (hb : Below w.heap.size w w') : ASee w' ao l := by
  rcases h with h | ⟨b, off, rfl, h⟩
  · exact .inl h
  · exact .inr ⟨b, off, rfl, fun i x hx => ⟨cell_kept (h i x hx).1 hb, cell_kept (h i x hx).2.1 hb, (h i x hx).2.2.keep hb⟩⟩
/-- What an act makes of the bytes that are left. -/
def stepS (x : At) (xs : List Nat) : List Nat :=
  if x.k = 1 then xs.drop 1 else if x.k = 2 then xs else if x.k = 3 then xs ++ x.ps.take (4096 - xs.length) else if x.k = 4 then xs.drop 32 else if x.k = 5 then xs.drop 24 else if x.k = 6 then (userR [] xs).2.2 else xs
theorem draw_any (sp rp : Nat) (x : At) (xs bs cs : List Nat) (w : World) (h : Duo w sp rp xs bs cs) (hT : Lets w) (hG : 0 ∉ bs) (hr : Row w x.po x.ps) (ho : x.ps.length ≤ x.pc ∧ x.ps.length ≤ 140737488351232 ∧ ∀ y ∈ x.ps, y < 256) (hao : x.ps ≠ [] → ∀ a, x.po = some a → a.block ∉ bs ++ cs) :
    Calls Tryd.prog 10 #[pf sp, pf rp, .agg #[.int .i64 x.k, .slice x.po x.ps.length x.pc]] w fun e w' => Drew w sp rp (stepS x xs) bs cs e w' := by
  obtain ⟨k, po, pc, ps⟩ := x
  simp only at hr ho hao ⊢
  unfold stepS
  simp only
  by_cases h1 : k = 1
  · subst h1; rw [if_pos rfl]; exact draw_byte sp rp _ pc po xs bs cs w h
  rw [if_neg h1]
  by_cases h2 : k = 2
  · subst h2; rw [if_pos rfl]; exact draw_left sp rp _ pc po xs bs cs w h
  rw [if_neg h2]
  by_cases h3 : k = 3
  · subst h3; rw [if_pos rfl]; exact draw_feed sp rp _ pc po xs bs cs ps w h hr rfl ho.1 (by omega) ho.2.2 hao
  rw [if_neg h3]
  by_cases h4 : k = 4
  · subst h4; rw [if_pos rfl]; exact draw_device sp rp _ pc po xs bs cs w h
  rw [if_neg h4]
  by_cases h5 : k = 5
  · subst h5; rw [if_pos rfl]; exact draw_auth sp rp _ pc po xs bs cs w h
  rw [if_neg h5]
  by_cases h6 : k = 6
  · subst h6; rw [if_pos rfl]; exact draw_user sp rp _ pc po xs bs cs w h hT hG
  rw [if_neg h6]
  exact draw_else sp rp _ pc po xs bs cs w h k h1 h2 h3 h4 h5 h6
/-- Two sources made since w. -/
structure YDuo (w w' : World) (sp rp : Nat) (xs : List Nat) : Prop where
  duo : ∃ bs cs, Duo w' sp rp xs bs cs ∧ ∀ b ∈ bs ++ cs, w.heap.size ≤ b
  bel : Below w.heap.size w w'
theorem YDuo.keep {w0 w w' : World} {sp rp : Nat} {xs : List Nat} (h : YDuo w0 w sp rp xs) (hb : Below w.heap.size w w') : YDuo w0 w' sp rp xs := by
  obtain ⟨bs, cs, h1, h2⟩ := h.duo
  exact ⟨⟨bs, cs, h1.keep hb, h2⟩, h.bel.trans (hb.mono h.bel.size)⟩
theorem draw_y {w0 w : World} {sp rp : Nat} {xs : List Nat} (x : At) (h : YDuo w0 w sp rp xs) (hT : Lets w0) (hr : Row w0 x.po x.ps) (ho : x.ps.length ≤ x.pc ∧ x.ps.length ≤ 140737488351232 ∧ ∀ y ∈ x.ps, y < 256) :
    Calls Tryd.prog 10 #[pf sp, pf rp, .agg #[.int .i64 x.k, .slice x.po x.ps.length x.pc]] w fun e w' => e = .returned (.bool true) ∧ YDuo w0 w' sp rp (stepS x xs) := by
  obtain ⟨bs, cs, h1, h2⟩ := h.duo
  refine (draw_any sp rp x xs bs cs w h1 (hT.keep h.bel) (fun hm => by have := h2 _ (List.mem_append_left cs hm); have := hT.lt; omega) (hr.keep h.bel) ho (fun hne a ha hm => ?_)).mono ?_
  · obtain ⟨b, off, e⟩ := hr.form (List.length_pos_iff.2 hne)
    rw [e] at ha hr
    injection ha with ha
    subst ha
    have := hr.lt hne
    have := h2 _ hm
    simp only at this
    omega
  · rintro e w' ⟨rfl, bs', cs', h3, h4⟩
    refine ⟨rfl, ⟨bs', cs', h3, fun b hb => ?_⟩, h.bel.trans (h4.fr.below _ h.bel.size h2)⟩
    rcases h4.new b hb with e | e
    · exact h2 b e
    · exact Nat.le_trans h.bel.size e
end Go.Proofs.YtonnnolnkjahgabDoor
