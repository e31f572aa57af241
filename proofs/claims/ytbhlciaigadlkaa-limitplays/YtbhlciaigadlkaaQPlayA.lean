/- The law's played: its head, and what it leaves. -/
import Derived.Test.YtbhlciaigadlkaaQTwo
import Derived.Test.YtbhlciaigadlkaaQRefF
import Derived.Test.YtbhlciaigadlkaaQRefS
import Derived.Test.YtbhlciaigadlkaaQForg
namespace Go.Proofs.Ytbhlciaigadlkaa
open Go.RowKit Go.Maps Go.Shelf

theorem VSee.held {w w' : World} {ao : Option Addr} {L : Tab} {G : List Nat} (h : VSee w ao L) (hg : ∀ a, ao = some a → a.block ∈ G) (hh : Held G w w') : VSee w' ao L := by
  rcases h with h | ⟨b, off, rfl, hc⟩
  · exact .inl h
  · have e : ∀ k, w'.cell? ⟨b, k, none⟩ = w.cell? ⟨b, k, none⟩ := fun k => World.cell?_of_block (hh b (hg _ rfl))
    exact .inr ⟨b, off, rfl, fun j x hx => by rw [e, e, e]; exact hc j x hx⟩
/-- What played leaves: the limit behind the call, the document's beside it. -/
structure PP (G : List Nat) (w0 w w' : World) (lp kp : Nat) (S' T : LS) (ao : Option Addr) (L : Tab) (ao' : Option Addr) (n' : Nat) (L' : Tab) : Prop where
  two : ∃ gb, Two (gb ++ G) w0 w' lp kp S' T ∧ ∀ a, ao' = some a → a.block ∈ gb ++ G
  held : Held G w w'
  size : w.heap.size ≤ w'.heap.size
  ri : RI S' L'
  len : n' = L'.length
  see : VSee w' ao' L'
  more : L'.length ≤ L.length + 1
  blk : ∀ a, ao' = some a → ao' = ao ∨ (w.heap.size ≤ a.block ∧ a.block < w'.heap.size)
def PlayedPost (G : List Nat) (w0 w : World) (lp kp : Nat) (S' T : LS) (ao : Option Addr) (L : Tab) (e : Ending) (w' : World) : Prop := ∃ (ao' : Option Addr) (n' c' : Nat), e = .returned (.tuple #[.agg (rcl S' (.slice ao' n' c')).toArray, .bool true]) ∧ ∃ L', PP G w0 w w' lp kp S' T ao L ao' n' L'
theorem played_mk {G : List Nat} {w0 w w' : World} {lp kp : Nat} {S' T : LS} {ao ao' : Option Addr} {L L' : Tab} {n' c' : Nat} (h : PP G w0 w w' lp kp S' T ao L ao' n' L') : PlayedPost G w0 w lp kp S' T ao L (.returned (.tuple #[.agg (rcl S' (.slice ao' n' c')).toArray, .bool true])) w' := ⟨ao', n', c', rfl, L', h⟩
/-- A store of five cells into a block that is left alone. -/
theorem Two.set5 {G : List Nat} {w0 w : World} {lp kp : Nat} {S T : LS} (h : Two G w0 w lp kp S T) {M : Nat} (hM : M ∈ G) (hw : w0.heap.size ≤ M) (a b c d e : Value) : Two G w0 (((((w.setCell ⟨M, 0, none⟩ a).setCell ⟨M, 1, none⟩ b).setCell ⟨M, 2, none⟩ c).setCell ⟨M, 3, none⟩ d).setCell ⟨M, 4, none⟩ e) lp kp S T := by
  have hf := set5_fr w M a b c d e
  obtain ⟨Y, Z, h1, h2, h3, h4⟩ := h.rep
  refine ⟨⟨Y, Z, h1.apart hf (fun x hx e => (h3 x hx).2.1 (by rw [List.mem_singleton.1 e]; exact hM)), h2.apart hf (fun x hx e => (h4 x hx).2 (by rw [List.mem_singleton.1 e]; exact hM)), h3, h4⟩, h.bel.trans (hf.below _ h.bel.size (fun x hx => by rw [List.mem_singleton.1 hx]; exact hw)), fun x hx => Nat.lt_of_lt_of_le (h.lt x hx) hf.size⟩
theorem Two.drew {G : List Nat} {w0 w : World} {lp kp : Nat} {S T : LS} (h : Two G w0 w lp kp S T) : Two G w0 w.drew lp kp S T := (h.below (below_drew (Below.refl _ _))).1
theorem held_below {G : List Nat} {w w' : World} (hb : Below w.heap.size w w') (hl : ∀ b ∈ G, b < w.heap.size) : Held G w w' := fun b hb' => hb.block b (hl b hb')
theorem held_fr {G : List Nat} {w w' : World} {M : Nat} (hf : Fr [M] w w') (hl : ∀ b ∈ G, b < w.heap.size) (hM : M ∉ G) : Held G w w' := fun b hb' => hf.block b (hl b hb') (fun e => hM (by rw [← List.mem_singleton.1 e]; exact hb'))
end Go.Proofs.Ytbhlciaigadlkaa
