/- A story's acts in memory. -/
import Derived.Test.YtmngmkbiibhmkaaVBase
namespace Go.Proofs.Ytmngmkbiibhmkaa
open Go.RowKit Go.Maps

structure Ac where
  k : Int
  id : Nat
  a : Nat
def ASee (w : World) (ao : Option Addr) (l : List Ac) : Prop := l = [] ∨ ∃ b off, ao = some ⟨b, off, none⟩ ∧ ∀ (i : Nat) (x : Ac), l[i]? = some x → w.cell? ⟨b, off + i * 3, none⟩ = some (.int .i64 x.k) ∧ w.cell? ⟨b, off + i * 3 + 1, none⟩ = some (.int .u64 (x.id : Int)) ∧ w.cell? ⟨b, off + i * 3 + 2, none⟩ = some (.int .u64 (x.a : Int))
theorem ASee.at {w : World} {ao : Option Addr} {l : List Ac} (h : ASee w ao l) {i : Nat} {x : Ac} (hx : l[i]? = some x) : ∃ b off, ao = some ⟨b, off, none⟩ ∧ w.cell? ⟨b, off + i * 3, none⟩ = some (.int .i64 x.k) ∧ w.cell? ⟨b, off + i * 3 + 1, none⟩ = some (.int .u64 (x.id : Int)) ∧ w.cell? ⟨b, off + i * 3 + 2, none⟩ = some (.int .u64 (x.a : Int)) := by
  rcases h with rfl | ⟨b, off, rfl, hc⟩
  · simp at hx
  · exact ⟨b, off, rfl, hc i x hx⟩
theorem ASee.keep {w w' : World} {ao : Option Addr} {l : List Ac} (h : ASee w ao l) (hb : Below w.heap.size w w') : ASee w' ao l := by
  rcases h with h | ⟨b, off, rfl, hc⟩
  · exact .inl h
  · exact .inr ⟨b, off, rfl, fun i x hx => ⟨cell_kept (hc i x hx).1 hb, cell_kept (hc i x hx).2.1 hb, cell_kept (hc i x hx).2.2 hb⟩⟩
def AOk (l : List Ac) : Prop := ∀ x ∈ l, x.id < 18446744073709551616 ∧ x.a < 18446744073709551616
end Go.Proofs.Ytmngmkbiibhmkaa
