/- A story's calls in memory. -/
import Derived.Test.YtbhlciaigadlkaaQRep
namespace Go.Proofs.Ytbhlciaigadlkaa
open Go.RowKit Go.Maps

structure Oc where
  k : Int
  s : Nm
  n : Nat
def ocells (x : Oc) : List Value := [.int .i64 x.k, .string (str x.s), .int .u64 (x.n : Int)]
def OSee (w : World) (ao : Option Addr) (l : List Oc) : Prop := l = [] ∨ ∃ b off, ao = some ⟨b, off, none⟩ ∧ ∀ (i : Nat) (x : Oc), l[i]? = some x → w.cell? ⟨b, off + i * 3, none⟩ = some (.int .i64 x.k) ∧ w.cell? ⟨b, off + i * 3 + 1, none⟩ = some (.string (str x.s)) ∧ w.cell? ⟨b, off + i * 3 + 2, none⟩ = some (.int .u64 (x.n : Int))
theorem OSee.at {w : World} {ao : Option Addr} {l : List Oc} (h : OSee w ao l) {i : Nat} {x : Oc} (hx : l[i]? = some x) : ∃ b off, ao = some ⟨b, off, none⟩ ∧ w.cell? ⟨b, off + i * 3, none⟩ = some (.int .i64 x.k) ∧ w.cell? ⟨b, off + i * 3 + 1, none⟩ = some (.string (str x.s)) ∧ w.cell? ⟨b, off + i * 3 + 2, none⟩ = some (.int .u64 (x.n : Int)) := by
  rcases h with rfl | ⟨b, off, rfl, hc⟩
  · simp at hx
  · exact ⟨b, off, rfl, hc i x hx⟩
theorem OSee.keep {w w' : World} {ao : Option Addr} {l : List Oc} (h : OSee w ao l) (hb : Below w.heap.size w w') : OSee w' ao l := by
  rcases h with h | ⟨b, off, rfl, hc⟩
  · exact .inl h
  · exact .inr ⟨b, off, rfl, fun i x hx => ⟨cell_kept (hc i x hx).1 hb, cell_kept (hc i x hx).2.1 hb, cell_kept (hc i x hx).2.2 hb⟩⟩
def OOk (l : List Oc) : Prop := ∀ x ∈ l, x.s.length ≤ maxLen ∧ x.n < 18446744073709551616
theorem OOk.at {l : List Oc} (h : OOk l) {i : Nat} {x : Oc} (hx : l[i]? = some x) : x.s.length ≤ maxLen ∧ x.n < 18446744073709551616 := h x (List.mem_of_getElem? hx)
theorem str_toList (nm : Nm) : (str nm).toList = nm := by simp [str]
theorem str_beq (a b : Nm) : ((str a).toList == (str b).toList) = decide (a = b) := by rw [str_toList, str_toList, Bool.eq_iff_iff]; simp
end Go.Proofs.Ytbhlciaigadlkaa
