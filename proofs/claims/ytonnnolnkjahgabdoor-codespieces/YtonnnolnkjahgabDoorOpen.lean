/- What a reading of arguments gives: a slice of bytes that came in is a row of bytes, its length within the bulk that is read; the table's cells out of the row's list. -/
import Derived.Test.YtonnnolnkjahgabDoorRows
import Derived.Test.YtonnnolnkjahgabDoorRowsG
import Derived.ProofKit
import Derived.OpenShut
import Derived.ShutString
import Derived.ChangeOld
import Derived.Below
import Derived.JoinedCond
import Derived.SizedLaws
namespace Go.Proofs.YtonnnolnkjahgabDoor
open Go.ChangeShapes Go.WideShapes Go.ChangeAt Go.RowKit

theorem ownKnobs : ownKnob Tryd.prog.godebug = none := by kernel_rfl
theorem laidOut : laidOutB Tryd.prog = true := by kernel_rfl

theorem bulk_one {H : Type} (d : DataW H) : 1 ≤ Rows.uptoBulk d := by
  cases d with
  | lit l => cases l <;> simp [Rows.uptoBulk]
  | nil => simp [Rows.uptoBulk]
  | ptr d => simp [Rows.uptoBulk]
  | slice elems spare => simp [Rows.uptoBulk]
  | agg parts => simp [Rows.uptoBulk]
  | iface t d => simp [Rows.uptoBulk]
  | map entries => simp [Rows.uptoBulk]
  | held h => simp [Rows.uptoBulk]
theorem bulk_length {H : Type} (l : List (DataW H)) : l.length ≤ Rows.uptoBulkAll l := by
  induction l with
  | nil => simp [Rows.uptoBulkAll]
  | cons x r ih => have := bulk_one x; simp only [Rows.uptoBulkAll, List.length_cons]; omega

theorem nats_of (l : List Int) (h : ∀ n ∈ l, (Lit.int .u8 n).wf = true) : ∃ xs : List Nat, l = xs.map (fun n : Nat => (n : Int)) ∧ ∀ x ∈ xs, x < 256 := by
  induction l with
  | nil => exact ⟨[], rfl, by simp⟩
  | cons n l ih =>
    obtain ⟨xs, rfl, hb⟩ := ih (fun m hm => h m (by simp [hm]))
    have hn := bounds_u8 (h n (by simp))
    refine ⟨n.toNat :: xs, ?_, ?_⟩
    · simp only [List.map_cons, List.cons.injEq, and_true]; omega
    · intro x hx
      rcases List.mem_cons.1 hx with rfl | hx
      · omega
      · exact hb x hx

theorem open_bytes {H : Type} {enc : TypeId × Value → H} {W : World} {base : Nat} {v : Value} {d : DataW H} {p : List MemPlace} (hval : Value.okWide Tryd.prog W .any base 22 v)
    (h : DataW.Trod enc Tryd.prog W 0 (fun _ => true) true 22 v d p) :
    ∃ ao xs cap, v = .slice ao xs.length cap ∧ xs.length ≤ cap ∧ Row W ao xs ∧ (∀ x ∈ xs, x < 256) ∧ (∀ x ∈ p, x.block < W.heap.size) ∧ xs.length + 1 ≤ Rows.uptoBulk d ∧ ((d = .nil ∧ xs = []) ∨ ∃ elems spare, d = .slice elems spare ∧ xs.length = elems.length) := by
  obtain ⟨a0, len0, cap0, rfl⟩ := okWide_slice Tryd.underlying22 hval
  obtain ⟨fuel, hf⟩ := h
  have lt0 : ∀ x ∈ p, x.block < W.heap.size := DataW.trod_lt fuel _ _ _ hf
  rcases open_ints Tryd.underlying22 Tryd.underlying5 (by kernel_rfl) hf with ⟨hcs, hx⟩ | ⟨x, l, c, zs, hcs, _, hl, hm, hz, hx, hcell, hwz⟩
  · simp [Value.cells] at hcs
    obtain ⟨rfl, rfl, rfl⟩ := hcs
    simp only [Prod.mk.injEq] at hx
    obtain ⟨rfl, _⟩ := hx
    exact ⟨none, [], 0, rfl, Nat.le_refl _, .inl rfl, by simp, lt0, by simp [Rows.uptoBulk], .inl ⟨rfl, rfl⟩⟩
  · simp [Value.cells] at hcs
    obtain ⟨rfl, rfl, rfl⟩ := hcs
    simp only [Prod.mk.injEq] at hx
    obtain ⟨rfl, _⟩ := hx
    have hzl : zs.length = cap0 := by simpa using hz
    obtain ⟨xs, hxs, hb⟩ := nats_of (zs.take len0) (fun n hn => hwz n (List.mem_of_mem_take hn))
    have hlen : xs.length = len0 := by
      have := congrArg List.length hxs
      simp only [List.length_take, List.length_map] at this
      omega
    subst hlen
    have hel : (lits (H := H) .u8 (zs.take xs.length)).length = xs.length := by simp only [lits, List.length_map, List.length_take]; omega
    refine ⟨some x, xs, cap0, rfl, hl, ?_, hb, lt0, ?_, .inr ⟨_, _, rfl, hel.symm⟩⟩
    · by_cases h0 : xs = []
      · exact .inl h0
      · obtain ⟨b, off, rfl, hc⟩ := ints_at hcell (by have := List.length_pos_iff.2 h0; omega)
        refine .inr ⟨b, off, rfl, fun i hi => ?_⟩
        rw [hc i (by omega)]
        have : zs.getD i 0 = ((xs.getD i 0 : Nat) : Int) := by
          have h2 : (zs.take xs.length)[i]? = (xs.map fun n : Nat => (n : Int))[i]? := by rw [hxs]
          rw [List.getElem?_take, if_pos hi, List.getElem?_map] at h2
          simp only [List.getD, h2, List.getElem?_eq_getElem hi, Option.map_some, Option.getD_some]
        rw [this]
    · have h1 := bulk_length (lits (H := H) .u8 (zs.take xs.length))
      simp only [Rows.uptoBulk]
      omega
theorem bytes8 : Tryd.prog.bytesOf 5 = 1 := by kernel_rfl
theorem bytes_reach {H : Type} {ts : List TypeId} {ds : List (DataW H)} (h : (DataW.weightsEach Tryd.prog ts ds).all (fun x => decide (x ≤ reachBytes)) = true) {j : Nat} {d : DataW H} {xs : List Nat} (ht : ts[j]? = some 22) (hd : ds[j]? = some d)
    (hf : (d = .nil ∧ xs = []) ∨ ∃ elems spare, d = .slice elems spare ∧ xs.length = elems.length) : xs.length ≤ 140737488351232 := by
  rcases hf with ⟨_, rfl⟩ | ⟨elems, spare, rfl, hl⟩
  · simp
  · have := sized_slice h ht hd Tryd.underlying22
    rw [bytes8] at this
    simp only [reachBytes] at this
    omega
end Go.Proofs.YtonnnolnkjahgabDoor
