/- The contracts of the reference's digit and Hex, and of digest.Hex. -/
import Derived.Test.YtonnnolnkjahgabDoorSha1
import Derived.Test.YtonnnolnkjahgabDoorSteps2
namespace Go.Proofs.YtonnnolnkjahgabDoor
open Go.RowKit

def dg (n : Nat) : Nat := if n < 10 then 48 + n else 87 + n
def hexOf (xs : List Nat) : List Nat := xs.flatMap fun x => [dg (x / 16), dg (x % 16)]
theorem dg_lt {n : Nat} (h : n < 16) : dg n < 256 := by unfold dg; split <;> omega
theorem hexOf_length (xs : List Nat) : (hexOf xs).length = 2 * xs.length := by
  induction xs with
  | nil => rfl
  | cons x r ih =>
    simp only [hexOf, List.flatMap_cons, List.length_append, List.length_cons] at ih ⊢
    rw [ih]; simp; omega
theorem hexOf_lt {xs : List Nat} (h : ∀ x ∈ xs, x < 256) : ∀ y ∈ hexOf xs, y < 256 := by
  intro y hy
  obtain ⟨x, hx, hy⟩ := List.mem_flatMap.1 hy
  have := h x hx
  simp only [List.mem_cons, List.not_mem_nil, or_false] at hy
  rcases hy with rfl | rfl
  · exact dg_lt (by omega)
  · exact dg_lt (by omega)
theorem hexOf_snoc (xs : List Nat) (x : Nat) : hexOf (xs ++ [x]) = hexOf xs ++ [dg (x / 16), dg (x % 16)] := by simp [hexOf]
theorem take_getD {xs : List Nat} {k : Nat} (h : k < xs.length) : xs.take (k + 1) = xs.take k ++ [xs.getD k 0] := by
  rw [List.take_succ_eq_append_getElem h]; simp [List.getD, h]

theorem row_two (w : World) (a b : Nat) : Row (w.alloc (.cells #[.int .u8 (a : Int), .int .u8 (b : Int)] 5)) (some ⟨w.heap.size, 0, none⟩) [a, b] := by
  refine .inr ⟨_, _, rfl, fun i hi => ?_⟩
  have : i = 0 ∨ i = 1 := by simp at hi; omega
  rcases this with rfl | rfl <;> simp
theorem step_append {ops : Array Oper} {i : Nat} {o : Oper} {fuel : Nat} {listed : Array Bool} {md : Region.Mode} {a : Act} {w : World} {Q : Exit → Act → World → Prop} (hi : ops[i]? = some o) (hr : Region.ready md ops listed = [i]) (hgd : o.guard = none) (s x : Operand)
    (ho : o.op = .call { callee := .builtin .append, args := #[s, x], argTypes := #[22, 22] }) (B : Nat) (v : Value) (xs : List Nat) (hs : a.eval s = v) (hown : Own w B v xs)
    (ao : Option Addr) (n c : Nat) (ys : List Nat) (hn : n = ys.length) (hx : a.eval x = .slice ao n c) (hy : Row w ao ys) (hsz : xs.length + ys.length ≤ 140737488355328) (hB : B ≤ w.heap.size)
    (h : ∀ v' w', Own w' B v' (xs ++ ys) → w.grownBy w' v.ownBlock → wpAny Tryd.prog md ops Q fuel (listed.setIfInBounds i true) (a.put o.dst v') w') : wpAny Tryd.prog md ops Q (fuel + 1) listed a w := by
  refine wpAny_ready (rs := [i]) hr (by simp) (AllReady.cons hi (fun K hK => ?_) AllReady.nil)
  rw [if_pos (by simp [Region.wanted, hgd])]
  obtain ⟨v', w', hrun, h1, h2⟩ := run_append_bytes hown ao c hy hsz hB o.type
  subst hn
  unfold Oper.wp
  simp [execOp, ho, resolve, invoke, builtin, hs, hx, hrun, Result.andThen]
  exact hK _ _ (h v' w' h1 h2)
theorem below_undrewN1 {w w' : World} (h : Below w.drew.heap.size w.drew w') : Below w.heap.size w w' := ⟨h.os, h.tape, h.output, h.size, h.block⟩
def hexd : ByteArray := { data := #[48, 49, 50, 51, 52, 53, 54, 55, 56, 57, 97, 98, 99, 100, 101, 102] }
theorem hexd_get : ∀ n, n < 16 → hexd.data.toList[n]? = some (UInt8.ofNat (dg n)) := by decide
theorem hex_index (n : Nat) (hn : n < 16) (i : Int) (hi : i = (n : Int)) (w : World) : (Instr.index 9 (.string { data := #[48, 49, 50, 51, 52, 53, 54, 55, 56, 57, 97, 98, 99, 100, 101, 102] }) (.int .u8 i)).run Tryd.prog w = .ok (.int .u8 ((dg n : Nat) : Int)) w := by
  subst hi
  rw [run_index_string w 9 _ .u8 (n : Int) Tryd.underlying9, dif_pos ⟨by omega, by show (n : Int) < 16; omega⟩]
  have h := hexd_get n hn
  have h2 : ∀ m (hm : m < hexd.size), hexd.data.toList[m]? = some hexd[m] := fun m hm => by
    rw [List.getElem?_eq_getElem (by simpa using hm)]; rfl
  have h3 := h2 n hn
  rw [h] at h3
  have h4 := Option.some.inj h3
  show Result.ok (Value.int .u8 ((hexd[n]'hn).toNat : Int)) w = _
  rw [← h4]
  have := dg_lt hn
  simp [Nat.mod_eq_of_lt this]

end Go.Proofs.YtonnnolnkjahgabDoor
