/- A text's bytes. -/
import Derived.Test.YtonnnolnkjahgabDoorSmall
namespace Go.Proofs.YtonnnolnkjahgabDoor
open Go.RowKit

/-- A text's bytes. -/
def sbytes (s : ByteArray) : List Nat := s.data.toList.map UInt8.toNat
theorem sbytes_length (s : ByteArray) : (sbytes s).length = s.size := by unfold sbytes; rw [List.length_map, Array.length_toList]; rfl
theorem sbytes_lt (s : ByteArray) : ∀ x ∈ sbytes s, x < 256 := by
  intro x hx
  obtain ⟨b, _, rfl⟩ := List.mem_map.1 hx
  exact b.toNat_lt
theorem sbytes_bstr {xs : List Nat} (hx : ∀ x ∈ xs, x < 256) : sbytes (bstr xs) = xs := by
  simp only [sbytes, bstr, List.map_map]
  conv => rhs; rw [← List.map_id xs]
  apply List.map_congr_left
  intro x hm
  have := hx x hm
  simp
  omega
theorem bstr_sbytes (s : ByteArray) : bstr (sbytes s) = s := by
  cases s
  simp [sbytes, bstr, Function.comp_def]
theorem bstr_size (xs : List Nat) : (bstr xs).size = xs.length := by unfold bstr ByteArray.size; simp
theorem str_index (s : ByteArray) (k : Nat) (hk : k < s.size) (w : World) : (Instr.index 9 (.string s) (.int .i64 (k : Int))).run Tryd.prog w = .ok (.int .u8 (((sbytes s).getD k 0 : Nat) : Int)) w := by
  rw [run_index_string w 9 s .i64 (k : Int) Tryd.underlying9, dif_pos ⟨by omega, by omega⟩]
  have e : (sbytes s).getD k 0 = (s[k]).toNat := by
    have h2 : s.data.toList[k]? = some s[k] := by rw [List.getElem?_eq_getElem (by simpa using hk)]; rfl
    simp [sbytes, List.getD, h2]
  rw [e]
  simp
theorem stake_getD {xs : List Nat} {k : Nat} (h : k < xs.length) : xs.take (k + 1) = xs.take k ++ [xs.getD k 0] := by
  rw [List.take_succ_eq_append_getElem h]; simp [List.getD, h]
theorem drop_getD {xs : List Nat} {k : Nat} (h : k < xs.length) : xs.drop k = xs.getD k 0 :: xs.drop (k + 1) := by
  rw [List.drop_eq_getElem_cons h]; simp [List.getD, h]
theorem row_n (w : World) (xs : List Nat) : Row (w.alloc (.cells (xs.map bv).toArray 5)) (some ⟨w.heap.size, 0, none⟩) xs := by
  refine .inr ⟨_, _, rfl, fun i hi => ?_⟩
  rw [Nat.zero_add, World.cell?_alloc_at _ _ _ _ rfl]
  simp [hi, bv]

end Go.Proofs.YtonnnolnkjahgabDoor
