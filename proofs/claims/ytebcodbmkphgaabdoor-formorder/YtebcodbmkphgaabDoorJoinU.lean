/- The contract of the laws' joined: for every list of texts up to a size. -/
import Derived.Test.YtebcodbmkphgaabDoorStrRow
import Derived.Test.YtebcodbmkphgaabDoorOrderMath
namespace Go.Proofs.YtebcodbmkphgaabDoor
open Go.RowKit

theorem less_u (x y : List UInt8) : Op.bytesLess x y = decide (x < y) := by
  induction x generalizing y with
  | nil => cases y <;> simp [Op.bytesLess]
  | cons a x ih =>
    cases y with
    | nil => simp [Op.bytesLess]
    | cons b y =>
      rw [Op.bytesLess, ih]
      simp only [List.cons_lt_cons_iff]
      by_cases h1 : a < b <;> by_cases h2 : a = b <;> by_cases h3 : x < y <;> simp [h1, h2, h3]
theorem u_less {u v : U} (h : u < v) : Op.bytesLess (⟨u.toArray⟩ : ByteArray).toList (⟨v.toArray⟩ : ByteArray).toList = true := by
  rw [Lib.toList_data, Lib.toList_data, less_u]
  simpa using h
theorem u_add (a b : U) (h : a.length + b.length ≤ 4611686018427387904) : ∀ w, (Op.stringOp .add (⟨a.toArray⟩ : ByteArray) ⟨b.toArray⟩).run Tryd.prog w = .ok (.string ⟨(a ++ b).toArray⟩) w := fun w => by
  have := run_string_add_sum (P := Tryd.prog) (w := w) ⟨a.toArray⟩ ⟨b.toArray⟩ (by rw [u_size, u_size]; omega)
  rw [show (⟨a.toArray⟩ : ByteArray) ++ ⟨b.toArray⟩ = ⟨(a ++ b).toArray⟩ by apply ByteArray.ext; rw [ByteArray.data_append]; simp] at this
  exact this

set_option linter.unusedSimpArgs false in
set_option maxHeartbeats 1000000 in
set_option maxRecDepth 100000 in
theorem joined_any (n c : Nat) (ao : Option Addr) (l : List U) (w : World) (hn : n = l.length) (hl : n ≤ 1024) (hz : ∀ u ∈ l, u.length ≤ 256) (hr : SRow w ao l) :
    Calls Tryd.prog 15 #[.slice ao n c] w fun e w' => e = .returned (.string ⟨(joinU l).toArray⟩) ∧ w' = w := by
  have HN : Hid (n = l.length) := hn
  have HR : Hid (SRow w ao l) := hr
  have HZ : Hid (∀ u ∈ l, u.length ≤ 256) := hz
  clear hn hr hz
  go_enter Tryd.func15, Tryd.ntmps15
  go_wp2
  go_loopw [3, 4] (fun v i wr => ∃ (k : Nat) (z : U), k ≤ n ∧ v = .string ⟨z.toArray⟩ ∧ i = .int .i64 k ∧ Hid (z = joinU (l.take k)) ∧ wr = w) (fun _ i _ => n - (intOf i).toNat)
  case atStart => exact ⟨0, [], by omega, rfl, rfl, rfl, rfl⟩
  case round =>
    obtain ⟨k, z, hk, rfl, rfl, HZZ, rfl⟩ := hrel
    by_cases hlt : k < n
    · obtain ⟨b, off, rfl⟩ := HR.out.form (by rw [← HN.out]; omega)
      obtain ⟨u, hu⟩ : ∃ u, l[k]? = some u := ⟨_, List.getElem?_eq_getElem (by rw [← HN.out]; exact hlt)⟩
      have c0 : wr.cell? ⟨b, off + k, none⟩ = some (.string ⟨u.toArray⟩) := HR.out.cell hu
      have HT : Hid (l.take (k + 1) = l.take k ++ [u]) := by show _ = _; rw [List.take_add_one, hu]; rfl
      have HZL : Hid (z.length ≤ 1024 * 257 ∧ u.length ≤ 256) := by
        refine ⟨?_, HZ.out u (List.mem_of_getElem? hu)⟩
        have h1 := joinU_len (M := 256) (l.take k) (fun x hx => HZ.out x (List.mem_of_mem_take hx))
        have h2 : (l.take k).length * (256 + 1) ≤ 1024 * (256 + 1) := Nat.mul_le_mul_right _ (by rw [List.length_take]; omega)
        rw [HZZ.out]; omega
      have li : (k : Int) < (n : Int) := by omega
      clear hu
      by_cases h0 : k = 0
      · subst h0
        rw [Nat.add_zero] at c0
        have HZN : Hid (z = []) := by show _ = _; rw [HZZ.out]; rfl
        have a1 := u_add z u (by have := HZL.out; omega)
        rw [Nat.zero_add, List.take_zero, List.nil_append] at HT
        clear HZZ
        obtain ⟨z3, HZ3⟩ : ∃ z3, Hid (z3 = z ++ u) := ⟨_, hide rfl⟩
        rw [← HZ3.out] at a1
        go_wp2
        go_roundw
        case rel => exact ⟨1, _, by omega, rfl, by go_num, by show _ = _; rw [HT.out, HZ3.out, HZN.out]; rfl, trivial⟩
        case measure => simp [intOf]; omega
      · have h0i : (0 : Int) < (k : Int) := by omega
        obtain ⟨z2, HZ2⟩ : ∃ z2, Hid (z2 = z ++ [32]) := ⟨_, hide rfl⟩
        obtain ⟨z3, HZ3⟩ : ∃ z3, Hid (z3 = z2 ++ u) := ⟨_, hide rfl⟩
        have a1 : ∀ w, (Op.stringOp .add (⟨z.toArray⟩ : ByteArray) { data := #[32] }).run Tryd.prog w = .ok (.string ⟨z2.toArray⟩) w := by rw [HZ2.out]; exact u_add z [32] (by have := HZL.out; simp; omega)
        have a2 : ∀ w, (Op.stringOp .add (⟨z2.toArray⟩ : ByteArray) ⟨u.toArray⟩).run Tryd.prog w = .ok (.string ⟨z3.toArray⟩) w := by rw [HZ3.out]; exact u_add z2 u (by have := HZL.out; rw [HZ2.out]; simp; omega)
        have HPR : Hid (joinU (l.take (k + 1)) = z3) := by
          show _ = _
          rw [HT.out, joinU_snoc, if_neg, HZ3.out, HZ2.out, HZZ.out, List.append_assoc]
          · rfl
          · intro e
            have := congrArg List.length e
            rw [List.length_take, Nat.min_eq_left (by rw [← HN.out]; omega)] at this
            simp at this
            omega
        clear HZZ HT HZ2 HZ3
        go_wp2
        go_roundw
        case rel => exact ⟨k + 1, _, by omega, rfl, by go_num, by show _ = _; rw [HPR.out], trivial⟩
        case measure => simp [intOf]; omega
    · have HF : Hid (z = joinU l) := by
        show _ = _
        rw [HZZ.out, List.take_of_length_le (by rw [← HN.out]; omega)]
      go_wp2
      go_ret
      exact ⟨by rw [← HF.out]; rfl, rfl⟩
end Go.Proofs.YtebcodbmkphgaabDoor
