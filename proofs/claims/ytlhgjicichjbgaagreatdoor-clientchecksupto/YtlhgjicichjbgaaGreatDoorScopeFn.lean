/- The contracts of isScope, strings.Clone and Scopes of the program: for every text. -/
import Derived.Test.YtlhgjicichjbgaaGreatDoorCutFn
import Derived.Test.YtlhgjicichjbgaaGreatDoorScopeMath
import Derived.Sort.OwnSorted
namespace Go.Proofs.YtlhgjicichjbgaaGreatDoor
open Go.RowKit

theorem clone_any (s : ByteArray) (w : World) (hs : s.size ≤ 281474976710656) : Calls Tryz.prog 93 #[.string s] w fun e w' => e = .returned (.string s) ∧ Below w.heap.size w w' := by
  have c : Calls Tryz.prog 124 #[.string s] w fun e w' => e = .returned (.string s) ∧ Below w.heap.size w w' := Any.stringslite_Clone laysM316 s w hs
  go_enter Tryz.func93, Tryz.ntmps93
  go_wp2_with fail
  refine c.mono ?_
  rintro e w' ⟨rfl, hb⟩
  go_wp2
  go_ret
  exact ⟨rfl, hb⟩

def lets : List Nat := [34, 92]
theorem okB_letter (c : UInt8) : okB lets c.toNat = letter c := by
  have h := c.toNat_lt
  unfold okB letter seen lets
  rw [Bool.eq_iff_iff]
  simp
  omega
def isScN (xs : List Nat) : Bool := !xs.isEmpty && xs.all (okB lets)
theorem isScN_eq (s : ByteArray) : isScN (sbytes s) = isSc s.data.toList := by
  unfold isScN isSc sbytes
  congr 1
  · cases s.data.toList <;> rfl
  · rw [List.all_map]
    congr 1
    funext c
    exact okB_letter c
theorem isScN_get {xs : List Nat} (h0 : 0 < xs.length) (h : ∀ j, j < xs.length → okB lets (xs.getD j 0) = true) : isScN xs = true := by
  unfold isScN
  rw [Bool.and_eq_true, List.all_eq_true]
  refine ⟨by cases xs with | nil => simp at h0 | cons => rfl, fun x hx => ?_⟩
  obtain ⟨i, hi, rfl⟩ := List.getElem_of_mem hx
  have := h i hi
  simpa [List.getD, hi] using this
theorem isScN_bad {xs : List Nat} {k : Nat} (hk : k < xs.length) (h : okB lets (xs.getD k 0) = false) : isScN xs = false := by
  unfold isScN
  rw [Bool.and_eq_false_iff]
  right
  rw [List.all_eq_false]
  exact ⟨xs.getD k 0, by simp [List.getD, hk], fun h2 => by rw [h] at h2; cases h2⟩
theorem sbytes_lets : sbytes { data := #[34, 92] } = lets := rfl

set_option maxHeartbeats 400000 in
set_option maxRecDepth 100000 in
theorem isScope_any (b : Nat) (s : ByteArray) (w : World) (hs : s.size ≤ 140737488355328) (hb : w.cell? ⟨b, 0, none⟩ = some (.string { data := #[34, 92] })) :
    Calls Tryz.prog 109 #[.string s, .func (.func 135) #[] #[.pointer (some ⟨b, 0, none⟩)]] w fun e w' => e = .returned (.bool (isScN (sbytes s))) ∧ w' = w := by
  obtain ⟨n, hn⟩ : ∃ n, n = s.size := ⟨_, rfl⟩
  obtain ⟨xs, HX⟩ : ∃ xs, Hid (xs = sbytes s) := ⟨_, rfl⟩
  have HN : Hid (n = xs.length) := by show _ = _; rw [hn, HX.out, sbytes_length]
  rw [← HX.out]
  have HS : Hid (n = s.size) := hn
  have hlen : (s.size : Int) = (n : Int) := by rw [hn]
  rw [← hn] at hs
  have HB : Hid (w.cell? ⟨b, 0, none⟩ = some (.string { data := #[34, 92] })) := hb
  clear hn hb
  go_enter Tryz.func109, Tryz.ntmps109
  go_wp2
  go_loop [8] (fun i => ∃ k : Nat, k ≤ n ∧ i = .int .i64 k ∧ Hid (∀ j, j < k → okB lets (xs.getD j 0) = true)) (fun i => n - (intOf i).toNat)
  case atStart => exact ⟨0, Nat.zero_le _, rfl, fun j hj => by omega⟩
  case round =>
    obtain ⟨k, hk, rfl, HK⟩ := hrel
    by_cases hlt : k < n
    · have hix := str_index s k (by rw [← HS.out]; exact hlt)
      rw [← HX.out] at hix
      have hxk : xs.getD k 0 < 256 := by rw [HX.out]; exact lt_get (sbytes_lt s) k
      have HXK : Hid (okB lets (xs.getD k 0) = false → isScN xs = false) := fun h => isScN_bad (by rw [← HN.out]; exact hlt) h
      have HXN : Hid (okB lets (xs.getD k 0) = true → ∀ j, j < k + 1 → okB lets (xs.getD j 0) = true) := fun h j hj => by
        by_cases hjk : j < k
        · exact HK.out j hjk
        · rw [show j = k by omega]; exact h
      generalize xs.getD k 0 = c at *
      go_wp2_with fail
      refine (seen_any b c { data := #[34, 92] } w (by decide) hxk HB.out).mono ?_
      rintro e w' ⟨rfl, rfl⟩
      rw [sbytes_lets]
      cases hok : okB lets c with
      | true =>
        have HK2 : Hid (∀ j, j < k + 1 → okB lets (xs.getD j 0) = true) := HXN.out hok
        clear HXN HXK HK hok
        go_wp2
        go_round
        case rel => exact ⟨k + 1, by omega, by go_num, HK2⟩
        case measure => simp [intOf]; omega
      | false =>
        have HR : Hid (isScN xs = false) := HXK.out hok
        clear HXN HXK HK hok
        go_wp2
        go_ret
        exact ⟨by rw [HR.out]; rfl, rfl⟩
    · by_cases h0 : n = 0
      · have HR : Hid (isScN xs = false) := by
          show _ = _
          have : xs = [] := List.length_eq_zero_iff.1 (by rw [← HN.out]; exact h0)
          rw [this]; rfl
        have hse : s = { data := #[] } := by
          have h1 : s.data.size = 0 := by have := HS.out; rw [h0] at this; exact this.symm
          cases s
          simp at h1
          rw [h1]
        subst hse
        go_wp2
        go_ret
        exact ⟨by rw [HR.out]; rfl, rfl⟩
      · have HR : Hid (isScN xs = true) := isScN_get (by rw [← HN.out]; omega) (fun j hj => HK.out j (by rw [← HN.out] at hj; omega))
        have hpe : (s.toList == ([] : List UInt8)) = false := by
          have h1 : s.data.toList.length = n := by rw [HS.out]; rfl
          rw [show s.toList = s.data.toList from Lib.toList_data s]
          cases hl : s.data.toList with
          | nil => rw [hl] at h1; simp at h1; omega
          | cons a l => rfl
        go_wp2
        go_ret
        exact ⟨by rw [HR.out]; first | rfl | simp [hpe], rfl⟩
end Go.Proofs.YtlhgjicichjbgaaGreatDoor
