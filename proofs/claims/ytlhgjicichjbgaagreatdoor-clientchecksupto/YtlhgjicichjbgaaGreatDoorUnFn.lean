/- The contracts of visible and its closure, and of Unescape of the program: for every text. -/
import Derived.Test.YtlhgjicichjbgaaGreatDoorDigitFn
namespace Go.Proofs.YtlhgjicichjbgaaGreatDoor
open Go.RowKit

def seen (c : Nat) : Bool := decide (33 ≤ c) && decide (c ≤ 126)
theorem ofNat_toNat (l : List UInt8) : (l.map UInt8.toNat).map (fun n => UInt8.ofNat n) = l := by simp [Function.comp_def]
theorem extract_bstr (s : ByteArray) (a b : Nat) : s.extract a b = bstr (((sbytes s).take b).drop a) := by
  have e : (s.extract a b).data.toList = (s.data.toList.take b).drop a := by
    rw [ByteArray.data_extract, Array.toList_extract, List.extract_eq_take_drop, List.drop_take]
  have e2 : (bstr (((sbytes s).take b).drop a)).data.toList = (s.data.toList.take b).drop a := by
    unfold bstr sbytes
    rw [← List.map_take, ← List.map_drop]
    exact ofNat_toNat _
  have : (s.extract a b).data = (bstr (((sbytes s).take b).drop a)).data := Array.toList_inj.1 (e.trans e2.symm)
  exact ByteArray.ext this
theorem str_from (s : ByteArray) (k : Nat) (i : Int) (hi : i = (k : Int)) (hk : k ≤ s.size) (w : World) : (Instr.slice 9 (.string s) (some (.int .i64 i)) none none).run Tryz.prog w = .ok (.string (bstr ((sbytes s).drop k))) w := by
  subst hi
  rw [run_slice_string_l w 9 s Tryz.underlying9 .i64 (k : Int) (by omega) (by omega), extract_bstr, Int.toNat_natCast, List.take_of_length_le (by rw [sbytes_length]; exact Nat.le_refl _)]
theorem str_mid (s : ByteArray) (a b : Nat) (i j : Int) (hi : i = (a : Int)) (hj : j = (b : Int)) (hab : a ≤ b) (hb : b ≤ s.size) (w : World) : (Instr.slice 9 (.string s) (some (.int .i64 i)) (some (.int .i64 j)) none).run Tryz.prog w = .ok (.string (bstr (((sbytes s).take b).drop a))) w := by
  subst hi; subst hj
  rw [run_slice_string w 9 s .i64 .i64 (a : Int) (b : Int) Tryz.underlying9 (by omega) (by omega) (by omega), extract_bstr, Int.toNat_natCast, Int.toNat_natCast]
set_option maxHeartbeats 400000 in
set_option maxRecDepth 100000 in
theorem visible_any (s : ByteArray) (w : World) : Calls Tryz.prog 108 #[.string s] w fun e w' => e = .returned (.func (.func 135) #[] #[.pointer (some ⟨w.heap.size, 0, none⟩)]) ∧ w' = w.alloc (.cells #[.string s] 9) := by
  have hmf : ∀ (fn : Fn) (first cap : Array Value) (w : World), (Instr.makeFunc fn first cap).run Tryz.prog w = .ok (.func fn first cap) w := fun _ _ _ _ => rfl
  go_enter Tryz.func108, Tryz.ntmps108
  go_wp2
  go_ret
  exact ⟨rfl, rfl⟩
def okB (l : List Nat) (c : Nat) : Bool := !(l.contains c) && seen c
set_option maxHeartbeats 400000 in
set_option maxRecDepth 100000 in
theorem seen_any (b c : Nat) (s : ByteArray) (w : World) (hs : s.size ≤ 1000) (hc : c < 256) (hb : w.cell? ⟨b, 0, none⟩ = some (.string s)) : Calls Tryz.prog 135 #[.int .u8 (c : Int), .pointer (some ⟨b, 0, none⟩)] w fun e w' => e = .returned (.bool (okB (sbytes s) c)) ∧ w' = w := by
  obtain ⟨n, hn⟩ : ∃ n, n = s.size := ⟨_, rfl⟩
  obtain ⟨xs, HX⟩ : ∃ xs, Hid (xs = sbytes s) := ⟨_, rfl⟩
  have HN : Hid (n = xs.length) := by show _ = _; rw [hn, HX.out, sbytes_length]
  rw [← HX.out]
  have HS : Hid (n = s.size) := hn
  have hlen : (s.size : Int) = (n : Int) := by rw [hn]
  rw [← hn] at hs
  clear hn
  go_enter Tryz.func135, Tryz.ntmps135
  go_wp2
  go_loop [7] (fun i => ∃ k : Nat, k ≤ n ∧ i = .int .i64 k ∧ Hid (∀ j, j < k → xs.getD j 0 ≠ c)) (fun i => n - (intOf i).toNat)
  case atStart => exact ⟨0, Nat.zero_le _, rfl, fun j hj => by omega⟩
  case round =>
    obtain ⟨k, hk, rfl, HK⟩ := hrel
    by_cases hlt : k < n
    · have hix := str_index s k (by rw [← HS.out]; exact hlt)
      rw [← HX.out] at hix
      by_cases he : xs.getD k 0 = c
      · have HR : Hid (okB xs c = false) := by
          show _ = _
          have : xs.contains c = true := by
            rw [List.contains_iff_mem, ← he]
            have hl : k < xs.length := by rw [← HN.out]; exact hlt
            simp [List.getD, hl]
          unfold okB; rw [this]; rfl
        rw [he] at hix
        clear HK
        go_wp2
        go_ret
        exact ⟨by rw [HR.out]; rfl, rfl⟩
      · have hne : ((c : Int) == ((xs.getD k 0 : Nat) : Int)) = false := by rw [beq_eq_false_iff_ne]; omega
        have HK2 : Hid (∀ j, j < k + 1 → xs.getD j 0 ≠ c) := fun j hj => by
          by_cases h : j < k
          · exact HK.out j h
          · rw [show j = k by omega]; exact he
        generalize xs.getD k 0 = x at *
        go_wp2
        go_round
        case rel => exact ⟨k + 1, by omega, by go_num, HK2⟩
        case measure => simp [intOf]; omega
    · have HR : Hid (okB xs c = seen c) := by
        show _ = _
        have : xs.contains c = false := by
          rw [Bool.eq_false_iff]
          intro h
          rw [List.contains_iff_mem] at h
          obtain ⟨j, hj, e⟩ := List.getElem_of_mem h
          have := HK.out j (by rw [← HN.out] at hj; omega)
          simp [List.getD, hj, e] at this
        unfold okB; rw [this]; rfl
      clear HK
      by_cases h33 : 33 ≤ c
      · by_cases h126 : c ≤ 126
        · have HV : Hid (seen c = true) := by show _ = _; simp [seen, h33, h126]
          go_wp2
          go_ret
          exact ⟨by rw [HR.out, HV.out]; first | rfl | (simp; omega), rfl⟩
        · have HV : Hid (seen c = false) := by show _ = _; simp [seen, h126]
          go_wp2
          go_ret
          exact ⟨by rw [HR.out, HV.out]; first | rfl | (simp; omega), rfl⟩
      · have HV : Hid (seen c = false) := by show _ = _; simp [seen, h33]
        go_wp2
        go_ret
        exact ⟨by rw [HR.out, HV.out]; first | rfl | (simp; omega), rfl⟩
end Go.Proofs.YtlhgjicichjbgaaGreatDoor
