/- The contracts of the disk's smallest functions. -/
import Derived.Test.YticbfcognnofbaaDRep
namespace Go.Proofs.Yticbfcognnofbaa
open Go.RowKit Go.Maps

theorem ret_int {k : IntKind} {a b : Int} (h : a = b) : Ending.returned (.int k a) = .returned (.int k b) := by rw [h]
theorem ret_bool {a b : Bool} (h : a = b) : Ending.returned (.bool a) = .returned (.bool b) := by rw [h]

set_option maxHeartbeats 400000 in
theorem within_any (n : Int) (most : Nat) (w : World) (hm : most ≤ 9223372036854775807) :
    Calls Try.prog 58 #[.int .i64 n, .int .i64 (most : Int)] w fun e w' => e = .returned (.int .i64 (part n most : Int)) ∧ w' = w := by
  obtain ⟨r, hr⟩ : ∃ r : Int, r = part n most := ⟨_, rfl⟩
  rw [← hr]
  have HR : Hid (r = min (max n 0) (most : Int)) := by show _ = _; rw [hr]; unfold part; omega
  clear hr
  go_enter Try.func58, Try.ntmps58
  go_wp2
  all_goals
    go_ret
    exact ⟨ret_int (by rw [HR.out]; omega), rfl⟩
set_option maxHeartbeats 400000 in
theorem mayStand_any (c : Nat) (w : World) (hc : c < 256) :
    Calls Try.prog 77 #[.int .u8 (c : Int)] w fun e w' => e = .returned (.bool (mayB c)) ∧ w' = w := by
  have HP := hide (show mayB c = mayB c from rfl)
  obtain ⟨r, hr⟩ : ∃ r, r = mayB c := ⟨_, rfl⟩
  rw [← hr]
  have HR := hide hr
  clear hr HP
  by_cases h1 : 97 ≤ c <;> by_cases h2 : c ≤ 122 <;> by_cases h3 : 48 ≤ c <;> by_cases h4 : c ≤ 57 <;> by_cases h5 : c = 46 <;> by_cases h6 : c = 45 <;> by_cases h7 : c = 95
  all_goals first | (exfalso; omega) | skip
  all_goals
    go_enter Try.func77, Try.ntmps77
    go_wp2
    go_ret
    exact ⟨ret_bool (by rw [HR.out]; first | (simp [mayB, *]; done) | (simp [mayB, *]; omega)), rfl⟩
theorem nm_all (nm : Nm) : (nm.all fun c => mayB c.toNat) = true ↔ ∀ j, j < nm.length → mayB ((sbytes (str nm)).getD j 0) = true := by
  rw [List.all_eq_true]
  have e : ∀ j (h : j < nm.length), (sbytes (str nm)).getD j 0 = nm[j].toNat := fun j h => by simp [sbytes, str, List.getD, h]
  constructor
  · intro h j hj
    rw [e j hj]
    exact h _ (List.getElem_mem hj)
  · intro h c hc
    obtain ⟨j, hj, rfl⟩ := List.getElem_of_mem hc
    have := h j hj
    rwa [e j hj] at this
theorem isNm_str (nm : Nm) : isNm nm = (decide (nm ≠ []) && decide (nm.length ≤ 32) && (nm.all fun c => mayB c.toNat)) := rfl
theorem str_nil : str [] = { data := #[] } := rfl
theorem str_toList (nm : Nm) : (str nm).toList = nm := by simp [str]
set_option maxHeartbeats 1000000 in
theorem isName_any (nm : Nm) (w : World) (hl : nm.length ≤ maxLen) :
    Calls Try.prog 63 #[.string (str nm)] w fun e w' => e = .returned (.bool (isNm nm)) ∧ w' = w := by
  unfold maxLen at hl
  by_cases h0 : nm = []
  · subst h0
    rw [str_nil]
    go_enter Try.func63, Try.ntmps63
    go_wp2
    go_ret
    exact ⟨rfl, rfl⟩
  obtain ⟨n, hn⟩ : ∃ n, n = nm.length := ⟨_, rfl⟩
  have hs : (str nm).size = n := by rw [str_size, hn]
  have he : (str nm).toList.isEmpty = false := by rw [str_toList]; simpa using h0
  have he2 : ¬ (str nm).toList = [] := by rw [str_toList]; exact h0
  obtain ⟨r, hr⟩ : ∃ r, r = isNm nm := ⟨_, rfl⟩
  have HR : Hid (r = (decide (n ≤ 32) && (nm.all fun c => mayB c.toNat))) := by show _ = _; rw [hr, isNm_str, decide_eq_true h0, Bool.true_and, hn]
  rw [← hr]
  have HN := hide hn
  have HX : ∀ k, k < n → ∀ w, (Instr.index 9 (.string (str nm)) (.int .i64 (k : Int))).run Try.prog w = .ok (.int .u8 (((sbytes (str nm)).getD k 0 : Nat) : Int)) w := fun k hk w => str_index _ _ (by rw [hs]; exact hk) w
  have HB : Hid (∀ k, (sbytes (str nm)).getD k 0 < 256) := lt_get (sbytes_lt _)
  have HA := hide (nm_all nm)
  rw [← hn] at hl HA
  clear hr hn h0
  by_cases h32 : n ≤ 32
  · go_enter Try.func63, Try.ntmps63
    go_wp2
    go_loop [13] (fun i => ∃ k : Nat, k ≤ n ∧ i = .int .i64 k ∧ Hid (∀ j, j < k → mayB ((sbytes (str nm)).getD j 0) = true)) (fun i => n - (intOf i).toNat)
    case atStart => exact ⟨0, Nat.zero_le _, rfl, fun j hj => by omega⟩
    case round =>
      obtain ⟨k, hk, rfl, HK⟩ := hrel
      by_cases hlt : k < n
      · have hx := HX k hlt
        clear HX
        have HC := hide (mayStand_any ((sbytes (str nm)).getD k 0) w (HB.out k))
        generalize hq : mayB ((sbytes (str nm)).getD k 0) = q at HC
        have HQ := hide hq
        clear hq
        cases q with
        | true =>
          go_wp2_with (go_at_call 77; refine HC.out.mono ?_; rintro e w' ⟨rfl, rfl⟩)
          go_round
          case rel => exact ⟨k + 1, by omega, by go_num, fun j hj => by rcases Nat.lt_or_eq_of_le (Nat.le_of_lt_succ hj) with h | h; exact HK.out j h; rw [h]; exact HQ.out⟩
          case measure => simp [intOf]; omega
        | false =>
          go_wp2_with (go_at_call 77; refine HC.out.mono ?_; rintro e w' ⟨rfl, rfl⟩)
          go_ret
          exact ⟨ret_bool (by rw [HR.out, decide_eq_true h32, Bool.true_and]; symm; rw [Bool.eq_false_iff]; intro h; rw [HA.out.1 h k hlt] at HQ; exact absurd HQ.out (by decide)), rfl⟩
      · go_wp2
        go_ret
        exact ⟨ret_bool (by rw [HR.out, decide_eq_true h32, Bool.true_and]; symm; exact HA.out.2 fun j hj => HK.out j (by omega)), rfl⟩
  · go_enter Try.func63, Try.ntmps63
    go_wp2
    go_ret
    exact ⟨ret_bool (by rw [HR.out, decide_eq_false h32]; rfl), rfl⟩
end Go.Proofs.Yticbfcognnofbaa
