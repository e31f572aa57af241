/- What is read back of what Save tells: the register, the block, the size; slices of a row. -/
import Derived.Test.YtjdglpfjemoodaaDoorLoadFn
import Derived.Test.YtjdglpfjemoodaaDoorCopyFn
namespace Go.Proofs.YtjdglpfjemoodaaDoor
open Go.RowKit

theorem list_of8 {R : List Nat} (h : R.length = 8) : ∃ a b c d e f g k, R = [a, b, c, d, e, f, g, k] := by
  match R, h with
  | [a, b, c, d, e, f, g, k], _ => exact ⟨a, b, c, d, e, f, g, k, rfl⟩
theorem be4_bytes (a : Nat) (h : a < 4294967296) : be4 (a / 16777216 % 256) (a / 65536 % 256) (a / 256 % 256) (a % 256) = a := by unfold be4; omega
theorem regOf_app (R t : List Nat) (h : R.length = 8) (hR : ∀ x ∈ R, x < 4294967296) : regOf (regBytes R ++ t) = R := by
  obtain ⟨a, b, c, d, e, f, g, k, rfl⟩ := list_of8 h
  have e1 := be4_bytes a (hR a (by simp))
  have e2 := be4_bytes b (hR b (by simp))
  have e3 := be4_bytes c (hR c (by simp))
  have e4 := be4_bytes d (hR d (by simp))
  have e5 := be4_bytes e (hR e (by simp))
  have e6 := be4_bytes f (hR f (by simp))
  have e7 := be4_bytes g (hR g (by simp))
  have e8 := be4_bytes k (hR k (by simp))
  simp [regOf, regBytes, bytesOf, word4, List.range_succ_eq_map, e1, e2, e3, e4, e5, e6, e7, e8]
theorem num8_eight (N : Nat) (h : N < 18446744073709551616) : num8 (eight N) = N := by
  simp [num8, word4, be4, eight, List.range_succ_eq_map]
  omega
theorem saved_reg (r bs : List Nat) (past : Nat) (h : r.length = 8) (hr : ∀ x ∈ r, x < 4294967296) : regOf (saved r past bs) = absorb r bs := by
  unfold saved
  rw [List.append_assoc]
  exact regOf_app _ _ (absorb_length bs h) (absorb_lt bs hr)
theorem regBytes32 (r bs : List Nat) (h : r.length = 8) : (regBytes (absorb r bs)).length = 32 := by rw [regBytes_length, absorb_length bs h]
theorem saved_blk (r bs : List Nat) (past : Nat) (h : r.length = 8) : ((saved r past bs).drop 32).take 64 = hold bs := by
  unfold saved
  rw [List.append_assoc, List.drop_left' (regBytes32 r bs h), List.take_left' (hold_length bs)]
theorem saved_num (r bs : List Nat) (past : Nat) (h : r.length = 8) (hN : past + bs.length < 18446744073709551616) : num8 ((saved r past bs).drop 96) = past + bs.length := by
  unfold saved
  rw [List.drop_left' (by rw [List.length_append, regBytes32 r bs h, hold_length]), num8_eight _ hN]
theorem saved_length (r bs : List Nat) (past : Nat) (h : r.length = 8) : (saved r past bs).length = 104 := by
  unfold saved
  rw [List.length_append, List.length_append, regBytes32 r bs h, hold_length, eight_length]
theorem bytesOf_lt (n : Nat) : ∀ x ∈ bytesOf n, x < 256 := by
  intro x hx
  simp only [bytesOf, List.mem_cons, List.not_mem_nil, or_false] at hx
  omega
theorem saved_lt (r bs : List Nat) (past : Nat) (hb : ∀ x ∈ bs, x < 256) : ∀ x ∈ saved r past bs, x < 256 := by
  unfold saved
  refine lt_append (lt_append ?_ (hold_lt hb)) (eight_lt _)
  intro x hx
  obtain ⟨y, _, hx⟩ := List.mem_flatMap.1 hx
  exact bytesOf_lt y x hx
/-- What was saved may be loaded. -/
theorem saved_ok (r bs : List Nat) (past : Nat) (h : r.length = 8) (hr : ∀ x ∈ r, x < 4294967296) (hp : past % 64 = 0) (hN : past + bs.length ≤ 1152921504606846976) (h0 : past = 0 → r = first8) : loadErr (saved r past bs) = 0 := by
  unfold loadErr
  rw [saved_length r bs past h, if_neg (by decide), if_neg (by decide), saved_reg r bs past h hr, saved_blk r bs past h, saved_num r bs past h (by omega), if_pos]
  unfold okSaved
  have h1 : decide (past + bs.length ≤ 1152921504606846976) = true := decide_eq_true hN
  have h2 : ((hold bs).drop ((past + bs.length) % 64)).all (· == 0) = true := by
    unfold hold
    rw [List.drop_left' (by rw [rest_length]; omega)]
    rw [List.all_eq_true]
    intro x hx
    simp [List.eq_of_mem_replicate hx]
  have h3 : (decide (64 ≤ past + bs.length) || decide (absorb r bs = first8)) = true := by
    by_cases h64 : 64 ≤ past + bs.length
    · rw [decide_eq_true h64]; rfl
    · rw [absorb_short r bs (by omega), decide_eq_true (h0 (by omega))]; simp
  rw [h1, h2, h3]
  rfl
theorem slice_to_any (ao : Option Addr) (n cap m : Nat) (i : Int) (hi : i = (m : Int)) (hm : m ≤ n) (hn : n ≤ cap) :
    ∃ ao', (∀ w, (Instr.slice 26 (.slice ao n cap) none (some (.int .i64 i)) none).run Tryd.prog w = .ok (.slice ao' m cap) w) ∧ (∀ W xs, n = xs.length → Row W ao xs → Row W ao' (xs.take m)) := by
  subst hi
  cases ao with
  | none => exact ⟨none, fun w => by rw [run_slice_h w 26 none n cap underBytes .i64 (m : Int) (by omega) (by omega), sizeRun]; simp [Result.andThen, sliced], fun W xs hn hr => hr.takeN m⟩
  | some a =>
    refine ⟨some a, fun w => ?_, fun W xs _ hr => hr.takeN m⟩
    rw [run_slice_h w 26 (some a) n cap underBytes .i64 (m : Int) (by omega) (by omega), sizeRun]
    simp [Result.andThen, sliced, Addr.add]
theorem slice_mid_any (ao : Option Addr) (n cap l m : Nat) (i j : Int) (hi : i = (l : Int)) (hj : j = (m : Int)) (hl : l ≤ m) (hm : m ≤ n) (hn : n ≤ cap) :
    ∃ ao', (∀ w, (Instr.slice 26 (.slice ao n cap) (some (.int .i64 i)) (some (.int .i64 j)) none).run Tryd.prog w = .ok (.slice ao' (m - l) (cap - l)) w) ∧ (∀ W xs, n = xs.length → Row W ao xs → Row W ao' ((xs.drop l).take (m - l))) := by
  subst hi; subst hj
  cases ao with
  | none =>
    refine ⟨none, fun w => ?_, fun W xs hn hr => ?_⟩
    · rw [run_slice_lh w 26 none n cap underBytes .i64 .i64 (l : Int) (m : Int) (by omega) (by omega) (by omega), sizeRun]
      simp [Result.andThen, sliced]
    · rcases hr with rfl | ⟨_, _, h, _⟩
      · exact .inl (by simp)
      · cases h
  | some a =>
    refine ⟨some (if cap = l then a else a.add l), fun w => ?_, fun W xs hn hr => ?_⟩
    · rw [run_slice_lh w 26 (some a) n cap underBytes .i64 .i64 (l : Int) (m : Int) (by omega) (by omega) (by omega), sizeRun]
      simp [Result.andThen, sliced]
      split <;> rfl
    · rcases hr with rfl | ⟨b, off, h, hc⟩
      · exact .inl (by simp)
      · cases h
        by_cases hcl : cap = l
        · rw [if_pos hcl]; exact .inl (List.eq_nil_of_length_eq_zero (by rw [List.length_take, List.length_drop]; omega))
        · rw [if_neg hcl, show (⟨b, off, none⟩ : Addr).add l = ⟨b, off + l, none⟩ by unfold Addr.add; split <;> simp_all]
          exact (Row.dropN (.inr ⟨b, off, rfl, hc⟩) l).takeN _
theorem slice_from_any (ao : Option Addr) (n cap l : Nat) (i : Int) (hi : i = (l : Int)) (hl : l ≤ n) (hn : n ≤ cap) :
    ∃ ao', (∀ w, (Instr.slice 26 (.slice ao n cap) (some (.int .i64 i)) none none).run Tryd.prog w = .ok (.slice ao' (n - l) (cap - l)) w) ∧ (∀ W xs, n = xs.length → Row W ao xs → Row W ao' (xs.drop l)) := by
  subst hi
  cases ao with
  | none =>
    refine ⟨none, fun w => ?_, fun W xs hn hr => ?_⟩
    · rw [run_slice_l w 26 none n cap underBytes .i64 (l : Int) (by omega) (by omega), sizeRun]
      simp [Result.andThen, sliced]
    · rcases hr with rfl | ⟨_, _, h, _⟩
      · exact .inl (by simp)
      · cases h
  | some a =>
    refine ⟨some (if cap = l then a else a.add l), fun w => ?_, fun W xs hn hr => ?_⟩
    · rw [run_slice_l w 26 (some a) n cap underBytes .i64 (l : Int) (by omega) (by omega), sizeRun]
      simp [Result.andThen, sliced]
      split <;> rfl
    · rcases hr with rfl | ⟨b, off, h, hc⟩
      · exact .inl (by simp)
      · cases h
        by_cases hcl : cap = l
        · rw [if_pos hcl]; exact .inl (List.eq_nil_of_length_eq_zero (by rw [List.length_drop]; omega))
        · rw [if_neg hcl, show (⟨b, off, none⟩ : Addr).add l = ⟨b, off + l, none⟩ by unfold Addr.add; split <;> simp_all]
          exact Row.dropN (.inr ⟨b, off, rfl, hc⟩) l
end Go.Proofs.YtjdglpfjemoodaaDoor
