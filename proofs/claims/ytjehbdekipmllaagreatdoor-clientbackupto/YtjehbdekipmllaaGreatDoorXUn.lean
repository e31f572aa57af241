/- The contracts of digitOf, twoDigits, visible and its closure: for every byte. The contracts of visible and its closure, and of Unescape of the program: for every text. The contract of Unescape of the program: for every text. -/
import Derived.Test.YtjehbdekipmllaaGreatDoorXBase
import Derived.Test.YtjehbdekipmllaaGreatDoorXMath
import Derived.Test.YtjehbdekipmllaaGreatDoorXStep
namespace Go.Proofs.YtjehbdekipmllaaGreatDoor
open Go.RowKit

set_option maxHeartbeats 400000 in
set_option maxRecDepth 100000 in
theorem digitOf_any (c : Nat) (w : World) (hc : c < 256) : Calls Tryz.prog 160 #[.int .u8 (c : Int)] w fun e w' => e = .returned (.tuple #[.int .u8 (((hx c).getD 0 : Nat) : Int), .bool (hx c).isSome]) ∧ w' = w := by
  rcases (show (0 ≤ c ∧ c ≤ 47) ∨ (48 ≤ c ∧ c ≤ 57) ∨ (58 ≤ c ∧ c ≤ 64) ∨ (65 ≤ c ∧ c ≤ 70) ∨ (71 ≤ c ∧ c ≤ 96) ∨ (97 ≤ c ∧ c ≤ 102) ∨ (103 ≤ c ∧ c ≤ 255) by omega) with h | h | h | h | h | h | h
  · have e : hx c = none := by unfold hx; rw [if_neg (by omega), if_neg (by omega), if_neg (by omega)]
    rw [e]
    obtain ⟨a1, a2⟩ := h
    go_enter Tryz.func160, Tryz.ntmps160
    go_wp2
    go_ret2
    exact ⟨rfl, rfl⟩
  · have e : hx c = some (c - 48) := by unfold hx; rw [if_pos (by omega)]
    have HE : Hid (((c - 48 : Nat) : Int) = (c : Int) - 48) := by show _ = _; omega
    rw [e]
    obtain ⟨a1, a2⟩ := h
    go_enter Tryz.func160, Tryz.ntmps160
    go_wp2
    go_ret2
    exact ⟨by simp [HE.out], rfl⟩
  · have e : hx c = none := by unfold hx; rw [if_neg (by omega), if_neg (by omega), if_neg (by omega)]
    rw [e]
    obtain ⟨a1, a2⟩ := h
    go_enter Tryz.func160, Tryz.ntmps160
    go_wp2
    go_ret2
    exact ⟨rfl, rfl⟩
  · have e : hx c = some (c - 55) := by unfold hx; rw [if_neg (by omega), if_neg (by omega), if_pos (by omega)]
    have HE : Hid (((c - 55 : Nat) : Int) = (c : Int) - 65 + 10) := by show _ = _; omega
    rw [e]
    obtain ⟨a1, a2⟩ := h
    go_enter Tryz.func160, Tryz.ntmps160
    go_wp2
    go_ret2
    exact ⟨by simp [HE.out], rfl⟩
  · have e : hx c = none := by unfold hx; rw [if_neg (by omega), if_neg (by omega), if_neg (by omega)]
    rw [e]
    obtain ⟨a1, a2⟩ := h
    go_enter Tryz.func160, Tryz.ntmps160
    go_wp2
    go_ret2
    exact ⟨rfl, rfl⟩
  · have e : hx c = some (c - 87) := by unfold hx; rw [if_neg (by omega), if_pos (by omega)]
    have HE : Hid (((c - 87 : Nat) : Int) = (c : Int) - 97 + 10) := by show _ = _; omega
    rw [e]
    obtain ⟨a1, a2⟩ := h
    go_enter Tryz.func160, Tryz.ntmps160
    go_wp2
    go_ret2
    exact ⟨by simp [HE.out], rfl⟩
  · have e : hx c = none := by unfold hx; rw [if_neg (by omega), if_neg (by omega), if_neg (by omega)]
    rw [e]
    obtain ⟨a1, a2⟩ := h
    go_enter Tryz.func160, Tryz.ntmps160
    go_wp2
    go_ret2
    exact ⟨rfl, rfl⟩
/-- Two digits at a text's beginning. -/
def two (l : List Nat) : Option Nat := match l with
  | a :: b :: _ => match hx a, hx b with
    | some x, some y => some (16 * x + y)
    | _, _ => none
  | _ => none
theorem shl4 (x : Nat) (hx : x < 16) : IntKind.u8.wrap ((x : Int) * 16) = ((16 * x : Nat) : Int) := by rw [wraps_u8 _ (by omega) (by omega)]; omega
theorem or4 (x y : Nat) (hx : x < 16) (hy : y < 16) : bits BinOp.or IntKind.u8 ((16 * x : Nat) : Int) (y : Int) = ((16 * x + y : Nat) : Int) := by
  have h := u8_or_nat (16 * x) y (by omega) (by omega)
  rw [h]
  congr 1
  have := Nat.two_pow_add_eq_or_of_lt (i := 4) (b := y) (by simpa using hy) x
  simp only [Nat.reducePow] at this
  omega
set_option maxHeartbeats 400000 in
set_option maxRecDepth 100000 in
theorem twoDigits_any (s : ByteArray) (w : World) (hl : s.size ≤ 140737488355328) : Calls Tryz.prog 146 #[.string s] w fun e w' => ∃ n : Nat, e = .returned (.tuple #[.int .u8 (n : Int), .bool (two (sbytes s)).isSome]) ∧ Hid (∀ m, two (sbytes s) = some m → n = m) ∧ w' = w := by
  obtain ⟨l, HX⟩ : ∃ l, Hid (l = sbytes s) := ⟨_, rfl⟩
  have hlen : (s.size : Int) = (l.length : Int) := by rw [HX.out, sbytes_length]
  have hz : s.size = l.length := by omega
  rw [← HX.out]
  match l, HX, hlen, hz with
  | [], HX, hlen, hz =>
    simp only [List.length_nil] at hlen
    clear hz
    go_enter Tryz.func146, Tryz.ntmps146
    go_wp2
    go_ret2
    exact ⟨0, rfl, fun m h => by simp [two] at h, rfl⟩
  | [a], HX, hlen, hz =>
    simp only [List.length_cons, List.length_nil] at hlen
    clear hz
    go_enter Tryz.func146, Tryz.ntmps146
    go_wp2
    go_ret2
    exact ⟨0, rfl, fun m h => by simp [two] at h, rfl⟩
  | a :: b :: r, HX, hlen, hz =>
    have i0 : ∀ w, (Instr.index 9 (.string s) (.int .i64 0)).run Tryz.prog w = .ok (.int .u8 (a : Int)) w := fun w => by
      have h := str_index s 0 (by rw [hz]; simp) w
      rw [← HX.out] at h
      exact h
    have i1 : ∀ w, (Instr.index 9 (.string s) (.int .i64 1)).run Tryz.prog w = .ok (.int .u8 (b : Int)) w := fun w => by
      have h := str_index s 1 (by rw [hz]; simp) w
      rw [← HX.out] at h
      exact h
    have ha : a < 256 := by have := sbytes_lt s a; rw [← HX.out] at this; exact this (by simp)
    have hb : b < 256 := by have := sbytes_lt s b; rw [← HX.out] at this; exact this (by simp)
    have hge : (2 : Int) ≤ s.size := by rw [hlen]; simp; omega
    clear hlen hz
    cases h1 : hx a with
    | none =>
      have HR : Hid (two (a :: b :: r) = none) := by show _ = _; unfold two; simp [h1]
      rw [HR.out]
      have HA : Hid (hx a = none) := h1
      clear h1
      obtain ⟨y, HY⟩ : ∃ y, Hid (y = (hx b).getD 0) := ⟨_, rfl⟩
      obtain ⟨q, HQ⟩ : ∃ q, Hid (q = (hx b).isSome) := ⟨_, rfl⟩
      go_enter Tryz.func146, Tryz.ntmps146
      go_wp2_with fail
      refine (digitOf_any a w ha).mono ?_
      rintro e w' ⟨rfl, rfl⟩
      rw [HA.out]
      go_wp2_with fail
      refine (digitOf_any b w' hb).mono ?_
      rintro e w2 ⟨rfl, rfl⟩
      rw [← HY.out, ← HQ.out]
      have hy : y < 16 := by rw [HY.out]; cases h : hx b with | none => simp | some y => exact hx_lt h
      have O4 : Hid (bits BinOp.or IntKind.u8 0 (y : Int) = (y : Int)) := by
        have h := or4 0 y (by omega) hy
        rw [Nat.mul_zero, Nat.zero_add] at h
        exact h
      go_wp2
      go_ret2
      exact ⟨y, by simp [O4.out], (by show ∀ m, none = some m → y = m; intro m h; cases h), rfl⟩
    | some x =>
      have hx16 := hx_lt h1
      cases h2 : hx b with
      | none =>
        have HR : Hid (two (a :: b :: r) = none) := by show _ = _; unfold two; simp [h1, h2]
        rw [HR.out]
        have HA : Hid (hx a = some x) := h1
        have HC : Hid (hx b = none) := h2
        clear h1 h2
        have s4 := shl4 x hx16
        have O4 : Hid (bits BinOp.or IntKind.u8 (16 * (x : Int)) 0 = 16 * (x : Int)) := by
          have h := or4 x 0 hx16 (by omega)
          rw [Nat.add_zero, show ((16 * x : Nat) : Int) = 16 * (x : Int) by omega] at h
          exact h
        go_enter Tryz.func146, Tryz.ntmps146
        go_wp2_with fail
        refine (digitOf_any a w ha).mono ?_
        rintro e w' ⟨rfl, rfl⟩
        rw [HA.out]
        go_wp2_with fail
        refine (digitOf_any b w' hb).mono ?_
        rintro e w2 ⟨rfl, rfl⟩
        rw [HC.out]
        go_wp2
        go_ret2
        exact ⟨16 * x, by simp [O4.out], (by show ∀ m, none = some m → 16 * x = m; intro m h; cases h), rfl⟩
      | some y =>
        have hy := hx_lt h2
        have HR : Hid (two (a :: b :: r) = some (16 * x + y)) := by show _ = _; unfold two; simp [h1, h2]
        rw [HR.out]
        have HA : Hid (hx a = some x) := h1
        have HC : Hid (hx b = some y) := h2
        clear h1 h2
        have s4 := shl4 x hx16
        have O4 : Hid (bits BinOp.or IntKind.u8 (16 * (x : Int)) (y : Int) = 16 * (x : Int) + y) := by
          have h := or4 x y hx16 hy
          rw [show ((16 * x : Nat) : Int) = 16 * (x : Int) by omega, show ((16 * x + y : Nat) : Int) = 16 * (x : Int) + y by omega] at h
          exact h
        go_enter Tryz.func146, Tryz.ntmps146
        go_wp2_with fail
        refine (digitOf_any a w ha).mono ?_
        rintro e w' ⟨rfl, rfl⟩
        rw [HA.out]
        go_wp2_with fail
        refine (digitOf_any b w' hb).mono ?_
        rintro e w2 ⟨rfl, rfl⟩
        rw [HC.out]
        go_wp2
        go_ret2
        exact ⟨16 * x + y, by simp [O4.out], (by show ∀ m, some (16 * x + y) = some m → 16 * x + y = m; intro m h; cases h; rfl), rfl⟩
end Go.Proofs.YtjehbdekipmllaaGreatDoor
namespace Go.Proofs.YtjehbdekipmllaaGreatDoor
open Go.RowKit

def seen (c : Nat) : Bool := decide (33 ≤ c) && decide (c ≤ 126)
theorem ofNat_toNat (l : List UInt8) : (l.map UInt8.toNat).map (fun n => UInt8.ofNat n) = l := by simp [Function.comp_def]
theorem extract_bstr (s : ByteArray) (a b : Nat) : s.extract a b = bstr (((sbytes s).take b).drop a) := by
  have e : (s.extract a b).data.toList = (s.data.toList.take b).drop a := by
    rw [ByteArray.data_extract, Array.toList_extract, List.extract_eq_take_drop, List.drop_take]
  have e2 : (bstr (((sbytes s).take b).drop a)).data.toList = (s.data.toList.take b).drop a := by
    unfold bstr sbytes
    rw [← List.map_take, ← List.map_drop]
    exact ofNat_toNat _
  have : (s.extract a b).data = (bstr (((sbytes s).take b).drop a)).data := Array.toList_inj.1 (e.trans e2.symm)
  exact ByteArray.ext this
theorem str_from (s : ByteArray) (k : Nat) (i : Int) (hi : i = (k : Int)) (hk : k ≤ s.size) (w : World) : (Instr.slice 9 (.string s) (some (.int .i64 i)) none none).run Tryz.prog w = .ok (.string (bstr ((sbytes s).drop k))) w := by
  subst hi
  rw [run_slice_string_l w 9 s Tryz.underlying9 .i64 (k : Int) (by omega) (by omega), extract_bstr, Int.toNat_natCast, List.take_of_length_le (by rw [sbytes_length]; exact Nat.le_refl _)]
theorem str_mid (s : ByteArray) (a b : Nat) (i j : Int) (hi : i = (a : Int)) (hj : j = (b : Int)) (hab : a ≤ b) (hb : b ≤ s.size) (w : World) : (Instr.slice 9 (.string s) (some (.int .i64 i)) (some (.int .i64 j)) none).run Tryz.prog w = .ok (.string (bstr (((sbytes s).take b).drop a))) w := by
  subst hi; subst hj
  rw [run_slice_string w 9 s .i64 .i64 (a : Int) (b : Int) Tryz.underlying9 (by omega) (by omega) (by omega), extract_bstr, Int.toNat_natCast, Int.toNat_natCast]
set_option maxHeartbeats 400000 in
set_option maxRecDepth 100000 in
theorem visible_any (s : ByteArray) (w : World) : Calls Tryz.prog 86 #[.string s] w fun e w' => e = .returned (.func (.func 109) #[] #[.pointer (some ⟨w.heap.size, 0, none⟩)]) ∧ w' = w.alloc (.cells #[.string s] 9) := by
  have hmf : ∀ (fn : Fn) (first cap : Array Value) (w : World), (Instr.makeFunc fn first cap).run Tryz.prog w = .ok (.func fn first cap) w := fun _ _ _ _ => rfl
  go_enter Tryz.func86, Tryz.ntmps86
  go_wp2
  go_ret
  exact ⟨rfl, rfl⟩
def okB (l : List Nat) (c : Nat) : Bool := !(l.contains c) && seen c
set_option maxHeartbeats 400000 in
set_option maxRecDepth 100000 in
theorem seen_any (b c : Nat) (s : ByteArray) (w : World) (hs : s.size ≤ 1000) (hc : c < 256) (hb : w.cell? ⟨b, 0, none⟩ = some (.string s)) : Calls Tryz.prog 109 #[.int .u8 (c : Int), .pointer (some ⟨b, 0, none⟩)] w fun e w' => e = .returned (.bool (okB (sbytes s) c)) ∧ w' = w := by
  obtain ⟨n, hn⟩ : ∃ n, n = s.size := ⟨_, rfl⟩
  obtain ⟨xs, HX⟩ : ∃ xs, Hid (xs = sbytes s) := ⟨_, rfl⟩
  have HN : Hid (n = xs.length) := by show _ = _; rw [hn, HX.out, sbytes_length]
  rw [← HX.out]
  have HS : Hid (n = s.size) := hn
  have hlen : (s.size : Int) = (n : Int) := by rw [hn]
  rw [← hn] at hs
  clear hn
  go_enter Tryz.func109, Tryz.ntmps109
  go_wp2
  go_loop [7] (fun i => ∃ k : Nat, k ≤ n ∧ i = .int .i64 k ∧ Hid (∀ j, j < k → xs.getD j 0 ≠ c)) (fun i => n - (intOf i).toNat)
  case atStart => exact ⟨0, Nat.zero_le _, rfl, fun j hj => by omega⟩
  case round =>
    obtain ⟨k, hk, rfl, HK⟩ := hrel
    by_cases hlt : k < n
    · have hix := str_index s k (by rw [← HS.out]; exact hlt)
      rw [← HX.out] at hix
      by_cases he : xs.getD k 0 = c
      · have HR : Hid (okB xs c = false) := by
          show _ = _
          have : xs.contains c = true := by
            rw [List.contains_iff_mem, ← he]
            have hl : k < xs.length := by rw [← HN.out]; exact hlt
            simp [List.getD, hl]
          unfold okB; rw [this]; rfl
        rw [he] at hix
        clear HK
        go_wp2
        go_ret
        exact ⟨by rw [HR.out]; rfl, rfl⟩
      · have hne : ((c : Int) == ((xs.getD k 0 : Nat) : Int)) = false := by rw [beq_eq_false_iff_ne]; omega
        have HK2 : Hid (∀ j, j < k + 1 → xs.getD j 0 ≠ c) := fun j hj => by
          by_cases h : j < k
          · exact HK.out j h
          · rw [show j = k by omega]; exact he
        generalize xs.getD k 0 = x at *
        go_wp2
        go_round
        case rel => exact ⟨k + 1, by omega, by go_num, HK2⟩
        case measure => simp [intOf]; omega
    · have HR : Hid (okB xs c = seen c) := by
        show _ = _
        have : xs.contains c = false := by
          rw [Bool.eq_false_iff]
          intro h
          rw [List.contains_iff_mem] at h
          obtain ⟨j, hj, e⟩ := List.getElem_of_mem h
          have := HK.out j (by rw [← HN.out] at hj; omega)
          simp [List.getD, hj, e] at this
        unfold okB; rw [this]; rfl
      clear HK
      by_cases h33 : 33 ≤ c
      · by_cases h126 : c ≤ 126
        · have HV : Hid (seen c = true) := by show _ = _; simp [seen, h33, h126]
          go_wp2
          go_ret
          exact ⟨by rw [HR.out, HV.out]; first | rfl | (simp; omega), rfl⟩
        · have HV : Hid (seen c = false) := by show _ = _; simp [seen, h126]
          go_wp2
          go_ret
          exact ⟨by rw [HR.out, HV.out]; first | rfl | (simp; omega), rfl⟩
      · have HV : Hid (seen c = false) := by show _ = _; simp [seen, h33]
        go_wp2
        go_ret
        exact ⟨by rw [HR.out, HV.out]; first | rfl | (simp; omega), rfl⟩
end Go.Proofs.YtjehbdekipmllaaGreatDoor
namespace Go.Proofs.YtjehbdekipmllaaGreatDoor
open Go.RowKit

def unRes : Tried (List Nat) → Value
  | .ok t => .tuple #[.string (bstr t), .int .i64 0, .int .i64 0]
  | .error (e, p) => .tuple #[.string { data := #[] }, .int .i64 (e : Int), .int .i64 (p : Int)]
theorem un_two {r : List Nat} {m : Nat} (i : Nat) (h : two r = some m) : un (37 :: r) i = put1 m (un (r.drop 2) (i + 3)) ∧ 2 ≤ r.length ∧ m < 256 := by
  match r, h with
  | [], h => simp [two] at h
  | [a], h => simp [two] at h
  | a :: b :: r', h =>
    cases h1 : hx a with
    | none => simp [two, h1] at h
    | some x =>
      cases h2 : hx b with
      | none => simp [two, h1, h2] at h
      | some y =>
        have e : 16 * x + y = m := by simpa [two, h1, h2] using h
        subst e
        have := hx_lt h1
        have := hx_lt h2
        exact ⟨un_hex r' i h1 h2, by simp, by omega⟩
theorem un_two_none {r : List Nat} (i : Nat) (h : two r = none) : un (37 :: r) i = .error (30, i) := by
  match r, h with
  | [], _ => exact un_hex_short i (by simp)
  | [a], _ => exact un_hex_short i (by simp)
  | a :: b :: r', h =>
    refine un_hex_bad r' i ?_
    cases h1 : hx a with
    | none => exact .inl rfl
    | some x =>
      cases h2 : hx b with
      | none => exact .inr rfl
      | some y => simp [two, h1, h2] at h
theorem seen_no {c : Nat} (h : seen c = false) : c < 33 ∨ 126 < c := by simp [seen] at h; omega
theorem seen_yes {c : Nat} (h : seen c = true) : ¬ (c < 33 ∨ 126 < c) := by simp [seen] at h; omega
theorem okB_nil (c : Nat) : okB (sbytes { data := #[] }) c = seen c := by simp [okB, sbytes]

set_option linter.unusedSimpArgs false in
set_option maxHeartbeats 1000000 in
set_option maxRecDepth 100000 in
theorem unescape_any (s : ByteArray) (w : World) (hl : s.size ≤ 140737488351232) :
    Calls Tryz.prog 125 #[.string s] w fun e w' => e = .returned (unRes (un (sbytes s) 0)) ∧ Below w.heap.size w w' := by
  obtain ⟨n, hn⟩ : ∃ n, n = s.size := ⟨_, rfl⟩
  obtain ⟨xs, HX⟩ : ∃ xs, Hid (xs = sbytes s) := ⟨_, rfl⟩
  have HN : Hid (n = xs.length) := by show _ = _; rw [hn, HX.out, sbytes_length]
  obtain ⟨U, HU⟩ : ∃ U, Hid (U = un xs 0) := ⟨_, rfl⟩
  rw [← HX.out, ← HU.out]
  rw [← hn] at hl
  have HS : Hid (n = s.size) := hn
  have hlen : (s.size : Int) = (n : Int) := by rw [hn]
  clear hn
  go_enter Tryz.func125, Tryz.ntmps125
  go_wp2_with fail
  refine (visible_any { data := #[] } w).mono ?_
  rintro e w1 ⟨rfl, hw1⟩
  have HC1 : Hid (w1.cell? ⟨w.heap.size, 0, none⟩ = some (.string { data := #[] })) := by show _ = _; rw [hw1]; simp
  have HB01 : Hid (Below w.heap.size w w1) := by rw [hw1]; exact below_new _ _
  have hs1 : w.heap.size < w1.heap.size := by rw [hw1]; simp
  clear hw1
  go_wp2_with (first | (at_make; refine wpList_make_bytes rfl _ _ rfl .i64 .i64 _ _ 0 n rfl rfl rfl (by omega) (by omega) (by omega) ?_) | fail)
  rintro w2 hb2 hbel2 hs2
  have HO2 : Hid (Own w2 w1.heap.size (.slice (some ⟨w1.heap.size, 0, none⟩) 0 n) []) := by
    have := Blk.own (xs := []) (ys := List.replicate n 0) (n := 0) (c := n) hb2 rfl (by simp) (Nat.le_refl _) (by unfold maxLen; omega)
    exact this
  have HB2 : Hid (Below w1.heap.size w1 w2) := hbel2
  clear hb2 hbel2 hs2
  go_wp2
  go_loopw [6, 7] (fun v i wr => ∃ (k : Nat) (out : List Nat), (k ≤ n ∧ out.length ≤ k) ∧ i = .int .i64 k ∧ Hid (Own wr w1.heap.size v out ∧ Below w1.heap.size w1 wr) ∧ Hid (U = putL out (un (xs.drop k) k))) (fun _ i _ => n - (intOf i).toNat)
  case atStart => exact ⟨0, [], ⟨Nat.zero_le _, Nat.le_refl _⟩, rfl, ⟨HO2.out, HB2.out⟩, by show _ = _; rw [putL_nil, List.drop_zero]; exact HU.out⟩
  case round =>
    clear HO2 HB2
    obtain ⟨k, out, ⟨hk, hok⟩, rfl, HI, HD⟩ := hrel
    have hsz := HI.out.2.size
    by_cases hlt : k < n
    · have hix := str_index s k (by rw [← HS.out]; exact hlt)
      rw [← HX.out] at hix
      have hxk : xs.getD k 0 < 256 := by rw [HX.out]; exact lt_get (sbytes_lt s) k
      have HDR : Hid (xs.drop k = xs.getD k 0 :: xs.drop (k + 1)) := drop_getD (by rw [← HN.out]; exact hlt)
      have hcr : wr.cell? ⟨w.heap.size, 0, none⟩ = some (.string { data := #[] }) := by rw [HI.out.2.cell (p := ⟨w.heap.size, 0, none⟩) hs1]; exact HC1.out
      have HF : Hid (wr.cell? ⟨w.heap.size, 0, none⟩ = some (.string { data := #[] })) := hcr
      clear hcr
      have hfr := str_from s (k + 1) ((k : Int) + 1) (by omega) (by rw [← HS.out]; omega)
      rw [← HX.out] at hfr
      have HTB : Hid ((bstr (xs.drop (k + 1))).size ≤ 140737488355328 ∧ sbytes (bstr (xs.drop (k + 1))) = xs.drop (k + 1)) := by
        refine ⟨by rw [bstr_size, List.length_drop, ← HN.out]; omega, sbytes_bstr (lt_drop ?_ _)⟩
        rw [HX.out]; exact sbytes_lt s
      generalize bstr (xs.drop (k + 1)) = t at *
      generalize xs.getD k 0 = c at *
      by_cases hsn : seen c = true
      · have hnb := seen_yes hsn
        have HOK : Hid (okB (sbytes { data := #[] }) c = true) := by show _ = _; rw [okB_nil]; exact hsn
        clear hsn
        by_cases h43 : c = 43
        · subst h43
          have HD2 : Hid (U = putL (out ++ [32]) (un (xs.drop (k + 1)) (k + 1))) := by
            show _ = _
            rw [HD.out, HDR.out, un_plus, putL_put1]
          clear HD HDR
          go_wp2_with fail
          refine (seen_any w.heap.size 43 { data := #[] } wr (by decide) (by omega) HF.out).mono ?_
          rintro e w3 ⟨rfl, rfl⟩
          rw [HOK.out]
          go_wp2_with (first | (at_builtin; refine wpList_append_bytes rfl _ _ rfl w1.heap.size _ out rfl (HI.out.1.alloc _) (some ⟨w3.heap.size, 0, none⟩) 1 1 [32] rfl rfl (row_one _ _) (by simp; omega) (by simp; omega) ?_) | fail)
          rintro v4 w4 hown4 hgr4
          have HI4 : Hid (Own w4 w1.heap.size v4 (out ++ [32]) ∧ Below w1.heap.size w1 w4) := ⟨hown4, (HI.out.2.alloc hsz _).grown hgr4 (by simp; omega) HI.out.1.ge⟩
          clear hown4 hgr4
          go_wp2
          go_roundw
          case rel => exact ⟨k + 1, out ++ [32], ⟨by omega, by simp; omega⟩, by go_num, HI4, HD2⟩
          case measure => simp [intOf]; omega
        · have hne43 : ((c : Int) == 43) = false := by rw [beq_eq_false_iff_ne]; omega
          by_cases h37 : c = 37
          · subst h37
            cases h2 : two (xs.drop (k + 1)) with
            | none =>
              have HD2 : Hid (U = .error (30, k)) := by
                show _ = _
                rw [HD.out, HDR.out, un_two_none _ h2]; rfl
              have HTN : Hid (two (sbytes t) = none) := by show _ = _; rw [HTB.out.2]; exact h2
              clear HD HDR h2
              go_wp2_with fail
              refine (seen_any w.heap.size 37 { data := #[] } wr (by decide) (by omega) HF.out).mono ?_
              rintro e w3 ⟨rfl, rfl⟩
              rw [HOK.out]
              go_wp2_with fail
              refine (twoDigits_any t w3 HTB.out.1).mono ?_
              rintro e w4 ⟨m, rfl, _, rfl⟩
              rw [HTN.out]
              go_wp2
              go_ret3
              exact ⟨by rw [HD2.out]; rfl, HB01.out.trans (HI.out.2.mono (by omega))⟩
            | some m =>
              obtain ⟨hun, hl2, hm⟩ := un_two k h2
              rw [List.length_drop, ← HN.out] at hl2
              have HD2 : Hid (U = putL (out ++ [m]) (un (xs.drop (k + 3)) (k + 3))) := by
                show _ = _
                rw [HD.out, HDR.out, hun, putL_put1, List.drop_drop]
              have HTN : Hid (two (sbytes t) = some m) := by show _ = _; rw [HTB.out.2]; exact h2
              clear HD HDR h2 hun
              go_wp2_with fail
              refine (seen_any w.heap.size 37 { data := #[] } wr (by decide) (by omega) HF.out).mono ?_
              rintro e w3 ⟨rfl, rfl⟩
              rw [HOK.out]
              go_wp2_with fail
              refine (twoDigits_any t w3 HTB.out.1).mono ?_
              rintro e w4 ⟨m', rfl, hm', rfl⟩
              obtain rfl : m' = m := hm'.out m HTN.out
              rw [HTN.out]
              clear hm'
              go_wp2_with (first | (at_builtin; refine wpList_append_bytes rfl _ _ rfl w1.heap.size _ out rfl (HI.out.1.alloc _) (some ⟨w4.heap.size, 0, none⟩) 1 1 [m'] rfl rfl (row_one _ _) (by simp; omega) (by simp; omega) ?_) | fail)
              rintro v5 w5 hown5 hgr5
              have HI5 : Hid (Own w5 w1.heap.size v5 (out ++ [m']) ∧ Below w1.heap.size w1 w5) := ⟨hown5, (HI.out.2.alloc hsz _).grown hgr5 (by simp; omega) HI.out.1.ge⟩
              clear hown5 hgr5
              go_wp2
              go_roundw
              case rel => exact ⟨k + 3, out ++ [m'], ⟨by omega, by simp; omega⟩, by go_num, HI5, HD2⟩
              case measure => simp [intOf]; omega
          · have hne37 : ((c : Int) == 37) = false := by rw [beq_eq_false_iff_ne]; omega
            have HD2 : Hid (U = putL (out ++ [c]) (un (xs.drop (k + 1)) (k + 1))) := by
              show _ = _
              rw [HD.out, HDR.out, un_other _ _ hnb h43 h37, putL_put1]
            clear HD HDR
            go_wp2_with fail
            refine (seen_any w.heap.size c { data := #[] } wr (by decide) hxk HF.out).mono ?_
            rintro e w3 ⟨rfl, rfl⟩
            rw [HOK.out]
            go_wp2_with (first | (at_builtin; refine wpList_append_bytes rfl _ _ rfl w1.heap.size _ out rfl (HI.out.1.alloc _) (some ⟨w3.heap.size, 0, none⟩) 1 1 [c] rfl rfl (row_one _ _) (by simp; omega) (by simp; omega) ?_) | fail)
            rintro v4 w4 hown4 hgr4
            have HI4 : Hid (Own w4 w1.heap.size v4 (out ++ [c]) ∧ Below w1.heap.size w1 w4) := ⟨hown4, (HI.out.2.alloc hsz _).grown hgr4 (by simp; omega) HI.out.1.ge⟩
            clear hown4 hgr4
            go_wp2
            go_roundw
            case rel => exact ⟨k + 1, out ++ [c], ⟨by omega, by simp; omega⟩, by go_num, HI4, HD2⟩
            case measure => simp [intOf]; omega
      · have hsf : seen c = false := by simpa using hsn
        have HD2 : Hid (U = .error (31, k)) := by
          show _ = _
          rw [HD.out, HDR.out, un_bad _ _ (seen_no hsf)]; rfl
        have HOK : Hid (okB (sbytes { data := #[] }) c = false) := by show _ = _; rw [okB_nil]; exact hsf
        clear HD HDR hsf hsn
        go_wp2_with fail
        refine (seen_any w.heap.size c { data := #[] } wr (by decide) hxk HF.out).mono ?_
        rintro e w3 ⟨rfl, rfl⟩
        rw [HOK.out]
        go_wp2
        go_ret3
        exact ⟨by rw [HD2.out]; rfl, HB01.out.trans (HI.out.2.mono (by omega))⟩
    · obtain ⟨ao1, c1, rfl, hle, hr1⟩ := HI.out.1.read
      have HD2 : Hid (U = .ok out) := by
        show _ = _
        rw [HD.out, List.drop_eq_nil_of_le (by rw [← HN.out]; omega), un_nil]
        simp [putL]
      have cv := conv_row c1 hr1
      clear hr1 HD
      go_wp2
      go_ret3
      exact ⟨by rw [HD2.out]; rfl, HB01.out.trans (HI.out.2.mono (by omega))⟩
end Go.Proofs.YtjehbdekipmllaaGreatDoor
