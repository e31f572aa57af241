/- The contract of Unescape of the program: for every text. -/
import Derived.Test.YtlhgjicichjbgaaGreatDoorUnFn
namespace Go.Proofs.YtlhgjicichjbgaaGreatDoor
open Go.RowKit

def unRes : Tried (List Nat) → Value
  | .ok t => .tuple #[.string (bstr t), .int .i64 0, .int .i64 0]
  | .error (e, p) => .tuple #[.string { data := #[] }, .int .i64 (e : Int), .int .i64 (p : Int)]
theorem un_two {r : List Nat} {m : Nat} (i : Nat) (h : two r = some m) : un (37 :: r) i = put1 m (un (r.drop 2) (i + 3)) ∧ 2 ≤ r.length ∧ m < 256 := by
  match r, h with
  | [], h => simp [two] at h
  | [a], h => simp [two] at h
  | a :: b :: r', h =>
    cases h1 : hx a with
    | none => simp [two, h1] at h
    | some x =>
      cases h2 : hx b with
      | none => simp [two, h1, h2] at h
      | some y =>
        have e : 16 * x + y = m := by simpa [two, h1, h2] using h
        subst e
        have := hx_lt h1
        have := hx_lt h2
        exact ⟨un_hex r' i h1 h2, by simp, by omega⟩
theorem un_two_none {r : List Nat} (i : Nat) (h : two r = none) : un (37 :: r) i = .error (30, i) := by
  match r, h with
  | [], _ => exact un_hex_short i (by simp)
  | [a], _ => exact un_hex_short i (by simp)
  | a :: b :: r', h =>
    refine un_hex_bad r' i ?_
    cases h1 : hx a with
    | none => exact .inl rfl
    | some x =>
      cases h2 : hx b with
      | none => exact .inr rfl
      | some y => simp [two, h1, h2] at h
theorem seen_no {c : Nat} (h : seen c = false) : c < 33 ∨ 126 < c := by simp [seen] at h; omega
theorem seen_yes {c : Nat} (h : seen c = true) : ¬ (c < 33 ∨ 126 < c) := by simp [seen] at h; omega
theorem okB_nil (c : Nat) : okB (sbytes { data := #[] }) c = seen c := by simp [okB, sbytes]

set_option linter.unusedSimpArgs false in
set_option maxHeartbeats 1000000 in
set_option maxRecDepth 100000 in
theorem unescape_any (s : ByteArray) (w : World) (hl : s.size ≤ 140737488351232) :
    Calls Tryz.prog 102 #[.string s] w fun e w' => e = .returned (unRes (un (sbytes s) 0)) ∧ Below w.heap.size w w' := by
  obtain ⟨n, hn⟩ : ∃ n, n = s.size := ⟨_, rfl⟩
  obtain ⟨xs, HX⟩ : ∃ xs, Hid (xs = sbytes s) := ⟨_, rfl⟩
  have HN : Hid (n = xs.length) := by show _ = _; rw [hn, HX.out, sbytes_length]
  obtain ⟨U, HU⟩ : ∃ U, Hid (U = un xs 0) := ⟨_, rfl⟩
  rw [← HX.out, ← HU.out]
  rw [← hn] at hl
  have HS : Hid (n = s.size) := hn
  have hlen : (s.size : Int) = (n : Int) := by rw [hn]
  clear hn
  go_enter Tryz.func102, Tryz.ntmps102
  go_wp2_with fail
  refine (visible_any { data := #[] } w).mono ?_
  rintro e w1 ⟨rfl, hw1⟩
  have HC1 : Hid (w1.cell? ⟨w.heap.size, 0, none⟩ = some (.string { data := #[] })) := by show _ = _; rw [hw1]; simp
  have HB01 : Hid (Below w.heap.size w w1) := by rw [hw1]; exact below_new _ _
  have hs1 : w.heap.size < w1.heap.size := by rw [hw1]; simp
  clear hw1
  go_wp2_with (first | (at_make; refine wpList_make_bytes rfl _ _ rfl .i64 .i64 _ _ 0 n rfl rfl rfl (by omega) (by omega) (by omega) ?_) | fail)
  rintro w2 hb2 hbel2 hs2
  have HO2 : Hid (Own w2 w1.heap.size (.slice (some ⟨w1.heap.size, 0, none⟩) 0 n) []) := by
    have := Blk.own (xs := []) (ys := List.replicate n 0) (n := 0) (c := n) hb2 rfl (by simp) (Nat.le_refl _) (by unfold maxLen; omega)
    exact this
  have HB2 : Hid (Below w1.heap.size w1 w2) := hbel2
  clear hb2 hbel2 hs2
  go_wp2
  go_loopw [6, 7] (fun v i wr => ∃ (k : Nat) (out : List Nat), (k ≤ n ∧ out.length ≤ k) ∧ i = .int .i64 k ∧ Hid (Own wr w1.heap.size v out ∧ Below w1.heap.size w1 wr) ∧ Hid (U = putL out (un (xs.drop k) k))) (fun _ i _ => n - (intOf i).toNat)
  case atStart => exact ⟨0, [], ⟨Nat.zero_le _, Nat.le_refl _⟩, rfl, ⟨HO2.out, HB2.out⟩, by show _ = _; rw [putL_nil, List.drop_zero]; exact HU.out⟩
  case round =>
    clear HO2 HB2
    obtain ⟨k, out, ⟨hk, hok⟩, rfl, HI, HD⟩ := hrel
    have hsz := HI.out.2.size
    by_cases hlt : k < n
    · have hix := str_index s k (by rw [← HS.out]; exact hlt)
      rw [← HX.out] at hix
      have hxk : xs.getD k 0 < 256 := by rw [HX.out]; exact lt_get (sbytes_lt s) k
      have HDR : Hid (xs.drop k = xs.getD k 0 :: xs.drop (k + 1)) := drop_getD (by rw [← HN.out]; exact hlt)
      have hcr : wr.cell? ⟨w.heap.size, 0, none⟩ = some (.string { data := #[] }) := by rw [HI.out.2.cell (p := ⟨w.heap.size, 0, none⟩) hs1]; exact HC1.out
      have HF : Hid (wr.cell? ⟨w.heap.size, 0, none⟩ = some (.string { data := #[] })) := hcr
      clear hcr
      have hfr := str_from s (k + 1) ((k : Int) + 1) (by omega) (by rw [← HS.out]; omega)
      rw [← HX.out] at hfr
      have HTB : Hid ((bstr (xs.drop (k + 1))).size ≤ 140737488355328 ∧ sbytes (bstr (xs.drop (k + 1))) = xs.drop (k + 1)) := by
        refine ⟨by rw [bstr_size, List.length_drop, ← HN.out]; omega, sbytes_bstr (lt_drop ?_ _)⟩
        rw [HX.out]; exact sbytes_lt s
      generalize bstr (xs.drop (k + 1)) = t at *
      generalize xs.getD k 0 = c at *
      by_cases hsn : seen c = true
      · have hnb := seen_yes hsn
        have HOK : Hid (okB (sbytes { data := #[] }) c = true) := by show _ = _; rw [okB_nil]; exact hsn
        clear hsn
        by_cases h43 : c = 43
        · subst h43
          have HD2 : Hid (U = putL (out ++ [32]) (un (xs.drop (k + 1)) (k + 1))) := by
            show _ = _
            rw [HD.out, HDR.out, un_plus, putL_put1]
          clear HD HDR
          go_wp2_with fail
          refine (seen_any w.heap.size 43 { data := #[] } wr (by decide) (by omega) HF.out).mono ?_
          rintro e w3 ⟨rfl, rfl⟩
          rw [HOK.out]
          go_wp2_with (first | (at_builtin; refine wpList_append_bytes rfl _ _ rfl w1.heap.size _ out rfl (HI.out.1.alloc _) (some ⟨w3.heap.size, 0, none⟩) 1 1 [32] rfl rfl (row_one _ _) (by simp; omega) (by simp; omega) ?_) | fail)
          rintro v4 w4 hown4 hgr4
          have HI4 : Hid (Own w4 w1.heap.size v4 (out ++ [32]) ∧ Below w1.heap.size w1 w4) := ⟨hown4, (HI.out.2.alloc hsz _).grown hgr4 (by simp; omega) HI.out.1.ge⟩
          clear hown4 hgr4
          go_wp2
          go_roundw
          case rel => exact ⟨k + 1, out ++ [32], ⟨by omega, by simp; omega⟩, by go_num, HI4, HD2⟩
          case measure => simp [intOf]; omega
        · have hne43 : ((c : Int) == 43) = false := by rw [beq_eq_false_iff_ne]; omega
          by_cases h37 : c = 37
          · subst h37
            cases h2 : two (xs.drop (k + 1)) with
            | none =>
              have HD2 : Hid (U = .error (30, k)) := by
                show _ = _
                rw [HD.out, HDR.out, un_two_none _ h2]; rfl
              have HTN : Hid (two (sbytes t) = none) := by show _ = _; rw [HTB.out.2]; exact h2
              clear HD HDR h2
              go_wp2_with fail
              refine (seen_any w.heap.size 37 { data := #[] } wr (by decide) (by omega) HF.out).mono ?_
              rintro e w3 ⟨rfl, rfl⟩
              rw [HOK.out]
              go_wp2_with fail
              refine (twoDigits_any t w3 HTB.out.1).mono ?_
              rintro e w4 ⟨m, rfl, _, rfl⟩
              rw [HTN.out]
              go_wp2
              go_ret3
              exact ⟨by rw [HD2.out]; rfl, HB01.out.trans (HI.out.2.mono (by omega))⟩
            | some m =>
              obtain ⟨hun, hl2, hm⟩ := un_two k h2
              rw [List.length_drop, ← HN.out] at hl2
              have HD2 : Hid (U = putL (out ++ [m]) (un (xs.drop (k + 3)) (k + 3))) := by
                show _ = _
                rw [HD.out, HDR.out, hun, putL_put1, List.drop_drop]
              have HTN : Hid (two (sbytes t) = some m) := by show _ = _; rw [HTB.out.2]; exact h2
              clear HD HDR h2 hun
              go_wp2_with fail
              refine (seen_any w.heap.size 37 { data := #[] } wr (by decide) (by omega) HF.out).mono ?_
              rintro e w3 ⟨rfl, rfl⟩
              rw [HOK.out]
              go_wp2_with fail
              refine (twoDigits_any t w3 HTB.out.1).mono ?_
              rintro e w4 ⟨m', rfl, hm', rfl⟩
              obtain rfl : m' = m := hm'.out m HTN.out
              rw [HTN.out]
              clear hm'
              go_wp2_with (first | (at_builtin; refine wpList_append_bytes rfl _ _ rfl w1.heap.size _ out rfl (HI.out.1.alloc _) (some ⟨w4.heap.size, 0, none⟩) 1 1 [m'] rfl rfl (row_one _ _) (by simp; omega) (by simp; omega) ?_) | fail)
              rintro v5 w5 hown5 hgr5
              have HI5 : Hid (Own w5 w1.heap.size v5 (out ++ [m']) ∧ Below w1.heap.size w1 w5) := ⟨hown5, (HI.out.2.alloc hsz _).grown hgr5 (by simp; omega) HI.out.1.ge⟩
              clear hown5 hgr5
              go_wp2
              go_roundw
              case rel => exact ⟨k + 3, out ++ [m'], ⟨by omega, by simp; omega⟩, by go_num, HI5, HD2⟩
              case measure => simp [intOf]; omega
          · have hne37 : ((c : Int) == 37) = false := by rw [beq_eq_false_iff_ne]; omega
            have HD2 : Hid (U = putL (out ++ [c]) (un (xs.drop (k + 1)) (k + 1))) := by
              show _ = _
              rw [HD.out, HDR.out, un_other _ _ hnb h43 h37, putL_put1]
            clear HD HDR
            go_wp2_with fail
            refine (seen_any w.heap.size c { data := #[] } wr (by decide) hxk HF.out).mono ?_
            rintro e w3 ⟨rfl, rfl⟩
            rw [HOK.out]
            go_wp2_with (first | (at_builtin; refine wpList_append_bytes rfl _ _ rfl w1.heap.size _ out rfl (HI.out.1.alloc _) (some ⟨w3.heap.size, 0, none⟩) 1 1 [c] rfl rfl (row_one _ _) (by simp; omega) (by simp; omega) ?_) | fail)
            rintro v4 w4 hown4 hgr4
            have HI4 : Hid (Own w4 w1.heap.size v4 (out ++ [c]) ∧ Below w1.heap.size w1 w4) := ⟨hown4, (HI.out.2.alloc hsz _).grown hgr4 (by simp; omega) HI.out.1.ge⟩
            clear hown4 hgr4
            go_wp2
            go_roundw
            case rel => exact ⟨k + 1, out ++ [c], ⟨by omega, by simp; omega⟩, by go_num, HI4, HD2⟩
            case measure => simp [intOf]; omega
      · have hsf : seen c = false := by simpa using hsn
        have HD2 : Hid (U = .error (31, k)) := by
          show _ = _
          rw [HD.out, HDR.out, un_bad _ _ (seen_no hsf)]; rfl
        have HOK : Hid (okB (sbytes { data := #[] }) c = false) := by show _ = _; rw [okB_nil]; exact hsf
        clear HD HDR hsf hsn
        go_wp2_with fail
        refine (seen_any w.heap.size c { data := #[] } wr (by decide) hxk HF.out).mono ?_
        rintro e w3 ⟨rfl, rfl⟩
        rw [HOK.out]
        go_wp2
        go_ret3
        exact ⟨by rw [HD2.out]; rfl, HB01.out.trans (HI.out.2.mono (by omega))⟩
    · obtain ⟨ao1, c1, rfl, hle, hr1⟩ := HI.out.1.read
      have HD2 : Hid (U = .ok out) := by
        show _ = _
        rw [HD.out, List.drop_eq_nil_of_le (by rw [← HN.out]; omega), un_nil]
        simp [putL]
      have cv := conv_row c1 hr1
      clear hr1 HD
      go_wp2
      go_ret3
      exact ⟨by rw [HD2.out]; rfl, HB01.out.trans (HI.out.2.mono (by omega))⟩
end Go.Proofs.YtlhgjicichjbgaaGreatDoor
