/- The document's letter, Code, Show. -/
import Derived.Test.YtonnnolnkjahgaaDoorCShow
namespace Go.Proofs.YtonnnolnkjahgaaDoor
open Go.RowKit Go.Shelf

theorem add_str {x y : List Nat} (h : x.length + y.length ≤ 4611686018427387904) : ∀ w, (Op.stringOp .add (bstr x) (bstr y)).run Tryd.prog w = .ok (.string (bstr (x ++ y))) w := fun w => by
  have e : bstr x ++ bstr y = bstr (x ++ y) := by
    apply ByteArray.ext
    simp [bstr, ByteArray.data_append]
  simp [Op.stringOp, e]
  rw [bstr_size, bstr_size]
  omega
def letsS : ByteArray := { data := #[66, 67, 68, 70, 71, 72, 74, 75, 76, 77, 78, 80, 81, 82, 83, 84, 86, 87, 88, 90] }
theorem letters_any (w : World) : Calls Tryd.prog 26 #[] w fun e w' => e = .returned (.string letsS) ∧ w' = w := by
  unfold letsS
  go_enter Tryd.func26, Tryd.ntmps26
  go_wp2
  go_ret
  exact ⟨rfl, rfl⟩
theorem lets_index (k : Nat) (hk : k < 20) (w : World) : (Instr.index 9 (.string letsS) (.int .i64 (k : Int))).run Tryd.prog w = .ok (.int .u8 ((lets.getD k 0 : Nat) : Int)) w := str_index letsS k hk w
set_option maxHeartbeats 400000 in
set_option maxRecDepth 100000 in
theorem rletter_any (c : Nat) (w : World) : Calls Tryd.prog 39 #[.int .u8 (c : Int)] w fun e w' => e = .returned (.bool (isLet c)) ∧ w' = w := by
  have hix := lets_index
  have HN := hide (@isLet_not c)
  have HY := hide (@isLet_of c)
  have hz : (letsS.size : Int) = 20 := rfl
  have HL := hide letters_any
  generalize letsS = S at *
  go_enter Tryd.func39, Tryd.ntmps39
  go_wp2_with (go_at_call 26; refine (HL.out _).mono ?_; rintro e wx ⟨rfl, hwx⟩; have hwy := hwx.symm; subst hwy; clear hwx)
  go_loopw [4] (fun a wr => ∃ i : Nat, a = .int .i64 (i : Int) ∧ wr = w ∧ i ≤ 20 ∧ Hid (∀ j, j < i → lets.getD j 0 ≠ c)) (fun a _ => 20 - (match a with | .int _ x => x.toNat | _ => 0))
  case atStart => exact ⟨0, rfl, by first | exact rfl | trivial, by omega, hide fun j hj => by omega⟩
  case round =>
    obtain ⟨i, rfl, rfl, hi, hs⟩ := hrel
    by_cases hin : i < 20
    · have hin' : (i : Int) < 20 := by omega
      have hx := hix i hin
      have hwri : IntKind.i64.wrap ((i : Int) + 1) = ((i + 1 : Nat) : Int) := by rw [IntKind.wrap_i64]; omega
      have HIN := hide hin
      clear hi hin hix
      by_cases he : lets.getD i 0 = c
      · have HE := hide (HY.out i HIN.out he)
        rw [he] at hx
        clear he
        go_wp2_with fail
        go_ret
        exact ⟨by rw [HE.out]; first | done | rfl, rfl⟩
      · have he' : (((lets.getD i 0 : Nat) : Int) == (c : Int)) = false := by simpa using (fun e => he (by exact_mod_cast e))
        have HE := hide he
        obtain ⟨d, hd⟩ : ∃ d, d = lets.getD i 0 := ⟨_, rfl⟩
        rw [← hd] at hx he'
        clear he hd
        go_wp2_with fail
        go_roundw
        case rel => exact ⟨i + 1, by first | rfl | simp, by first | exact rfl | trivial, HIN.out, hide fun j hj => by
          rcases Nat.lt_succ_iff_lt_or_eq.1 hj with h | h
          · exact hs.out j h
          · subst h; exact HE.out⟩
        case measure => have := HIN.out; simp; omega
    · have hin' : ¬ (i : Int) < 20 := by omega
      have HF := hide (HN.out fun j hj => hs.out j (by omega))
      clear hi hin hix
      go_wp2_with fail
      go_ret
      exact ⟨by rw [HF.out]; first | done | rfl, rfl⟩
theorem isCode_not {l : List Nat} (h : l.all isLet = false) : isCode l = false := by unfold isCode; rw [h, Bool.and_false]
theorem isCode_all {l : List Nat} (h : l.all isLet = true) : isCode l = decide ((l.length : Int) = 8) := by
  unfold isCode
  rw [h, Bool.and_true, Bool.eq_iff_iff]
  simp
  omega
set_option maxHeartbeats 400000 in
set_option maxRecDepth 100000 in
theorem rcode_any (s : ByteArray) (w : World) (hs : s.size ≤ maxLen) : Calls Tryd.prog 25 #[.string s] w fun e w' => e = .returned (.bool (isCode (sbytes s))) ∧ w' = w := by
  have hsl := sbytes_length s
  have hix := str_index s
  have HAF := hide (@all_false (sbytes s))
  have HAT := hide (@all_true (sbytes s))
  have HCN := hide (@isCode_not (sbytes s))
  have HCA := hide (@isCode_all (sbytes s))
  have HRL := hide rletter_any
  rw [hsl] at HAF HAT HCA
  have HSZ : Hid (s.size ≤ 9223372036854775807) := hide (by unfold maxLen at hs; omega)
  generalize sbytes s = l at *
  generalize hn : s.size = n at *
  clear hsl hs
  go_enter Tryd.func25, Tryd.ntmps25
  go_wp2_with fail
  go_loopw [3] (fun a wr => ∃ i : Nat, a = .int .i64 (i : Int) ∧ wr = w ∧ i ≤ n ∧ Hid (∀ j, j < i → isLet (l.getD j 0) = true)) (fun a _ => n - (match a with | .int _ x => x.toNat | _ => 0))
  case atStart => exact ⟨0, rfl, by first | exact rfl | trivial, by omega, hide fun j hj => by omega⟩
  case round =>
    obtain ⟨i, rfl, rfl, hi, hs⟩ := hrel
    by_cases hin : i < n
    · have hin' : (i : Int) < (n : Int) := by omega
      have hx := hix i hin
      have hwri : IntKind.i64.wrap ((i : Int) + 1) = ((i + 1 : Nat) : Int) := by have := HSZ.out; rw [IntKind.wrap_i64]; omega
      have HIN := hide hin
      have HL := hide (HRL.out (l.getD i 0) wr)
      clear hi hin hix
      cases hb : isLet (l.getD i 0) with
      | false =>
        have HF := hide (HCN.out (HAF.out i HIN.out hb))
        rw [hb] at HL
        clear hb
        generalize l.getD i 0 = c at *
        go_wp2_with (go_at_call 39; refine HL.out.mono ?_; rintro e wx ⟨rfl, hwx⟩; have hwy := hwx.symm; subst hwy; clear hwx)
        go_ret
        exact ⟨by rw [HF.out]; first | done | rfl, rfl⟩
      | true =>
        have HB := hide hb
        rw [hb] at HL
        clear hb
        obtain ⟨c, hc⟩ : ∃ c, c = l.getD i 0 := ⟨_, rfl⟩
        rw [← hc] at hx HL
        clear hc
        go_wp2_with (go_at_call 39; refine HL.out.mono ?_; rintro e wx ⟨rfl, hwx⟩; have hwy := hwx.symm; subst hwy; clear hwx)
        go_roundw
        case rel => exact ⟨i + 1, by first | rfl | simp, by first | exact rfl | trivial, HIN.out, hide fun j hj => by
          rcases Nat.lt_succ_iff_lt_or_eq.1 hj with h | h
          · exact hs.out j h
          · subst h; exact HB.out⟩
        case measure => have := HIN.out; simp; omega
    · have hin' : ¬ (i : Int) < (n : Int) := by omega
      have HF := hide (HCA.out (HAT.out fun j hj => hs.out j (by omega)))
      clear hi hin hix
      go_wp2_with fail
      go_ret
      refine ⟨?_, rfl⟩
      rw [HF.out]
      exact ret_bool (by rw [Bool.eq_iff_iff]; simp)
set_option maxHeartbeats 400000 in
set_option maxRecDepth 100000 in
theorem rshow_any (s : ByteArray) (w : World) (hs : s.size ≤ maxLen) : Calls Tryd.prog 18 #[.string s] w fun e w' => e = .returned (.string (bstr (showT (sbytes s)))) ∧ Below w.heap.size w w' := by
  have HI := hide (rcode_any s w hs)
  have HST : Hid (showT (sbytes s) = if isCode (sbytes s) then (sbytes s).take 4 ++ [45] ++ (sbytes s).drop 4 else []) := hide rfl
  have hsl := sbytes_length s
  cases hc : isCode (sbytes s) with
  | false =>
    rw [hc] at HI HST
    have e : showT (sbytes s) = [] := HST.out
    rw [e, bstr_nil]
    clear hc hsl HST e
    go_enter Tryd.func18, Tryd.ntmps18
    go_wp2_with (go_at_call 25; refine HI.out.mono ?_; rintro e wx ⟨rfl, hwx⟩; have hwy := hwx.symm; subst hwy; clear hwx)
    go_ret
    exact ⟨rfl, Below.refl _ _⟩
  | true =>
    rw [hc] at HI HST
    have h8 : s.size = 8 := by
      unfold isCode at hc
      rw [Bool.and_eq_true] at hc
      have := beq_iff_eq.1 hc.1
      omega
    have hs1 := str_to s 4 4 rfl (by omega)
    have hs2 := str_from s 4 4 rfl (by omega)
    have ha1 : ∀ w, (Op.stringOp .add (bstr ((sbytes s).take 4)) { data := #[45] }).run Tryd.prog w = .ok (.string (bstr ((sbytes s).take 4 ++ [45]))) w := add_str (y := [45]) (by simp; omega)
    have ha2 : ∀ w, (Op.stringOp .add (bstr ((sbytes s).take 4 ++ [45])) (bstr ((sbytes s).drop 4))).run Tryd.prog w = .ok (.string (bstr ((sbytes s).take 4 ++ [45] ++ (sbytes s).drop 4))) w := add_str (by simp; omega)
    have HSO : Hid (showT (sbytes s) = (sbytes s).take 4 ++ [45] ++ (sbytes s).drop 4) := hide HST.out
    rw [← HSO.out] at ha2
    generalize showT (sbytes s) = SH at *
    generalize bstr ((sbytes s).take 4 ++ [45]) = S2 at *
    generalize bstr ((sbytes s).take 4) = S1 at *
    generalize bstr ((sbytes s).drop 4) = S3 at *
    generalize bstr SH = S4 at *
    clear hc hsl HST h8 HSO
    go_enter Tryd.func18, Tryd.ntmps18
    go_wp2_with (go_at_call 25; refine HI.out.mono ?_; rintro e wx ⟨rfl, hwx⟩; have hwy := hwx.symm; subst hwy; clear hwx)
    go_quiet (fail)
    go_wp2
    go_ret
    exact ⟨rfl, below_drewN (Below.refl _ _) _⟩
end Go.Proofs.YtonnnolnkjahgaaDoor
