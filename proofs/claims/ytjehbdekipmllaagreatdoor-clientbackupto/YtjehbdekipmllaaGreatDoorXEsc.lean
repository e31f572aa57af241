/- The contracts of isPlain: for every byte. The contracts of putByte and Escape of the program, and of Escape of the document: for every byte, every text. The contract of the document's plain: for every byte. The contract of the document's Escape: for every text. -/
import Derived.Test.YtjehbdekipmllaaGreatDoorXBase
import Derived.Test.YtjehbdekipmllaaGreatDoorXMath
import Derived.Test.YtjehbdekipmllaaGreatDoorXStep
namespace Go.Proofs.YtjehbdekipmllaaGreatDoor
open Go.RowKit

set_option maxHeartbeats 400000 in
set_option maxRecDepth 100000 in
theorem isPlain_any (c : Nat) (w : World) (hc : c < 256) : Calls Tryz.prog 142 #[.int .u8 (c : Int)] w fun e w' => e = .returned (.bool (plainB c)) ∧ w' = w := by
  rcases (show (0 ≤ c ∧ c ≤ 41) ∨ (c = 42) ∨ (43 ≤ c ∧ c ≤ 44) ∨ (c = 45) ∨ (c = 46) ∨ (c = 47) ∨ (48 ≤ c ∧ c ≤ 57) ∨ (58 ≤ c ∧ c ≤ 64) ∨ (65 ≤ c ∧ c ≤ 90) ∨ (91 ≤ c ∧ c ≤ 94) ∨ (c = 95) ∨ (c = 96) ∨ (97 ≤ c ∧ c ≤ 122) ∨ (123 ≤ c ∧ c ≤ 255) by omega) with h | h | h | h | h | h | h | h | h | h | h | h | h | h
  · have e : plainB c = false := by simp [plainB]; omega
    rw [e]
    obtain ⟨a1, a2⟩ := h
    go_enter Tryz.func142, Tryz.ntmps142
    go_wp2
    go_ret
    exact ⟨by first | rfl | (simp; omega), rfl⟩
  · subst h
    go_enter Tryz.func142, Tryz.ntmps142
    go_wp2
    go_ret
    exact ⟨rfl, rfl⟩
  · have e : plainB c = false := by simp [plainB]; omega
    rw [e]
    obtain ⟨a1, a2⟩ := h
    go_enter Tryz.func142, Tryz.ntmps142
    go_wp2
    go_ret
    exact ⟨by first | rfl | (simp; omega), rfl⟩
  · subst h
    go_enter Tryz.func142, Tryz.ntmps142
    go_wp2
    go_ret
    exact ⟨rfl, rfl⟩
  · subst h
    go_enter Tryz.func142, Tryz.ntmps142
    go_wp2
    go_ret
    exact ⟨rfl, rfl⟩
  · subst h
    go_enter Tryz.func142, Tryz.ntmps142
    go_wp2
    go_ret
    exact ⟨rfl, rfl⟩
  · have e : plainB c = true := by simp [plainB]; omega
    rw [e]
    obtain ⟨a1, a2⟩ := h
    go_enter Tryz.func142, Tryz.ntmps142
    go_wp2
    go_ret
    exact ⟨by first | rfl | (simp; omega), rfl⟩
  · have e : plainB c = false := by simp [plainB]; omega
    rw [e]
    obtain ⟨a1, a2⟩ := h
    go_enter Tryz.func142, Tryz.ntmps142
    go_wp2
    go_ret
    exact ⟨by first | rfl | (simp; omega), rfl⟩
  · have e : plainB c = true := by simp [plainB]; omega
    rw [e]
    obtain ⟨a1, a2⟩ := h
    go_enter Tryz.func142, Tryz.ntmps142
    go_wp2
    go_ret
    exact ⟨by first | rfl | (simp; omega), rfl⟩
  · have e : plainB c = false := by simp [plainB]; omega
    rw [e]
    obtain ⟨a1, a2⟩ := h
    go_enter Tryz.func142, Tryz.ntmps142
    go_wp2
    go_ret
    exact ⟨by first | rfl | (simp; omega), rfl⟩
  · subst h
    go_enter Tryz.func142, Tryz.ntmps142
    go_wp2
    go_ret
    exact ⟨rfl, rfl⟩
  · subst h
    go_enter Tryz.func142, Tryz.ntmps142
    go_wp2
    go_ret
    exact ⟨rfl, rfl⟩
  · have e : plainB c = true := by simp [plainB]; omega
    rw [e]
    obtain ⟨a1, a2⟩ := h
    go_enter Tryz.func142, Tryz.ntmps142
    go_wp2
    go_ret
    exact ⟨by first | rfl | (simp; omega), rfl⟩
  · have e : plainB c = false := by simp [plainB]; omega
    rw [e]
    obtain ⟨a1, a2⟩ := h
    go_enter Tryz.func142, Tryz.ntmps142
    go_wp2
    go_ret
    exact ⟨by first | rfl | (simp; omega), rfl⟩
end Go.Proofs.YtjehbdekipmllaaGreatDoor
namespace Go.Proofs.YtjehbdekipmllaaGreatDoor
open Go.RowKit

theorem row_three (w : World) (a b c : Nat) : Row (w.alloc (.cells #[.int .u8 (a : Int), .int .u8 (b : Int), .int .u8 (c : Int)] 5)) (some ⟨w.heap.size, 0, none⟩) [a, b, c] := by
  refine .inr ⟨_, _, rfl, fun i hi => ?_⟩
  have : i = 0 ∨ i = 1 ∨ i = 2 := by simp at hi; omega
  rcases this with rfl | rfl | rfl <;> simp
theorem step_append {ops : Array Oper} {i : Nat} {o : Oper} {fuel : Nat} {listed : Array Bool} {md : Region.Mode} {a : Act} {w : World} {Q : Exit → Act → World → Prop} (hi : ops[i]? = some o) (hr : Region.ready md ops listed = [i]) (hgd : o.guard = none) (s x : Operand)
    (ho : o.op = .call { callee := .builtin .append, args := #[s, x], argTypes := #[65, 65] }) (B : Nat) (v : Value) (xs : List Nat) (hs : a.eval s = v) (hown : Own w B v xs)
    (ao : Option Addr) (n c : Nat) (ys : List Nat) (hn : n = ys.length) (hx : a.eval x = .slice ao n c) (hy : Row w ao ys) (hsz : xs.length + ys.length ≤ 140737488355328) (hB : B ≤ w.heap.size)
    (h : ∀ v' w', Own w' B v' (xs ++ ys) → w.grownBy w' v.ownBlock → wpAny Tryz.prog md ops Q fuel (listed.setIfInBounds i true) (a.put o.dst v') w') : wpAny Tryz.prog md ops Q (fuel + 1) listed a w := by
  refine wpAny_ready (rs := [i]) hr (by simp) (AllReady.cons hi (fun K hK => ?_) AllReady.nil)
  rw [if_pos (by simp [Region.wanted, hgd])]
  obtain ⟨v', w', hrun, h1, h2⟩ := run_append_bytes hown ao c hy hsz hB o.type
  subst hn
  unfold Oper.wp
  simp [execOp, ho, resolve, invoke, builtin, hs, hx, hrun, Result.andThen]
  exact hK _ _ (h v' w' h1 h2)
def hexUd : ByteArray := { data := #[48, 49, 50, 51, 52, 53, 54, 55, 56, 57, 65, 66, 67, 68, 69, 70] }
theorem hexUd_get : ∀ n, n < 16 → hexUd.data.toList[n]? = some (UInt8.ofNat (hexU n)) := by decide
theorem hexU_index (n : Nat) (hn : n < 16) (i : Int) (hi : i = (n : Int)) (w : World) : (Instr.index 9 (.string { data := #[48, 49, 50, 51, 52, 53, 54, 55, 56, 57, 65, 66, 67, 68, 69, 70] }) (.int .u8 i)).run Tryz.prog w = .ok (.int .u8 ((hexU n : Nat) : Int)) w := by
  subst hi
  rw [run_index_string w 9 _ .u8 (n : Int) Tryz.underlying9, dif_pos ⟨by omega, by show (n : Int) < 16; omega⟩]
  have h := hexUd_get n hn
  have h2 : ∀ m (hm : m < hexUd.size), hexUd.data.toList[m]? = some hexUd[m] := fun m hm => by
    rw [List.getElem?_eq_getElem (by simpa using hm)]; rfl
  have h3 := h2 n hn
  rw [h] at h3
  have h4 := Option.some.inj h3
  show Result.ok (Value.int .u8 ((hexUd[n]'hn).toNat : Int)) w = _
  rw [← h4]
  have := hexU_lt hn
  simp [Nat.mod_eq_of_lt this]
theorem nat_mask4 (x : Nat) : x &&& 15 = x % 16 := Nat.and_two_pow_sub_one_eq_mod x 4

set_option linter.unusedSimpArgs false in
set_option maxHeartbeats 1000000 in
set_option maxRecDepth 100000 in
theorem putByte_any (B c : Nat) (v : Value) (xs : List Nat) (w : World) (hc : c < 256) (hl : xs.length + 3 ≤ 140737488355328) (hB : B ≤ w.heap.size) (hown : Own w B v xs) :
    Calls Tryz.prog 116 #[v, .int .u8 (c : Int)] w fun e w' => ∃ v', e = .returned v' ∧ Hid (Own w' B v' (xs ++ esc1 c) ∧ Below B w w') := by
  have HO : Hid (Own w B v xs) := hown
  clear hown
  by_cases h32 : c = 32
  · subst h32
    have HE : Hid (esc1 32 = [43]) := by show _ = _; decide
    rw [HE.out]
    go_enter Tryz.func116, Tryz.ntmps116
    go_wp2_with (first | (at_builtin; refine wpList_append_bytes rfl _ _ rfl B _ xs rfl (HO.out.alloc _) (some ⟨w.heap.size, 0, none⟩) 1 1 [43] rfl rfl (row_one _ _) (by simp; omega) (by simp; omega) ?_) | fail)
    rintro v1 w1 hown1 hgr1
    have HB1 : Hid (Below B w w1) := ((Below.refl _ _).alloc hB _).grown hgr1 (by simp; omega) HO.out.ge
    have HO1 : Hid (Own w1 B v1 (xs ++ [43])) := hown1
    clear hown1 hgr1
    go_wp2
    go_ret
    exact ⟨_, rfl, HO1.out, HB1.out⟩
  · have hne : ((c : Int) == 32) = false := by rw [beq_eq_false_iff_ne]; omega
    by_cases hp : plainB c = true
    · have HE : Hid (esc1 c = [c]) := by show _ = _; unfold esc1; rw [if_pos hp]
      rw [HE.out]
      have HP : Hid (plainB c = true) := hp
      clear hp
      go_enter Tryz.func116, Tryz.ntmps116
      go_wp2_with fail
      refine (isPlain_any c w hc).mono ?_
      rintro e w' ⟨rfl, rfl⟩
      rw [HP.out]
      go_wp2_with (first | (at_builtin; refine wpList_append_bytes rfl _ _ rfl B _ xs rfl (HO.out.alloc _) (some ⟨w'.heap.size, 0, none⟩) 1 1 [c] rfl rfl (row_one _ _) (by simp; omega) (by simp; omega) ?_) | fail)
      rintro v1 w1 hown1 hgr1
      have HB1 : Hid (Below B w' w1) := ((Below.refl _ _).alloc hB _).grown hgr1 (by simp; omega) HO.out.ge
      have HO1 : Hid (Own w1 B v1 (xs ++ [c])) := hown1
      clear hown1 hgr1
      go_wp2
      go_ret
      exact ⟨_, rfl, HO1.out, HB1.out⟩
    · have HE : Hid (esc1 c = [37, hexU (c / 16), hexU (c % 16)]) := by show _ = _; unfold esc1; rw [if_neg hp, if_neg h32]
      rw [HE.out]
      have HP : Hid (plainB c = false) := by show _ = _; simpa using hp
      clear hp
      have hand : bits BinOp.and IntKind.u8 (c : Int) 15 = (c : Int) % 16 := by
        have := u8_and_nat c 15 hc (by decide)
        rw [nat_mask4] at this
        rw [show (15 : Int) = ((15 : Nat) : Int) from rfl, this]; omega
      have hi1 := hexU_index (c / 16) (by omega) ((c : Int) / 16) (by omega)
      have hi2 := hexU_index (c % 16) (by omega) ((c : Int) % 16) (by omega)
      generalize hexU (c / 16) = d1 at *
      generalize hexU (c % 16) = d2 at *
      go_enter Tryz.func116, Tryz.ntmps116
      go_wp2_with fail
      refine (isPlain_any c w hc).mono ?_
      rintro e w' ⟨rfl, rfl⟩
      rw [HP.out]
      go_wp2
      refine region_any_var (by kernel_rfl) ?_
      intro A hA
      have hsz : A.tmps.size = 24 := by rw [hA]; rfl
      have e0 : A.eval (.tmp 0) = v := by rw [hA]; rfl
      have e1 : A.eval (.tmp 1) = .int .u8 (c : Int) := by rw [hA]; rfl
      refine take_move (i := 0) 15 0 v rfl rfl rfl (by kernel_rfl) (by kernel_rfl) (by kernel_rfl) (fun _ _ _ h => h) rfl (by simp [ev_put, hsz, sz_put, e0, e1]) ?_
      refine take_move (i := 1) 16 1 (.int .u8 (c : Int)) rfl rfl rfl (by kernel_rfl) (by kernel_rfl) (by kernel_rfl) (fun _ _ _ h => h) rfl (by simp [ev_put, hsz, sz_put, e0, e1]) ?_
      refine take_run (i := 2) 17 (.int .u8 ((c : Int) / 16)) rfl rfl (by kernel_rfl) (by kernel_rfl) (by kernel_rfl) (fun _ _ _ h => h) rfl (fun w => by unfold execOp; simp [ev_put, hsz, sz_put, e0, e1] <;> go_simp) ?_
      refine take_run (i := 3) 18 (.int .u8 (d1 : Int)) rfl rfl (by kernel_rfl) (by kernel_rfl) (by kernel_rfl) (fun _ _ _ h => h) rfl (fun w => by unfold execOp; simp [ev_put, hsz, sz_put, e0, e1] <;> go_simp) ?_
      refine take_move (i := 4) 19 1 (.int .u8 (c : Int)) rfl rfl rfl (by kernel_rfl) (by kernel_rfl) (by kernel_rfl) (fun _ _ _ h => h) rfl (by simp [ev_put, hsz, sz_put, e0, e1]) ?_
      refine take_run (i := 5) 20 (.int .u8 ((c : Int) % 16)) rfl rfl (by kernel_rfl) (by kernel_rfl) (by kernel_rfl) (fun _ _ _ h => h) rfl (fun w => by unfold execOp; simp [ev_put, hsz, sz_put, e0, e1] <;> go_simp) ?_
      refine take_run (i := 6) 21 (.int .u8 (d2 : Int)) rfl rfl (by kernel_rfl) (by kernel_rfl) (by kernel_rfl) (fun _ _ _ h => h) rfl (fun w => by unfold execOp; simp [ev_put, hsz, sz_put, e0, e1] <;> go_simp) ?_
      refine step_one (i := 7) (w' := w'.drew.alloc (Obj.cells #[.int .u8 ((37 : Nat) : Int), .int .u8 (d1 : Int), .int .u8 (d2 : Int)] 5)) 22 (.slice (some ⟨w'.heap.size, 0, none⟩) 3 3) rfl rfl (by kernel_rfl) rfl (by unfold execOp; simp [ev_put, hsz, sz_put, e0, e1] <;> go_simp <;> rfl) ?_
      refine step_append (i := 8) rfl (by kernel_rfl) rfl (.tmp 15) (.tmp 22) rfl B v xs (by simp [ev_put, hsz, sz_put, e0, e1]) (HO.out.keep (below_undrewN1 (below_new _ _))) (some ⟨w'.heap.size, 0, none⟩) 3 3 [37, d1, d2] rfl (by simp [ev_put, hsz, sz_put, e0, e1]) (row_three _ _ _ _) (by simp; omega) (by simp; omega) ?_
      intro v1 w1 hown1 hgr1
      refine take_run (i := 9) 4 v1 rfl rfl (by kernel_rfl) (by kernel_rfl) (by kernel_rfl) (fun _ _ _ h => h) rfl (fun w => by unfold execOp; simp [ev_put, hsz, sz_put, e0, e1] <;> go_simp) ?_
      refine wpAny_done (by kernel_rfl) ?_ _
      subst hA
      simp only [put_mk, List.set_cons_succ, List.set_cons_zero]
      have HB1 : Hid (Below B w' w1) := ((below_drewN (Below.refl B w') 1).alloc (by simp; omega) _).grown hgr1 (by simp; omega) HO.out.ge
      have HO1 : Hid (Own w1 B v1 (xs ++ [37, d1, d2])) := hown1
      clear hown1 hgr1
      go_wp2
      go_ret
      exact ⟨_, rfl, HO1.out, HB1.out⟩

set_option linter.unusedSimpArgs false in
set_option maxHeartbeats 1000000 in
set_option maxRecDepth 100000 in
theorem escape_any (s : ByteArray) (w : World) (hl : s.size ≤ 35184372088832) :
    Calls Tryz.prog 96 #[.string s] w fun e w' => e = .returned (.string (bstr (esc (sbytes s)))) ∧ Below w.heap.size w w' := by
  obtain ⟨n, hn⟩ : ∃ n, n = s.size := ⟨_, rfl⟩
  obtain ⟨xs, HX⟩ : ∃ xs, Hid (xs = sbytes s) := ⟨_, rfl⟩
  have HN : Hid (n = xs.length) := by show _ = _; rw [hn, HX.out, sbytes_length]
  rw [← HX.out]
  rw [← hn] at hl
  have HS : Hid (n = s.size) := hn
  have hlen : (s.size : Int) = (n : Int) := by rw [hn]
  clear hn
  go_enter Tryz.func96, Tryz.ntmps96
  go_wp2_with (first | (at_make; refine wpList_make_bytes rfl _ _ rfl .i64 .i64 _ _ 0 n rfl rfl rfl (by omega) (by omega) (by omega) ?_) | fail)
  rintro w1 hb1 hbel1 hs1
  have HO1 : Hid (Own w1 w.heap.size (.slice (some ⟨w.heap.size, 0, none⟩) 0 n) (esc (xs.take 0))) := by
    have := Blk.own (xs := []) (ys := List.replicate n 0) (n := 0) (c := n) hb1 rfl (by simp) (Nat.le_refl _) (by unfold maxLen; omega)
    exact this
  have HB1 : Hid (Below w.heap.size w w1) := hbel1
  clear hb1 hbel1 hs1
  go_wp2
  go_loopw [3, 10] (fun v i wr => ∃ k : Nat, k ≤ n ∧ i = .int .i64 k ∧ Hid (Own wr w.heap.size v (esc (xs.take k))) ∧ Hid (Below w.heap.size w wr)) (fun _ i _ => n - (intOf i).toNat)
  case atStart => exact ⟨0, Nat.zero_le _, rfl, HO1, HB1⟩
  case round =>
    clear HO1 HB1
    obtain ⟨k, hk, rfl, HO, HB⟩ := hrel
    by_cases hlt : k < n
    · have hix := str_index s k (by rw [← HS.out]; exact hlt)
      rw [← HX.out] at hix
      have hxk : xs.getD k 0 < 256 := by rw [HX.out]; exact lt_get (sbytes_lt s) k
      have HE : Hid (esc (xs.take (k + 1)) = esc (xs.take k) ++ esc1 (xs.getD k 0)) := by
        show _ = _
        rw [take_getD (by rw [← HN.out]; exact hlt), esc_snoc]
      have HLn : Hid ((esc (xs.take k)).length ≤ 3 * n) := by
        show _ ≤ _
        have := (esc_len (xs.take k)).2
        rw [List.length_take] at this
        omega
      have hs := HB.out.size
      generalize xs.getD k 0 = x at *
      go_wp2_with fail
      refine (putByte_any w.heap.size x u3 (esc (xs.take k)) wr hxk (by have := HLn.out; omega) hs HO.out).mono ?_
      rintro e w2 ⟨v2, rfl, h2⟩
      have HO2 : Hid (Own w2 w.heap.size v2 (esc (xs.take (k + 1)))) := by rw [HE.out]; exact h2.out.1
      have HB2 : Hid (Below w.heap.size w w2) := HB.out.trans h2.out.2
      clear h2
      go_wp2
      go_roundw
      case rel => exact ⟨k + 1, by omega, by go_num, HO2, HB2⟩
      case measure => simp [intOf]; omega
    · obtain ⟨ao1, c1, rfl, hle, hr1⟩ := HO.out.read
      have HT : Hid (xs.take k = xs) := by show _ = _; rw [List.take_of_length_le (by rw [← HN.out]; omega)]
      rw [HT.out] at hr1 hle
      have cv := conv_row c1 hr1
      rw [HT.out]
      clear hr1
      go_wp2
      go_ret
      exact ⟨rfl, HB.out⟩
end Go.Proofs.YtjehbdekipmllaaGreatDoor
namespace Go.Proofs.YtjehbdekipmllaaGreatDoor
open Go.RowKit

set_option maxHeartbeats 400000 in
set_option maxRecDepth 100000 in
theorem refPlain_any (c : Nat) (w : World) (hc : c < 256) : Calls Tryz.prog 117 #[.int .u8 (c : Int)] w fun e w' => e = .returned (.bool (plainB c)) ∧ w' = w := by
  rcases (show (0 ≤ c ∧ c ≤ 41) ∨ (c = 42) ∨ (43 ≤ c ∧ c ≤ 44) ∨ (c = 45) ∨ (c = 46) ∨ (c = 47) ∨ (48 ≤ c ∧ c ≤ 57) ∨ (58 ≤ c ∧ c ≤ 64) ∨ (65 ≤ c ∧ c ≤ 90) ∨ (91 ≤ c ∧ c ≤ 94) ∨ (c = 95) ∨ (c = 96) ∨ (97 ≤ c ∧ c ≤ 122) ∨ (123 ≤ c ∧ c ≤ 255) by omega) with h | h | h | h | h | h | h | h | h | h | h | h | h | h
  · have e : plainB c = false := by simp [plainB]; omega
    rw [e]
    obtain ⟨a1, a2⟩ := h
    go_enter Tryz.func117, Tryz.ntmps117
    go_wp2
    go_ret
    exact ⟨by first | rfl | (simp; omega), rfl⟩
  · subst h
    go_enter Tryz.func117, Tryz.ntmps117
    go_wp2
    go_ret
    exact ⟨rfl, rfl⟩
  · have e : plainB c = false := by simp [plainB]; omega
    rw [e]
    obtain ⟨a1, a2⟩ := h
    go_enter Tryz.func117, Tryz.ntmps117
    go_wp2
    go_ret
    exact ⟨by first | rfl | (simp; omega), rfl⟩
  · subst h
    go_enter Tryz.func117, Tryz.ntmps117
    go_wp2
    go_ret
    exact ⟨rfl, rfl⟩
  · subst h
    go_enter Tryz.func117, Tryz.ntmps117
    go_wp2
    go_ret
    exact ⟨rfl, rfl⟩
  · subst h
    go_enter Tryz.func117, Tryz.ntmps117
    go_wp2
    go_ret
    exact ⟨rfl, rfl⟩
  · have e : plainB c = true := by simp [plainB]; omega
    rw [e]
    obtain ⟨a1, a2⟩ := h
    go_enter Tryz.func117, Tryz.ntmps117
    go_wp2
    go_ret
    exact ⟨by first | rfl | (simp; omega), rfl⟩
  · have e : plainB c = false := by simp [plainB]; omega
    rw [e]
    obtain ⟨a1, a2⟩ := h
    go_enter Tryz.func117, Tryz.ntmps117
    go_wp2
    go_ret
    exact ⟨by first | rfl | (simp; omega), rfl⟩
  · have e : plainB c = true := by simp [plainB]; omega
    rw [e]
    obtain ⟨a1, a2⟩ := h
    go_enter Tryz.func117, Tryz.ntmps117
    go_wp2
    go_ret
    exact ⟨by first | rfl | (simp; omega), rfl⟩
  · have e : plainB c = false := by simp [plainB]; omega
    rw [e]
    obtain ⟨a1, a2⟩ := h
    go_enter Tryz.func117, Tryz.ntmps117
    go_wp2
    go_ret
    exact ⟨by first | rfl | (simp; omega), rfl⟩
  · subst h
    go_enter Tryz.func117, Tryz.ntmps117
    go_wp2
    go_ret
    exact ⟨rfl, rfl⟩
  · subst h
    go_enter Tryz.func117, Tryz.ntmps117
    go_wp2
    go_ret
    exact ⟨rfl, rfl⟩
  · have e : plainB c = true := by simp [plainB]; omega
    rw [e]
    obtain ⟨a1, a2⟩ := h
    go_enter Tryz.func117, Tryz.ntmps117
    go_wp2
    go_ret
    exact ⟨by first | rfl | (simp; omega), rfl⟩
  · have e : plainB c = false := by simp [plainB]; omega
    rw [e]
    obtain ⟨a1, a2⟩ := h
    go_enter Tryz.func117, Tryz.ntmps117
    go_wp2
    go_ret
    exact ⟨by first | rfl | (simp; omega), rfl⟩
end Go.Proofs.YtjehbdekipmllaaGreatDoor
namespace Go.Proofs.YtjehbdekipmllaaGreatDoor
open Go.RowKit

set_option linter.unusedSimpArgs false in
set_option maxHeartbeats 1000000 in
set_option maxRecDepth 100000 in
theorem refEscape_any (s : ByteArray) (w : World) (hl : s.size ≤ 35184372088832) :
    Calls Tryz.prog 97 #[.string s] w fun e w' => e = .returned (.string (bstr (esc (sbytes s)))) ∧ Below w.heap.size w w' := by
  obtain ⟨n, hn⟩ : ∃ n, n = s.size := ⟨_, rfl⟩
  obtain ⟨xs, HX⟩ : ∃ xs, Hid (xs = sbytes s) := ⟨_, rfl⟩
  have HN : Hid (n = xs.length) := by show _ = _; rw [hn, HX.out, sbytes_length]
  rw [← HX.out]
  rw [← hn] at hl
  have HS : Hid (n = s.size) := hn
  have hlen : (s.size : Int) = (n : Int) := by rw [hn]
  clear hn
  go_enter Tryz.func97, Tryz.ntmps97
  go_wp2
  go_loopw [3, 5] (fun v i wr => ∃ k : Nat, k ≤ n ∧ i = .int .i64 k ∧ Hid (Own wr w.heap.size v (esc (xs.take k))) ∧ Hid (Below w.heap.size w wr)) (fun _ i _ => n - (intOf i).toNat)
  case atStart => exact ⟨0, Nat.zero_le _, rfl, own_nil _ _, Below.refl _ _⟩
  case round =>
    obtain ⟨k, hk, rfl, HO, HB⟩ := hrel
    by_cases hlt : k < n
    · have hix := str_index s k (by rw [← HS.out]; exact hlt)
      rw [← HX.out] at hix
      have hxk : xs.getD k 0 < 256 := by rw [HX.out]; exact lt_get (sbytes_lt s) k
      have HE : Hid (esc (xs.take (k + 1)) = esc (xs.take k) ++ esc1 (xs.getD k 0)) := by
        show _ = _
        rw [take_getD (by rw [← HN.out]; exact hlt), esc_snoc]
      have HLn : Hid ((esc (xs.take k)).length ≤ 3 * n) := by
        show _ ≤ _
        have := (esc_len (xs.take k)).2
        rw [List.length_take] at this
        omega
      have hs := HB.out.size
      generalize xs.getD k 0 = c at *
      by_cases hp : plainB c = true
      · have HE2 : Hid (esc1 c = [c]) := by show _ = _; unfold esc1; rw [if_pos hp]
        have HP : Hid (plainB c = true) := hp
        clear hp
        go_wp2_with fail
        refine (refPlain_any c wr hxk).mono ?_
        rintro e w' ⟨rfl, rfl⟩
        rw [HP.out]
        go_wp2_with (first | (at_builtin; refine wpList_append_bytes rfl _ _ rfl w.heap.size _ (esc (xs.take k)) rfl (HO.out.alloc _) (some ⟨w'.heap.size, 0, none⟩) 1 1 [c] rfl rfl (row_one _ _) (by have := HLn.out; simp; omega) (by simp; omega) ?_) | fail)
        rintro v1 w1 hown1 hgr1
        have HB1 : Hid (Below w.heap.size w w1) := (HB.out.alloc hs _).grown hgr1 (by simp; omega) HO.out.ge
        have HO1 : Hid (Own w1 w.heap.size v1 (esc (xs.take (k + 1)))) := by rw [HE.out, HE2.out]; exact hown1
        clear hown1 hgr1
        go_wp2
        go_roundw
        case rel => exact ⟨k + 1, by omega, by go_num, HO1, HB1⟩
        case measure => simp [intOf]; omega
      · have HP : Hid (plainB c = false) := by show _ = _; simpa using hp
        by_cases h32 : c = 32
        · subst h32
          have HE2 : Hid (esc1 32 = [43]) := by show _ = _; decide
          clear hp
          go_wp2_with fail
          refine (refPlain_any 32 wr hxk).mono ?_
          rintro e w' ⟨rfl, rfl⟩
          rw [HP.out]
          go_wp2_with (first | (at_builtin; refine wpList_append_bytes rfl _ _ rfl w.heap.size _ (esc (xs.take k)) rfl (HO.out.alloc _) (some ⟨w'.heap.size, 0, none⟩) 1 1 [43] rfl rfl (row_one _ _) (by have := HLn.out; simp; omega) (by simp; omega) ?_) | fail)
          rintro v1 w1 hown1 hgr1
          have HB1 : Hid (Below w.heap.size w w1) := (HB.out.alloc hs _).grown hgr1 (by simp; omega) HO.out.ge
          have HO1 : Hid (Own w1 w.heap.size v1 (esc (xs.take (k + 1)))) := by rw [HE.out, HE2.out]; exact hown1
          clear hown1 hgr1
          go_wp2
          go_roundw
          case rel => exact ⟨k + 1, by omega, by go_num, HO1, HB1⟩
          case measure => simp [intOf]; omega
        · have hne : ((c : Int) == 32) = false := by rw [beq_eq_false_iff_ne]; omega
          have HE2 : Hid (esc1 c = [37, hexU (c / 16), hexU (c % 16)]) := by show _ = _; unfold esc1; rw [if_neg hp, if_neg h32]
          have hw1 : IntKind.u8.wrap ((c : Int) / 16) = (c : Int) / 16 := wraps_u8 _ (by omega) (by omega)
          have hw2 : IntKind.u8.wrap ((c : Int) % 16) = (c : Int) % 16 := wraps_u8 _ (by omega) (by omega)
          have hw3 : (c : Int).tmod 16 = (c : Int) % 16 := Int.tmod_eq_emod_of_nonneg (by omega)
          have hi1 := hexU_index (c / 16) (by omega) ((c : Int) / 16) (by omega)
          have hi2 := hexU_index (c % 16) (by omega) ((c : Int) % 16) (by omega)
          generalize hexU (c / 16) = d1 at *
          generalize hexU (c % 16) = d2 at *
          clear hp
          go_wp2_with fail
          refine (refPlain_any c wr hxk).mono ?_
          rintro e w' ⟨rfl, rfl⟩
          rw [HP.out]
          go_wp2
          refine region_any_var (by kernel_rfl) ?_
          intro A hA
          have hsz : A.tmps.size = 42 := by rw [hA]; rfl
          have e3 : A.eval (.tmp 3) = u3 := by rw [hA]; rfl
          have e4 : A.eval (.tmp 4) = .string { data := #[48, 49, 50, 51, 52, 53, 54, 55, 56, 57, 65, 66, 67, 68, 69, 70] } := by rw [hA]; rfl
          have e6 : A.eval (.tmp 6) = .int .u8 (c : Int) := by rw [hA]; rfl
          refine take_move (i := 0) 16 3 u3 rfl rfl rfl (by kernel_rfl) (by kernel_rfl) (by kernel_rfl) (fun _ _ _ h => h) rfl (by simp [ev_put, hsz, sz_put, e3, e4, e6]) ?_
          refine take_move (i := 1) 17 4 (.string { data := #[48, 49, 50, 51, 52, 53, 54, 55, 56, 57, 65, 66, 67, 68, 69, 70] }) rfl rfl rfl (by kernel_rfl) (by kernel_rfl) (by kernel_rfl) (fun _ _ _ h => h) rfl (by simp [ev_put, hsz, sz_put, e3, e4, e6]) ?_
          refine take_move (i := 2) 18 6 (.int .u8 (c : Int)) rfl rfl rfl (by kernel_rfl) (by kernel_rfl) (by kernel_rfl) (fun _ _ _ h => h) rfl (by simp [ev_put, hsz, sz_put, e3, e4, e6]) ?_
          refine take_run (i := 3) 19 (.int .u8 ((c : Int) / 16)) rfl rfl (by kernel_rfl) (by kernel_rfl) (by kernel_rfl) (fun _ _ _ h => h) rfl (fun w => by unfold execOp; simp [ev_put, hsz, sz_put, e3, e4, e6] <;> go_simp) ?_
          refine take_run (i := 4) 20 (.int .u8 (d1 : Int)) rfl rfl (by kernel_rfl) (by kernel_rfl) (by kernel_rfl) (fun _ _ _ h => h) rfl (fun w => by unfold execOp; simp [ev_put, hsz, sz_put, e3, e4, e6] <;> go_simp) ?_
          refine take_move (i := 5) 21 4 (.string { data := #[48, 49, 50, 51, 52, 53, 54, 55, 56, 57, 65, 66, 67, 68, 69, 70] }) rfl rfl rfl (by kernel_rfl) (by kernel_rfl) (by kernel_rfl) (fun _ _ _ h => h) rfl (by simp [ev_put, hsz, sz_put, e3, e4, e6]) ?_
          refine take_move (i := 6) 22 6 (.int .u8 (c : Int)) rfl rfl rfl (by kernel_rfl) (by kernel_rfl) (by kernel_rfl) (fun _ _ _ h => h) rfl (by simp [ev_put, hsz, sz_put, e3, e4, e6]) ?_
          refine take_run (i := 7) 23 (.int .u8 ((c : Int) % 16)) rfl rfl (by kernel_rfl) (by kernel_rfl) (by kernel_rfl) (fun _ _ _ h => h) rfl (fun w => by unfold execOp; simp [ev_put, hsz, sz_put, e3, e4, e6] <;> go_simp) ?_
          refine take_run (i := 8) 24 (.int .u8 (d2 : Int)) rfl rfl (by kernel_rfl) (by kernel_rfl) (by kernel_rfl) (fun _ _ _ h => h) rfl (fun w => by unfold execOp; simp [ev_put, hsz, sz_put, e3, e4, e6] <;> go_simp) ?_
          refine step_one (i := 9) (w' := w'.drew.alloc (Obj.cells #[.int .u8 ((37 : Nat) : Int), .int .u8 (d1 : Int), .int .u8 (d2 : Int)] 5)) 25 (.slice (some ⟨w'.heap.size, 0, none⟩) 3 3) rfl rfl (by kernel_rfl) rfl (by unfold execOp; simp [ev_put, hsz, sz_put, e3, e4, e6] <;> go_simp <;> rfl) ?_
          refine step_append (i := 10) rfl (by kernel_rfl) rfl (.tmp 16) (.tmp 25) rfl w.heap.size u3 (esc (xs.take k)) (by simp [ev_put, hsz, sz_put, e3, e4, e6]) (HO.out.keep (below_undrewN1 (below_new _ _))) (some ⟨w'.heap.size, 0, none⟩) 3 3 [37, d1, d2] rfl (by simp [ev_put, hsz, sz_put, e3, e4, e6]) (row_three _ _ _ _) (by have := HLn.out; simp; omega) (by simp; omega) ?_
          intro v1 w1 hown1 hgr1
          refine take_run (i := 11) 3 v1 rfl rfl (by kernel_rfl) (by kernel_rfl) (by kernel_rfl) (fun _ _ _ h => h) rfl (fun w => by unfold execOp; simp [ev_put, hsz, sz_put, e3, e4, e6] <;> go_simp) ?_
          refine wpAny_done (by kernel_rfl) ?_ _
          subst hA
          simp only [put_mk, List.set_cons_succ, List.set_cons_zero]
          have HB1 : Hid (Below w.heap.size w w1) := ((below_drewN HB.out 1).alloc (by simp; omega) _).grown hgr1 (by simp; omega) HO.out.ge
          have HO1 : Hid (Own w1 w.heap.size v1 (esc (xs.take (k + 1)))) := by rw [HE.out, HE2.out]; exact hown1
          clear hown1 hgr1
          go_wp2
          go_roundw
          case rel => exact ⟨k + 1, by omega, by go_num, HO1, HB1⟩
          case measure => simp [intOf]; omega
    · obtain ⟨ao1, c1, rfl, hle, hr1⟩ := HO.out.read
      have HT : Hid (xs.take k = xs) := by show _ = _; rw [List.take_of_length_le (by rw [← HN.out]; omega)]
      rw [HT.out] at hr1 hle
      have cv := conv_row c1 hr1
      rw [HT.out]
      clear hr1
      go_wp2
      go_ret
      exact ⟨rfl, HB.out⟩
end Go.Proofs.YtjehbdekipmllaaGreatDoor
