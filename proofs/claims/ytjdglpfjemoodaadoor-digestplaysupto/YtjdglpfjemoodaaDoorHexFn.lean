/- The contracts of the reference's digit and Hex, and of digest.Hex. -/
import Derived.Test.YtjdglpfjemoodaaDoorWriteMath
namespace Go.Proofs.YtjdglpfjemoodaaDoor
open Go.RowKit

def dg (n : Nat) : Nat := if n < 10 then 48 + n else 87 + n
def hexOf (xs : List Nat) : List Nat := xs.flatMap fun x => [dg (x / 16), dg (x % 16)]
theorem dg_lt {n : Nat} (h : n < 16) : dg n < 256 := by unfold dg; split <;> omega
theorem hexOf_length (xs : List Nat) : (hexOf xs).length = 2 * xs.length := by
  induction xs with
  | nil => rfl
  | cons x r ih =>
    simp only [hexOf, List.flatMap_cons, List.length_append, List.length_cons] at ih ⊢
    rw [ih]; simp; omega
theorem hexOf_lt {xs : List Nat} (h : ∀ x ∈ xs, x < 256) : ∀ y ∈ hexOf xs, y < 256 := by
  intro y hy
  obtain ⟨x, hx, hy⟩ := List.mem_flatMap.1 hy
  have := h x hx
  simp only [List.mem_cons, List.not_mem_nil, or_false] at hy
  rcases hy with rfl | rfl
  · exact dg_lt (by omega)
  · exact dg_lt (by omega)
theorem hexOf_snoc (xs : List Nat) (x : Nat) : hexOf (xs ++ [x]) = hexOf xs ++ [dg (x / 16), dg (x % 16)] := by simp [hexOf]
set_option maxRecDepth 100000 in
theorem digit_any (n : Nat) (w : World) (hn : n < 16) : Calls Tryd.prog 59 #[.int .i64 (n : Int)] w fun e w' => e = .returned (.int .u8 ((dg n : Nat) : Int)) ∧ w' = w := by
  by_cases h : n < 10
  · have e : dg n = 48 + n := by unfold dg; rw [if_pos h]
    go_enter Tryd.func59, Tryd.ntmps59
    go_wp2
    go_ret
    exact ⟨by rw [e]; simp, rfl⟩
  · have e : dg n = 87 + n := by unfold dg; rw [if_neg h]
    go_enter Tryd.func59, Tryd.ntmps59
    go_wp2
    go_ret
    exact ⟨by rw [e]; simp; omega, rfl⟩
theorem digit_n (n : Nat) (i : Int) (hi : i = (n : Int)) (w : World) (hn : n < 16) : Calls Tryd.prog 59 #[.int .i64 i] w fun e w' => e = .returned (.int .u8 ((dg n : Nat) : Int)) ∧ w' = w := by
  subst hi; exact digit_any n w hn
theorem take_getD {xs : List Nat} {k : Nat} (h : k < xs.length) : xs.take (k + 1) = xs.take k ++ [xs.getD k 0] := by
  rw [List.take_succ_eq_append_getElem h]; simp [List.getD, h]

set_option maxHeartbeats 1000000 in
set_option maxRecDepth 100000 in
theorem refHex_any (n cap : Nat) (ao : Option Addr) (xs : List Nat) (w : World) (hl : n ≤ 70368744177664) (hn : n = xs.length) (hx : ∀ x ∈ xs, x < 256) (hr : Row w ao xs) :
    Calls Tryd.prog 31 #[.slice ao n cap] w fun e w' => e = .returned (.string (bstr (hexOf xs))) ∧ Below w.heap.size w w' := by
  have HX : Hid (∀ x ∈ xs, x < 256) := hx
  have HR : Hid (Row w ao xs) := hr
  have HN : Hid (n = xs.length) := hn
  clear hx hr hn
  go_enter Tryd.func31, Tryd.ntmps31
  go_wp2
  go_loopw [3, 4] (fun v i wr => ∃ k : Nat, k ≤ n ∧ i = .int .i64 k ∧ Hid (Own wr w.heap.size v (hexOf (xs.take k))) ∧ Hid (Below w.heap.size w wr)) (fun _ i _ => n - (intOf i).toNat)
  case atStart => exact ⟨0, Nat.zero_le _, rfl, own_nil _ _, Below.refl _ _⟩
  case round =>
    obtain ⟨k, hk, rfl, HO, HB⟩ := hrel
    by_cases hlt : k < n
    · obtain ⟨b, off, rfl⟩ := HR.out.form (by rw [← HN.out]; omega)
      have c0 : wr.cell? ⟨b, off + k, none⟩ = some (.int .u8 ((xs.getD k 0 : Nat) : Int)) := (HR.out.keep HB.out).cell k (by rw [← HN.out]; exact hlt)
      have hxk := lt_get HX.out k
      have HE : Hid (hexOf (xs.take (k + 1)) = hexOf (xs.take k) ++ [dg (xs.getD k 0 / 16)] ++ [dg (xs.getD k 0 % 16)]) := by
        show _ = _
        rw [take_getD (by rw [← HN.out]; exact hlt), hexOf_snoc, List.append_assoc]; rfl
      have HLn : Hid ((hexOf (xs.take k)).length + 2 ≤ 2 * n) := by show _ ≤ _; rw [hexOf_length, List.length_take]; omega
      have HRX : Hid (∀ W, Below w.heap.size w W → W.cell? ⟨b, off + k, none⟩ = some (.int .u8 ((xs.getD k 0 : Nat) : Int))) := fun W h => (HR.out.keep h).cell k (by rw [← HN.out]; exact hlt)
      have hs := HB.out.size
      generalize xs.getD k 0 = x at *
      go_wp2_with fail
      refine (digit_n (x / 16) _ (by omega) wr (by omega)).mono ?_
      rintro e w' ⟨rfl, rfl⟩
      have hd1 := dg_lt (show x / 16 < 16 by omega)
      have hd2 := dg_lt (show x % 16 < 16 by omega)
      generalize dg (x / 16) = d1 at *
      generalize hdd : dg (x % 16) = d2 at *
      have HDD : Hid (dg (x % 16) = d2) := hdd
      clear hdd
      go_wp2_with (first | (at_builtin; refine wpList_append_bytes rfl _ _ rfl w.heap.size _ (hexOf (xs.take k)) rfl (HO.out.alloc _) (some ⟨w'.heap.size, 0, none⟩) 1 1 [d1] rfl rfl (row_one _ _) (by have := HLn.out; simp; omega) (by simp; omega) ?_) | fail)
      rintro v1 w1 hown1 hgr1
      have HB1 : Hid (Below w.heap.size w w1) := (HB.out.alloc hs _).grown hgr1 (by simp; omega) HO.out.ge
      have HO1 : Hid (Own w1 w.heap.size v1 (hexOf (xs.take k) ++ [d1])) := hown1
      have c1 : w1.cell? ⟨b, off + k, none⟩ = some (.int .u8 (x : Int)) := HRX.out w1 HB1.out
      have hs1 := HB1.out.size
      clear hown1 hgr1 c0 HO HB
      go_wp2_with fail
      refine (digit_n (x % 16) _ (by omega) w1 (by omega)).mono ?_
      rintro e w2 ⟨rfl, rfl⟩
      rw [HDD.out]
      go_wp2_with (first | (at_builtin; refine wpList_append_bytes rfl _ _ rfl w.heap.size _ (hexOf (xs.take k) ++ [d1]) rfl (HO1.out.alloc _) (some ⟨w2.heap.size, 0, none⟩) 1 1 [d2] rfl rfl (row_one _ _) (by have := HLn.out; simp; omega) (by simp; omega) ?_) | fail)
      rintro v3 w3 hown3 hgr3
      have HB3 : Hid (Below w.heap.size w w3) := (HB1.out.alloc hs1 _).grown hgr3 (by simp; omega) HO1.out.ge
      have HO3 : Hid (Own w3 w.heap.size v3 (hexOf (xs.take (k + 1)))) := by rw [HE.out, List.append_assoc]; exact hown3
      clear hown3 hgr3
      go_wp2
      go_roundw
      case rel => exact ⟨k + 1, by omega, by go_num, HO3, HB3⟩
      case measure => simp [intOf]; omega
    · obtain ⟨ao1, c1, rfl, hle, hr1⟩ := HO.out.read
      have HT : Hid (xs.take k = xs) := by show _ = _; rw [List.take_of_length_le (by rw [← HN.out]; omega)]
      rw [HT.out] at hr1 hle
      have cv := conv_row c1 hr1
      rw [HT.out]
      clear hr1
      go_wp2
      go_ret
      exact ⟨rfl, HB.out⟩
theorem row_two (w : World) (a b : Nat) : Row (w.alloc (.cells #[.int .u8 (a : Int), .int .u8 (b : Int)] 5)) (some ⟨w.heap.size, 0, none⟩) [a, b] := by
  refine .inr ⟨_, _, rfl, fun i hi => ?_⟩
  have : i = 0 ∨ i = 1 := by simp at hi; omega
  rcases this with rfl | rfl <;> simp
theorem step_append {ops : Array Oper} {i : Nat} {o : Oper} {fuel : Nat} {listed : Array Bool} {md : Region.Mode} {a : Act} {w : World} {Q : Exit → Act → World → Prop} (hi : ops[i]? = some o) (hr : Region.ready md ops listed = [i]) (hgd : o.guard = none) (s x : Operand)
    (ho : o.op = .call { callee := .builtin .append, args := #[s, x], argTypes := #[26, 26] }) (B : Nat) (v : Value) (xs : List Nat) (hs : a.eval s = v) (hown : Own w B v xs)
    (ao : Option Addr) (n c : Nat) (ys : List Nat) (hn : n = ys.length) (hx : a.eval x = .slice ao n c) (hy : Row w ao ys) (hsz : xs.length + ys.length ≤ 140737488355328) (hB : B ≤ w.heap.size)
    (h : ∀ v' w', Own w' B v' (xs ++ ys) → w.grownBy w' v.ownBlock → wpAny Tryd.prog md ops Q fuel (listed.setIfInBounds i true) (a.put o.dst v') w') : wpAny Tryd.prog md ops Q (fuel + 1) listed a w := by
  refine wpAny_ready (rs := [i]) hr (by simp) (AllReady.cons hi (fun K hK => ?_) AllReady.nil)
  rw [if_pos (by simp [Region.wanted, hgd])]
  obtain ⟨v', w', hrun, h1, h2⟩ := run_append_bytes hown ao c hy hsz hB o.type
  subst hn
  unfold Oper.wp
  simp [execOp, ho, resolve, invoke, builtin, hs, hx, hrun, Result.andThen]
  exact hK _ _ (h v' w' h1 h2)
theorem below_undrewN1 {w w' : World} (h : Below w.drew.heap.size w.drew w') : Below w.heap.size w w' := ⟨h.os, h.tape, h.output, h.size, h.block⟩
def hexd : ByteArray := { data := #[48, 49, 50, 51, 52, 53, 54, 55, 56, 57, 97, 98, 99, 100, 101, 102] }
theorem hexd_get : ∀ n, n < 16 → hexd.data.toList[n]? = some (UInt8.ofNat (dg n)) := by decide
theorem hex_index (n : Nat) (hn : n < 16) (i : Int) (hi : i = (n : Int)) (w : World) : (Instr.index 9 (.string { data := #[48, 49, 50, 51, 52, 53, 54, 55, 56, 57, 97, 98, 99, 100, 101, 102] }) (.int .u8 i)).run Tryd.prog w = .ok (.int .u8 ((dg n : Nat) : Int)) w := by
  subst hi
  rw [run_index_string w 9 _ .u8 (n : Int) Tryd.underlying9, dif_pos ⟨by omega, by show (n : Int) < 16; omega⟩]
  have h := hexd_get n hn
  have h2 : ∀ m (hm : m < hexd.size), hexd.data.toList[m]? = some hexd[m] := fun m hm => by
    rw [List.getElem?_eq_getElem (by simpa using hm)]; rfl
  have h3 := h2 n hn
  rw [h] at h3
  have h4 := Option.some.inj h3
  show Result.ok (Value.int .u8 ((hexd[n]'hn).toNat : Int)) w = _
  rw [← h4]
  have := dg_lt hn
  simp [Nat.mod_eq_of_lt this]

set_option linter.unusedSimpArgs false in
set_option maxHeartbeats 1000000 in
set_option maxRecDepth 100000 in
theorem hex_any (n cap : Nat) (ao : Option Addr) (xs : List Nat) (w : World) (hl : n ≤ 70368744177664) (hn : n = xs.length) (hx : ∀ x ∈ xs, x < 256) (hr : Row w ao xs) :
    Calls Tryd.prog 30 #[.slice ao n cap] w fun e w' => e = .returned (.string (bstr (hexOf xs))) ∧ Below w.heap.size w w' := by
  have HX : Hid (∀ x ∈ xs, x < 256) := hx
  have HR : Hid (Row w ao xs) := hr
  have HN : Hid (n = xs.length) := hn
  clear hx hr hn
  go_enter Tryd.func30, Tryd.ntmps30
  go_wp2_with (first | (at_make; refine wpList_make_bytes rfl _ _ rfl .i64 .i64 _ _ 0 (2 * n) rfl rfl rfl (by omega) (by omega) (by omega) ?_) | fail)
  rintro w1 hb1 hbel1 hs1
  have HO1 : Hid (Own w1 w.heap.size (.slice (some ⟨w.heap.size, 0, none⟩) 0 (2 * n)) (hexOf (xs.take 0))) := by
    have := Blk.own (xs := []) (ys := List.replicate (2 * n) 0) (n := 0) (c := 2 * n) hb1 rfl (by simp) (Nat.le_refl _) (by unfold maxLen; omega)
    exact this
  have HB1 : Hid (Below w.heap.size w w1) := hbel1
  clear hb1 hbel1 hs1
  go_wp2
  go_loopw [3, 12] (fun v i wr => ∃ k : Nat, k ≤ n ∧ i = .int .i64 k ∧ Hid (Own wr w.heap.size v (hexOf (xs.take k))) ∧ Hid (Below w.heap.size w wr)) (fun _ i _ => n - (intOf i).toNat)
  case atStart => exact ⟨0, Nat.zero_le _, rfl, HO1, HB1⟩
  case round =>
    clear HO1 HB1
    obtain ⟨k, hk, rfl, HO, HB⟩ := hrel
    by_cases hlt : k < n
    · obtain ⟨b, off, rfl⟩ := HR.out.form (by rw [← HN.out]; omega)
      have c0 : wr.cell? ⟨b, off + k, none⟩ = some (.int .u8 ((xs.getD k 0 : Nat) : Int)) := (HR.out.keep HB.out).cell k (by rw [← HN.out]; exact hlt)
      have hxk := lt_get HX.out k
      have HE : Hid (hexOf (xs.take (k + 1)) = hexOf (xs.take k) ++ [dg (xs.getD k 0 / 16), dg (xs.getD k 0 % 16)]) := by
        show _ = _
        rw [take_getD (by rw [← HN.out]; exact hlt), hexOf_snoc]
      have HLn : Hid ((hexOf (xs.take k)).length + 2 ≤ 2 * n) := by show _ ≤ _; rw [hexOf_length, List.length_take]; omega
      have hs := HB.out.size
      generalize xs.getD k 0 = x at *
      have hand : bits BinOp.and IntKind.u8 (x : Int) 15 = (x : Int) % 16 := by
        have := u8_and_nat x 15 hxk (by decide)
        rw [nat_mask4] at this
        rw [show (15 : Int) = ((15 : Nat) : Int) from rfl, this]; omega
      have hi1 := hex_index (x / 16) (by omega) ((x : Int) / 16) (by omega)
      have hi2 := hex_index (x % 16) (by omega) ((x : Int) % 16) (by omega)
      generalize dg (x / 16) = d1 at *
      generalize dg (x % 16) = d2 at *
      go_wp2
      refine region_any_var (by kernel_rfl) ?_
      intro A hA
      have hsz : A.tmps.size = 28 := by rw [hA]; rfl
      have e3 : A.eval (.tmp 3) = u3 := by rw [hA]; rfl
      have e5 : A.eval (.tmp 5) = .int .u8 (x : Int) := by rw [hA]; rfl
      refine take_move (i := 0) 16 3 u3 rfl rfl rfl (by kernel_rfl) (by kernel_rfl) (by kernel_rfl) (fun _ _ _ h => h) rfl (by simp [ev_put, hsz, sz_put, e3, e5]) ?_
      refine take_move (i := 1) 17 5 (.int .u8 (x : Int)) rfl rfl rfl (by kernel_rfl) (by kernel_rfl) (by kernel_rfl) (fun _ _ _ h => h) rfl (by simp [ev_put, hsz, sz_put, e3, e5]) ?_
      refine take_run (i := 2) 18 (.int .u8 ((x : Int) / 16)) rfl rfl (by kernel_rfl) (by kernel_rfl) (by kernel_rfl) (fun _ _ _ h => h) rfl (fun w => by unfold execOp; simp [ev_put, hsz, sz_put, e3, e5] <;> go_simp) ?_
      refine take_run (i := 3) 19 (.int .u8 (d1 : Int)) rfl rfl (by kernel_rfl) (by kernel_rfl) (by kernel_rfl) (fun _ _ _ h => h) rfl (fun w => by unfold execOp; simp [ev_put, hsz, sz_put, e3, e5] <;> go_simp) ?_
      refine take_move (i := 4) 20 5 (.int .u8 (x : Int)) rfl rfl rfl (by kernel_rfl) (by kernel_rfl) (by kernel_rfl) (fun _ _ _ h => h) rfl (by simp [ev_put, hsz, sz_put, e3, e5]) ?_
      refine take_run (i := 5) 21 (.int .u8 ((x : Int) % 16)) rfl rfl (by kernel_rfl) (by kernel_rfl) (by kernel_rfl) (fun _ _ _ h => h) rfl (fun w => by unfold execOp; simp [ev_put, hsz, sz_put, e3, e5] <;> go_simp) ?_
      refine take_run (i := 6) 22 (.int .u8 (d2 : Int)) rfl rfl (by kernel_rfl) (by kernel_rfl) (by kernel_rfl) (fun _ _ _ h => h) rfl (fun w => by unfold execOp; simp [ev_put, hsz, sz_put, e3, e5] <;> go_simp) ?_
      refine step_one (i := 7) (w' := wr.drew.alloc (Obj.cells #[.int .u8 (d1 : Int), .int .u8 (d2 : Int)] 5)) 23 (.slice (some ⟨wr.heap.size, 0, none⟩) 2 2) rfl rfl (by kernel_rfl) rfl (by unfold execOp; simp [ev_put, hsz, sz_put, e3, e5] <;> go_simp <;> rfl) ?_
      refine step_append (i := 8) rfl (by kernel_rfl) rfl (.tmp 16) (.tmp 23) rfl w.heap.size u3 (hexOf (xs.take k)) (by simp [ev_put, hsz, sz_put, e3, e5]) (HO.out.keep (below_undrewN1 (below_new _ _))) (some ⟨wr.heap.size, 0, none⟩) 2 2 [d1, d2] rfl (by simp [ev_put, hsz, sz_put, e3, e5]) (row_two _ _ _) (by have := HLn.out; simp; omega) (by simp; omega) ?_
      intro v1 w1 hown1 hgr1
      refine take_run (i := 9) 3 v1 rfl rfl (by kernel_rfl) (by kernel_rfl) (by kernel_rfl) (fun _ _ _ h => h) rfl (fun w => by unfold execOp; simp [ev_put, hsz, sz_put, e3, e5] <;> go_simp) ?_
      refine wpAny_done (by kernel_rfl) ?_ _
      subst hA
      simp only [put_mk, List.set_cons_succ, List.set_cons_zero]
      go_wp2
      go_roundw
      case rel => exact ⟨k + 1, by omega, by go_num, by rw [HE.out]; exact hown1, by exact ((below_drewN HB.out 1).alloc (by simp; omega) _).grown hgr1 (by simp; omega) HO.out.ge⟩
      case measure => simp [intOf]; omega
    · obtain ⟨ao1, c1, rfl, hle, hr1⟩ := HO.out.read
      have HT : Hid (xs.take k = xs) := by show _ = _; rw [List.take_of_length_le (by rw [← HN.out]; omega)]
      rw [HT.out] at hr1 hle
      have cv := conv_row c1 hr1
      rw [HT.out]
      clear hr1
      go_wp2
      go_ret
      exact ⟨rfl, HB.out⟩
end Go.Proofs.YtjdglpfjemoodaaDoor
