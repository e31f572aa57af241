/- The contract of the document's Print: for every list of pairs. -/
import Derived.Test.YtjehbdekipmllaaGreatDoorXHeld
import Derived.Test.YtjehbdekipmllaaGreatDoorXPar
import Derived.Test.YtjehbdekipmllaaGreatDoorXEsc
import Derived.Test.YtjehbdekipmllaaGreatDoorXMath
namespace Go.Proofs.YtjehbdekipmllaaGreatDoor
open Go.RowKit

theorem bstr_append (x y : List Nat) : bstr x ++ bstr y = bstr (x ++ y) := by
  apply ByteArray.ext
  rw [ByteArray.data_append]
  simp [bstr]
theorem add_run {x y : List Nat} {w : World} (h : x.length + y.length ≤ 4611686018427387904) : (binOp .add 9 (.string (bstr x)) (.string (bstr y))).run Tryz.prog w = .ok (.string (bstr (x ++ y))) w := by
  have := run_string_add_sum (P := Tryz.prog) (w := w) (bstr x) (bstr y) (by rw [bstr_size, bstr_size]; omega)
  rw [binOp_string_add, ← bstr_append]
  exact this
theorem add_strR {x y : List Nat} (h : x.length + y.length ≤ 4611686018427387904) : ∀ w, (Op.stringOp .add (bstr x) (bstr y)).run Tryz.prog w = .ok (.string (bstr (x ++ y))) w := fun w => by
  have := add_run (w := w) h
  rw [binOp_string_add] at this
  exact this
theorem add_one {x : List Nat} {c : UInt8} {w : World} (h : x.length + 1 ≤ 4611686018427387904) : (binOp .add 9 (.string (bstr x)) (.string { data := #[c] })).run Tryz.prog w = .ok (.string (bstr (x ++ [c.toNat]))) w := by
  rw [show ({ data := #[c] } : ByteArray) = bstr [c.toNat] by simp [bstr]]
  exact add_run (by simpa using h)

set_option linter.unusedSimpArgs false in
set_option maxHeartbeats 1000000 in
set_option maxRecDepth 100000 in
theorem refPrint_any (n c : Nat) (ao : Option Addr) (l : List Two) (w : World) (hn : n = l.length) (hl : tot2 l ≤ 1099511627776) (hb : ∀ q ∈ l, bytes2 q) (hr : PRow w ao l) :
    Calls Tryz.prog 69 #[.slice ao n c] w fun e w' => e = .returned (.string (bstr (prt l))) ∧ Below w.heap.size w w' := by
  have hl3 := tot2_len l
  have HL : Hid (tot2 l ≤ 1099511627776) := hl
  have HN : Hid (n = l.length) := hn
  have HR : Hid (PRow w ao l) := hr
  have HB2 : Hid (∀ q ∈ l, bytes2 q) := hb
  have hnb : n ≤ 1099511627776 := by omega
  clear hn hr hb hl hl3
  go_enter Tryz.func69, Tryz.ntmps69
  go_wp2
  go_loopw [3, 4] (fun v i wr => ∃ (k : Nat) (z : List Nat), k ≤ n ∧ v = .string (bstr z) ∧ i = .int .i64 k ∧ Hid (z = prt (l.take k)) ∧ Hid (Below w.heap.size w wr)) (fun _ i _ => n - (intOf i).toNat)
  case atStart => exact ⟨0, [], by omega, rfl, rfl, rfl, Below.refl _ _⟩
  case round =>
    obtain ⟨k, z, hk, rfl, rfl, HZZ, HB⟩ := hrel
    have hs := HB.out.size
    by_cases hlt : k < n
    · obtain ⟨b, off, rfl⟩ := HR.out.form (by rw [← HN.out]; omega)
      obtain ⟨q, hq⟩ : ∃ q, l[k]? = some q := ⟨_, List.getElem?_eq_getElem (by rw [← HN.out]; exact hlt)⟩
      have hqm := List.mem_of_getElem? hq
      have HT : Hid (l.take (k + 1) = l.take k ++ [q]) := by show _ = _; rw [List.take_add_one, hq]; rfl
      have HQ2 : Hid (bytes2 q) := HB2.out q hqm
      have HZ0 : Hid (z.length + (seg q).length + 1 ≤ 4398046511104 ∧ q.1.length + q.2.length ≤ 1099511627776) := by
        have h1 := tot2_take l (k + 1)
        have h2 := HL.out
        have h3 := seg_len q
        have h4 := prt_len (l.take k)
        rw [HT.out, tot2_append, tot2_cons] at h1
        rw [HZZ.out]
        exact ⟨by omega, by omega⟩
      have HPR : Hid (prt (l.take (k + 1)) = if k = 0 then seg q else z ++ 38 :: seg q) := by
        show _ = _
        rw [HT.out, prt_snoc, HZZ.out]
        by_cases h0 : k = 0
        · subst h0; rfl
        · rw [if_neg h0, if_neg]
          intro e
          have := congrArg List.length e
          rw [List.length_take, Nat.min_eq_left (by rw [← HN.out]; omega)] at this
          simp at this
          omega
      obtain ⟨x, HXq⟩ : ∃ x, Hid (x = bstr q.1) := ⟨_, hide rfl⟩
      obtain ⟨y, HYq⟩ : ∃ y, Hid (y = bstr q.2) := ⟨_, hide rfl⟩
      have HQ : Hid (x = bstr q.1 ∧ y = bstr q.2) := ⟨HXq.out, HYq.out⟩
      have HCW : Hid (∀ W, Below w.heap.size w W → W.cell? ⟨b, off + k * 2, none⟩ = some (.string x) ∧ W.cell? ⟨b, off + k * 2 + 1, none⟩ = some (.string y)) := fun W hW => by
        have h := (HR.out.keep hW).cell hq
        rw [Nat.mul_comm 2 k, ← HXq.out, ← HYq.out] at h
        exact h
      have HC : Hid (wr.cell? ⟨b, off + k * 2, none⟩ = some (.string x) ∧ wr.cell? ⟨b, off + k * 2 + 1, none⟩ = some (.string y)) := HCW.out wr HB.out
      clear hq hqm HXq HYq
      have HEX : Hid (esc (sbytes x) = esc q.1) := by show _ = _; rw [HQ.out.1, sbytes_bstr HQ2.out.1]
      have HEY : Hid (esc (sbytes y) = esc q.2) := by show _ = _; rw [HQ.out.2, sbytes_bstr HQ2.out.2]
      by_cases h0 : k = 0
      · subst h0
        rw [Nat.zero_mul, Nat.add_zero] at HC HCW
        rw [if_pos rfl, Nat.zero_add] at HPR
        have HZ : Hid (z.length + (esc q.1).length + (esc q.2).length + 1 ≤ 4398046511104 ∧ q.1.length + q.2.length ≤ 1099511627776) := by
          have h1 := HZ0.out
          have h2 := seg_two q
          exact ⟨by omega, h1.2⟩
        have HZN : Hid (z = []) := by show _ = _; rw [HZZ.out]; rfl
        clear HZ0 HZZ HT
        go_wp2
        refine region_held_var (fun W => W.cell? ⟨b, off, none⟩ = some (.string x) ∧ W.cell? ⟨b, off + 1, none⟩ = some (.string y)) (by kernel_rfl) ?_
        intro A hA
        have hsz : A.tmps.size = 32 := by rw [hA]; rfl
        have e0 : A.eval (.tmp 0) = .slice (some ⟨b, off, none⟩) n c := by rw [hA]; rfl
        obtain ⟨z4, HZ4⟩ : ∃ z4, Hid (z4 = z ++ esc q.1) := ⟨_, hide rfl⟩
        obtain ⟨z5, HZ5⟩ : ∃ z5, Hid (z5 = z ++ esc q.1 ++ [61]) := ⟨_, hide rfl⟩
        obtain ⟨z3, HZ3⟩ : ∃ z3, Hid (z3 = z ++ esc q.1 ++ [61] ++ esc q.2) := ⟨_, hide rfl⟩
        have a1 : ∀ w, (Op.stringOp .add (bstr z) (bstr (esc q.1))).run Tryz.prog w = .ok (.string (bstr z4)) w := by rw [HZ4.out]; exact add_strR (by have := HZ.out.1; omega)
        have a2 : ∀ w, (Op.stringOp .add (bstr z4) { data := #[61] }).run Tryz.prog w = .ok (.string (bstr z5)) w := by rw [HZ5.out, HZ4.out]; exact add_strR (y := [61]) (by have := HZ.out.1; simp only [List.length_append, List.length_cons, List.length_nil]; omega)
        have a3 : ∀ w, (Op.stringOp .add (bstr z5) (bstr (esc q.2))).run Tryz.prog w = .ok (.string (bstr z3)) w := by rw [HZ3.out, HZ5.out]; exact add_strR (by have := HZ.out.1; simp only [List.length_append, List.length_cons, List.length_nil]; omega)
        have e3 : A.eval (.tmp 3) = .string (bstr z) := by rw [hA]; rfl
        have e4 : A.eval (.tmp 4) = .int .i64 0 := by rw [hA]; rfl
        have HS : wr.drew.cell? ⟨b, off, none⟩ = some (.string x) ∧ wr.drew.cell? ⟨b, off + 1, none⟩ = some (.string y) := ⟨HC.out.1, HC.out.2⟩
        refine heldMove (i := 0) 15 3 (.string (bstr z)) rfl rfl rfl (by kernel_rfl) (by kernel_rfl) (by kernel_rfl) (fun _ _ _ h => h) rfl (by simp [ev_put, hsz, sz_put, e0, e3, e4]) HS ?_
        refine heldMove (i := 1) 16 0 (.slice (some ⟨b, off, none⟩) n c) rfl rfl rfl (by kernel_rfl) (by kernel_rfl) (by kernel_rfl) (fun _ _ _ h => h) rfl (by simp [ev_put, hsz, sz_put, e0, e3, e4]) HS ?_
        refine heldMove (i := 2) 17 4 (.int .i64 0) rfl rfl rfl (by kernel_rfl) (by kernel_rfl) (by kernel_rfl) (fun _ _ _ h => h) rfl (by simp [ev_put, hsz, sz_put, e0, e3, e4]) HS ?_
        refine heldRun (i := 3) 18 (.pointer (some ⟨b, off, none⟩)) rfl rfl (by kernel_rfl) (by kernel_rfl) (by kernel_rfl) (fun _ _ _ h => h) rfl (fun w hSw => by obtain ⟨s1, s2⟩ := hSw; unfold execOp; simp [ev_put, hsz, sz_put, e0, e3, e4] <;> go_simp) HS ?_
        refine heldRun (i := 4) 19 (.pointer (some ⟨b, off, none⟩)) rfl rfl (by kernel_rfl) (by kernel_rfl) (by kernel_rfl) (fun _ _ _ h => h) rfl (fun w hSw => by obtain ⟨s1, s2⟩ := hSw; unfold execOp; simp [ev_put, hsz, sz_put, e0, e3, e4] <;> go_simp) HS ?_
        refine heldRun (i := 5) 20 (.string x) rfl rfl (by kernel_rfl) (by kernel_rfl) (by kernel_rfl) (fun _ _ _ h => h) rfl (fun w hSw => by obtain ⟨s1, s2⟩ := hSw; unfold execOp; simp [ev_put, hsz, sz_put, e0, e3, e4] <;> go_simp) HS ?_
        refine heldMove (i := 9) 24 0 (.slice (some ⟨b, off, none⟩) n c) rfl rfl rfl (by kernel_rfl) (by kernel_rfl) (by kernel_rfl) (fun _ _ _ h => h) rfl (by simp [ev_put, hsz, sz_put, e0, e3, e4]) HS ?_
        refine heldMove (i := 10) 25 4 (.int .i64 0) rfl rfl rfl (by kernel_rfl) (by kernel_rfl) (by kernel_rfl) (fun _ _ _ h => h) rfl (by simp [ev_put, hsz, sz_put, e0, e3, e4]) HS ?_
        refine heldRun (i := 11) 26 (.pointer (some ⟨b, off, none⟩)) rfl rfl (by kernel_rfl) (by kernel_rfl) (by kernel_rfl) (fun _ _ _ h => h) rfl (fun w hSw => by obtain ⟨s1, s2⟩ := hSw; unfold execOp; simp [ev_put, hsz, sz_put, e0, e3, e4] <;> go_simp) HS ?_
        refine heldRun (i := 12) 27 (.pointer (some ⟨b, off + 1, none⟩)) rfl rfl (by kernel_rfl) (by kernel_rfl) (by kernel_rfl) (fun _ _ _ h => h) rfl (fun w hSw => by obtain ⟨s1, s2⟩ := hSw; unfold execOp; simp [ev_put, hsz, sz_put, e0, e3, e4] <;> go_simp) HS ?_
        refine heldRun (i := 13) 28 (.string y) rfl rfl (by kernel_rfl) (by kernel_rfl) (by kernel_rfl) (fun _ _ _ h => h) rfl (fun w hSw => by obtain ⟨s1, s2⟩ := hSw; unfold execOp; simp [ev_put, hsz, sz_put, e0, e3, e4] <;> go_simp) HS ?_
        refine heldCall (i := 6) 21 97 #[.string x] rfl rfl (by kernel_rfl) rfl (by unfold execOp; simp [ev_put, hsz, sz_put, e0, e3, e4] <;> go_simp) ?_
        refine (refEscape_any x _ (by have := HZ.out.2; rw [HQ.out.1, bstr_size]; omega)).mono ?_
        rintro e w1 ⟨rfl, hb1⟩
        have HB1 : Hid (Below w.heap.size w w1) := (below_drewN HB.out 1).trans (hb1.mono (by simp; omega))
        have HS1 := HCW.out w1 HB1.out
        refine ⟨_, rfl, HS1, ?_⟩
        rw [HEX.out]
        refine heldRun (i := 7) 22 (.string (bstr z4)) rfl rfl (by kernel_rfl) (by kernel_rfl) (by kernel_rfl) (fun _ _ _ h => h) rfl (fun w hSw => by obtain ⟨s1, s2⟩ := hSw; unfold execOp; simp [ev_put, hsz, sz_put, e0, e3, e4] <;> go_simp) HS1 ?_
        refine heldRun (i := 8) 23 (.string (bstr z5)) rfl rfl (by kernel_rfl) (by kernel_rfl) (by kernel_rfl) (fun _ _ _ h => h) rfl (fun w hSw => by obtain ⟨s1, s2⟩ := hSw; unfold execOp; simp [ev_put, hsz, sz_put, e0, e3, e4] <;> go_simp) HS1 ?_
        refine heldCall (i := 14) 29 97 #[.string y] rfl rfl (by kernel_rfl) rfl (by unfold execOp; simp [ev_put, hsz, sz_put, e0, e3, e4] <;> go_simp) ?_
        refine (refEscape_any y _ (by have := HZ.out.2; rw [HQ.out.2, bstr_size]; omega)).mono ?_
        rintro e w2 ⟨rfl, hb2⟩
        have HB3 : Hid (Below w.heap.size w w2) := HB1.out.trans (hb2.mono (HB1.out.size))
        have HS2 := HCW.out w2 HB3.out
        refine ⟨_, rfl, HS2, ?_⟩
        rw [HEY.out]
        refine heldRun (i := 15) 30 (.string (bstr z3)) rfl rfl (by kernel_rfl) (by kernel_rfl) (by kernel_rfl) (fun _ _ _ h => h) rfl (fun w hSw => by obtain ⟨s1, s2⟩ := hSw; unfold execOp; simp [ev_put, hsz, sz_put, e0, e3, e4] <;> go_simp) HS2 ?_
        refine heldRun (i := 16) 3 (.string (bstr z3)) rfl rfl (by kernel_rfl) (by kernel_rfl) (by kernel_rfl) (fun _ _ _ h => h) rfl (fun w hSw => by obtain ⟨s1, s2⟩ := hSw; unfold execOp; simp [ev_put, hsz, sz_put, e0, e3, e4] <;> go_simp) HS2 ?_
        refine wpAnyH_done (by kernel_rfl) ?_ _
        subst hA
        simp only [put_mk, List.set_cons_succ, List.set_cons_zero]
        clear hb1 hb2 HS HS1 HS2
        go_wp2
        go_roundw
        case rel => exact ⟨1, _, by omega, rfl, by go_num, by show _ = _; rw [HPR.out, HZ3.out, HZN.out, seg_of]; rfl, HB3⟩
        case measure => simp [intOf]; omega
      · have h0i : (0 : Int) < (k : Int) := by omega
        have hz1 : ∀ w, (Op.stringOp .add (bstr z) { data := #[38] }).run Tryz.prog w = .ok (.string (bstr (z ++ [38]))) w := fun w => by
          have := add_one (c := 38) (w := w) (x := z) (by have := HZ0.out.1; omega)
          rw [binOp_string_add] at this
          exact this
        rw [if_neg h0] at HPR
        obtain ⟨z2, HZ2⟩ : ∃ z2, Hid (z2 = z ++ [38]) := ⟨_, hide rfl⟩
        rw [← HZ2.out] at hz1
        have HZ : Hid (z2.length + (esc q.1).length + (esc q.2).length + 1 ≤ 4398046511104 ∧ q.1.length + q.2.length ≤ 1099511627776) := by
          have h1 := HZ0.out
          have h2 := seg_two q
          rw [HZ2.out, List.length_append]
          exact ⟨by simp only [List.length_cons, List.length_nil]; omega, h1.2⟩
        have HPR2 : Hid (prt (l.take (k + 1)) = z2 ++ seg q) := by show _ = _; rw [HPR.out, HZ2.out]; simp
        clear HZ0 HZZ HT HPR HZ2
        go_wp2
        refine region_held_var (fun W => W.cell? ⟨b, off + k * 2, none⟩ = some (.string x) ∧ W.cell? ⟨b, off + k * 2 + 1, none⟩ = some (.string y)) (by kernel_rfl) ?_
        intro A hA
        have hsz : A.tmps.size = 32 := by rw [hA]; rfl
        have e0 : A.eval (.tmp 0) = .slice (some ⟨b, off, none⟩) n c := by rw [hA]; rfl
        obtain ⟨z4, HZ4⟩ : ∃ z4, Hid (z4 = z2 ++ esc q.1) := ⟨_, hide rfl⟩
        obtain ⟨z5, HZ5⟩ : ∃ z5, Hid (z5 = z2 ++ esc q.1 ++ [61]) := ⟨_, hide rfl⟩
        obtain ⟨z3, HZ3⟩ : ∃ z3, Hid (z3 = z2 ++ esc q.1 ++ [61] ++ esc q.2) := ⟨_, hide rfl⟩
        have a1 : ∀ w, (Op.stringOp .add (bstr z2) (bstr (esc q.1))).run Tryz.prog w = .ok (.string (bstr z4)) w := by rw [HZ4.out]; exact add_strR (by have := HZ.out.1; omega)
        have a2 : ∀ w, (Op.stringOp .add (bstr z4) { data := #[61] }).run Tryz.prog w = .ok (.string (bstr z5)) w := by rw [HZ5.out, HZ4.out]; exact add_strR (y := [61]) (by have := HZ.out.1; simp only [List.length_append, List.length_cons, List.length_nil]; omega)
        have a3 : ∀ w, (Op.stringOp .add (bstr z5) (bstr (esc q.2))).run Tryz.prog w = .ok (.string (bstr z3)) w := by rw [HZ3.out, HZ5.out]; exact add_strR (by have := HZ.out.1; simp only [List.length_append, List.length_cons, List.length_nil]; omega)
        have e3 : A.eval (.tmp 3) = .string (bstr z2) := by rw [hA]; rfl
        have e4 : A.eval (.tmp 4) = .int .i64 (k : Int) := by rw [hA]; rfl
        have HS : wr.drew.cell? ⟨b, off + k * 2, none⟩ = some (.string x) ∧ wr.drew.cell? ⟨b, off + k * 2 + 1, none⟩ = some (.string y) := ⟨HC.out.1, HC.out.2⟩
        refine heldMove (i := 0) 15 3 (.string (bstr z2)) rfl rfl rfl (by kernel_rfl) (by kernel_rfl) (by kernel_rfl) (fun _ _ _ h => h) rfl (by simp [ev_put, hsz, sz_put, e0, e3, e4]) HS ?_
        refine heldMove (i := 1) 16 0 (.slice (some ⟨b, off, none⟩) n c) rfl rfl rfl (by kernel_rfl) (by kernel_rfl) (by kernel_rfl) (fun _ _ _ h => h) rfl (by simp [ev_put, hsz, sz_put, e0, e3, e4]) HS ?_
        refine heldMove (i := 2) 17 4 (.int .i64 (k : Int)) rfl rfl rfl (by kernel_rfl) (by kernel_rfl) (by kernel_rfl) (fun _ _ _ h => h) rfl (by simp [ev_put, hsz, sz_put, e0, e3, e4]) HS ?_
        refine heldRun (i := 3) 18 (.pointer (some ⟨b, off + k * 2, none⟩)) rfl rfl (by kernel_rfl) (by kernel_rfl) (by kernel_rfl) (fun _ _ _ h => h) rfl (fun w hSw => by obtain ⟨s1, s2⟩ := hSw; unfold execOp; simp [ev_put, hsz, sz_put, e0, e3, e4] <;> go_simp) HS ?_
        refine heldRun (i := 4) 19 (.pointer (some ⟨b, off + k * 2, none⟩)) rfl rfl (by kernel_rfl) (by kernel_rfl) (by kernel_rfl) (fun _ _ _ h => h) rfl (fun w hSw => by obtain ⟨s1, s2⟩ := hSw; unfold execOp; simp [ev_put, hsz, sz_put, e0, e3, e4] <;> go_simp) HS ?_
        refine heldRun (i := 5) 20 (.string x) rfl rfl (by kernel_rfl) (by kernel_rfl) (by kernel_rfl) (fun _ _ _ h => h) rfl (fun w hSw => by obtain ⟨s1, s2⟩ := hSw; unfold execOp; simp [ev_put, hsz, sz_put, e0, e3, e4] <;> go_simp) HS ?_
        refine heldMove (i := 9) 24 0 (.slice (some ⟨b, off, none⟩) n c) rfl rfl rfl (by kernel_rfl) (by kernel_rfl) (by kernel_rfl) (fun _ _ _ h => h) rfl (by simp [ev_put, hsz, sz_put, e0, e3, e4]) HS ?_
        refine heldMove (i := 10) 25 4 (.int .i64 (k : Int)) rfl rfl rfl (by kernel_rfl) (by kernel_rfl) (by kernel_rfl) (fun _ _ _ h => h) rfl (by simp [ev_put, hsz, sz_put, e0, e3, e4]) HS ?_
        refine heldRun (i := 11) 26 (.pointer (some ⟨b, off + k * 2, none⟩)) rfl rfl (by kernel_rfl) (by kernel_rfl) (by kernel_rfl) (fun _ _ _ h => h) rfl (fun w hSw => by obtain ⟨s1, s2⟩ := hSw; unfold execOp; simp [ev_put, hsz, sz_put, e0, e3, e4] <;> go_simp) HS ?_
        refine heldRun (i := 12) 27 (.pointer (some ⟨b, off + k * 2 + 1, none⟩)) rfl rfl (by kernel_rfl) (by kernel_rfl) (by kernel_rfl) (fun _ _ _ h => h) rfl (fun w hSw => by obtain ⟨s1, s2⟩ := hSw; unfold execOp; simp [ev_put, hsz, sz_put, e0, e3, e4] <;> go_simp) HS ?_
        refine heldRun (i := 13) 28 (.string y) rfl rfl (by kernel_rfl) (by kernel_rfl) (by kernel_rfl) (fun _ _ _ h => h) rfl (fun w hSw => by obtain ⟨s1, s2⟩ := hSw; unfold execOp; simp [ev_put, hsz, sz_put, e0, e3, e4] <;> go_simp) HS ?_
        refine heldCall (i := 6) 21 97 #[.string x] rfl rfl (by kernel_rfl) rfl (by unfold execOp; simp [ev_put, hsz, sz_put, e0, e3, e4] <;> go_simp) ?_
        refine (refEscape_any x _ (by have := HZ.out.2; rw [HQ.out.1, bstr_size]; omega)).mono ?_
        rintro e w1 ⟨rfl, hb1⟩
        have HB1 : Hid (Below w.heap.size w w1) := (below_drewN HB.out 1).trans (hb1.mono (by simp; omega))
        have HS1 := HCW.out w1 HB1.out
        refine ⟨_, rfl, HS1, ?_⟩
        rw [HEX.out]
        refine heldRun (i := 7) 22 (.string (bstr z4)) rfl rfl (by kernel_rfl) (by kernel_rfl) (by kernel_rfl) (fun _ _ _ h => h) rfl (fun w hSw => by obtain ⟨s1, s2⟩ := hSw; unfold execOp; simp [ev_put, hsz, sz_put, e0, e3, e4] <;> go_simp) HS1 ?_
        refine heldRun (i := 8) 23 (.string (bstr z5)) rfl rfl (by kernel_rfl) (by kernel_rfl) (by kernel_rfl) (fun _ _ _ h => h) rfl (fun w hSw => by obtain ⟨s1, s2⟩ := hSw; unfold execOp; simp [ev_put, hsz, sz_put, e0, e3, e4] <;> go_simp) HS1 ?_
        refine heldCall (i := 14) 29 97 #[.string y] rfl rfl (by kernel_rfl) rfl (by unfold execOp; simp [ev_put, hsz, sz_put, e0, e3, e4] <;> go_simp) ?_
        refine (refEscape_any y _ (by have := HZ.out.2; rw [HQ.out.2, bstr_size]; omega)).mono ?_
        rintro e w2 ⟨rfl, hb2⟩
        have HB3 : Hid (Below w.heap.size w w2) := HB1.out.trans (hb2.mono (HB1.out.size))
        have HS2 := HCW.out w2 HB3.out
        refine ⟨_, rfl, HS2, ?_⟩
        rw [HEY.out]
        refine heldRun (i := 15) 30 (.string (bstr z3)) rfl rfl (by kernel_rfl) (by kernel_rfl) (by kernel_rfl) (fun _ _ _ h => h) rfl (fun w hSw => by obtain ⟨s1, s2⟩ := hSw; unfold execOp; simp [ev_put, hsz, sz_put, e0, e3, e4] <;> go_simp) HS2 ?_
        refine heldRun (i := 16) 3 (.string (bstr z3)) rfl rfl (by kernel_rfl) (by kernel_rfl) (by kernel_rfl) (fun _ _ _ h => h) rfl (fun w hSw => by obtain ⟨s1, s2⟩ := hSw; unfold execOp; simp [ev_put, hsz, sz_put, e0, e3, e4] <;> go_simp) HS2 ?_
        refine wpAnyH_done (by kernel_rfl) ?_ _
        subst hA
        simp only [put_mk, List.set_cons_succ, List.set_cons_zero]
        clear hb1 hb2 HS HS1 HS2
        go_wp2
        go_roundw
        case rel => exact ⟨k + 1, _, by omega, rfl, by go_num, by show _ = _; rw [HPR2.out, HZ3.out, seg_of]; simp [List.append_assoc], HB3⟩
        case measure => simp [intOf]; omega
    · have HF : Hid (z = prt l) := by
        show _ = _
        rw [HZZ.out, List.take_of_length_le (by rw [← HN.out]; omega)]
      go_wp2
      go_ret
      exact ⟨by rw [← HF.out]; rfl, HB.out⟩
end Go.Proofs.YtjehbdekipmllaaGreatDoor
