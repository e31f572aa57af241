/- live answers true: bytes that were synced are left, others are not. -/
import Derived.Test.YticbfcognnofbaaDDsk
import Derived.Lib.SlBytesConst
namespace Go.Proofs.Yticbfcognnofbaa
open Go.RowKit Go.Maps

set_option maxHeartbeats 400000 in
theorem num_any (n : Int) (w : World) : Calls Try.prog 9 #[.int .i64 n] w fun e w' => e = .returned (.int .i64 n) ∧ w' = w := by
  go_enter Try.func9, Try.ntmps9
  go_wp2
  go_ret
  exact ⟨rfl, rfl⟩
set_option maxHeartbeats 1000000 in
set_option maxRecDepth 100000 in
theorem durable_dsk {w0 w : World} {dp : Nat} {S : DS} (h : Dsk w0 w dp S) : Calls Try.prog 30 #[pf dp] w fun e w' => ∃ vao n cap, e = .returned (.slice vao n cap) ∧ (∃ us, FOwn w' w.heap.size (.slice vao n cap) (left S 0 []) us) ∧ n = (left S 0 []).length ∧ Dsk w0 w' dp S ∧ Below w.heap.size w w' := by
  have HC := hide (left_dsk h 0 none 0 0 [] (.inl rfl) rfl (by omega))
  unfold pf at *
  clear h
  go_enter Try.func30, Try.ntmps30
  go_wp2_with (first | (go_at_call 22; refine HC.out.mono ?_; rintro e w3 ⟨vao, n, cap, rfl, h3⟩; have H3 := hide h3; clear h3))
  go_ret
  exact ⟨vao, n, cap, rfl, H3.out⟩
def T0 : DS := born [] 100
def T1 : DS := (create T0 [97]).2
def T2 : DS := (append T1 [97] [120, 121]).2
def T3 : DS := (sync T2 [97]).2
def T4 : DS := (syncDir T3).2
def T5 : DS := (append T4 [97] [122]).2
theorem t1 : (create T0 [97]).1 = 0 := by decide +kernel
theorem t2 : (append T1 [97] [120, 121]).1 = 0 := by decide +kernel
theorem t3 : (sync T2 [97]).1 = 0 := by decide +kernel
theorem t4 : (syncDir T3).1 = 0 := by decide +kernel
theorem t5 : (append T4 [97] [122]).1 = 0 := by decide +kernel
theorem t6 : left T5 0 [] = [([97], [120, 121])] := by decide +kernel
theorem t7 : left T5 0 [1] = [([97], [120, 121, 122])] := by decide +kernel
theorem t8 : T5.ops = 5 := by decide +kernel
theorem t0 : newErr [] 100 = 0 := by decide +kernel
theorem irow_one (w : World) (t : Int) : IRow (w.alloc (.cells #[.int .i64 t] 3)) (some ⟨w.heap.size, 0, none⟩) [t] := .inr ⟨_, _, rfl, fun i hi => by
  have : i = 0 := by simpa using hi
  subst this
  simp⟩
/-- The only file's bytes. -/
theorem FOwn.one {w : World} {B : Nat} {vao : Option Addr} {n cap : Nat} {x : Fi} {us : List Value} (h : FOwn w B (.slice vao n cap) [x] us) : ∃ g bao c, vao = some ⟨g, 0, none⟩ ∧ w.cell? ⟨g, 1, none⟩ = some (.slice bao x.2.length c) ∧ Row w bao x.2 ∧ n ≤ cap := by
  rcases h.row.2 with ⟨_, e⟩ | ⟨g, cap', cur, e, _, _, hle, _⟩
  · simp at e
  · injection e with e1 e2 e3
    subst e1; subst e3
    obtain ⟨b, off, bao, c, h1, h2, h3, h4⟩ := h.see.cell 0 x rfl
    injection h1 with h1
    injection h1 with h1 h5 _
    subst h1; subst h5
    exact ⟨g, bao, c, rfl, by simpa using h3, h4, by rw [e2]; exact hle⟩
theorem row_marked (w : World) (xs : List Nat) (f : Nat × Nat) : Row (w.alloc (.cells (xs.map bv).toArray 5 f)) (some ⟨w.heap.size, 0, none⟩) xs := by
  refine .inr ⟨_, _, rfl, fun i hi => ?_⟩
  rw [Nat.zero_add, cell_of_row _ w.heap.size i _ 5 f (heap_alloc_new w _)]
  simp [hi, bv]
set_option maxHeartbeats 4000000 in
set_option maxRecDepth 100000 in
theorem live_true (w : World) : Calls Try.prog 10 #[] w fun e w' => e = .returned (.bool true) ∧ Below w.heap.size w w' := by
  have HN := hide (new_dsk none 0 0 [] 100 w ⟨fun i x h => by simp at h⟩ rfl (by omega) (fun f hf => by cases hf) (fun f hf => by cases hf) (by omega) t0)
  have HK1 : Hid (∀ w1 dp, Dsk w w1 dp T0 → Calls Try.prog 28 #[.pointer (some ⟨dp, 0, none⟩), .string { data := #[97] }] w1 fun e w' => e = .returned (.int .i64 0) ∧ Dsk w w' dp T1) := fun w1 dp h => by
    have := create_dsk h [97] (by decide)
    rw [t1] at this
    exact this
  have HK2 : Hid (∀ w1 w2 dp f, Dsk w w1 dp T1 → w2 = w1.alloc (.cells #[.int .u8 120, .int .u8 121] 5 f) → Calls Try.prog 29 #[.pointer (some ⟨dp, 0, none⟩), .string { data := #[97] }, .slice (some ⟨w1.heap.size, 0, none⟩) 2 2] w2 fun e w' => e = .returned (.int .i64 0) ∧ Dsk w w' dp T2) := fun w1 w2 dp f h hw2 => by
    subst hw2
    have := append_dsk h [97] (by decide) (below_new w1 _) (some ⟨w1.heap.size, 0, none⟩) 2 2 [120, 121] rfl (row_marked w1 [120, 121] f) (fun a ha => by injection ha with ha; rw [← ha]; exact Nat.le_refl _) (by omega) (by decide)
    rw [t2] at this
    exact this
  have HK3 : Hid (∀ w1 dp, Dsk w w1 dp T2 → Calls Try.prog 20 #[.pointer (some ⟨dp, 0, none⟩), .string { data := #[97] }] w1 fun e w' => e = .returned (.int .i64 0) ∧ Dsk w w' dp T3) := fun w1 dp h => by
    have := sync_dsk h [97] (by decide)
    rw [t3] at this
    exact this
  have HK4 : Hid (∀ w1 dp, Dsk w w1 dp T3 → Calls Try.prog 21 #[.pointer (some ⟨dp, 0, none⟩)] w1 fun e w' => e = .returned (.int .i64 0) ∧ Dsk w w' dp T4) := fun w1 dp h => by
    have := syncDir_dsk h
    rw [t4] at this
    exact this
  have HK5 : Hid (∀ w1 w2 dp f, Dsk w w1 dp T4 → w2 = w1.alloc (.cells #[.int .u8 122] 5 f) → Calls Try.prog 29 #[.pointer (some ⟨dp, 0, none⟩), .string { data := #[97] }, .slice (some ⟨w1.heap.size, 0, none⟩) 1 1] w2 fun e w' => e = .returned (.int .i64 0) ∧ Dsk w w' dp T5) := fun w1 w2 dp f h hw2 => by
    subst hw2
    have := append_dsk h [97] (by decide) (below_new w1 _) (some ⟨w1.heap.size, 0, none⟩) 1 1 [122] rfl (row_marked w1 [122] f) (fun a ha => by injection ha with ha; rw [← ha]; exact Nat.le_refl _) (by omega) (by decide)
    rw [t5] at this
    exact this
  have kc := fun (w : World) (C : Array Value) (n c : Nat) => Lib.run_convert_bytes_const (P := Try.prog) w 36 5 C n c Try.underlying36 Try.underlying5
  have tok : True := trivial
  go_enter Try.func10, Try.ntmps10
  go_wp2_with (first | (go_at_call 9; refine (num_any _ _).mono ?_; rintro e wx ⟨rfl, hwx⟩; subst hwx) | (go_at_call 27; refine HN.out.mono ?_; rintro e w1 ⟨dp, rfl, h1⟩; have H1 := hide h1; clear h1) | (go_at_call 28; refine (HK1.out _ _ H1.out).mono ?_; rintro e w2 ⟨rfl, h2⟩; have H2 := hide h2; clear h2) | (go_at_call 29; have _t := tok; refine (HK2.out _ _ _ _ H2.out rfl).mono ?_; rintro e w3 ⟨rfl, h3⟩; have H3 := hide h3; clear h3 tok) | (go_at_call 20; refine (HK3.out _ _ H3.out).mono ?_; rintro e w4 ⟨rfl, h4⟩; have H4 := hide h4; clear h4) | (go_at_call 21; refine (HK4.out _ _ H4.out).mono ?_; rintro e w5 ⟨rfl, h5⟩; have H5 := hide h5; clear h5) | (go_at_call 29; refine (HK5.out _ _ _ _ H5.out rfl).mono ?_; rintro e w6 ⟨rfl, h6⟩; have H6 := hide h6; clear h6) | fail)
  have HD7 := hide (durable_dsk H6.out)
  rw [t6] at HD7
  unfold pf at HD7
  go_wp2_with (first | (go_at_call 30; refine HD7.out.mono ?_; rintro e w7 ⟨vao, n7, cap7, rfl, ⟨us7, f7⟩, hn7, h7, b7⟩; obtain ⟨g7, bao7, c7, rfl, x7, r7, le7⟩ := f7.one; have hn7' : n7 = 1 := hn7; subst hn7'; have H7 := hide h7; have R7 := hide r7; clear f7 hn7 h7 b7 r7 HD7) | fail)
  have HI8 := hide (irow_one w7 1)
  have HB8 := hide (below_new w7 (.cells #[.int .i64 1] 3))
  have HD8 := hide (left_dsk (H7.out.below HB8.out) 0 (some ⟨w7.heap.size, 0, none⟩) 1 1 [1] HI8.out rfl (by omega))
  rw [t7] at HD8
  unfold pf at HD8
  have X7 := hide (cell_kept x7 HB8.out)
  have R7' := hide (R7.out.keep HB8.out)
  clear HI8 x7 R7 HB8
  go_wp2_with (first | (go_at_call 22; refine HD8.out.mono ?_; rintro e w8 ⟨vao, n8, cap8, rfl, ⟨us8, f8⟩, hn8, h8, b8⟩; obtain ⟨g8, bao8, c8, rfl, x8, r8, le8⟩ := f8.one; have hn8' : n8 = 1 := hn8; subst hn8'; have H8 := hide h8; have cv8 : (convert 36 9 (.slice bao8 3 c8)).run Try.prog w8 = .ok (.string { data := #[120, 121, 122] }) w8 := conv_row c8 r8; have x8' : w8.cell? ⟨g8, 1, none⟩ = some (.slice bao8 3 c8) := x8; have x7 : w8.cell? ⟨g7, 1, none⟩ = some (.slice bao7 2 c7) := cell_kept X7.out b8; have cv7 : (convert 36 9 (.slice bao7 2 c7)).run Try.prog w8 = .ok (.string { data := #[120, 121] }) w8 := conv_row c7 (R7'.out.keep b8); have HC9 := hide (count_dsk h8); rw [t8] at HC9; unfold pf at HC9; clear f8 hn8 h8 b8 r8 HD8 x8) | (go_at_call 19; refine HC9.out.mono ?_; rintro e w9 ⟨rfl, hw9⟩; subst hw9) | fail)
  go_ret
  exact ⟨rfl, H8.out.bel⟩
end Go.Proofs.Yticbfcognnofbaa
