/- How a character is written within a text: the contract of escaped. The contract of escaped. The contract of the writer's quote. The contract of the writer's String. -/
import Derived.Test.YtlebockgdonceaaGreatDoorKPBuild
import Derived.Test.YtlebockgdonceaaGreatDoorKDec
import Derived.Test.YtlebockgdonceaaGreatDoorJBase
import Derived.Test.YtlebockgdonceaaGreatDoorKMath
import Derived.Laws.Runes
import Derived.Shelf.Strings.Runes
import Derived.Laws.RangeString
import Derived.BigQuiet
import Derived.WalkMore
namespace Go.Proofs.YtlebockgdonceaaGreatDoor
open Go.RowKit

theorem but_drew (B : Nat) (w : World) (n : Nat) : Below B w (w.drewN n) := ⟨rfl, rfl, rfl, Nat.le_refl _, fun _ _ => rfl⟩
theorem byte_neg (t : By) (x : Nat) (hx : x < 256) (ht : ∀ y ∈ t, y < 256) (hn : x ∉ t) : ∃ z : Int, z < 0 ∧ ∀ W, Calls Tryz.prog 39 #[.string (bstr t), .int .u8 (x : Int)] W fun e W' => e = .returned (.int .i64 z) ∧ W' = W := by
  have h := indexByte_has (bstr t) x hx
  rw [sbytes_bstr ht, show hasB t x = false by unfold hasB; simpa using hn] at h
  refine ⟨Lib.indexByte (bstr t).data.toList (UInt8.ofNat x), by simpa using h, fun W => ?_⟩
  exact Any.strings_IndexByte lays137 _ _ _
theorem shorts_cut (k : Nat) : ∀ y ∈ ([34, 92, 8, 12, 10, 13, 9] : By).drop k, y < 128 := by
  intro y hy
  have := List.mem_of_mem_drop hy
  simp only [List.mem_cons, List.not_mem_nil, or_false] at this
  omega
theorem last_index (rs : ByteArray) (h2 : 2 ≤ rs.size) (h5 : ∀ h : rs.size - 1 < rs.size, 128 ≤ (rs[rs.size - 1]'h).toNat) : ∃ x : Nat, 128 ≤ x ∧ x < 256 ∧ ∀ w, (Instr.index 9 (.string rs) (.int .i64 ((rs.size : Int) - 1))).run Tryz.prog w = .ok (.int .u8 (x : Int)) w := by
  have hlt : rs.size - 1 < rs.size := by omega
  refine ⟨(rs[rs.size - 1]'hlt).toNat, h5 hlt, (rs[rs.size - 1]'hlt).toNat_lt, fun w => ?_⟩
  rw [run_index_string w 9 rs .i64 ((rs.size : Int) - 1) Tryz.underlying9, dif_pos ⟨by omega, by omega⟩]
  have e : ((rs.size : Int) - 1).toNat = rs.size - 1 := by omega
  simp [e]
theorem enc_facts (c : Nat) (h : 128 ≤ c) (h1 : c < 1114112) (hs : c < 55296 ∨ 57344 ≤ c) : ∃ (rs : ByteArray) (x : Nat), Utf8.encode (c : Int) = rs ∧ (rs.size = 2 ∨ rs.size = 3 ∨ rs.size = 4) ∧ 128 ≤ x ∧ x < 256 ∧ ∀ w, (Instr.index 9 (.string rs) (.int .i64 ((rs.size : Int) - 1))).run Tryz.prog w = .ok (.int .u8 (x : Int)) w := by
  have hv : Utf8.valid (c : Int) = true := by simp [Utf8.valid]; omega
  obtain ⟨h2, h4, h5⟩ := encode_facts (c : Int) hv (by omega)
  generalize Utf8.encode (c : Int) = rs at *
  obtain ⟨x, hx1, hx2, hx3⟩ := last_index rs h2 h5
  exact ⟨rs, x, rfl, by omega, hx1, hx2, hx3⟩

set_option maxHeartbeats 2000000 in
set_option maxRecDepth 100000 in
theorem indexRune_hi (w : World) (c : Nat) (h : 128 ≤ c) (h1 : c < 1114112) (hs : c < 55296 ∨ 57344 ≤ c) (hne : c ≠ 65533) :
    Calls Tryz.prog 82 #[.string ⟨#[34, 92, 8, 12, 10, 13, 9]⟩, .int .i32 (c : Int)] w fun e w' => e = .returned (.int .i64 (-1)) ∧ Below w.heap.size w w' := by
  obtain ⟨rs, x, hE, hL, hx, hx2, hI⟩ := enc_facts c h h1 hs
  have n1 : decide ((c : Int) < 128) = false := by simp; omega
  have n2 : ((c : Int) == 65533) = false := by simp; omega
  have HV : Hid (∀ W, Calls Tryz.prog 88 #[.int .i32 (c : Int)] W fun e W' => e = .returned (.bool true) ∧ W' = W) := by
    intro W
    refine (Any.utf8_ValidRune lays119 (c : Int) W).mono ?_
    rintro e W' ⟨rfl, hw⟩
    rw [show Lib.validRune (c : Int) = true by unfold Lib.validRune; simp; omega]
    exact ⟨rfl, hw⟩
  have hcl : (c : Int) < 2147483648 := by omega
  have h0 : (0 : Int) ≤ (c : Int) := by omega
  rcases hL with hL | hL | hL
  · rw [hL] at hI
    have hI2 : ∀ w, (Instr.index 9 (.string rs) (.int .i64 1)).run Tryz.prog w = .ok (.int .u8 (x : Int)) w := hI
    have hS : ∀ w, (Instr.index 9 (.string ⟨#[34, 92, 8, 12, 10, 13, 9]⟩) (.int .i64 1)).run Tryz.prog w = .ok (.int .u8 92) w := fun w => str_index ⟨#[34, 92, 8, 12, 10, 13, 9]⟩ 1 (by decide) w
    have hC : ∀ w, (Instr.slice 9 (.string ⟨#[34, 92, 8, 12, 10, 13, 9]⟩) (some (.int .i64 2)) none none).run Tryz.prog w = .ok (.string (bstr [8, 12, 10, 13, 9])) w := fun w => str_from ⟨#[34, 92, 8, 12, 10, 13, 9]⟩ 2 2 rfl (by decide) w
    obtain ⟨z, hz, hB⟩ := byte_neg [8, 12, 10, 13, 9] x hx2 (by simp) (by simp; omega)
    have HB := hide hB
    have n3 : ((x : Int) == 92) = false := by simp; omega
    have n4 : ((92 : Int) == (x : Int)) = false := by simp; omega
    have n5 : ((92 : Int) != (x : Int)) = true := by simp; omega
    clear hI hB hs h1 hne
    go_enter Tryz.func82, Tryz.ntmps82
    go_wp2_with fail
    refine (HV.out _).mono ?_
    rintro e W ⟨rfl, hw⟩
    rw [hw]
    clear hw W
    go_wp2_with fail
    apply wp_scope_straight
    go_wp2_with fail
    refine wp_loop_rounds 1 ?_
    rw [rounds_succ]
    go_wp2_with fail
    apply wp_scope_straight
    go_wp2_with fail
    go_quiet (fail)
    have HD := hide (but_drew w.heap.size w nq)
    generalize w.drewN nq = w1 at *
    go_wp2_with fail
    go_quiet ((go_at_call 39; exact Calls.quiet_of_same (HB.out _)))
    have HD2 := hide (HD.out.trans (but_drew w.heap.size w1 nq))
    generalize w1.drewN nq = w2 at *
    go_wp2_with fail
    simp only [Exit.noGoto_ret, go_sem]
    go_ret
    exact ⟨rfl, HD2.out⟩
  · rw [hL] at hI
    have hI2 : ∀ w, (Instr.index 9 (.string rs) (.int .i64 2)).run Tryz.prog w = .ok (.int .u8 (x : Int)) w := hI
    have hS : ∀ w, (Instr.index 9 (.string ⟨#[34, 92, 8, 12, 10, 13, 9]⟩) (.int .i64 2)).run Tryz.prog w = .ok (.int .u8 8) w := fun w => str_index ⟨#[34, 92, 8, 12, 10, 13, 9]⟩ 2 (by decide) w
    have hC : ∀ w, (Instr.slice 9 (.string ⟨#[34, 92, 8, 12, 10, 13, 9]⟩) (some (.int .i64 3)) none none).run Tryz.prog w = .ok (.string (bstr [12, 10, 13, 9])) w := fun w => str_from ⟨#[34, 92, 8, 12, 10, 13, 9]⟩ 3 3 rfl (by decide) w
    obtain ⟨z, hz, hB⟩ := byte_neg [12, 10, 13, 9] x hx2 (by simp) (by simp; omega)
    have HB := hide hB
    have n3 : ((x : Int) == 8) = false := by simp; omega
    have n4 : ((8 : Int) == (x : Int)) = false := by simp; omega
    have n5 : ((8 : Int) != (x : Int)) = true := by simp; omega
    clear hI hB hs h1 hne
    go_enter Tryz.func82, Tryz.ntmps82
    go_wp2_with fail
    refine (HV.out _).mono ?_
    rintro e W ⟨rfl, hw⟩
    rw [hw]
    clear hw W
    go_wp2_with fail
    apply wp_scope_straight
    go_wp2_with fail
    refine wp_loop_rounds 1 ?_
    rw [rounds_succ]
    go_wp2_with fail
    apply wp_scope_straight
    go_wp2_with fail
    go_quiet (fail)
    have HD := hide (but_drew w.heap.size w nq)
    generalize w.drewN nq = w1 at *
    go_wp2_with fail
    go_quiet ((go_at_call 39; exact Calls.quiet_of_same (HB.out _)))
    have HD2 := hide (HD.out.trans (but_drew w.heap.size w1 nq))
    generalize w1.drewN nq = w2 at *
    go_wp2_with fail
    simp only [Exit.noGoto_ret, go_sem]
    go_ret
    exact ⟨rfl, HD2.out⟩
  · rw [hL] at hI
    have hI2 : ∀ w, (Instr.index 9 (.string rs) (.int .i64 3)).run Tryz.prog w = .ok (.int .u8 (x : Int)) w := hI
    have hS : ∀ w, (Instr.index 9 (.string ⟨#[34, 92, 8, 12, 10, 13, 9]⟩) (.int .i64 3)).run Tryz.prog w = .ok (.int .u8 12) w := fun w => str_index ⟨#[34, 92, 8, 12, 10, 13, 9]⟩ 3 (by decide) w
    have hC : ∀ w, (Instr.slice 9 (.string ⟨#[34, 92, 8, 12, 10, 13, 9]⟩) (some (.int .i64 4)) none none).run Tryz.prog w = .ok (.string (bstr [10, 13, 9])) w := fun w => str_from ⟨#[34, 92, 8, 12, 10, 13, 9]⟩ 4 4 rfl (by decide) w
    obtain ⟨z, hz, hB⟩ := byte_neg [10, 13, 9] x hx2 (by simp) (by simp; omega)
    have HB := hide hB
    have n3 : ((x : Int) == 12) = false := by simp; omega
    have n4 : ((12 : Int) == (x : Int)) = false := by simp; omega
    have n5 : ((12 : Int) != (x : Int)) = true := by simp; omega
    clear hI hB hs h1 hne
    go_enter Tryz.func82, Tryz.ntmps82
    go_wp2_with fail
    refine (HV.out _).mono ?_
    rintro e W ⟨rfl, hw⟩
    rw [hw]
    clear hw W
    go_wp2_with fail
    apply wp_scope_straight
    go_wp2_with fail
    refine wp_loop_rounds 1 ?_
    rw [rounds_succ]
    go_wp2_with fail
    apply wp_scope_straight
    go_wp2_with fail
    go_quiet (fail)
    have HD := hide (but_drew w.heap.size w nq)
    generalize w.drewN nq = w1 at *
    go_wp2_with fail
    go_quiet ((go_at_call 39; exact Calls.quiet_of_same (HB.out _)))
    have HD2 := hide (HD.out.trans (but_drew w.heap.size w1 nq))
    generalize w1.drewN nq = w2 at *
    go_wp2_with fail
    simp only [Exit.noGoto_ret, go_sem]
    go_ret
    exact ⟨rfl, HD2.out⟩

set_option maxHeartbeats 2000000 in
set_option maxRecDepth 100000 in
theorem indexRune_bad (w : World) :
    Calls Tryz.prog 82 #[.string ⟨#[34, 92, 8, 12, 10, 13, 9]⟩, .int .i32 65533] w fun e w' => e = .returned (.int .i64 (-1)) ∧ Below w.heap.size w w' := by
  have HI : Hid (Below w.heap.size w (w.iter ⟨#[34, 92, 8, 12, 10, 13, 9]⟩ 7)) := by
    show Below _ _ _
    unfold World.iter
    exact below_new w _
  have q0 : ∀ ty, (Instr.next (.pointer (some ⟨w.heap.size, 0, none⟩)) true ty).run Tryz.prog (w.iter ⟨#[34, 92, 8, 12, 10, 13, 9]⟩ 0) = .ok (.tuple #[.bool true, .int .i64 0, .int .i32 34]) (w.iter ⟨#[34, 92, 8, 12, 10, 13, 9]⟩ 1) := fun ty => run_next_ascii w ⟨#[34, 92, 8, 12, 10, 13, 9]⟩ 0 ty (by decide) (by decide)
  have q1 : ∀ ty, (Instr.next (.pointer (some ⟨w.heap.size, 0, none⟩)) true ty).run Tryz.prog (w.iter ⟨#[34, 92, 8, 12, 10, 13, 9]⟩ 1) = .ok (.tuple #[.bool true, .int .i64 1, .int .i32 92]) (w.iter ⟨#[34, 92, 8, 12, 10, 13, 9]⟩ 2) := fun ty => run_next_ascii w ⟨#[34, 92, 8, 12, 10, 13, 9]⟩ 1 ty (by decide) (by decide)
  have q2 : ∀ ty, (Instr.next (.pointer (some ⟨w.heap.size, 0, none⟩)) true ty).run Tryz.prog (w.iter ⟨#[34, 92, 8, 12, 10, 13, 9]⟩ 2) = .ok (.tuple #[.bool true, .int .i64 2, .int .i32 8]) (w.iter ⟨#[34, 92, 8, 12, 10, 13, 9]⟩ 3) := fun ty => run_next_ascii w ⟨#[34, 92, 8, 12, 10, 13, 9]⟩ 2 ty (by decide) (by decide)
  have q3 : ∀ ty, (Instr.next (.pointer (some ⟨w.heap.size, 0, none⟩)) true ty).run Tryz.prog (w.iter ⟨#[34, 92, 8, 12, 10, 13, 9]⟩ 3) = .ok (.tuple #[.bool true, .int .i64 3, .int .i32 12]) (w.iter ⟨#[34, 92, 8, 12, 10, 13, 9]⟩ 4) := fun ty => run_next_ascii w ⟨#[34, 92, 8, 12, 10, 13, 9]⟩ 3 ty (by decide) (by decide)
  have q4 : ∀ ty, (Instr.next (.pointer (some ⟨w.heap.size, 0, none⟩)) true ty).run Tryz.prog (w.iter ⟨#[34, 92, 8, 12, 10, 13, 9]⟩ 4) = .ok (.tuple #[.bool true, .int .i64 4, .int .i32 10]) (w.iter ⟨#[34, 92, 8, 12, 10, 13, 9]⟩ 5) := fun ty => run_next_ascii w ⟨#[34, 92, 8, 12, 10, 13, 9]⟩ 4 ty (by decide) (by decide)
  have q5 : ∀ ty, (Instr.next (.pointer (some ⟨w.heap.size, 0, none⟩)) true ty).run Tryz.prog (w.iter ⟨#[34, 92, 8, 12, 10, 13, 9]⟩ 5) = .ok (.tuple #[.bool true, .int .i64 5, .int .i32 13]) (w.iter ⟨#[34, 92, 8, 12, 10, 13, 9]⟩ 6) := fun ty => run_next_ascii w ⟨#[34, 92, 8, 12, 10, 13, 9]⟩ 5 ty (by decide) (by decide)
  have q6 : ∀ ty, (Instr.next (.pointer (some ⟨w.heap.size, 0, none⟩)) true ty).run Tryz.prog (w.iter ⟨#[34, 92, 8, 12, 10, 13, 9]⟩ 6) = .ok (.tuple #[.bool true, .int .i64 6, .int .i32 9]) (w.iter ⟨#[34, 92, 8, 12, 10, 13, 9]⟩ 7) := fun ty => run_next_ascii w ⟨#[34, 92, 8, 12, 10, 13, 9]⟩ 6 ty (by decide) (by decide)
  have q7 : ∀ ty, (Instr.next (.pointer (some ⟨w.heap.size, 0, none⟩)) true ty).run Tryz.prog (w.iter ⟨#[34, 92, 8, 12, 10, 13, 9]⟩ 7) = .ok (.tuple #[.bool false]) (w.iter ⟨#[34, 92, 8, 12, 10, 13, 9]⟩ 7) := fun ty => run_next_end w ⟨#[34, 92, 8, 12, 10, 13, 9]⟩ 7 ty (by decide)
  go_enter Tryz.func82, Tryz.ntmps82
  go_wp2_with fail
  refine wp_loop_rounds 8 ?_
  rw [rounds_succ]
  go_wp2_with fail
  rw [rounds_succ]
  go_wp2_with fail
  rw [rounds_succ]
  go_wp2_with fail
  rw [rounds_succ]
  go_wp2_with fail
  rw [rounds_succ]
  go_wp2_with fail
  rw [rounds_succ]
  go_wp2_with fail
  rw [rounds_succ]
  go_wp2_with fail
  rw [rounds_succ]
  go_wp2_with fail
  go_ret
  exact ⟨rfl, HI.out⟩
end Go.Proofs.YtlebockgdonceaaGreatDoor
namespace Go.Proofs.YtlebockgdonceaaGreatDoor
open Go.RowKit

def escOf (c : Nat) : By :=
  if c = 34 then [92, 34] else if c = 92 then [92, 92] else if c = 8 then [92, 98] else if c = 12 then [92, 102] else if c = 10 then [92, 110] else if c = 13 then [92, 114] else if c = 9 then [92, 116]
  else if 32 ≤ c ∧ c ≤ 126 then [c] else if c < 65536 then unitOf c else unitOf (55296 + (c - 65536) / 1024) ++ unitOf (56320 + (c - 65536) % 1024)
def isShort (c : Nat) : Prop := c = 34 ∨ c = 92 ∨ c = 8 ∨ c = 12 ∨ c = 10 ∨ c = 13 ∨ c = 9
theorem indexRune_not (w : World) (c : Nat) (h1 : c < 1114112) (hs : c < 55296 ∨ 57344 ≤ c) (hn : ¬ isShort c) : ∃ z : Int, z < 0 ∧
    Calls Tryz.prog 82 #[.string ⟨#[34, 92, 8, 12, 10, 13, 9]⟩, .int .i32 (c : Int)] w fun e w' => e = .returned (.int .i64 z) ∧ Below w.heap.size w w' := by
  by_cases h : 128 ≤ c
  · by_cases h2 : c = 65533
    · subst h2
      exact ⟨-1, by decide, indexRune_bad w⟩
    · exact ⟨-1, by decide, indexRune_hi w c h h1 hs h2⟩
  · have hb := indexByte_has ⟨#[34, 92, 8, 12, 10, 13, 9]⟩ c (by omega)
    have hm : hasB (sbytes ⟨#[34, 92, 8, 12, 10, 13, 9]⟩) c = false := by
      rw [show sbytes ⟨#[34, 92, 8, 12, 10, 13, 9]⟩ = [34, 92, 8, 12, 10, 13, 9] from rfl]
      unfold hasB isShort at *
      simpa using hn
    rw [hm] at hb
    refine ⟨Lib.indexByte _ (UInt8.ofNat c), by simpa using hb, ?_⟩
    refine (Any.strings_IndexRune_ascii lays152 ⟨#[34, 92, 8, 12, 10, 13, 9]⟩ (c : Int) w (by omega) (by omega)).mono ?_
    rintro e w' ⟨rfl, rfl⟩
    exact ⟨rfl, Below.refl _ _⟩
theorem indexRune_short (w : World) (c k : Nat) (hc : c < 128) (hk : Lib.indexByte [34, 92, 8, 12, 10, 13, 9] (UInt8.ofNat c) = (k : Int)) :
    Calls Tryz.prog 82 #[.string ⟨#[34, 92, 8, 12, 10, 13, 9]⟩, .int .i32 (c : Int)] w fun e w' => e = .returned (.int .i64 (k : Int)) ∧ w' = w := by
  refine (Any.strings_IndexRune_ascii lays152 ⟨#[34, 92, 8, 12, 10, 13, 9]⟩ (c : Int) w (by omega) (by omega)).mono ?_
  rintro e w' ⟨rfl, rfl⟩
  exact ⟨by rw [← hk]; rfl, rfl⟩
set_option maxHeartbeats 1000000 in
set_option maxRecDepth 100000 in
/-- A short one. -/
theorem escaped_short (w : World) (c k l : Nat) (hc : c < 128) (hk7 : k < 7) (hk : Lib.indexByte [34, 92, 8, 12, 10, 13, 9] (UInt8.ofNat c) = (k : Int)) (hl : ((([34, 92, 98, 102, 110, 114, 116] : By).take (k + 1)).drop k) = [l]) :
    Calls Tryz.prog 71 #[.int .i32 (c : Int)] w fun e w' => e = .returned (.string (bstr [92, l])) ∧ Below w.heap.size w w' := by
  have HI := hide (indexRune_short w c k hc hk)
  have hcut : ∀ w, (Instr.slice 9 (.string ⟨#[34, 92, 98, 102, 110, 114, 116]⟩) (some (.int .i64 (k : Int))) (some (.int .i64 ((k : Int) + 1))) none).run Tryz.prog w = .ok (.string (bstr [l])) w := fun w => by
    have := str_mid ⟨#[34, 92, 98, 102, 110, 114, 116]⟩ k (k + 1) (k : Int) ((k : Int) + 1) rfl (by omega) (by omega) (by show k + 1 ≤ 7; omega) w
    rw [show sbytes ⟨#[34, 92, 98, 102, 110, 114, 116]⟩ = [34, 92, 98, 102, 110, 114, 116] from rfl, hl] at this
    exact this
  have hadd : ∀ w, (Op.stringOp .add ⟨#[92]⟩ (bstr [l])).run Tryz.prog w = .ok (.string (bstr [92, l])) w := fun w => add_str (x := [92]) (y := [l]) (by simp) w
  clear hk hl
  go_enter Tryz.func71, Tryz.ntmps71
  go_wp2_with fail
  refine HI.out.mono ?_
  rintro e w1 ⟨rfl, hw⟩
  rw [hw]
  clear hw w1
  go_wp2_with fail
  go_ret
  exact ⟨rfl, Below.refl _ _⟩
theorem band1023 (v : Nat) (hv : v < 2147483648) : bits BinOp.and IntKind.i32 (v : Int) 1023 = ((v % 1024 : Nat) : Int) := by
  have h1 : v &&& 1023 = v % 1024 := Nat.and_two_pow_sub_one_eq_mod v 10
  show IntKind.i32.wrap ((BitVec.ofInt 32 (v : Int) &&& BitVec.ofInt 32 ((1023 : Nat) : Int)).toNat : Int) = _
  rw [BitVec.toNat_and, ofInt_u32 v (by omega), ofInt_u32 1023 (by omega), h1]
  rw [IntKind.wrap_i32]
  omega
theorem enc_one (c : Nat) (h : c < 128) : Utf8.encode (c : Int) = bstr [c] := by
  have hv : Utf8.valid (c : Int) = true := by simp [Utf8.valid]; omega
  unfold Utf8.encode
  simp [hv, h, bstr]
set_option maxHeartbeats 1000000 in
set_option maxRecDepth 100000 in
theorem escaped_else (w : World) (c : Nat) (hZ : ZT w) (h1 : c < 1114112) (hs : c < 55296 ∨ 57344 ≤ c) (hn : ¬ isShort c) :
    Calls Tryz.prog 71 #[.int .i32 (c : Int)] w fun e w' => e = .returned (.string (bstr (escOf c))) ∧ Below w.heap.size w w' := by
  obtain ⟨z, hz, hI⟩ := indexRune_not w c h1 hs hn
  have HI := hide hI
  have HZ := hide hZ
  have HE : Hid (escOf c = if 32 ≤ c ∧ c ≤ 126 then [c] else if c < 65536 then unitOf c else unitOf (55296 + (c - 65536) / 1024) ++ unitOf (56320 + (c - 65536) % 1024)) := by
    show _ = _
    unfold isShort at hn
    unfold escOf
    rw [if_neg (by omega), if_neg (by omega), if_neg (by omega), if_neg (by omega), if_neg (by omega), if_neg (by omega), if_neg (by omega)]
  clear hI hZ hn hs
  by_cases ha : 32 ≤ c ∧ c ≤ 126
  · have HE : Hid (escOf c = [c]) := HE.out.trans (if_pos ha)
    have he := enc_one c (by omega)
    have a1 : decide ((32 : Int) ≤ (c : Int)) = true := by simp; omega
    have a2 : decide ((c : Int) ≤ 126) = true := by simp; omega
    have a0 : decide ((0 : Int) ≤ z) = false := by simp; omega
    obtain ⟨t, ht⟩ : ∃ t, t = bstr [c] := ⟨_, rfl⟩
    rw [← ht] at he
    have HTT := hide ht
    clear h1 ht ha hz
    go_enter Tryz.func71, Tryz.ntmps71
    go_wp2_with fail
    refine HI.out.mono ?_
    rintro e w1 ⟨rfl, hb⟩
    have HB := hide hb
    clear hb
    go_wp2_with fail
    go_ret
    rw [HE.out, ← HTT.out]
    exact ⟨rfl, HB.out⟩
  · have HE := hide (HE.out.trans (if_neg ha))
    have a0 : decide ((0 : Int) ≤ z) = false := by simp; omega
    have a3 : ∃ b1 b2 : Bool, decide ((32 : Int) ≤ (c : Int)) = b1 ∧ decide ((c : Int) ≤ 126) = b2 ∧ (b1 = false ∨ b1 = true ∧ b2 = false) := by
      refine ⟨_, _, rfl, rfl, ?_⟩
      by_cases hq : 32 ≤ c
      · exact .inr ⟨by simp; omega, by simp; omega⟩
      · exact .inl (by simp; omega)
    obtain ⟨b1, b2, a1, a2, hb12⟩ := a3
    clear ha hz
    by_cases hc : c < 65536
    · have HE := hide (HE.out.trans (if_pos hc))
      have a4 : decide ((c : Int) < 65536) = true := by simp; omega
      clear h1
      go_enter Tryz.func71, Tryz.ntmps71
      go_wp2_with fail
      refine HI.out.mono ?_
      rintro e w1 ⟨rfl, hb⟩
      have HB := hide hb
      clear hb
      rcases hb12 with rfl | ⟨rfl, rfl⟩
      all_goals
        go_wp2_with fail
        refine (unit_any w1 c (cell_kept HZ.out HB.out) hc).mono ?_
        rintro e w2 ⟨rfl, hb2⟩
        have HB2 := hide (HB.out.trans (hb2.mono HB.out.size))
        clear hb2
        go_wp2_with fail
        go_ret
        rw [HE.out]
        exact ⟨rfl, HB2.out⟩
    · have HE := hide (HE.out.trans (if_neg hc))
      have a4 : decide ((c : Int) < 65536) = false := by simp; omega
      obtain ⟨a, ha⟩ : ∃ a, a = c - 65536 := ⟨_, rfl⟩
      have HA := hide ha
      have hal : a < 1048576 := by omega
      have e1 : (c : Int) - 65536 = (a : Int) := by omega
      have e2 := band1023 a (by omega)
      obtain ⟨n1, hn1⟩ : ∃ n1, n1 = 55296 + a / 1024 := ⟨_, rfl⟩
      obtain ⟨n2, hn2⟩ : ∃ n2, n2 = 56320 + a % 1024 := ⟨_, rfl⟩
      have e3 : (55296 : Int) + (a : Int) / 1024 = (n1 : Int) := by omega
      have e4 : (56320 : Int) + (a : Int) % 1024 = (n2 : Int) := by omega
      have e5 : (56320 : Int) + ((a % 1024 : Nat) : Int) = (n2 : Int) := by omega
      have l1 : n1 < 65536 := by omega
      have l2 : n2 < 65536 := by omega
      have hadd : ∀ w, (Op.stringOp .add (bstr (unitOf n1)) (bstr (unitOf n2))).run Tryz.prog w = .ok (.string (bstr (unitOf n1 ++ unitOf n2))) w := fun w => add_str (by simp [unitOf]) w
      have HN1 := hide hn1
      have HN2 := hide hn2
      clear h1 ha hn1 hn2 hc
      go_enter Tryz.func71, Tryz.ntmps71
      go_wp2_with fail
      refine HI.out.mono ?_
      rintro e w1 ⟨rfl, hb⟩
      have HB := hide hb
      clear hb
      rcases hb12 with rfl | ⟨rfl, rfl⟩
      all_goals
        go_wp2_with fail
        refine (unit_any w1 n1 (cell_kept HZ.out HB.out) l1).mono ?_
        rintro e w2 ⟨rfl, hb2⟩
        have HB2 := hide (HB.out.trans (hb2.mono HB.out.size))
        clear hb2
        go_wp2_with fail
        refine (unit_any w2 n2 (cell_kept HZ.out HB2.out) l2).mono ?_
        rintro e w3 ⟨rfl, hb3⟩
        have HB3 := hide (HB2.out.trans (hb3.mono HB2.out.size))
        clear hb3
        go_wp2_with fail
        go_ret
        rw [HE.out, ← HA.out, ← HN1.out, ← HN2.out]
        exact ⟨rfl, HB3.out⟩
theorem escaped_any (w : World) (c : Nat) (hZ : ZT w) (h1 : c < 1114112) (hs : c < 55296 ∨ 57344 ≤ c) :
    Calls Tryz.prog 71 #[.int .i32 (c : Int)] w fun e w' => e = .returned (.string (bstr (escOf c))) ∧ Below w.heap.size w w' := by
  by_cases hn : isShort c
  · unfold isShort at hn
    rcases hn with rfl | rfl | rfl | rfl | rfl | rfl | rfl
    · exact escaped_short w 34 0 34 (by decide) (by decide) (by decide) rfl
    · exact escaped_short w 92 1 92 (by decide) (by decide) (by decide) rfl
    · exact escaped_short w 8 2 98 (by decide) (by decide) (by decide) rfl
    · exact escaped_short w 12 3 102 (by decide) (by decide) (by decide) rfl
    · exact escaped_short w 10 4 110 (by decide) (by decide) (by decide) rfl
    · exact escaped_short w 13 5 114 (by decide) (by decide) (by decide) rfl
    · exact escaped_short w 9 6 116 (by decide) (by decide) (by decide) rfl
  · exact escaped_else w c hZ h1 hs hn
theorem escOf_len (c : Nat) : 1 ≤ (escOf c).length ∧ (escOf c).length ≤ 12 := by
  unfold escOf unitOf
  (repeat' split) <;> simp
theorem escOf_lt (c : Nat) (hc : c < 1114112) : ∀ x ∈ escOf c, x < 256 := by
  unfold escOf
  have hu := fun n => unitOf_lt n
  (repeat' split)
  all_goals first
    | (intro x hx'; simp at hx'; omega)
    | exact hu _
    | (intro x hx'; rcases List.mem_append.1 hx' with h | h <;> exact hu _ x h)
end Go.Proofs.YtlebockgdonceaaGreatDoor
namespace Go.Proofs.YtlebockgdonceaaGreatDoor
open Go.RowKit

/-- The characters of a clean text, escaped one behind the other. -/
def escAll : Nat → By → By → Pr
  | _, [], xs => .ok xs
  | 0, _ :: _, _ => .error 0
  | n + 1, c :: l, xs => match chr (c :: l) with
    | .ok k => (putAt xs (escOf (codeOf k (c :: l)))).then (escAll n ((c :: l).drop k))
    | _ => .error 0
def quoteAt (t xs : By) : Pr := (putAt xs [34]).then fun ys => (escAll t.length t ys).then fun zs => putAt zs [34]
def iterPos (K : Nat) (w : World) : Nat := match w.heap[K]? with | some (.stringIter _ p) => p | _ => 0
theorem iterAt_wk {b K : Nat} {w w' : World} {s : ByteArray} {p' : Nat} (h : WK b w w') (hK : w.heap.size ≤ K) (hb : b < w.heap.size) : WK b w (w'.iterAt K s p') := by
  have hs : (w'.iterAt K s p').heap.size = w'.heap.size := by simp [World.iterAt]
  have ho : ∀ k, k ≠ K → (w'.iterAt K s p').heap[k]? = w'.heap[k]? := fun k hk => by simp [World.iterAt, Ne.symm hk]
  refine ⟨h.os, h.tape, h.output, by rw [hs]; exact h.size, fun k hk => (ho k (by omega)).trans (h.low k hk), fun k o hk h1 h2 => ?_⟩
  have hlt : k < w.heap.size := (Array.getElem?_eq_some_iff.1 hk).1
  rw [ho k (by omega)]
  exact h.oth k o hk h1 h2
theorem iterAt_wb {b K : Nat} {so : Bool} {xs : By} {w : World} {s : ByteArray} {p p' : Nat} (h : WB b so xs w) (hi : w.heap[K]? = some (.stringIter s p)) : WB b so xs (w.iterAt K s p') := by
  obtain ⟨q, v, hp, hb, ho⟩ := h.ok
  have hne : ∀ k, k ≠ K → (w.iterAt K s p').heap[k]? = w.heap[k]? := fun k hk => by simp [World.iterAt, Ne.symm hk]
  refine ⟨q, v, hp, (hne b (fun e => by subst e; have hb' : w.heap[b]? = _ := hb; rw [hi] at hb'; cases hb')).trans hb, ownsRow_stay ho (fun g hg => hne g (fun e => by subst e; obtain ⟨c, fz, hc⟩ := own_kind ho g hg; rw [hi] at hc; cases hc))⟩
theorem WK.iter {b K : Nat} {w w' : World} {s : ByteArray} {p : Nat} (h : WK b w w') (hi : w.heap[K]? = some (.stringIter s p)) (hK : K ≠ b) : w'.heap[K]? = some (.stringIter s p) :=
  h.oth K _ hi (fun e => hK (by injection e)) (fun c fz e => by cases e)
theorem WK.of {b B : Nat} {w w' : World} (h : Below B w w') (hB : w.heap.size ≤ B) (hb : b < w.heap.size) : WK b w w' :=
  ⟨h.os, h.tape, h.output, h.size, fun k hk => h.block k (by omega), fun k o hk _ _ => by
    have hlt : k < w.heap.size := (Array.getElem?_eq_some_iff.1 hk).1
    rw [h.block k (by omega)]; exact hk⟩
theorem WB.keep {b : Nat} {so : Bool} {xs : By} {w w' : World} (h : WB b so xs w) (hb : Below w.heap.size w w') : WB b so xs w' := by
  obtain ⟨q, v, hp, hbl, ho⟩ := h.ok
  exact ⟨q, v, hp, hbl.keep hb, ownsRow_stay ho (fun g hg => hb.block g (own_base ho hg).2)⟩
theorem ZT.wk {b : Nat} {w w' : World} (h : ZT w) (hk : WK b w w') (hb : 6 ≤ b) : ZT w' := by
  unfold ZT at *
  rw [World.cell?_of_block (show w'.heap[(⟨5, 15, none⟩ : Addr).block]? = w.heap[(⟨5, 15, none⟩ : Addr).block]? from hk.low 5 (by omega))]
  exact h
/-- Where the writing stands within a loop. -/
def St (b : Nat) (so : Bool) (w : World) : Pr → Value → Prop
  | .ok ys, v => v = .int .i64 0 ∧ WB b so ys w ∧ ys.length ≤ 16384
  | .error e, v => v = .int .i64 (e : Int) ∧ e ≠ 0
theorem wr_st {b : Nat} {so : Bool} {w w' : World} {r : Pr} {ε : Ending} (h : Wr b so w r ε w') : ∃ v, ε = .returned v ∧ St b so w' r v ∧ WK b w w' := by
  cases r with
  | ok ys => obtain ⟨rfl, h1, h2, h3⟩ := h; exact ⟨_, rfl, ⟨rfl, h1, h3⟩, h2⟩
  | error e => obtain ⟨rfl, h1, h2⟩ := h; exact ⟨_, rfl, ⟨rfl, h2⟩, h1⟩
theorem clean_step {n : Nat} {l : By} (h : cleanN n l = true) (hl : l ≠ []) : ∃ m j, n = m + 1 ∧ chr l = .ok j ∧ cleanN m (l.drop j) = true := by
  cases l with
  | nil => exact absurd rfl hl
  | cons c l =>
    cases n with
    | zero => cases h
    | succ m =>
      unfold cleanN at h
      cases hc : chr (c :: l) with
      | ok j => rw [hc] at h; exact ⟨m, j, rfl, rfl, h⟩
      | error bb => cases bb with
        | false => rw [hc] at h; cases h
        | true => rw [hc] at h; cases h
theorem escAll_step {m j : Nat} {l xs : By} (hl : l ≠ []) (h : chr l = .ok j) : escAll (m + 1) l xs = (putAt xs (escOf (codeOf j l))).then (escAll m (l.drop j)) := by
  cases l with
  | nil => exact absurd rfl hl
  | cons c l => unfold escAll; rw [h]
theorem escAll_nil (n : Nat) (xs : By) : escAll n [] xs = .ok xs := by cases n <;> rfl
theorem then_ok (r : Pr) : (r.then fun xs => .ok xs) = r := by cases r <;> rfl

set_option maxHeartbeats 2000000 in
set_option maxRecDepth 100000 in
theorem quote_any (b : Nat) (so : Bool) (xs : By) (s : ByteArray) (w : World) (h : WB b so xs w) (hx : xs.length ≤ 16384) (hcl : clean (sbytes s) = true) (hZ : ZT w) (hb7 : 6 ≤ b) :
    Calls Tryz.prog 53 #[.pointer (some ⟨b, 0, none⟩), .string s] w fun e w' => Wr b so w (quoteAt (sbytes s) xs) e w' := by
  have HL := hide (sbytes_length s)
  have HSL := hide (sbytes_lt s)
  have H := hide h
  have hlt := h.lt
  have HZ := hide hZ
  obtain ⟨R0, hR0⟩ : ∃ r, r = (putAt xs [34]).then (escAll s.size (sbytes s)) := ⟨_, rfl⟩
  have HQ : Hid (quoteAt (sbytes s) xs = R0.then fun zs => putAt zs [34]) := by
    show _ = _
    rw [hR0]
    unfold quoteAt
    rw [HL.out]
    cases putAt xs [34] <;> rfl
  have HR0 := hide hR0
  have HCL : Hid (cleanN s.size (sbytes s) = true) := by show _ = _; unfold clean at hcl; rw [HL.out] at hcl; exact hcl
  clear h hZ hcl hR0
  go_enter Tryz.func53, Tryz.ntmps53
  go_wp2_with fail
  refine (put_any b so xs ⟨#[34]⟩ w H.out hx (by decide)).mono ?_
  intro ε w1 h1
  obtain ⟨v1, rfl, hst, hk1⟩ := wr_st h1
  rw [show sbytes ⟨#[34]⟩ = [34] from rfl] at hst
  have hz1 := hk1.size
  have HK1 : Hid (WK b w (w1.iter s 0)) := by show WK _ _ _; unfold World.iter; exact hk1.alloc hlt _
  have HST1 : Hid (St b so (w1.iter s 0) (putAt xs [34]) v1) := by
    show St _ _ _ _ _
    cases hp : putAt xs [34] with
    | ok ys => rw [hp] at hst; obtain ⟨a1, a2, a3⟩ := hst; exact ⟨a1, by unfold World.iter; exact a2.keep (below_new _ _), a3⟩
    | error e => rw [hp] at hst; exact hst
  have HIT : Hid ((w1.iter s 0).heap[w1.heap.size]? = some (.stringIter s 0)) := by show _ = _; unfold World.iter; exact heap_alloc_new w1 _
  obtain ⟨K, hK⟩ : ∃ K, K = w1.heap.size := ⟨_, rfl⟩
  have hKw : w.heap.size ≤ K := by omega
  clear h1 hst hk1 hz1
  obtain ⟨e1, hv1⟩ : ∃ e1 : Nat, v1 = .int .i64 (e1 : Int) := by
    have := HST1.out
    cases hp : putAt xs [34] with
    | ok ys => rw [hp] at this; exact ⟨0, this.1⟩
    | error e => rw [hp] at this; exact ⟨e, this.1⟩
  subst hv1
  go_wp2_with fail
  rw [← hK] at HIT ⊢
  clear hK
  generalize w1.iter s 0 = w2 at *
  go_loopw [5] (fun v wr => ∃ (k n e : Nat) (P : Pr), k ≤ s.size ∧ Hid (wr.heap[K]? = some (.stringIter s k)) ∧ Hid (WK b w wr) ∧ v = .int .i64 (e : Int) ∧ Hid (St b so wr P v) ∧ Hid (P.then (escAll n ((sbytes s).drop k)) = R0) ∧ Hid (cleanN n ((sbytes s).drop k) = true)) (fun _ wr => s.size - iterPos K wr)
  case atStart => exact ⟨0, s.size, e1, putAt xs [34], Nat.zero_le _, HIT, HK1, rfl, HST1, by show _ = _; rw [HR0.out]; rfl, by show _ = _; exact HCL.out⟩
  case round =>
    obtain ⟨k, n, e, P, hk, HI, HK, hv, HS, HR, HC⟩ := hrel
    clear HIT HK1 HST1
    subst hv
    have hKb : K ≠ b := by omega
    by_cases hks : k < s.size
    · have hne : (sbytes s).drop k ≠ [] := by
        intro e0
        have := congrArg List.length e0
        rw [List.length_drop, HL.out] at this
        simp at this
        omega
      have HD := hide (decode_chr s k hks)
      have HST : Hid (∃ m j, n = m + 1 ∧ chr ((sbytes s).drop k) = .ok j ∧ cleanN m (((sbytes s).drop k).drop j) = true) := clean_step HC.out hne
      obtain ⟨m, j, hnm, hch, hcm⟩ := HST.out
      have hj := chr_ok hch
      have hjl := hj.2.2.1
      rw [List.length_drop, HL.out] at hjl
      have hcode := utf_code hch
      have hDe : Utf8.decode s k = (codeOf j ((sbytes s).drop k), j) := by rw [HD.out, hch]; rfl
      have hnx : ∀ ty, (Instr.next (.pointer (some ⟨K, 0, none⟩)) true ty).run Tryz.prog wr = .ok (.tuple #[.bool true, .int .i64 (k : Int), .int .i32 ((codeOf j ((sbytes s).drop k) : Nat) : Int)]) (wr.iterAt K s (k + j)) := fun ty => by
        have := Lib.run_next_any_at (P := Tryz.prog) wr K s k ty HI.out hks
        rw [hDe] at this
        exact this
      have HES : Hid (∀ ys, escAll n ((sbytes s).drop k) ys = (putAt ys (escOf (codeOf j ((sbytes s).drop k)))).then (escAll m ((sbytes s).drop (k + j)))) := fun ys => by
        rw [hnm, escAll_step hne hch, List.drop_drop]
      have HCM : Hid (cleanN m ((sbytes s).drop (k + j)) = true) := by show _ = _; rw [← List.drop_drop]; exact hcm
      obtain ⟨c, hc⟩ : ∃ c, c = codeOf j ((sbytes s).drop k) := ⟨_, rfl⟩
      rw [← hc] at hnx HES hcode
      have HI3 := hide (Lib.iterAt_heap wr K s k (k + j) HI.out)
      have HK3 := hide (iterAt_wk (s := s) (p' := k + j) HK.out hKw hlt)
      have hc1 := hcode.2.1
      have HC2 := hide hcode.2.2.1
      have hj1 := hj.1
      clear hj hDe HD hcode hc hcm hch hnm HST hne HC
      cases P with
      | error e' =>
        have HR2 : Hid (R0 = .error e') := by show _ = _; rw [← HR.out]; rfl
        obtain ⟨he1, he2⟩ := HS.out
        have hee : (e : Int) = (e' : Int) := by injection he1
        have hne0 : ((e : Int) != 0) = true := by simp; omega
        have HEE := hide hee
        have HE2 := hide he2
        clear he1 hee he2 HS
        go_wp2_with fail
        go_ret
        rw [HQ.out, HR2.out]
        exact ⟨by rw [HEE.out]; rfl, HK3.out, HE2.out⟩
      | ok ys =>
        obtain ⟨he1, h2, h3⟩ := HS.out
        have hee : (e : Int) = 0 := by injection he1
        have he0 : e = 0 := by omega
        subst he0
        have H3 := hide (iterAt_wb (p' := k + j) h2 HI.out)
        have HR2 : Hid ((putAt ys (escOf c)).then (escAll m ((sbytes s).drop (k + j))) = R0) := by show _ = _; rw [← HR.out, ← HES.out]; rfl
        clear he1 hee h2 HS HR HES
        go_wp2_with fail
        generalize wr.iterAt K s (k + j) = w3 at *
        refine (escaped_any w3 c (HZ.out.wk HK3.out hb7) hc1 HC2.out).mono ?_
        rintro ε w4 ⟨rfl, hb4⟩
        have HK4 := hide (HK3.out.trans (WK.of hb4 (Nat.le_refl _) H3.out.lt))
        have H4 := hide (H3.out.keep hb4)
        have HI4 : Hid (w4.heap[K]? = some (.stringIter s (k + j))) := (hb4.block K (Array.getElem?_eq_some_iff.1 HI3.out).1).trans HI3.out
        clear hb4 H3 HK3 HI3
        go_wp2_with fail
        refine (put_any b so ys _ w4 H4.out h3 (by rw [bstr_size]; have := (escOf_len c).2; omega)).mono ?_
        intro ε w5 h5
        rw [sbytes_bstr (escOf_lt c hc1)] at h5
        obtain ⟨v5, rfl, hst, hk5⟩ := wr_st h5
        have HK5 := hide (HK4.out.trans hk5)
        have HI5 := hide (hk5.iter HI4.out hKb)
        have HST5 := hide hst
        obtain ⟨e5, hv5⟩ : ∃ e5 : Nat, v5 = .int .i64 (e5 : Int) := by
          cases hp : putAt ys (escOf c) with
          | ok zs => rw [hp] at hst; exact ⟨0, hst.1⟩
          | error e => rw [hp] at hst; exact ⟨e, hst.1⟩
        subst hv5
        clear h5 hst hk5 H4 HK4 HI4
        go_wp2_with fail
        go_roundw
        case rel => exact ⟨k + j, m, e5, putAt ys (escOf c), by omega, HI5, HK5, rfl, HST5, HR2, HCM⟩
        case measure => unfold iterPos; rw [HI5.out, HI.out]; simp only; omega
    · have hnx : ∀ ty, (Instr.next (.pointer (some ⟨K, 0, none⟩)) true ty).run Tryz.prog wr = .ok (.tuple #[.bool false]) wr := fun ty => Lib.run_next_end_at (P := Tryz.prog) wr K s k ty HI.out hks
      have HR2 : Hid (R0 = P) := by
        show _ = _
        have hd : (sbytes s).drop k = [] := List.drop_of_length_le (by rw [HL.out]; omega)
        rw [← HR.out, hd, show escAll n [] = fun xs => .ok xs from funext (escAll_nil n), then_ok]
      cases P with
      | error e' =>
        obtain ⟨he1, he2⟩ := HS.out
        have hee : (e : Int) = (e' : Int) := by injection he1
        have hne0 : ((e : Int) != 0) = true := by simp; omega
        have HEE := hide hee
        have HE2 := hide he2
        clear he1 hee he2 HS
        go_wp2_with fail
        go_ret
        rw [HQ.out, HR2.out]
        exact ⟨by rw [HEE.out]; rfl, HK.out, HE2.out⟩
      | ok ys =>
        obtain ⟨he1, h2, h3⟩ := HS.out
        have hee : (e : Int) = 0 := by injection he1
        have he0 : e = 0 := by omega
        subst he0
        have H2 := hide h2
        clear he1 hee h2 HS HR
        go_wp2_with fail
        refine (put_any b so ys ⟨#[34]⟩ _ H2.out h3 (by decide)).mono ?_
        intro ε w5 h5
        rw [show sbytes ⟨#[34]⟩ = [34] from rfl] at h5
        obtain ⟨v5, rfl, hst, hk5⟩ := wr_st h5
        have FIN : Hid (Wr b so w (quoteAt (sbytes s) xs) (.returned v5) w5) := by
          show Wr _ _ _ _ _ _
          rw [HQ.out, HR2.out]
          show Wr _ _ _ (putAt ys [34]) _ _
          cases hp : putAt ys [34] with
          | ok zs => rw [hp] at hst; exact ⟨by rw [hst.1], hst.2.1, HK.out.trans hk5, hst.2.2⟩
          | error e => rw [hp] at hst; exact ⟨by rw [hst.1], HK.out.trans hk5, hst.2⟩
        obtain ⟨e5, hv5⟩ : ∃ e5 : Nat, v5 = .int .i64 (e5 : Int) := by
          cases hp : putAt ys [34] with
          | ok zs => rw [hp] at hst; exact ⟨0, hst.1⟩
          | error e => rw [hp] at hst; exact ⟨e, hst.1⟩
        subst hv5
        clear h5 hst hk5
        go_wp2_with fail
        go_ret
        exact FIN.out
end Go.Proofs.YtlebockgdonceaaGreatDoor
namespace Go.Proofs.YtlebockgdonceaaGreatDoor
open Go.RowKit

theorem bytes_of {xs : By} (h : ∀ x ∈ xs, x < 256) : Lib.byteCells (xs.map fun n => UInt8.ofNat n) = xs.map bv := strCells_bstr h
set_option maxHeartbeats 1000000 in
set_option maxRecDepth 100000 in
theorem stringW_any (b : Nat) (so : Bool) (xs : By) (w : World) (h : WB b so xs w) (hx : ∀ x ∈ xs, x < 256) (h0 : xs ≠ []) :
    Calls Tryz.prog 37 #[.pointer (some ⟨b, 0, none⟩)] w fun e w' => e = .returned (.string (bstr xs)) ∧ Below (b + 1) w w' := by
  obtain ⟨p, v, hp, hbk, hown⟩ := h.ok
  have hl0 : xs.length ≠ 0 := by simpa using h0
  obtain ⟨g, cap, cur, rfl, hbg, hg, hnc, hcm, hcs, htake⟩ : ∃ g cap cur, v = .slice (some ⟨g, 0, none⟩) xs.length cap ∧ b + 1 ≤ g ∧ w.heap[g]? = some (.cells cur 5 (0, 0)) ∧ xs.length ≤ cap ∧ cap ≤ maxLen ∧ cur.size = cap * 1 ∧ cur.toList.take (xs.length * 1) = xs.map bv := by
    rcases hown.2 with ⟨_, hz⟩ | ⟨g, cap, cur, hv, r⟩
    · exact absurd hz hl0
    · exact ⟨g, cap, cur, hv, r⟩
  have c1 : w.drew.cell? ⟨b, 1, none⟩ = some (.slice (some ⟨g, 0, none⟩) xs.length cap) := hbk.cell 1
  have hSD : (Builtin.unsafeSliceData_ #[62] 106 #[.slice (some ⟨g, 0, none⟩) xs.length cap]).run Tryz.prog w.drew = .ok (.pointer (some ⟨g, 0, none⟩)) w.drew :=
    Lib.run_unsafeSliceData_row _ _ _ _ _ _ (by omega)
  have hUS : (Builtin.unsafeString_ #[106, 3] 9 #[.pointer (some ⟨g, 0, none⟩), .int .i64 xs.length]).run Tryz.prog w.drew = .ok (.string (bstr xs)) (w.drew.freeze ⟨g, 0, none⟩ xs.length) := by
    have := Lib.run_unsafeString_row w.drew 106 3 9 5 Tryz.underlying106 Builder_Extra_169.cellsByte g cur.size (by have hg' : w.drew.heap[g]? = some (.cells cur 5 (0, 0)) := hg; simp [World.shape?, hg']) (xs.map fun n => UInt8.ofNat n) (by simpa using h0) (by simp; omega) (by unfold maxLen at hcm; simp; omega) ?_
    · rw [List.length_map] at this
      exact this
    · intro j x hj
      have hj2 : j < xs.length := by
        have := (List.getElem?_eq_some_iff.1 hj).1
        simpa using this
      have e1 : (xs.map bv)[j]? = some (.int .u8 (x.toNat : Int)) := by
        rw [← bytes_of hx]
        unfold Lib.byteCells
        rw [List.getElem?_map, hj]
        rfl
      rw [← htake, List.getElem?_take, if_pos (by omega)] at e1
      show w.cell? _ = _
      rw [add_none, Nat.zero_add, cell_of_row w g _ _ _ (0, 0) hg, ← Array.getElem?_toList]
      exact e1
  have HF : Hid (Below (b + 1) w (w.drew.freeze ⟨g, 0, none⟩ xs.length)) := Lib.below_freeze (Below.drew (Below.refl (b + 1) w)) (p := ⟨g, 0, none⟩) hbg _
  clear htake hcs hcm hnc hg hown hp hbk h
  have mixed := lays169.mixed
  go_enter Tryz.func37, Tryz.ntmps37
  go_wp2
  go_region_o
  all_goals (go_wp2; go_ret; exact ⟨rfl, HF.out⟩)
end Go.Proofs.YtlebockgdonceaaGreatDoor
