/- The reader of the program: what it holds, and its small calls. -/
import Derived.Test.YtlebockgdonceaaGreatDoorKBase
import Derived.Test.YtlebockgdonceaaGreatDoorKMath
import Derived.Test.YtlebockgdonceaaGreatDoorShelf
namespace Go.Proofs.YtlebockgdonceaaGreatDoor
open Go.RowKit

theorem indexByte_mem (l : List UInt8) (c : UInt8) : (0 ≤ Lib.indexByte l c) ↔ c ∈ l := by
  induction l with
  | nil => simp [Lib.indexByte]
  | cons b l ih =>
    have hg := Lib.indexByte_ge l c
    unfold Lib.indexByte
    by_cases h : b = c
    · simp [h]
    · rw [if_neg (by simpa using h)]
      by_cases h2 : Lib.indexByte l c = -1
      · rw [if_pos (by simpa using h2)]
        rw [h2] at ih
        have : ¬ c ∈ l := fun hm => by have := ih.2 hm; omega
        simp [this, Ne.symm h]
      · rw [if_neg (by simpa using h2)]
        have : c ∈ l := ih.1 (by omega)
        simp [this]
        omega
/-- Is it one of these? -/
def hasB (set : By) (c : Nat) : Bool := set.contains c
theorem indexByte_has (s : ByteArray) (c : Nat) (hc : c < 256) : decide (0 ≤ Lib.indexByte s.data.toList (UInt8.ofNat c)) = hasB (sbytes s) c := by
  unfold hasB
  rw [Bool.eq_iff_iff, decide_eq_true_eq, indexByte_mem, List.contains_iff_mem]
  unfold sbytes
  rw [List.mem_map]
  constructor
  · intro h; exact ⟨_, h, by simp; omega⟩
  · rintro ⟨b, hb, rfl⟩; simpa using hb
theorem ret_bool {a b : Bool} (h : a = b) : Ending.returned (.bool a) = .returned (.bool b) := by rw [h]
set_option maxHeartbeats 1000000 in
set_option maxRecDepth 100000 in
theorem isOf_any (c : Nat) (set : ByteArray) (w : World) (hc : c < 256) :
    Calls Tryz.prog 25 #[.int .u8 (c : Int), .string set] w fun e w' => e = .returned (.bool (hasB (sbytes set) c)) ∧ w' = w := by
  have HB := hide (indexByte_has set c hc)
  go_enter Tryz.func25, Tryz.ntmps25
  go_wp2_with fail
  refine (Any.strings_IndexByte lays137 _ _ _).mono ?_
  rintro e w' ⟨rfl, rfl⟩
  rw [show (c : Int).toNat.toUInt8 = UInt8.ofNat c from rfl]
  generalize Lib.indexByte set.data.toList (UInt8.ofNat c) = z at HB
  go_wp2
  go_ret
  exact ⟨ret_bool HB.out, rfl⟩
theorem byte_lt (s : ByteArray) (p : Nat) : bt (sbytes s) p < 256 := lt_get (sbytes_lt s) p

/-- Has the text a byte at that place, and is it one of these? -/
def standsB (s : By) (p : Nat) (set : By) : Bool := decide (p < s.length) && hasB set (bt s p)
set_option maxHeartbeats 1000000 in
set_option maxRecDepth 100000 in
theorem stands_any (s : ByteArray) (p : Nat) (set : ByteArray) (w : World) :
    Calls Tryz.prog 22 #[.string s, .int .i64 (p : Int), .string set] w fun e w' => e = .returned (.bool (standsB (sbytes s) p (sbytes set))) ∧ w' = w := by
  have hl := sbytes_length s
  by_cases h : p < s.size
  · have hi := str_index s p h
    have HB : Hid (standsB (sbytes s) p (sbytes set) = hasB (sbytes set) (bt (sbytes s) p)) := by
      show _ = _; unfold standsB; rw [decide_eq_true (by omega)]; rfl
    have hbt : ((sbytes s).getD p 0) = bt (sbytes s) p := rfl
    rw [hbt] at hi
    have hc := byte_lt s p
    clear hbt hl
    generalize bt (sbytes s) p = c at *
    go_enter Tryz.func22, Tryz.ntmps22
    go_wp2_with (first | (go_at_call 25; refine (isOf_any c set _ hc).mono ?_; rintro e w' ⟨rfl, rfl⟩))
    go_ret
    exact ⟨ret_bool HB.out.symm, rfl⟩
  · have HB : Hid (standsB (sbytes s) p (sbytes set) = false) := by
      show _ = _; unfold standsB; rw [decide_eq_false (by omega)]; rfl
    go_enter Tryz.func22, Tryz.ntmps22
    go_wp2_with fail
    go_ret
    exact ⟨ret_bool HB.out.symm, rfl⟩

/-- The reader lies in block R: its text, its place, the fault and its place. -/
def RB (w : World) (R : Nat) (s : ByteArray) (p e q : Nat) : Prop := Bl w R [.string s, .int .i64 (p : Int), .int .i64 (e : Int), .int .i64 (q : Int)] 37
theorem RB.c0 {w : World} {R : Nat} {s : ByteArray} {p e q : Nat} (h : RB w R s p e q) : w.cell? ⟨R, 0, none⟩ = some (.string s) := by rw [Bl.cell h]; rfl
theorem RB.c1 {w : World} {R : Nat} {s : ByteArray} {p e q : Nat} (h : RB w R s p e q) : w.cell? ⟨R, 1, none⟩ = some (.int .i64 (p : Int)) := by rw [Bl.cell h]; rfl
theorem RB.c2 {w : World} {R : Nat} {s : ByteArray} {p e q : Nat} (h : RB w R s p e q) : w.cell? ⟨R, 2, none⟩ = some (.int .i64 (e : Int)) := by rw [Bl.cell h]; rfl
theorem RB.c3 {w : World} {R : Nat} {s : ByteArray} {p e q : Nat} (h : RB w R s p e q) : w.cell? ⟨R, 3, none⟩ = some (.int .i64 (q : Int)) := by rw [Bl.cell h]; rfl
theorem RB.fz {w : World} {R : Nat} {s : ByteArray} {p e q : Nat} (h : RB w R s p e q) (i : Nat) : w.frozen? ⟨R, i, none⟩ = false := Bl.frozen h i
theorem RB.move {w : World} {R : Nat} {s : ByteArray} {p e q : Nat} (h : RB w R s p e q) (p' : Nat) : RB (w.setCell ⟨R, 1, none⟩ (.int .i64 (p' : Int))) R s p' e q := Bl.set h 1 _
theorem RB.fault {w : World} {R : Nat} {s : ByteArray} {p e q : Nat} (h : RB w R s p e q) (e' q' : Nat) : RB ((w.setCell ⟨R, 2, none⟩ (.int .i64 (e' : Int))).setCell ⟨R, 3, none⟩ (.int .i64 (q' : Int))) R s p e' q' := Bl.set (Bl.set h 2 _) 3 _
theorem RB.drewN {w : World} {R : Nat} {s : ByteArray} {p e q : Nat} (h : RB w R s p e q) (n : Nat) : RB (w.drewN n) R s p e q := h
theorem RB.keep {w w' : World} {R : Nat} {s : ByteArray} {p e q : Nat} (h : RB w R s p e q) (hb : Below w.heap.size w w') : RB w' R s p e q := Bl.keep h hb
theorem RB.lt {w : World} {R : Nat} {s : ByteArray} {p e q : Nat} (h : RB w R s p e q) : R < w.heap.size := Bl.lt h

set_option maxHeartbeats 1000000 in
set_option maxRecDepth 100000 in
theorem fail_any (R : Nat) (s : ByteArray) (p e q e' q' : Nat) (w : World) (h : RB w R s p e q) :
    Calls Tryz.prog 15 #[.pointer (some ⟨R, 0, none⟩), .int .i64 (e' : Int), .int .i64 (q' : Int)] w fun ε w' => ε = .returned (.bool false) ∧ RB w' R s p e' q' ∧ But R w w' := by
  have c2 := h.c2
  have c3 := h.c3
  have f2 := h.fz 2
  have f3 := h.fz 3
  have H := hide h
  clear h
  go_enter Tryz.func15, Tryz.ntmps15
  go_wp2
  go_ret
  exact ⟨rfl, H.out.fault e' q', (But.setCell _ _ _ _).trans (But.setCell _ _ _ _)⟩
set_option maxHeartbeats 1000000 in
set_option maxRecDepth 100000 in
theorem look_some (R : Nat) (s : ByteArray) (p e q : Nat) (w : World) (h : RB w R s p e q) (hp : p < s.size) :
    Calls Tryz.prog 23 #[.pointer (some ⟨R, 0, none⟩)] w fun ε w' => ε = .returned (.tuple #[.int .u8 (bt (sbytes s) p : Int), .bool true]) ∧ RB w' R s p e q ∧ But R w w' := by
  have c0 := h.c0
  have c1 := h.c1
  have hi := str_index s p hp
  have hbt : ((sbytes s).getD p 0) = bt (sbytes s) p := rfl
  rw [hbt] at hi
  have H := hide h
  have hne : decide ((p : Int) = (s.size : Int)) = false := by simp; omega
  clear h hbt
  go_enter Tryz.func23, Tryz.ntmps23
  go_wp2_with fail
  go_quiet (fail)
  go_wp2_with fail
  go_quiet (fail)
  go_wp2_with fail
  go_ret2
  exact ⟨rfl, H.out, ((But.drewN _ _ _).trans (But.drewN _ _ _))⟩
set_option maxHeartbeats 1000000 in
set_option maxRecDepth 100000 in
theorem look_none (R : Nat) (s : ByteArray) (p e q : Nat) (w : World) (h : RB w R s p e q) (hp : p = s.size) :
    Calls Tryz.prog 23 #[.pointer (some ⟨R, 0, none⟩)] w fun ε w' => ε = .returned (.tuple #[.int .u8 0, .bool false]) ∧ RB w' R s p 3 p ∧ But R w w' := by
  have c0 := h.c0
  have c1 := h.c1
  have H := hide h
  have HP := hide hp
  have hne : ((p : Int) == (s.size : Int)) = true := by simp; omega
  clear h hp
  go_enter Tryz.func23, Tryz.ntmps23
  go_wp2_with fail
  go_quiet (fail)
  have H2 := hide (H.out.drewN nq)
  have hbut := hide (But.drewN R w nq)
  generalize w.drewN nq = w1 at *
  have d1 := H2.out.c1
  clear c0 c1 H
  go_wp2_with fail
  refine (fail_any R s p e q 3 p w1 H2.out).mono ?_
  rintro ε w2 ⟨rfl, h2, hb2⟩
  go_wp2
  go_ret2
  exact ⟨rfl, h2, hbut.out.trans hb2⟩
set_option maxHeartbeats 1000000 in
set_option maxRecDepth 100000 in
theorem take_in (R : Nat) (s set : ByteArray) (p e q : Nat) (w : World) (h : RB w R s p e q) (hp : p < s.size) (hs : s.size ≤ 16384) (hin : hasB (sbytes set) (bt (sbytes s) p) = true) :
    Calls Tryz.prog 38 #[.pointer (some ⟨R, 0, none⟩), .string set] w fun ε w' => ε = .returned (.tuple #[.int .u8 (bt (sbytes s) p : Int), .bool true]) ∧ RB w' R s (p + 1) e q ∧ But R w w' := by
  have hc := byte_lt s p
  have H := hide h
  clear h
  go_enter Tryz.func38, Tryz.ntmps38
  go_wp2_with fail
  refine (look_some R s p e q _ H.out hp).mono ?_
  rintro ε w1 ⟨rfl, h1, hb1⟩
  have H1 := hide h1
  have HB1 := hide hb1
  have d1 := h1.c1
  have f1 := h1.fz 1
  clear h1 hb1 H
  go_wp2_with fail
  refine (isOf_any _ set _ hc).mono ?_
  rintro ε w2 ⟨rfl, rfl⟩
  rw [hin]
  go_wp2_with fail
  go_ret2
  refine ⟨rfl, ?_, HB1.out.trans (But.setCell _ _ _ _)⟩
  have := H1.out.move (p + 1)
  simpa using this
set_option maxHeartbeats 1000000 in
set_option maxRecDepth 100000 in
theorem take_out (R : Nat) (s set : ByteArray) (p e q : Nat) (w : World) (h : RB w R s p e q) (hp : p < s.size) (hin : hasB (sbytes set) (bt (sbytes s) p) = false) :
    Calls Tryz.prog 38 #[.pointer (some ⟨R, 0, none⟩), .string set] w fun ε w' => ε = .returned (.tuple #[.int .u8 0, .bool false]) ∧ RB w' R s p 40 p ∧ But R w w' := by
  have hc := byte_lt s p
  have H := hide h
  clear h
  go_enter Tryz.func38, Tryz.ntmps38
  go_wp2_with fail
  refine (look_some R s p e q _ H.out hp).mono ?_
  rintro ε w1 ⟨rfl, h1, hb1⟩
  have H1 := hide h1
  have HB1 := hide hb1
  have d1 := h1.c1
  clear h1 hb1 H
  go_wp2_with fail
  refine (isOf_any _ set _ hc).mono ?_
  rintro ε w2 ⟨rfl, rfl⟩
  rw [hin]
  go_wp2_with fail
  refine (fail_any R s p e q 40 p _ H1.out).mono ?_
  rintro ε w3 ⟨rfl, h3, hb3⟩
  go_wp2
  go_ret2
  exact ⟨rfl, h3, HB1.out.trans hb3⟩
set_option maxHeartbeats 1000000 in
set_option maxRecDepth 100000 in
theorem take_end (R : Nat) (s set : ByteArray) (p e q : Nat) (w : World) (h : RB w R s p e q) (hp : p = s.size) :
    Calls Tryz.prog 38 #[.pointer (some ⟨R, 0, none⟩), .string set] w fun ε w' => ε = .returned (.tuple #[.int .u8 0, .bool false]) ∧ RB w' R s p 3 p ∧ But R w w' := by
  have H := hide h
  have HP := hide hp
  clear h hp
  go_enter Tryz.func38, Tryz.ntmps38
  go_wp2_with fail
  refine (look_none R s p e q _ H.out HP.out).mono ?_
  rintro ε w1 ⟨rfl, h1, hb1⟩
  go_wp2_with fail
  go_ret2
  exact ⟨rfl, h1, hb1⟩

theorem blank_set (c : Nat) : hasB (sbytes ⟨#[32, 9, 10, 13]⟩) c = isBlank c := by
  rw [Bool.eq_iff_iff]
  simp [hasB, sbytes, isBlank, or_assoc]
/-- The reader's place. -/
def posOf (R : Nat) (w : World) : Nat := (intOf ((w.cell? ⟨R, 1, none⟩).getD undef)).toNat
theorem RB.pos {w : World} {R : Nat} {s : ByteArray} {p e q : Nat} (h : RB w R s p e q) : posOf R w = p := by unfold posOf; rw [h.c1]; simp [intOf]
set_option maxHeartbeats 1000000 in
set_option maxRecDepth 100000 in
theorem blanks_any (R : Nat) (s : ByteArray) (p e q : Nat) (w : World) (h : RB w R s p e q) (hp : p ≤ s.size) (hs : s.size ≤ 16384) :
    Calls Tryz.prog 13 #[.pointer (some ⟨R, 0, none⟩)] w fun ε w' => ε = .returned (.tuple #[]) ∧ RB w' R s (skip (sbytes s) p) e q ∧ But R w w' := by
  have hl := sbytes_length s
  have HL := hide hl
  have H := hide h
  clear h hl
  go_enter Tryz.func13, Tryz.ntmps13
  go_wp2_with fail
  go_loopw [] (fun wr => ∃ k : Nat, k ≤ s.size ∧ Hid (RB wr R s k e q) ∧ Hid (But R w wr) ∧ Hid (skip (sbytes s) k = skip (sbytes s) p)) (fun wr => s.size - posOf R wr)
  case atStart => exact ⟨p, hp, H.out, But.refl _ _, rfl⟩
  case round =>
    obtain ⟨k, hk, HR, HB, HK⟩ := hrel
    have c0 := HR.out.c0
    have c1 := HR.out.c1
    have f1 := HR.out.fz 1
    cases hst : standsB (sbytes s) k (sbytes ⟨#[32, 9, 10, 13]⟩) with
    | true =>
      have HS : Hid (k < s.size ∧ skip (sbytes s) k = skip (sbytes s) (k + 1)) := by
        have h2 := hst
        unfold standsB at h2
        rw [blank_set, HL.out] at h2
        simp only [Bool.and_eq_true, decide_eq_true_eq] at h2
        exact ⟨h2.1, skip_step (by rw [HL.out]; exact h2.1) h2.2⟩
      have hk2 := HS.out.1
      go_wp2_with fail
      go_quiet ((go_at_call 22; exact Calls.quiet_of_same (stands_any _ _ _ _)))
      rw [hst]
      go_wp2_with fail
      go_roundw
      case rel =>
        refine ⟨k + 1, by omega, ?_, HB.out.trans ((But.drewN _ _ _).trans (But.setCell _ _ _ _)), by show _ = _; rw [← HS.out.2]; exact HK.out⟩
        show RB _ _ _ _ _ _
        have := (HR.out.drewN nq).move (k + 1)
        simpa using this
      case measure =>
        have h2 := ((HR.out.drewN nq).move (k + 1)).pos
        rw [HR.out.pos]
        simp only [Int.natCast_add, Int.natCast_one] at h2
        rw [h2]
        omega
    | false =>
      have HS : Hid (skip (sbytes s) k = k) := by
        have h2 := hst
        unfold standsB at h2
        rw [blank_set, HL.out] at h2
        by_cases h3 : k < s.size
        · rw [decide_eq_true h3] at h2
          exact skip_stop h2
        · exact skip_end (by rw [HL.out]; omega)
      go_wp2_with fail
      go_quiet ((go_at_call 22; exact Calls.quiet_of_same (stands_any _ _ _ _)))
      rw [hst]
      go_wp2_with fail
      go_end0
      refine ⟨rfl, ?_, HB.out.trans (But.drewN _ _ _)⟩
      rw [← HK.out, HS.out]
      exact HR.out.drewN nq
end Go.Proofs.YtlebockgdonceaaGreatDoor
