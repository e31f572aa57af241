/- The letters of user codes: the table, isLetter, isUserCode, capital, the marks. -/
import Derived.Test.YtonnnolnkjahgabDoorCFeed
import Derived.Test.YtonnnolnkjahgabDoorShelf
namespace Go.Proofs.YtonnnolnkjahgabDoor
open Go.RowKit Go.Shelf

def lets : List Nat := [66, 67, 68, 70, 71, 72, 74, 75, 76, 77, 78, 80, 81, 82, 83, 84, 86, 87, 88, 90]
def isLet (c : Nat) : Bool := lets.contains c
def isCode (l : List Nat) : Bool := l.length == 8 && l.all isLet
def marks5 : List Nat := [32, 45, 95, 46, 47]
def isMark (c : Nat) : Bool := marks5.contains c
def capN (c : Nat) : Nat := if 97 ≤ c ∧ c ≤ 122 then c - 32 else c
/-- The table of letters in memory. -/
def Lets (w : World) : Prop := ∀ j, j < 20 → w.cell? ⟨0, j, none⟩ = some (.int .u8 ((lets.getD j 0 : Nat) : Int))
theorem Lets.keep {w w' : World} (h : Lets w) (hb : Below w.heap.size w w') : Lets w' := fun j hj => cell_kept (h j hj) hb
theorem Lets.lt {w : World} (h : Lets w) : 0 < w.heap.size := World.block_lt_of_cell? w _ (h 0 (by decide))
theorem Lets.fr {fp : List Nat} {w w' : World} (h : Lets w) (hf : Fr fp w w') (hn : 0 ∉ fp) : Lets w' := fun j hj => by
  rw [World.cell?_of_block (hf.block _ h.lt hn)]
  exact h j hj
theorem lets_lt : ∀ j, j < 20 → lets.getD j 0 < 256 := by decide
theorem isLet_of {c : Nat} (j : Nat) (hj : j < 20) (h : lets.getD j 0 = c) : isLet c = true := by
  unfold isLet
  rw [List.contains_iff_mem, ← h, show lets.getD j 0 = lets[j]'(show j < lets.length from hj) by simp [List.getD, show j < lets.length from hj]]
  exact List.getElem_mem _
theorem isLet_not {c : Nat} (h : ∀ j, j < 20 → lets.getD j 0 ≠ c) : isLet c = false := by
  unfold isLet
  rw [← Bool.not_eq_true, List.contains_iff_mem]
  intro hm
  obtain ⟨j, hj, e⟩ := List.mem_iff_getElem.1 hm
  exact h j hj (by simp [List.getD, hj, e])
theorem index20 (i : Nat) (hi : i < 20) (w : World) : (Instr.index 55 (.agg (lets.map bv).toArray) (.int .i64 (i : Int))).run Tryd.prog w = .ok (.int .u8 ((lets.getD i 0 : Nat) : Int)) w := by
  match i, hi with
  | 0, _ => simp [Instr.index, run_underlying Tryd.underlying55, asIntOf, go_sem, lets, bv]
  | 1, _ => simp [Instr.index, run_underlying Tryd.underlying55, asIntOf, go_sem, lets, bv]
  | 2, _ => simp [Instr.index, run_underlying Tryd.underlying55, asIntOf, go_sem, lets, bv]
  | 3, _ => simp [Instr.index, run_underlying Tryd.underlying55, asIntOf, go_sem, lets, bv]
  | 4, _ => simp [Instr.index, run_underlying Tryd.underlying55, asIntOf, go_sem, lets, bv]
  | 5, _ => simp [Instr.index, run_underlying Tryd.underlying55, asIntOf, go_sem, lets, bv]
  | 6, _ => simp [Instr.index, run_underlying Tryd.underlying55, asIntOf, go_sem, lets, bv]
  | 7, _ => simp [Instr.index, run_underlying Tryd.underlying55, asIntOf, go_sem, lets, bv]
  | 8, _ => simp [Instr.index, run_underlying Tryd.underlying55, asIntOf, go_sem, lets, bv]
  | 9, _ => simp [Instr.index, run_underlying Tryd.underlying55, asIntOf, go_sem, lets, bv]
  | 10, _ => simp [Instr.index, run_underlying Tryd.underlying55, asIntOf, go_sem, lets, bv]
  | 11, _ => simp [Instr.index, run_underlying Tryd.underlying55, asIntOf, go_sem, lets, bv]
  | 12, _ => simp [Instr.index, run_underlying Tryd.underlying55, asIntOf, go_sem, lets, bv]
  | 13, _ => simp [Instr.index, run_underlying Tryd.underlying55, asIntOf, go_sem, lets, bv]
  | 14, _ => simp [Instr.index, run_underlying Tryd.underlying55, asIntOf, go_sem, lets, bv]
  | 15, _ => simp [Instr.index, run_underlying Tryd.underlying55, asIntOf, go_sem, lets, bv]
  | 16, _ => simp [Instr.index, run_underlying Tryd.underlying55, asIntOf, go_sem, lets, bv]
  | 17, _ => simp [Instr.index, run_underlying Tryd.underlying55, asIntOf, go_sem, lets, bv]
  | 18, _ => simp [Instr.index, run_underlying Tryd.underlying55, asIntOf, go_sem, lets, bv]
  | 19, _ => simp [Instr.index, run_underlying Tryd.underlying55, asIntOf, go_sem, lets, bv]
  | n + 20, h => exact absurd h (by omega)
set_option maxHeartbeats 1000000 in
set_option maxRecDepth 100000 in
theorem isLetter_any (c : Nat) (w : World) (hT : Lets w) : Calls Tryd.prog 35 #[.int .u8 (c : Int)] w fun e w' => e = .returned (.bool (isLet c)) ∧ w' = w := by
  have HR : Hid (w.rangeAt 0 0 (lets.map bv)) := hide fun j v hv => by
    have hj : j < 20 := by have := (List.getElem?_eq_some_iff.1 hv).1; simpa [lets] using this
    rw [Nat.zero_add, hT j hj, ← hv]
    have hj2 : j < lets.length := hj
    simp [bv, List.getD, hj2]
  have hsz : (Tryd.prog.info? 55).map (·.size) = some (lets.map bv).length := by kernel_rfl
  have HSZ := hide hsz
  have hix := index20
  have HN := hide (@isLet_not c)
  have HY := hide (@isLet_of c)
  clear hT hsz
  generalize lets.map bv = arr at *
  go_enter Tryd.func35, Tryd.ntmps35
  go_wp2_with (first | (refine wpList_load_mid rfl 55 _ rfl 0 0 rfl arr _ HR.out Tryd.underlying55 rfl HSZ.out ?_) | fail)
  go_loopw [6] (fun a6 wr => ∃ i : Nat, a6 = .int .i64 (i : Int) ∧ wr = w ∧ i ≤ 20 ∧ Hid (∀ j, j < i → lets.getD j 0 ≠ c)) (fun a6 _ => 20 - (match a6 with | .int _ x => x.toNat | _ => 0))
  case atStart => exact ⟨0, rfl, rfl, by omega, hide fun j hj => by omega⟩
  case round =>
    obtain ⟨i, rfl, rfl, hi, hs⟩ := hrel
    by_cases hin : i < 20
    · have hin' : (i : Int) < 20 := by omega
      have hx := hix i hin
      have hwri : IntKind.i64.wrap ((i : Int) + 1) = ((i + 1 : Nat) : Int) := by rw [IntKind.wrap_i64]; omega
      have HIN := hide hin
      clear hi hin
      by_cases he : lets.getD i 0 = c
      · have HE := hide (HY.out i HIN.out he)
        rw [he] at hx
        clear hix
        clear he
        go_wp2_with fail
        go_ret
        exact ⟨by rw [HE.out]; first | done | rfl, rfl⟩
      · have he' : (((lets.getD i 0 : Nat) : Int) == (c : Int)) = false := by simpa using (fun e => he (by exact_mod_cast e))
        have HE := hide he
        obtain ⟨d, hd⟩ : ∃ d, d = lets.getD i 0 := ⟨_, rfl⟩
        rw [← hd] at hx he'
        clear he hd hix
        go_wp2_with fail
        go_roundw
        case rel => exact ⟨i + 1, by first | rfl | simp, by first | exact rfl | trivial, HIN.out, hide fun j hj => by
          rcases Nat.lt_succ_iff_lt_or_eq.1 hj with h | h
          · exact hs.out j h
          · subst h; exact HE.out⟩
        case measure => have := HIN.out; simp; omega
    · have hin' : ¬ (i : Int) < 20 := by omega
      have HF := hide (HN.out fun j hj => hs.out j (by omega))
      clear hi hin
      go_wp2_with fail
      go_ret
      exact ⟨by rw [HF.out]; first | done | rfl, rfl⟩
theorem all_false {l : List Nat} (k : Nat) (hk : k < l.length) (h : isLet (l.getD k 0) = false) : l.all isLet = false := by
  rw [← Bool.not_eq_true, List.all_eq_true]
  intro ha
  have := ha (l.getD k 0) (by simp [List.getD, hk])
  rw [h] at this
  cases this
theorem all_true {l : List Nat} (h : ∀ j, j < l.length → isLet (l.getD j 0) = true) : l.all isLet = true := by
  rw [List.all_eq_true]
  intro x hx
  obtain ⟨j, hj, e⟩ := List.mem_iff_getElem.1 hx
  have := h j hj
  simp [List.getD, hj, e] at this
  exact this
set_option maxHeartbeats 1000000 in
set_option maxRecDepth 100000 in
theorem isUserCode_any (s : ByteArray) (w : World) (hT : Lets w) : Calls Tryd.prog 28 #[.string s] w fun e w' => e = .returned (.bool (isCode (sbytes s))) ∧ w' = w := by
  have hsl := sbytes_length s
  by_cases h8 : s.size = 8
  · have HC : Hid (isCode (sbytes s) = (sbytes s).all isLet) := hide (by unfold isCode; rw [hsl, h8]; rfl)
    have hix := str_index s
    have HAF := hide (@all_false (sbytes s))
    have HAT := hide (@all_true (sbytes s))
    have HT := hide hT
    rw [hsl, h8] at HAF HAT
    rw [h8] at hix
    have hz : (s.size : Int) = 8 := by omega
    clear hT hsl h8
    go_enter Tryd.func28, Tryd.ntmps28
    go_wp2_with fail
    go_loopw [9] (fun a9 wr => ∃ i : Nat, a9 = .int .i64 (i : Int) ∧ wr = w ∧ i ≤ 8 ∧ Hid (∀ j, j < i → isLet ((sbytes s).getD j 0) = true)) (fun a9 _ => 8 - (match a9 with | .int _ x => x.toNat | _ => 0))
    case atStart => exact ⟨0, rfl, rfl, by omega, hide fun j hj => by omega⟩
    case round =>
      obtain ⟨i, rfl, rfl, hi, hs⟩ := hrel
      by_cases hin : i < 8
      · have hin' : (i : Int) < 8 := by omega
        have hx := hix i hin
        have hwri : IntKind.i64.wrap ((i : Int) + 1) = ((i + 1 : Nat) : Int) := by rw [IntKind.wrap_i64]; omega
        have HIN := hide hin
        have HL := hide (isLetter_any ((sbytes s).getD i 0) wr HT.out)
        clear hi hin hix
        cases hb : isLet ((sbytes s).getD i 0) with
        | false =>
          have HF := hide (HAF.out i HIN.out hb)
          rw [hb] at HL
          clear hb
          go_wp2_with (go_at_call 35; refine HL.out.mono ?_; rintro e wx ⟨rfl, hwx⟩; have hwy := hwx.symm; subst hwy; clear hwx)
          go_ret
          exact ⟨by rw [HC.out, HF.out]; first | done | rfl, rfl⟩
        | true =>
          have HB := hide hb
          rw [hb] at HL
          clear hb
          go_wp2_with (go_at_call 35; refine HL.out.mono ?_; rintro e wx ⟨rfl, hwx⟩; have hwy := hwx.symm; subst hwy; clear hwx)
          go_roundw
          case rel => exact ⟨i + 1, by first | rfl | simp, by first | exact rfl | trivial, HIN.out, hide fun j hj => by
            rcases Nat.lt_succ_iff_lt_or_eq.1 hj with h | h
            · exact hs.out j h
            · subst h; exact HB.out⟩
          case measure => have := HIN.out; simp; omega
      · have hin' : ¬ (i : Int) < 8 := by omega
        have HF := hide (HAT.out fun j hj => hs.out j (by omega))
        clear hi hin
        go_wp2_with fail
        go_ret
        exact ⟨by rw [HC.out, HF.out]; first | done | rfl, rfl⟩
  · have HC : Hid (isCode (sbytes s) = false) := hide (by unfold isCode; rw [hsl]; simp [h8])
    have h8' : ((s.size : Int) == 8) = false := by simp; omega
    clear hT hsl h8
    go_enter Tryd.func28, Tryd.ntmps28
    go_wp2_with fail
    go_ret
    exact ⟨by rw [HC.out]; first | done | rfl, rfl⟩
set_option maxRecDepth 100000 in
theorem capital_any (c : Nat) (w : World) (hc : c < 256) : Calls Tryd.prog 27 #[.int .u8 (c : Int)] w fun e w' => e = .returned (.int .u8 ((capN c : Nat) : Int)) ∧ w' = w := by
  by_cases h1 : 97 ≤ c
  · have h1' : (97 : Int) ≤ (c : Int) := by omega
    by_cases h2 : c ≤ 122
    · have h2' : (c : Int) ≤ 122 := by omega
      have HC : Hid (((c : Int) - 97) + 65 = ((capN c : Nat) : Int)) := hide (by unfold capN; rw [if_pos ⟨h1, h2⟩]; omega)
      have e1 : IntKind.u8.wrap ((c : Int) - 97) = (c : Int) - 97 := by rw [IntKind.wrap_u8]; omega
      have e2 : IntKind.u8.wrap ((c : Int) - 97 + 65) = ((capN c : Nat) : Int) := by rw [HC.out, IntKind.wrap_u8]; have := HC.out; omega
      generalize capN c = d at *
      clear h1 h2 hc
      go_enter Tryd.func27, Tryd.ntmps27
      go_wp2
      go_ret
      refine ⟨?_, rfl⟩
      have := HC.out
      first | rfl | (congr 2; omega)
    · have h2' : ¬ (c : Int) ≤ 122 := by omega
      have HC : Hid (capN c = c) := hide (by unfold capN; rw [if_neg (by omega)])
      rw [HC.out]
      clear h1 h2 hc
      go_enter Tryd.func27, Tryd.ntmps27
      go_wp2
      go_ret
      exact ⟨rfl, rfl⟩
  · have h1' : ¬ (97 : Int) ≤ (c : Int) := by omega
    have HC : Hid (capN c = c) := hide (by unfold capN; rw [if_neg (by omega)])
    rw [HC.out]
    clear h1 hc
    go_enter Tryd.func27, Tryd.ntmps27
    go_wp2
    go_ret
    exact ⟨rfl, rfl⟩
end Go.Proofs.YtonnnolnkjahgabDoor
