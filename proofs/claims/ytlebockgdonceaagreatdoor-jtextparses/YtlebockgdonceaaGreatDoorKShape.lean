/- The shape of a Json: the contracts of hasText, hasItems, shapeByKind and of the sound methods. The contract of utf8.ValidString: the library's own, and that its answer is ours. The contract of shapeOf. -/
import Derived.Test.YtlebockgdonceaaGreatDoorKPEsc
import Derived.Test.YtlebockgdonceaaGreatDoorKLit
import Derived.Test.YtlebockgdonceaaGreatDoorJFull
import Derived.Test.YtlebockgdonceaaGreatDoorKDec
import Derived.Test.YtlebockgdonceaaGreatDoorShelf
import Derived.Shelf.Unicode.ValidAny
import Derived.Deep.DeepCutAuto
namespace Go.Proofs.YtlebockgdonceaaGreatDoor
open Go.RowKit

set_option maxRecDepth 100000 in
theorem hasItems_any (k : Int) (w : World) : Calls Tryz.prog 66 #[.int .i64 k] w fun e w' => e = .returned (.bool (decide (k = 5 ∨ k = 6))) ∧ w' = w := by
  go_enter Tryz.func66, Tryz.ntmps66
  by_cases h5 : k = 5
  · subst h5
    go_wp2_with fail
    go_ret
    exact ⟨rfl, rfl⟩
  · by_cases h6 : k = 6
    · subst h6
      go_wp2_with fail
      go_ret
      exact ⟨rfl, rfl⟩
    · have n5 : (k == 5) = false := by simpa using h5
      have n6 : (k == 6) = false := by simpa using h6
      have HD : Hid (decide (k = 5 ∨ k = 6) = false) := by show _ = _; simp [h5, h6]
      clear h5 h6
      go_wp2_with fail
      go_ret
      rw [HD.out]
      exact ⟨rfl, rfl⟩
set_option maxRecDepth 100000 in
theorem hasText_any (k : Int) (w : World) : Calls Tryz.prog 67 #[.int .i64 k] w fun e w' => e = .returned (.bool (decide (k = 3 ∨ k = 4))) ∧ w' = w := by
  go_enter Tryz.func67, Tryz.ntmps67
  by_cases h5 : k = 3
  · subst h5
    go_wp2_with fail
    go_ret
    exact ⟨rfl, rfl⟩
  · by_cases h6 : k = 4
    · subst h6
      go_wp2_with fail
      go_ret
      exact ⟨rfl, rfl⟩
    · have n5 : (k == 3) = false := by simpa using h5
      have n6 : (k == 4) = false := by simpa using h6
      have HD : Hid (decide (k = 3 ∨ k = 4) = false) := by show _ = _; simp [h5, h6]
      clear h5 h6
      go_wp2_with fail
      go_ret
      rw [HD.out]
      exact ⟨rfl, rfl⟩
/-- A Json's shape, as an interface value. -/
def shVal (x : JV) : Value :=
  if x.k = 0 then .iface 96 (.string ⟨#[110, 117, 108, 108]⟩)
  else if x.k = 1 then .iface 96 (.string ⟨#[102, 97, 108, 115, 101]⟩)
  else if x.k = 2 then .iface 96 (.string ⟨#[116, 114, 117, 101]⟩)
  else if x.k = 3 then .iface 98 (.string x.t)
  else if x.k = 4 then .iface 99 (.string x.t)
  else if x.k = 5 then .iface 100 (.slice x.ai x.li x.ci)
  else if x.k = 6 then .iface 104 (.agg #[.slice x.an x.ln x.cn, .slice x.ai x.li x.ci])
  else .nilIface
set_option maxHeartbeats 1000000 in
set_option maxRecDepth 100000 in
theorem shapeByKind_any (x : JV) (w : World) : Calls Tryz.prog 68 #[x.val] w fun e w' => e = .returned (shVal x) ∧ Below w.heap.size w w' := by
  obtain ⟨k, t, an, ln, cn, ai, li, ci⟩ := x
  have HB := hide (below_new w (.cells #[.int .i64 k, .string t, .slice an ln cn, .slice ai li ci] 25))
  rw [show JV.val ⟨k, t, an, ln, cn, ai, li, ci⟩ = .agg #[.int .i64 k, .string t, .slice an ln cn, .slice ai li ci] from rfl]
  by_cases h0 : k = 0
  · subst h0
    go_enter Tryz.func68, Tryz.ntmps68
    go_wp2_with fail
    go_ret
    exact ⟨rfl, HB.out⟩
  by_cases h1 : k = 1
  · subst h1
    go_enter Tryz.func68, Tryz.ntmps68
    go_wp2_with fail
    go_ret
    exact ⟨rfl, HB.out⟩
  by_cases h2 : k = 2
  · subst h2
    go_enter Tryz.func68, Tryz.ntmps68
    go_wp2_with fail
    go_ret
    exact ⟨rfl, HB.out⟩
  by_cases h3 : k = 3
  · subst h3
    go_enter Tryz.func68, Tryz.ntmps68
    go_wp2_with fail
    go_ret
    exact ⟨rfl, HB.out⟩
  by_cases h4 : k = 4
  · subst h4
    go_enter Tryz.func68, Tryz.ntmps68
    go_wp2_with fail
    go_ret
    exact ⟨rfl, HB.out⟩
  by_cases h5 : k = 5
  · subst h5
    go_enter Tryz.func68, Tryz.ntmps68
    go_wp2_with fail
    go_ret
    exact ⟨rfl, HB.out⟩
  by_cases h6 : k = 6
  · subst h6
    go_enter Tryz.func68, Tryz.ntmps68
    go_wp2_with fail
    go_ret
    exact ⟨rfl, HB.out⟩
  have n0 : (k == 0) = false := by simpa using h0
  have n1 : (k == 1) = false := by simpa using h1
  have n2 : (k == 2) = false := by simpa using h2
  have n3 : (k == 3) = false := by simpa using h3
  have n4 : (k == 4) = false := by simpa using h4
  have n5 : (k == 5) = false := by simpa using h5
  have n6 : (k == 6) = false := by simpa using h6
  have HS : Hid (shVal ⟨k, t, an, ln, cn, ai, li, ci⟩ = .nilIface) := by
    show _ = _
    unfold shVal
    simp only
    rw [if_neg h0, if_neg h1, if_neg h2, if_neg h3, if_neg h4, if_neg h5, if_neg h6]
  clear h0 h1 h2 h3 h4 h5 h6
  go_enter Tryz.func68, Tryz.ntmps68
  go_wp2_with fail
  go_ret
  rw [HS.out]
  exact ⟨rfl, HB.out⟩

/-- What ValidString must answer. -/
def ValidOk : Prop := ∀ (s : ByteArray) (w : World), s.size ≤ 9223372036854775807 → Tabs w → Calls Tryz.prog 87 #[.string s] w fun e w' => e = .returned (.bool (clean (sbytes s))) ∧ Below w.heap.size w w'
/-- Is a text a number's literal? -/
def isLit (t : By) : Bool := litDone (litRun 0 t).2 && decide ((litRun 0 t).1 = t.length)
set_option maxRecDepth 100000 in
theorem soundWord_any (s : ByteArray) (w : World) : Calls Tryz.prog 140 #[.string s] w fun e w' => e = .returned (.bool true) ∧ w' = w := by
  go_enter Tryz.func140, Tryz.ntmps140
  go_wp2_with fail
  go_ret
  exact ⟨rfl, rfl⟩
set_option maxRecDepth 100000 in
theorem soundList_any (v : Value) (w : World) : Calls Tryz.prog 143 #[v] w fun e w' => e = .returned (.bool true) ∧ w' = w := by
  go_enter Tryz.func143, Tryz.ntmps143
  go_wp2_with fail
  go_ret
  exact ⟨rfl, rfl⟩
set_option maxRecDepth 100000 in
theorem soundQuoted_any (hv : ValidOk) (s : ByteArray) (w : World) (hsz : s.size ≤ 9223372036854775807) (hT : Tabs w) : Calls Tryz.prog 142 #[.string s] w fun e w' => e = .returned (.bool (clean (sbytes s))) ∧ Below w.heap.size w w' := by
  have HV := hide (hv s w hsz hT)
  clear hv hT hsz
  go_enter Tryz.func142, Tryz.ntmps142
  go_wp2_with fail
  refine HV.out.mono ?_
  rintro e w1 ⟨rfl, hb⟩
  have HB := hide hb
  clear hb
  go_wp2_with fail
  go_ret
  exact ⟨rfl, HB.out⟩
set_option maxRecDepth 100000 in
theorem soundNumber_any (s : ByteArray) (w : World) (hs : s.size ≤ 9000000000000000000) : Calls Tryz.prog 141 #[.string s] w fun e w' => e = .returned (.bool (isLit (sbytes s))) ∧ w' = w := by
  have hl := sbytes_length s
  obtain ⟨n, hn⟩ : ∃ n, n = (litRun 0 (sbytes s)).1 := ⟨_, rfl⟩
  obtain ⟨b, hb⟩ : ∃ b, b = litDone (litRun 0 (sbytes s)).2 := ⟨_, rfl⟩
  have HLC : Hid (Calls Tryz.prog 40 #[.string s] w fun ε W' => ε = .returned (.tuple #[.int .i64 (n : Int), .bool b]) ∧ W' = w) := by
    have := literal_any s w (by omega)
    rw [litC_run] at this
    rw [hn, hb]
    exact this
  have HI : Hid (isLit (sbytes s) = (b && decide (n = s.size))) := by show _ = _; unfold isLit; rw [hb, hn, hl]
  clear hn hb hl
  go_enter Tryz.func141, Tryz.ntmps141
  go_wp2_with fail
  refine HLC.out.mono ?_
  rintro e w1 ⟨rfl, hw⟩
  rw [hw]
  clear hw w1
  cases b with
  | false =>
    go_wp2_with fail
    go_ret
    rw [HI.out]
    exact ⟨rfl, rfl⟩
  | true =>
    cases hq : decide (n = s.size) with
    | true =>
      have hq2 : ((n : Int) == (s.size : Int)) = true := by simp at hq ⊢; omega
      rw [hq] at HI
      clear hq
      go_wp2_with fail
      go_ret
      rw [HI.out]
      exact ⟨rfl, rfl⟩
    | false =>
      have hq2 : ((n : Int) == (s.size : Int)) = false := by simp at hq ⊢; omega
      rw [hq] at HI
      clear hq
      go_wp2_with fail
      go_ret
      rw [HI.out]
      exact ⟨rfl, rfl⟩
set_option maxRecDepth 100000 in
theorem soundObject_any (an ai : Option Addr) (ln cn li ci : Nat) (w : World) : Calls Tryz.prog 144 #[.agg #[.slice an ln cn, .slice ai li ci]] w fun e w' => e = .returned (.bool (decide (ln = li))) ∧ Below w.heap.size w w' := by
  have HB := hide (below_new w (.cells #[.slice an ln cn, .slice ai li ci] 104))
  cases hq : decide (ln = li) with
  | true =>
    have hq2 : ((ln : Int) == (li : Int)) = true := by simp at hq ⊢; omega
    clear hq
    go_enter Tryz.func144, Tryz.ntmps144
    go_wp2_with fail
    go_ret
    exact ⟨rfl, HB.out⟩
  | false =>
    have hq2 : ((ln : Int) == (li : Int)) = false := by simp at hq ⊢; omega
    clear hq
    go_enter Tryz.func144, Tryz.ntmps144
    go_wp2_with fail
    go_ret
    exact ⟨rfl, HB.out⟩
end Go.Proofs.YtlebockgdonceaaGreatDoor
namespace Go.Proofs.YtlebockgdonceaaGreatDoor
open Go.RowKit

theorem valid_clean : ∀ (n : Nat) (l : List UInt8), l.length ≤ n → Lib.validGoD n l = cleanN n (l.map UInt8.toNat)
  | 0, l, h => by
    have : l = [] := List.length_eq_zero_iff.1 (by omega)
    subst this
    rfl
  | n + 1, [], _ => rfl
  | n + 1, c :: l, h => by
    have hd : Lib.decodeL (c :: l) = decOf (chr ((c :: l).map UInt8.toNat)) ((c :: l).map UInt8.toNat) := by
      have := decode_chr ⟨(c :: l).toArray⟩ 0 (by show 0 < (c :: l).toArray.size; simp)
      rw [List.drop_zero] at this
      exact this
    have hR : cleanN (n + 1) ((c :: l).map UInt8.toNat) = (match chr ((c :: l).map UInt8.toNat) with
      | .ok k => cleanN n (((c :: l).map UInt8.toNat).drop k)
      | _ => false) := rfl
    have hL : Lib.validGoD (n + 1) (c :: l) = if (Lib.decodeL (c :: l)).1 = 65533 ∧ (Lib.decodeL (c :: l)).2 = 1 then false else Lib.validGoD n ((c :: l).drop (Lib.decodeL (c :: l)).2) := by
      show (if (c :: l) = [] then true else _) = _
      rw [if_neg (by simp)]
    rw [hR, hL, hd]
    cases hc : chr ((c :: l).map UInt8.toNat) with
    | ok k =>
      obtain ⟨_, _, _, hk1, _⟩ := utf_code hc
      have hk := chr_ok hc
      rw [if_neg (by
        intro e
        have e1 : codeOf k ((c :: l).map UInt8.toNat) = 65533 := e.1
        have e2 : k = 1 := e.2
        have := hk1 e2
        omega)]
      show Lib.validGoD n ((c :: l).drop k) = cleanN n (((c :: l).map UInt8.toNat).drop k)
      rw [valid_clean n _ (by rw [List.length_drop]; omega), List.map_drop]
    | error bb => cases bb with
      | false => rw [if_pos ⟨rfl, rfl⟩]
      | true => rw [if_pos ⟨rfl, rfl⟩]
theorem valid_ok : ValidOk := by
  intro s w hs hT
  have h := Any.utf8_ValidString lays196 s w hs hT
  have e : Lib.validD s.data.toList = clean (sbytes s) := by
    unfold Lib.validD clean
    rw [valid_clean _ _ (Nat.le_refl _)]
    unfold sbytes
    rw [List.length_map]
  rw [e] at h
  exact h
end Go.Proofs.YtlebockgdonceaaGreatDoor
namespace Go.Proofs.YtlebockgdonceaaGreatDoor
open Go.RowKit

def deepB (dep k : Int) : Bool := decide ((32 : Int) ≤ dep) && decide (k = 5 ∨ k = 6)
def fieldsB (x : JV) : Bool := ((!x.t.toList.isEmpty) && !decide (x.k = 3 ∨ x.k = 4)) || (decide ((0 : Int) < (x.ln : Int)) && (x.k != 6)) || (decide ((0 : Int) < (x.li : Int)) && !decide (x.k = 5 ∨ x.k = 6))
def soundB (x : JV) : Bool := if x.k = 3 then isLit (sbytes x.t) else if x.k = 4 then clean (sbytes x.t) else if x.k = 6 then decide (x.ln = x.li) else decide (x.k = 0 ∨ x.k = 1 ∨ x.k = 2 ∨ x.k = 5)
def shErr (dep : Int) (x : JV) : Nat := if deepB dep x.k = true then 46 else if fieldsB x = true then 47 else if soundB x = true then 0 else 47
/-- What shapeOf answers. -/
def ShAns (v : Value) (n : Nat) (w : World) : Ending → World → Prop := fun e w' => e = .returned (.tuple #[if n = 0 then v else .nilIface, .int .i64 (n : Int)]) ∧ Below w.heap.size w w'

set_option maxHeartbeats 2000000 in
set_option maxRecDepth 100000 in
theorem shapeOf_any (hv : ValidOk) (x : JV) (dep : Int) (w : World) (hT : Tabs w) (hs : x.t.size ≤ 9000000000000000000) :
    Calls Tryz.prog 51 #[x.val, .int .i64 dep] w fun e w' => ShAns (shVal x) (shErr dep x) w e w' := by
  have HV := hide hv
  have HS := hide hs
  obtain ⟨s0, hs0⟩ : ∃ v, v = shVal x := ⟨_, rfl⟩
  obtain ⟨n0, hn0⟩ : ∃ n, n = shErr dep x := ⟨_, rfl⟩
  have HSK := hide (fun w => shapeByKind_any x w)
  rw [← hs0, ← hn0]
  have HS0 := hide hs0
  have HN0 := hide hn0
  have HB := hide (below_new w (.cells #[.int .i64 x.k, .string x.t, .slice x.an x.ln x.cn, .slice x.ai x.li x.ci] 25))
  have HT := hide (hT.keep HB.out)
  have HJ := hide (Jb.new w x.k x.t (.slice x.an x.ln x.cn) (.slice x.ai x.li x.ci))
  clear hs0 hn0 hv hT hs
  obtain ⟨k, t, an, ln, cn, ai, li, ci⟩ := x
  rw [show JV.val ⟨k, t, an, ln, cn, ai, li, ci⟩ = .agg #[.int .i64 k, .string t, .slice an ln cn, .slice ai li ci] from rfl]
  simp only at HB HJ HS
  go_enter Tryz.func51, Tryz.ntmps51
  go_upto_region 1 with fail
  have HB2 := hide HB.out
  obtain ⟨N, hN⟩ : ∃ N, N = w.heap.size := ⟨_, rfl⟩
  rw [← hN] at HB HJ ⊢
  clear hN
  generalize w.alloc (.cells #[.int .i64 k, .string t, .slice an ln cn, .slice ai li ci] 25) = w1 at *
  have j0 := HJ.out.c0
  have j1 := HJ.out.c1
  have j2 := HJ.out.c2
  have j3 := HJ.out.c3
  go_cut [13] (fun c wx => c = .bool (deepB dep k) ∧ wx = w1)
  case first =>
    cases hd : decide ((32 : Int) ≤ dep) with
    | false =>
      go_wp2_with fail
      go_meet
      case rel => exact ⟨by unfold deepB; rw [hd]; simp, rfl⟩
    | true =>
      go_wp2_with fail
      refine (hasItems_any k w1).mono ?_
      rintro e wx ⟨rfl, hw⟩
      rw [hw]
      clear hw wx
      go_wp2_with fail
      go_meet
      case rel => exact ⟨by unfold deepB; rw [hd]; simp, rfl⟩
  case rest =>
    obtain ⟨rfl, hw⟩ := hcut
    have hw' := hw.symm
    subst hw'
    cases hdb : deepB dep k with
    | true =>
      have HN : Hid (n0 = 46) := by show _ = _; rw [HN0.out]; unfold shErr; rw [if_pos hdb]
      clear hdb
      go_wp2_with fail
      go_ret2
      rw [HN.out]
      exact ⟨rfl, HB2.out⟩
    | false =>
      have HN1 : Hid (n0 = if fieldsB ⟨k, t, an, ln, cn, ai, li, ci⟩ = true then 47 else if soundB ⟨k, t, an, ln, cn, ai, li, ci⟩ = true then 0 else 47) := by show _ = _; rw [HN0.out]; unfold shErr; rw [if_neg (by rw [hdb]; decide)]
      clear hdb HN0
      go_upto_region 3 with fail
      go_cut [45] (fun c wx => c = .bool (fieldsB ⟨k, t, an, ln, cn, ai, li, ci⟩) ∧ wx = w1)
      case first =>
        cases h1 : t.toList.isEmpty with
        | true =>
          by_cases h3 : (0 : Int) < (ln : Int)
          · by_cases h4 : k = 6
            · subst h4
              by_cases h5 : (0 : Int) < (li : Int)
              · go_wp2_with fail
                refine (hasItems_any 6 _).mono ?_
                rintro e wx ⟨rfl, hw⟩
                rw [hw]
                clear hw wx
                rw [show decide ((6 : Int) = 5 ∨ (6 : Int) = 6) = true from rfl]
                go_wp2_with fail
                go_meet
                case rel => exact ⟨by congr 1; simp only [fieldsB, h1, h3, h5]; simp <;> omega, rfl⟩
              · have z5 : decide ((0 : Int) < (li : Int)) = false := by simpa using h5
                go_wp2_with fail
                go_meet
                case rel => exact ⟨by congr 1; simp only [fieldsB, h1, h3]; simp <;> omega, rfl⟩
            · have z4 : (k != 6) = true := by simpa using h4
              go_wp2_with fail
              go_meet
              case rel => exact ⟨by congr 1; simp only [fieldsB, h1, h3, z4]; simp <;> omega, rfl⟩
          · have z3 : decide ((0 : Int) < (ln : Int)) = false := by simpa using h3
            by_cases h5 : (0 : Int) < (li : Int)
            · go_wp2_with fail
              refine (hasItems_any k _).mono ?_
              rintro e wx ⟨rfl, hw⟩
              rw [hw]
              clear hw wx
              cases h6 : decide (k = 5 ∨ k = 6) with
              | false =>
                go_wp2_with fail
                go_meet
                case rel => exact ⟨by congr 1; simp only [fieldsB, h1, h5, h6]; simp <;> omega, rfl⟩
              | true =>
                go_wp2_with fail
                go_meet
                case rel => exact ⟨by congr 1; simp only [fieldsB, h1, h5, h6]; simp <;> omega, rfl⟩
            · have z5 : decide ((0 : Int) < (li : Int)) = false := by simpa using h5
              go_wp2_with fail
              go_meet
              case rel => exact ⟨by congr 1; simp only [fieldsB, h1]; simp <;> omega, rfl⟩
        | false =>
          go_wp2_with fail
          refine (hasText_any k _).mono ?_
          rintro e wx ⟨rfl, hw⟩
          rw [hw]
          clear hw wx
          cases h2 : decide (k = 3 ∨ k = 4) with
          | false =>
            go_wp2_with fail
            go_meet
            case rel => exact ⟨by congr 1; simp only [fieldsB, h1, h2]; simp <;> omega, rfl⟩
          | true =>
            by_cases h3 : (0 : Int) < (ln : Int)
            · by_cases h4 : k = 6
              · subst h4
                exact absurd h2 (by decide)
              · have z4 : (k != 6) = true := by simpa using h4
                go_wp2_with fail
                go_meet
                case rel => exact ⟨by congr 1; simp only [fieldsB, h1, h2, h3, z4]; simp <;> omega, rfl⟩
            · have z3 : decide ((0 : Int) < (ln : Int)) = false := by simpa using h3
              by_cases h5 : (0 : Int) < (li : Int)
              · go_wp2_with fail
                refine (hasItems_any k _).mono ?_
                rintro e wx ⟨rfl, hw⟩
                rw [hw]
                clear hw wx
                cases h6 : decide (k = 5 ∨ k = 6) with
                | false =>
                  go_wp2_with fail
                  go_meet
                  case rel => exact ⟨by congr 1; simp only [fieldsB, h1, h2, h5, h6]; simp <;> omega, rfl⟩
                | true =>
                  go_wp2_with fail
                  go_meet
                  case rel => exact ⟨by congr 1; simp only [fieldsB, h1, h2, h5, h6]; simp <;> omega, rfl⟩
              · have z5 : decide ((0 : Int) < (li : Int)) = false := by simpa using h5
                go_wp2_with fail
                go_meet
                case rel => exact ⟨by congr 1; simp only [fieldsB, h1, h2]; simp <;> omega, rfl⟩
      case rest =>
        obtain ⟨rfl, hw⟩ := hcut
        have hw' := hw.symm
        subst hw'
        cases hfb : fieldsB ⟨k, t, an, ln, cn, ai, li, ci⟩ with
        | true =>
          have HN : Hid (n0 = 47) := by show _ = _; rw [HN1.out, if_pos hfb]
          clear hfb
          go_wp2_with fail
          go_ret2
          rw [HN.out]
          exact ⟨rfl, HB2.out⟩
        | false =>
          have HN2 : Hid (n0 = if soundB ⟨k, t, an, ln, cn, ai, li, ci⟩ = true then 0 else 47) := by show _ = _; rw [HN1.out, if_neg (by rw [hfb]; decide)]
          clear hfb HN1
          go_wp2_with fail
          refine (HSK.out _).mono ?_
          rintro e w2 ⟨rfl, hb2⟩
          have HB3 := hide (HB2.out.trans (hb2.mono HB.out.size))
          have HT3 := hide (HT.out.keep hb2)
          clear hb2
          by_cases h0 : k = 0
          · subst h0
            have HE : Hid (s0 = .iface 96 (.string ⟨#[110, 117, 108, 108]⟩)) := HS0.out
            rw [show shVal ⟨0, t, an, ln, cn, ai, li, ci⟩ = .iface 96 (.string ⟨#[110, 117, 108, 108]⟩) from rfl]
            have HN : Hid (n0 = 0) := HN2.out.trans (if_pos rfl)
            go_wp2_with fail
            refine (soundWord_any _ _).mono ?_
            rintro e wx ⟨rfl, hw⟩
            rw [hw]
            clear hw wx
            go_wp2_with fail
            go_ret2
            rw [HN.out, HE.out]
            exact ⟨rfl, HB3.out⟩
          by_cases h1 : k = 1
          · subst h1
            have HE : Hid (s0 = .iface 96 (.string ⟨#[102, 97, 108, 115, 101]⟩)) := HS0.out
            rw [show shVal ⟨1, t, an, ln, cn, ai, li, ci⟩ = .iface 96 (.string ⟨#[102, 97, 108, 115, 101]⟩) from rfl]
            have HN : Hid (n0 = 0) := HN2.out.trans (if_pos rfl)
            go_wp2_with fail
            refine (soundWord_any _ _).mono ?_
            rintro e wx ⟨rfl, hw⟩
            rw [hw]
            clear hw wx
            go_wp2_with fail
            go_ret2
            rw [HN.out, HE.out]
            exact ⟨rfl, HB3.out⟩
          by_cases h2 : k = 2
          · subst h2
            have HE : Hid (s0 = .iface 96 (.string ⟨#[116, 114, 117, 101]⟩)) := HS0.out
            rw [show shVal ⟨2, t, an, ln, cn, ai, li, ci⟩ = .iface 96 (.string ⟨#[116, 114, 117, 101]⟩) from rfl]
            have HN : Hid (n0 = 0) := HN2.out.trans (if_pos rfl)
            go_wp2_with fail
            refine (soundWord_any _ _).mono ?_
            rintro e wx ⟨rfl, hw⟩
            rw [hw]
            clear hw wx
            go_wp2_with fail
            go_ret2
            rw [HN.out, HE.out]
            exact ⟨rfl, HB3.out⟩
          by_cases h3 : k = 3
          · subst h3
            have HE : Hid (s0 = .iface 98 (.string t)) := HS0.out
            rw [show shVal ⟨3, t, an, ln, cn, ai, li, ci⟩ = .iface 98 (.string t) from rfl]
            go_wp2_with fail
            refine (soundNumber_any _ _ HS.out).mono ?_
            rintro e wx ⟨rfl, hw⟩
            rw [hw]
            clear hw wx
            have HB4 := hide HB3.out
            cases hq : isLit (sbytes t) with
            | true =>
              have HN : Hid (n0 = 0) := HN2.out.trans (if_pos hq)
              go_wp2_with fail
              go_ret2
              rw [HN.out, HE.out]
              exact ⟨rfl, HB4.out⟩
            | false =>
              have HN : Hid (n0 = 47) := HN2.out.trans (if_neg (fun e0 => by have e1 : isLit (sbytes t) = true := e0; rw [hq] at e1; cases e1))
              go_wp2_with fail
              go_ret2
              rw [HN.out]
              exact ⟨rfl, HB4.out⟩
          by_cases h4 : k = 4
          · subst h4
            have HE : Hid (s0 = .iface 99 (.string t)) := HS0.out
            rw [show shVal ⟨4, t, an, ln, cn, ai, li, ci⟩ = .iface 99 (.string t) from rfl]
            go_wp2_with fail
            refine (soundQuoted_any HV.out _ _ (by have := HS.out; omega) HT3.out).mono ?_
            rintro e wx ⟨rfl, hw⟩
            have HB4 := hide (HB3.out.trans (hw.mono HB3.out.size))
            clear hw
            cases hq : clean (sbytes t) with
            | true =>
              have HN : Hid (n0 = 0) := HN2.out.trans (if_pos hq)
              go_wp2_with fail
              go_ret2
              rw [HN.out, HE.out]
              exact ⟨rfl, HB4.out⟩
            | false =>
              have HN : Hid (n0 = 47) := HN2.out.trans (if_neg (fun e0 => by have e1 : clean (sbytes t) = true := e0; rw [hq] at e1; cases e1))
              go_wp2_with fail
              go_ret2
              rw [HN.out]
              exact ⟨rfl, HB4.out⟩
          by_cases h5 : k = 5
          · subst h5
            have HE : Hid (s0 = .iface 100 (.slice ai li ci)) := HS0.out
            rw [show shVal ⟨5, t, an, ln, cn, ai, li, ci⟩ = .iface 100 (.slice ai li ci) from rfl]
            have HN : Hid (n0 = 0) := HN2.out.trans (if_pos rfl)
            go_wp2_with fail
            refine (soundList_any _ _).mono ?_
            rintro e wx ⟨rfl, hw⟩
            rw [hw]
            clear hw wx
            go_wp2_with fail
            go_ret2
            rw [HN.out, HE.out]
            exact ⟨rfl, HB3.out⟩
          by_cases h6 : k = 6
          · subst h6
            have HE : Hid (s0 = .iface 104 (.agg #[.slice an ln cn, .slice ai li ci])) := HS0.out
            rw [show shVal ⟨6, t, an, ln, cn, ai, li, ci⟩ = .iface 104 (.agg #[.slice an ln cn, .slice ai li ci]) from rfl]
            go_wp2_with fail
            refine (soundObject_any an ai ln cn li ci _).mono ?_
            rintro e wx ⟨rfl, hw⟩
            have HB4 := hide (HB3.out.trans (hw.mono HB3.out.size))
            clear hw
            cases hq : decide (ln = li) with
            | true =>
              have HN : Hid (n0 = 0) := HN2.out.trans (if_pos hq)
              go_wp2_with fail
              go_ret2
              rw [HN.out, HE.out]
              exact ⟨rfl, HB4.out⟩
            | false =>
              have HN : Hid (n0 = 47) := HN2.out.trans (if_neg (fun e0 => by have e1 : decide (ln = li) = true := e0; rw [hq] at e1; cases e1))
              go_wp2_with fail
              go_ret2
              rw [HN.out]
              exact ⟨rfl, HB4.out⟩
          have HE : Hid (shVal ⟨k, t, an, ln, cn, ai, li, ci⟩ = .nilIface) := by
            show _ = _
            unfold shVal
            simp only
            rw [if_neg h0, if_neg h1, if_neg h2, if_neg h3, if_neg h4, if_neg h5, if_neg h6]
          have HN : Hid (n0 = 47) := by
            show _ = _
            rw [HN2.out]
            unfold soundB
            simp only
            rw [if_neg h3, if_neg h4, if_neg h6, if_neg (by simp; omega)]
          clear h0 h1 h2 h3 h4 h5 h6
          rw [HE.out]
          go_wp2_with fail
          go_ret2
          rw [HN.out]
          exact ⟨rfl, HB3.out⟩
end Go.Proofs.YtlebockgdonceaaGreatDoor
