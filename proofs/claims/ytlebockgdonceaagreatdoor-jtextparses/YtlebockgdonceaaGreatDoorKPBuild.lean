/- The writer: a Builder that lies in a struct; the contracts of its methods. The contract of the writer's put, of texts of any length. Numbers of five digits to the base 16, as strconv writes them; the contract of unit. -/
import Derived.Test.YtlebockgdonceaaGreatDoorKBuild
import Derived.Test.YtlebockgdonceaaGreatDoorKBase
import Derived.Test.YtlebockgdonceaaGreatDoorKWord
import Derived.Lib.AppendStr
namespace Go.Proofs.YtlebockgdonceaaGreatDoor
open Go.RowKit

/-- What a write of the writer in block b leaves as it was. -/
structure WK (b : Nat) (w w' : World) : Prop where
  os : w'.os = w.os
  tape : w'.tape = w.tape
  output : w'.output = w.output
  size : w.heap.size ≤ w'.heap.size
  low : ∀ k, k < b → w'.heap[k]? = w.heap[k]?
  oth : Lib.OthersKept 5 (some b) w w'
theorem WK.refl (b : Nat) (w : World) : WK b w w := ⟨rfl, rfl, rfl, Nat.le_refl _, fun _ _ => rfl, Lib.OthersKept.refl _ _ _⟩
theorem WK.trans {b : Nat} {u v w : World} (h : WK b u v) (k : WK b v w) : WK b u w := ⟨k.os.trans h.os, k.tape.trans h.tape, k.output.trans h.output, Nat.le_trans h.size k.size, fun i hi => (k.low i hi).trans (h.low i hi), h.oth.trans k.oth⟩
theorem WK.alloc {b : Nat} {u w : World} (h : WK b u w) (hb : b < u.heap.size) (o : Obj) : WK b u (w.alloc o) :=
  ⟨h.os, h.tape, h.output, by have := h.size; simp; omega, fun i hi => by
    have := h.size
    rw [Below.heap_alloc w o i (by omega)]
    exact h.low i hi, h.oth.alloc o⟩
theorem WK.drewN {b : Nat} {u w : World} (h : WK b u w) (n : Nat) : WK b u (w.drewN n) := ⟨h.os, h.tape, h.output, h.size, h.low, h.oth⟩
theorem WK.bl {b k : Nat} {w w' : World} {xs : List Value} {t : TypeId} (h : WK b w w') (hx : Bl w k xs t) (hk : k ≠ b) (ht : t ≠ 5) : Bl w' k xs t :=
  h.oth k _ hx (fun e => hk (by injection e)) (fun c fz e => ht (by injection e))
/-- Block b is a writer that has written so much. -/
structure WB (b : Nat) (so : Bool) (xs : By) (w : World) : Prop where
  ok : ∃ p v, (p = .pointer none ∨ p = .pointer (some ⟨b, 0, none⟩)) ∧ Bl w b [p, v, .bool so] 72 ∧ Own w (b + 1) v xs
theorem own_slice' {w : World} {B : Nat} {v : Value} {xs : By} (h : Own w B v xs) : ∃ ao cap, v = .slice ao xs.length cap := by
  rcases h.2 with ⟨hv, h0⟩ | ⟨g, cap, cur, hv, _⟩
  · exact ⟨none, 0, by rw [hv, h0]⟩
  · exact ⟨_, _, hv⟩
theorem own_kind {w : World} {B : Nat} {v : Value} {xs : By} (h : Own w B v xs) : ∀ g, v.ownBlock = some g → ∃ c fz, w.heap[g]? = some (.cells c 5 fz) := by
  intro g hg
  rcases h.2 with ⟨hv, _⟩ | ⟨g', cap, cur, hv, _, hh, _⟩
  · rw [hv] at hg; cases hg
  · rw [hv] at hg
    injection hg with hg
    subst hg
    exact ⟨_, _, hh⟩
theorem strCells_sb (s : ByteArray) : Lib.strCells s = (sbytes s).map bv := by
  simp [Lib.strCells, sbytes, bv]
theorem own_base {w : World} {B : Nat} {v : Value} {xs : By} (h : Own w B v xs) {g : Nat} (hg : v.ownBlock = some g) : B ≤ g ∧ g < w.heap.size := World.ownsRow.lt h g hg
theorem writer_lies : liesAt Tryz.prog Tryz.prog.depth 72 (3 / Tryz.prog.cellsOf 72) 0 70 1 = true := by kernel_rfl
theorem bl_shape {w : World} {b : Nat} {xs : List Value} {t : TypeId} (h : Bl w b xs t) : w.shape? b = some (t, xs.length) := by
  unfold Bl at h
  simp [World.shape?, h]

set_option maxHeartbeats 1000000 in
set_option maxRecDepth 100000 in
theorem copyW_fresh (b : Nat) (w : World) (h0 : w.cell? ⟨b, 0, none⟩ = some (.pointer none)) (hsh : w.shape? b = some (72, 3)) (hfz : w.frozen? ⟨b, 0, none⟩ = false) :
    Calls Tryz.prog 63 #[.pointer (some ⟨b, 0, none⟩)] w fun e w' => e = .returned (.tuple #[]) ∧ w' = w.setCell ⟨b, 0, none⟩ (.pointer (some ⟨b, 0, none⟩)) := by
  obtain ⟨j, hj, hjs⟩ := Option.map_eq_some_iff.1 Builder_Extra_169.sizeBuilder
  go_enter Tryz.func63, Tryz.ntmps63
  go_wp2
  rw [conv_raw w ⟨b, 0, none⟩ Tryz.underlying68 Tryz.underlying127 hj (by rw [hjs]; decide) hsh (Nat.zero_lt_succ 2)]
  simp only [Result.andThen]
  rw [Oper.upon_value]
  go_wp2
  rw [run_callFunc_extern Tryz.func80 (by kernel_rfl) (by kernel_rfl) (by kernel_rfl) (e := Extern.AbiNoEscape.same) (by kernel_rfl)]
  rw [Lib.run_noEscape]
  simp only [Result.andThen]
  rw [Oper.upon_value]
  go_wp2
  rw [conv_typed w ⟨b, 0, none⟩ Tryz.underlying127 Tryz.underlying68 hj hsh writer_lies]
  simp only [Result.andThen]
  rw [Oper.upon_value]
  go_wp2
  go_end0
  exact ⟨rfl, rfl⟩
theorem copyW_any (b : Nat) (so : Bool) (xs : By) (w : World) (h : WB b so xs w) :
    Calls Tryz.prog 63 #[.pointer (some ⟨b, 0, none⟩)] w fun e w' => e = .returned (.tuple #[]) ∧ WK b w w' ∧ w'.heap.size = w.heap.size ∧ ∃ v, Bl w' b [.pointer (some ⟨b, 0, none⟩), v, .bool so] 72 ∧ Own w' (b + 1) v xs := by
  obtain ⟨p, v, hp, hb, ho⟩ := h.ok
  rcases hp with rfl | rfl
  · refine (copyW_fresh b w (hb.cell 0) (bl_shape hb) (hb.frozen 0)).mono ?_
    rintro e w' ⟨rfl, rfl⟩
    refine ⟨rfl, ⟨rfl, rfl, rfl, by simp [World.setCell], fun k hk => heap_setCell_other w ⟨b, 0, none⟩ k _ (by show k ≠ b; omega), (Lib.OthersKept.refl _ _ w).setCell ⟨b, 0, none⟩ rfl _⟩, by simp [World.setCell], v, Bl.set hb 0 _, ?_⟩
    exact ownsRow_stay ho (fun g hg => heap_setCell_other w ⟨b, 0, none⟩ g _ (by show g ≠ b; have := (own_base ho hg).1; omega))
  · refine (copyCheck_used b w (hb.cell 0)).mono ?_
    rintro e w' ⟨rfl, rfl⟩
    exact ⟨rfl, WK.refl _ _, rfl, v, hb, ho⟩

set_option maxHeartbeats 2000000 in
set_option maxRecDepth 100000 in
theorem writeW_any (b : Nat) (so : Bool) (xs : By) (s : ByteArray) (w : World) (h : WB b so xs w) (hlen : xs.length + s.size ≤ 1000000) (hBw : b < w.heap.size) :
    Calls Tryz.prog 70 #[.pointer (some ⟨b, 0, none⟩), .string s] w fun e w' => e = .returned (.tuple #[.int .i64 s.size, .nilIface]) ∧ WB b so (xs ++ sbytes s) w' ∧ WK b w w' := by
  obtain ⟨i0, hi, hz0, hz1, hz2⟩ := infoU8
  go_enter Tryz.func70, Tryz.ntmps70
  go_wp2_with fail
  refine (copyW_any b so xs _ h).mono ?_
  rintro e w1 ⟨rfl, hk1, hz, v, hbk, hown⟩
  have c1 : w1.cell? ⟨b, 1, none⟩ = some v := hbk.cell 1
  have HB := hide hbk
  have HO := hide hown
  have HK1 := hide hk1
  obtain ⟨ao, cap, rfl⟩ := own_slice' hown
  clear hk1 hown hbk
  go_wp2_with (first | (at_builtin; refine Lib.wpList_append_own_string _ rfl _ _ 62 9 rfl (b + 1) 5 i0 undSl undSt hi hz0 hz1 hz2 _ xs.length (xs.map bv) rfl HO.out s rfl ?c3 ?c4 ?c5 ?_) | fail)
  case c3 => unfold maxLen; omega
  case c4 => omega
  case c5 => omega
  intro v' w2 hown' hgrow _
  obtain ⟨ao', cap', rfl⟩ := ownsRow_slice hown'
  have hb2 : Bl w2 b [.pointer (some ⟨b, 0, none⟩), .slice ao xs.length cap, .bool so] 72 := (hgrow.block b (by omega) (fun e => by have := (own_base HO.out e.symm).1; omega)).trans HB.out
  have d1 : w2.cell? ⟨b, 1, none⟩ = some (.slice ao xs.length cap) := hb2.cell 1
  have f1 : w2.frozen? ⟨b, 1, none⟩ = false := hb2.frozen 1
  have HB2 := hide hb2
  have HGR := hide hgrow
  have HOW := hide hown'
  clear hb2 hgrow hown'
  go_wp2_with fail
  go_ret2
  refine ⟨rfl, ⟨_, _, .inr rfl, Bl.set HB2.out 1 _, ?_⟩, ?_⟩
  · have hl := sbytes_length s
    unfold Own
    rw [List.length_append, hl, List.map_append, ← strCells_sb]
    exact ownsRow_stay HOW.out (fun g hg => heap_setCell_other w2 ⟨b, 1, none⟩ g _ (by show g ≠ b; have := (ownsRow_own HOW.out hg).1; omega))
  · refine HK1.out.trans ⟨HGR.out.os, HGR.out.tape, HGR.out.output, by have := HGR.out.size; simp [World.setCell]; omega, fun k hk => ?_, ?_⟩
    · rw [heap_setCell_other w2 ⟨b, 1, none⟩ k _ (by show k ≠ b; omega)]
      exact HGR.out.block k (by omega) (fun e => by have := (own_base HO.out e.symm).1; omega)
    · exact ((Lib.OthersKept.refl _ _ w1).grown HGR.out (own_kind HO.out)).setCell ⟨b, 1, none⟩ rfl _

set_option maxHeartbeats 1000000 in
set_option maxRecDepth 100000 in
theorem lenW_any (b : Nat) (so : Bool) (xs : By) (w : World) (h : WB b so xs w) :
    Calls Tryz.prog 69 #[.pointer (some ⟨b, 0, none⟩)] w fun e w' => e = .returned (.int .i64 (xs.length : Int)) ∧ w' = w := by
  obtain ⟨p, v, hp, hb, ho⟩ := h.ok
  obtain ⟨ao, cap, rfl⟩ := own_slice' ho
  have c1 : w.cell? ⟨b, 1, none⟩ = some (.slice ao xs.length cap) := hb.cell 1
  clear hp hb ho h
  go_enter Tryz.func69, Tryz.ntmps69
  go_wp2_with fail
  go_ret
  exact ⟨rfl, rfl⟩

/-- What a writer's call comes to: the text so far, or a fault. -/
abbrev Pr := Except Nat By
def Pr.then (r : Pr) (f : By → Pr) : Pr := match r with | .ok xs => f xs | .error e => .error e
def putAt (xs t : By) : Pr := if xs.length + t.length ≤ 16384 then .ok (xs ++ t) else .error 1
/-- Its answer. -/
def Wr (b : Nat) (so : Bool) (w : World) : Pr → Ending → World → Prop
  | .ok xs, ε, w' => ε = .returned (.int .i64 0) ∧ WB b so xs w' ∧ WK b w w' ∧ xs.length ≤ 16384
  | .error e, ε, w' => ε = .returned (.int .i64 (e : Int)) ∧ WK b w w' ∧ e ≠ 0
theorem WB.lt {b : Nat} {so : Bool} {xs : By} {w : World} (h : WB b so xs w) : b < w.heap.size := by obtain ⟨_, _, _, hb, _⟩ := h.ok; exact Bl.lt hb
set_option maxHeartbeats 1000000 in
set_option maxRecDepth 100000 in
theorem put_any (b : Nat) (so : Bool) (xs : By) (s : ByteArray) (w : World) (h : WB b so xs w) (hx : xs.length ≤ 16384) (hs : s.size ≤ 900000) :
    Calls Tryz.prog 52 #[.pointer (some ⟨b, 0, none⟩), .string s] w fun e w' => Wr b so w (putAt xs (sbytes s)) e w' := by
  have H := hide h
  have hlt := h.lt
  have HL := hide (sbytes_length s)
  clear h
  by_cases hl : xs.length + s.size ≤ 16384
  · have HP : Hid (putAt xs (sbytes s) = .ok (xs ++ sbytes s)) := by show _ = _; unfold putAt; rw [if_pos (by rw [HL.out]; exact hl)]
    have hle : ¬ ((16384 : Int) < (xs.length : Int) + (s.size : Int)) := by omega
    go_enter Tryz.func52, Tryz.ntmps52
    go_wp2_with fail
    refine (lenW_any b so xs w H.out).mono ?_
    rintro e w1 ⟨rfl, hw⟩
    rw [hw]
    clear hw w1
    go_wp2_with fail
    refine (writeW_any b so xs s w H.out (by omega) hlt).mono ?_
    rintro e w2 ⟨rfl, h2, hk⟩
    have H2 := hide h2
    have HK := hide hk
    clear h2 hk
    go_wp2_with fail
    go_ret
    rw [HP.out]
    exact ⟨rfl, H2.out, HK.out, by rw [List.length_append, HL.out]; exact hl⟩
  · have HP : Hid (putAt xs (sbytes s) = .error 1) := by show _ = _; unfold putAt; rw [if_neg (by rw [HL.out]; exact hl)]
    have hgt : (16384 : Int) < (xs.length : Int) + (s.size : Int) := by omega
    go_enter Tryz.func52, Tryz.ntmps52
    go_wp2_with fail
    refine (lenW_any b so xs w H.out).mono ?_
    rintro e w1 ⟨rfl, hw⟩
    rw [hw]
    clear hw w1
    go_wp2_with fail
    go_ret
    rw [HP.out]
    exact ⟨rfl, WK.refl _ _, by decide⟩
end Go.Proofs.YtlebockgdonceaaGreatDoor
namespace Go.Proofs.YtlebockgdonceaaGreatDoor
open Go.RowKit

set_option maxHeartbeats 1000000 in
set_option maxRecDepth 100000 in
theorem put_big (b : Nat) (so : Bool) (xs : By) (s : ByteArray) (w : World) (h : WB b so xs w) (hx : xs.length ≤ 16384) (hs : s.size ≤ 4611686018427387904) :
    Calls Tryz.prog 52 #[.pointer (some ⟨b, 0, none⟩), .string s] w fun e w' => Wr b so w (putAt xs (sbytes s)) e w' := by
  by_cases h9 : s.size ≤ 900000
  · exact put_any b so xs s w h hx h9
  · have HP : Hid (putAt xs (sbytes s) = .error 1) := by show _ = _; unfold putAt; rw [if_neg (by rw [sbytes_length]; omega)]
    have hgt : (16384 : Int) < (xs.length : Int) + (s.size : Int) := by omega
    have H := hide h
    clear h
    go_enter Tryz.func52, Tryz.ntmps52
    go_wp2_with fail
    refine (lenW_any b so xs w H.out).mono ?_
    rintro e w1 ⟨rfl, hw⟩
    rw [hw]
    clear hw w1
    go_wp2_with fail
    go_ret
    rw [HP.out]
    exact ⟨rfl, WK.refl _ _, by decide⟩
end Go.Proofs.YtlebockgdonceaaGreatDoor
namespace Go.Proofs.YtlebockgdonceaaGreatDoor
open Go.RowKit

/-- The one cell of the table of trailing zeros that is read. -/
def ZT (w : World) : Prop := w.cell? ⟨5, 15, none⟩ = some (.int .u8 4)
def hx (n : Nat) : Nat := if n < 10 then 48 + n else 87 + n
theorem hx_lt (n : Nat) (h : n < 16) : hx n < 256 := by unfold hx; split <;> omega
theorem dig_index : ∀ (n : Nat), n < 16 → ∀ (i : Int), i = (n : Int) → ∀ w : World, (Instr.index 9 (.string { data := #[48, 49, 50, 51, 52, 53, 54, 55, 56, 57, 97, 98, 99, 100, 101, 102, 103, 104, 105, 106, 107, 108, 109, 110, 111, 112, 113, 114, 115, 116, 117, 118, 119, 120, 121, 122] }) (.int .u64 i)).run Tryz.prog w = .ok (.int .u8 (hx n : Int)) w := by
  intro n hn i hi w
  subst hi
  rw [run_index_string w 9 _ .u64 (n : Int) Tryz.underlying9, dif_pos ⟨by omega, by show (n : Int) < 36; omega⟩]
  have : n = 0 ∨ n = 1 ∨ n = 2 ∨ n = 3 ∨ n = 4 ∨ n = 5 ∨ n = 6 ∨ n = 7 ∨ n = 8 ∨ n = 9 ∨ n = 10 ∨ n = 11 ∨ n = 12 ∨ n = 13 ∨ n = 14 ∨ n = 15 := by omega
  rcases this with rfl | rfl | rfl | rfl | rfl | rfl | rfl | rfl | rfl | rfl | rfl | rfl | rfl | rfl | rfl | rfl <;> rfl

set_option maxHeartbeats 1000000 in
set_option maxRecDepth 100000 in
theorem power_any (w : World) : Calls Tryz.prog 119 #[.int .i64 16] w fun e w' => e = .returned (.bool true) ∧ w' = w := by
  go_enter Tryz.func119, Tryz.ntmps119
  go_wp2_with fail
  go_ret
  exact ⟨rfl, rfl⟩
set_option maxHeartbeats 1000000 in
set_option maxRecDepth 100000 in
theorem tz64_any (w : World) (h : ZT w) : Calls Tryz.prog 123 #[.int .u64 16] w fun e w' => e = .returned (.int .i64 4) ∧ w' = w := by
  unfold ZT at h
  have e1 : bits BinOp.and IntKind.u64 16 (IntKind.u64.wrap (-16)) = 16 := by decide
  have e2 : IntKind.u64.wrap (16 * 285870213051353865) = 4573923408821661840 := by decide
  have e3 : (4573923408821661840 : Int) / 288230376151711744 = 15 := by decide
  go_enter Tryz.func123, Tryz.ntmps123
  go_wp2_with fail
  go_ret
  exact ⟨rfl, rfl⟩
set_option maxHeartbeats 1000000 in
set_option maxRecDepth 100000 in
theorem tz_any (w : World) (h : ZT w) : Calls Tryz.prog 120 #[.int .u64 16] w fun e w' => e = .returned (.int .i64 4) ∧ w' = w := by
  have H := hide h
  clear h
  go_enter Tryz.func120, Tryz.ntmps120
  go_wp2_with fail
  refine (tz64_any w H.out).mono ?_
  rintro e w1 ⟨rfl, hw⟩
  rw [hw]
  clear hw w1
  go_wp2_with fail
  go_ret
  exact ⟨rfl, rfl⟩
theorem band15 (v : Nat) (hv : v < 18446744073709551616) : bits BinOp.and IntKind.u64 (v : Int) 15 = ((v % 16 : Nat) : Int) := by
  have h := u64_and_nat v 15 hv (by decide)
  rw [show v &&& 15 = v % 16 from Nat.and_two_pow_sub_one_eq_mod v 4] at h
  exact h
/-- The array of digits: the last ones are written. -/
structure AD (N : Nat) (W : World) (k : Nat) (l : By) : Prop where
  ok : ∃ cs : List Value, k + l.length = 65 ∧ cs.length = 65 ∧ Bl W N cs 162 ∧ (∀ i, i < k → cs[i]? = some (.int .u8 0)) ∧ cs.drop k = l.map bv
theorem AD.step {N : Nat} {W : World} {k : Nat} {l : By} (h : AD N W (k + 1) l) (x : Nat) : AD N (W.setCell ⟨N, k, none⟩ (.int .u8 (x : Int))) k (x :: l) := by
  obtain ⟨cs, h1, h2, h3, h4, h5⟩ := h.ok
  refine ⟨cs.set k (.int .u8 (x : Int)), by simp; omega, by simp [h2], h3.set k _, fun i hi => by rw [List.getElem?_set_ne (by omega)]; exact h4 i (by omega), ?_⟩
  rw [List.drop_eq_getElem_cons (by simp; omega), List.getElem_set_self, List.drop_set_of_lt (by omega), h5]
  rfl
theorem AD.cell {N : Nat} {W : World} {k : Nat} {l : By} (h : AD N W (k + 1) l) : W.cell? ⟨N, k, none⟩ = some (.int .u8 0) := by
  obtain ⟨cs, h1, h2, h3, h4, h5⟩ := h.ok
  rw [h3.cell]
  exact h4 k (by omega)
theorem AD.fz {N : Nat} {W : World} {k : Nat} {l : By} (h : AD N W k l) (i : Nat) : W.frozen? ⟨N, i, none⟩ = false := by
  obtain ⟨cs, h1, h2, h3, h4, h5⟩ := h.ok
  exact h3.frozen i
theorem AD.row {N : Nat} {W : World} {k : Nat} {l : By} (h : AD N W k l) : Row W (some ⟨N, k, none⟩) l := by
  obtain ⟨cs, h1, h2, h3, h4, h5⟩ := h.ok
  refine .inr ⟨N, k, rfl, fun i hi => ?_⟩
  rw [h3.cell, show cs[k + i]? = (cs.drop k)[i]? by rw [List.getElem?_drop], h5, List.getElem?_map, List.getElem?_eq_getElem hi]
  simp [List.getD, hi, bv]
theorem AD.new (w : World) : AD w.heap.size (w.alloc (.cells Tryz.zeroCells162 162)) 65 [] := by
  refine ⟨Tryz.zeroCells162.toList, rfl, rfl, Bl.new w _ _, fun i hi => ?_, rfl⟩
  have : ∀ i : Fin 65, Tryz.zeroCells162.toList[i.1]? = some (.int .u8 0) := by
    intro i
    rcases i with ⟨i, hi⟩
    rw [show Tryz.zeroCells162.toList = List.replicate 65 (.int .u8 0) from rfl, List.getElem?_replicate, if_pos hi]
  exact this ⟨i, hi⟩

set_option maxHeartbeats 2000000 in
set_option maxRecDepth 100000 in
theorem bits_any (w : World) (u : Nat) (h : ZT w) (h0 : 65536 ≤ u) (h1 : u < 131072) :
    Calls Tryz.prog 111 #[.slice none 0 0, .int .u64 (u : Int), .int .i64 16, .bool false, .bool false] w fun e w' => e = .returned (.tuple #[.slice none 0 0, .string (bstr [49, hx (u / 4096 % 16), hx (u / 256 % 16), hx (u / 16 % 16), hx (u % 16)])]) ∧ Below w.heap.size w w' := by
  have H := hide h
  clear h
  go_enter Tryz.func111, Tryz.ntmps111
  go_wp2_with fail
  refine (power_any _).mono ?_
  rintro e w1 ⟨rfl, hw⟩
  rw [hw]
  clear hw w1
  go_wp2_with fail
  refine (tz_any _ ?_).mono ?_
  · exact cell_kept H.out (below_new w _)
  rintro e w1 ⟨rfl, hw⟩
  rw [hw]
  clear hw w1
  go_wp2_with fail
  have HAD0 := hide (AD.new w)
  have HBL0 := hide (below_new w (.cells Tryz.zeroCells162 162))
  generalize w.alloc (.cells Tryz.zeroCells162 162) = v0 at *
  obtain ⟨u0, hu0⟩ : ∃ u0 : Nat, u0 = u := ⟨_, rfl⟩
  rw [← hu0] at h0 h1 ⊢
  have HU0 := hide hu0
  clear hu0
  refine wp_loop_rounds 5 ?_
  have e0 : bits BinOp.and IntKind.u64 (u0 : Int) 15 = (u0 : Int) % 16 := by rw [band15 u0 (by omega)]; omega
  have i0 := dig_index (u0 % 16) (by omega) ((u0 : Int) % 16) (by omega)
  have c0 := HAD0.out.cell
  have f0 := HAD0.out.fz 64
  rw [rounds_succ]
  go_wp2_with fail
  have HAD1 := hide (HAD0.out.step (hx (u0 % 16)))
  have HBL1 := hide (HBL0.out.setCell (p := ⟨w.heap.size, 64, none⟩) (Nat.le_refl _) (.int .u8 (hx (u0 % 16) : Int)))
  generalize v0.setCell ⟨w.heap.size, 64, none⟩ (.int .u8 (hx (u0 % 16) : Int)) = v1 at *
  obtain ⟨u1, hu1⟩ : ∃ u1 : Nat, u1 = u0 / 16 := ⟨_, rfl⟩
  rw [show (u0 : Int) / 16 = (u1 : Int) by omega]
  have l1 : 4096 ≤ u1 := by omega
  have m1 : u1 < 8192 := by omega
  have HU1 := hide hu1
  clear e0 i0 c0 f0 hu1 HAD0 HBL0 h0 h1
  have e1 : bits BinOp.and IntKind.u64 (u1 : Int) 15 = (u1 : Int) % 16 := by rw [band15 u1 (by omega)]; omega
  have i1 := dig_index (u1 % 16) (by omega) ((u1 : Int) % 16) (by omega)
  have c1 := HAD1.out.cell
  have f1 := HAD1.out.fz 63
  rw [rounds_succ]
  go_wp2_with fail
  have HAD2 := hide (HAD1.out.step (hx (u1 % 16)))
  have HBL2 := hide (HBL1.out.setCell (p := ⟨w.heap.size, 63, none⟩) (Nat.le_refl _) (.int .u8 (hx (u1 % 16) : Int)))
  generalize v1.setCell ⟨w.heap.size, 63, none⟩ (.int .u8 (hx (u1 % 16) : Int)) = v2 at *
  obtain ⟨u2, hu2⟩ : ∃ u2 : Nat, u2 = u1 / 16 := ⟨_, rfl⟩
  rw [show (u1 : Int) / 16 = (u2 : Int) by omega]
  have l2 : 256 ≤ u2 := by omega
  have m2 : u2 < 512 := by omega
  have HU2 := hide hu2
  clear e1 i1 c1 f1 hu2 HAD1 HBL1 l1 m1
  have e2 : bits BinOp.and IntKind.u64 (u2 : Int) 15 = (u2 : Int) % 16 := by rw [band15 u2 (by omega)]; omega
  have i2 := dig_index (u2 % 16) (by omega) ((u2 : Int) % 16) (by omega)
  have c2 := HAD2.out.cell
  have f2 := HAD2.out.fz 62
  rw [rounds_succ]
  go_wp2_with fail
  have HAD3 := hide (HAD2.out.step (hx (u2 % 16)))
  have HBL3 := hide (HBL2.out.setCell (p := ⟨w.heap.size, 62, none⟩) (Nat.le_refl _) (.int .u8 (hx (u2 % 16) : Int)))
  generalize v2.setCell ⟨w.heap.size, 62, none⟩ (.int .u8 (hx (u2 % 16) : Int)) = v3 at *
  obtain ⟨u3, hu3⟩ : ∃ u3 : Nat, u3 = u2 / 16 := ⟨_, rfl⟩
  rw [show (u2 : Int) / 16 = (u3 : Int) by omega]
  have l3 : 16 ≤ u3 := by omega
  have m3 : u3 < 32 := by omega
  have HU3 := hide hu3
  clear e2 i2 c2 f2 hu3 HAD2 HBL2 l2 m2
  have e3 : bits BinOp.and IntKind.u64 (u3 : Int) 15 = (u3 : Int) % 16 := by rw [band15 u3 (by omega)]; omega
  have i3 := dig_index (u3 % 16) (by omega) ((u3 : Int) % 16) (by omega)
  have c3 := HAD3.out.cell
  have f3 := HAD3.out.fz 61
  rw [rounds_succ]
  go_wp2_with fail
  have HAD4 := hide (HAD3.out.step (hx (u3 % 16)))
  have HBL4 := hide (HBL3.out.setCell (p := ⟨w.heap.size, 61, none⟩) (Nat.le_refl _) (.int .u8 (hx (u3 % 16) : Int)))
  generalize v3.setCell ⟨w.heap.size, 61, none⟩ (.int .u8 (hx (u3 % 16) : Int)) = v4 at *
  obtain ⟨u4, hu4⟩ : ∃ u4 : Nat, u4 = u3 / 16 := ⟨_, rfl⟩
  rw [show (u3 : Int) / 16 = (u4 : Int) by omega]
  have l4 : 1 ≤ u4 := by omega
  have m4 : u4 < 2 := by omega
  have HU4 := hide hu4
  clear e3 i3 c3 f3 hu4 HAD3 HBL3 l3 m3
  have h4 : u4 = 1 := by omega
  subst h4
  have i4 := dig_index 1 (by decide) 1 rfl
  have c4 := HAD4.out.cell
  have f4 := HAD4.out.fz 60
  have HAD5 := hide (HAD4.out.step (hx 1))
  have HBL5 := hide (HBL4.out.setCell (p := ⟨w.heap.size, 60, none⟩) (Nat.le_refl _) (.int .u8 (hx 1 : Int)))
  have hcv := conv_row 5 HAD5.out.row
  simp only [List.length_cons, List.length_nil] at hcv
  rw [rounds_succ]
  go_wp2_with fail
  go_ret2
  refine ⟨?_, HBL5.out⟩
  have a1 := HU0.out
  have a2 := HU1.out
  have a3 := HU2.out
  have a4 := HU3.out
  rw [show u % 16 = u0 % 16 by omega, show u / 16 % 16 = u1 % 16 by omega, show u / 256 % 16 = u2 % 16 by omega, show u / 4096 % 16 = u3 % 16 by omega]
  rfl

set_option maxHeartbeats 1000000 in
set_option maxRecDepth 100000 in
theorem formatIn_any (w : World) (u : Nat) (h : ZT w) (h0 : 65536 ≤ u) (h1 : u < 131072) :
    Calls Tryz.prog 96 #[.int .i64 (u : Int), .int .i64 16] w fun e w' => e = .returned (.string (bstr [49, hx (u / 4096 % 16), hx (u / 256 % 16), hx (u / 16 % 16), hx (u % 16)])) ∧ Below w.heap.size w w' := by
  have HB := hide (bits_any w u h h0 h1)
  clear h
  go_enter Tryz.func96, Tryz.ntmps96
  go_wp2_with fail
  refine HB.out.mono ?_
  rintro e w1 ⟨rfl, hb⟩
  have HBL := hide hb
  clear hb
  go_wp2_with fail
  go_ret
  exact ⟨rfl, HBL.out⟩
set_option maxHeartbeats 1000000 in
set_option maxRecDepth 100000 in
theorem format_any (w : World) (u : Nat) (h : ZT w) (h0 : 65536 ≤ u) (h1 : u < 131072) :
    Calls Tryz.prog 91 #[.int .i64 (u : Int), .int .i64 16] w fun e w' => e = .returned (.string (bstr [49, hx (u / 4096 % 16), hx (u / 256 % 16), hx (u / 16 % 16), hx (u % 16)])) ∧ Below w.heap.size w w' := by
  have HB := hide (formatIn_any w u h h0 h1)
  clear h
  go_enter Tryz.func91, Tryz.ntmps91
  go_wp2_with fail
  refine HB.out.mono ?_
  rintro e w1 ⟨rfl, hb⟩
  have HBL := hide hb
  clear hb
  go_wp2_with fail
  go_ret
  exact ⟨rfl, HBL.out⟩
/-- A number of sixteen bits as it is escaped. -/
def unitOf (n : Nat) : By := [92, 117, hx (n / 4096 % 16), hx (n / 256 % 16), hx (n / 16 % 16), hx (n % 16)]
theorem unitOf_lt (n : Nat) : ∀ x ∈ unitOf n, x < 256 := by
  intro x hx'
  simp only [unitOf, List.mem_cons, List.not_mem_nil, or_false] at hx'
  rcases hx' with rfl | rfl | rfl | rfl | rfl | rfl
  · decide
  · decide
  all_goals exact hx_lt _ (by omega)
set_option maxHeartbeats 1000000 in
set_option maxRecDepth 100000 in
theorem unit_any (w : World) (n : Nat) (h : ZT w) (hn : n < 65536) :
    Calls Tryz.prog 83 #[.int .i32 (n : Int)] w fun e w' => e = .returned (.string (bstr (unitOf n))) ∧ Below w.heap.size w w' := by
  have HB := hide (format_any w (65536 + n) h (by omega) (by omega))
  have hl : ∀ x ∈ [49, hx ((65536 + n) / 4096 % 16), hx ((65536 + n) / 256 % 16), hx ((65536 + n) / 16 % 16), hx ((65536 + n) % 16)], x < 256 := by
    intro x hx'
    simp only [List.mem_cons, List.not_mem_nil, or_false] at hx'
    rcases hx' with rfl | rfl | rfl | rfl | rfl
    · decide
    all_goals exact hx_lt _ (by omega)
  have hcut := fun w => str_from (bstr [49, hx ((65536 + n) / 4096 % 16), hx ((65536 + n) / 256 % 16), hx ((65536 + n) / 16 % 16), hx ((65536 + n) % 16)]) 1 1 rfl (by rw [bstr_size]; simp) w
  rw [sbytes_bstr hl] at hcut
  have hu : [92, 117] ++ [hx ((65536 + n) / 4096 % 16), hx ((65536 + n) / 256 % 16), hx ((65536 + n) / 16 % 16), hx ((65536 + n) % 16)] = unitOf n := by
    unfold unitOf
    rw [show (65536 + n) / 4096 % 16 = n / 4096 % 16 by omega, show (65536 + n) / 256 % 16 = n / 256 % 16 by omega, show (65536 + n) / 16 % 16 = n / 16 % 16 by omega, show (65536 + n) % 16 = n % 16 by omega]
    rfl
  have hadd : ∀ w, (Op.stringOp .add ⟨#[92, 117]⟩ (bstr [hx ((65536 + n) / 4096 % 16), hx ((65536 + n) / 256 % 16), hx ((65536 + n) / 16 % 16), hx ((65536 + n) % 16)])).run Tryz.prog w = .ok (.string (bstr (unitOf n))) w := fun w => by
    rw [← hu]
    exact add_str (x := [92, 117]) (by simp) w
  have HU := hide hu
  clear h hu hl
  simp only [List.drop_succ_cons, List.drop_zero] at hcut
  generalize bstr [hx ((65536 + n) / 4096 % 16), hx ((65536 + n) / 256 % 16), hx ((65536 + n) / 16 % 16), hx ((65536 + n) % 16)] = t4 at *
  generalize bstr [49, hx ((65536 + n) / 4096 % 16), hx ((65536 + n) / 256 % 16), hx ((65536 + n) / 16 % 16), hx ((65536 + n) % 16)] = t5 at *
  have HB2 : Hid (Calls Tryz.prog 91 #[.int .i64 (65536 + (n : Int)), .int .i64 16] w fun e w' => e = .returned (.string t5) ∧ Below w.heap.size w w') := by
    have := HB.out
    rw [show ((65536 + n : Nat) : Int) = 65536 + (n : Int) by omega] at this
    exact this
  clear HB
  go_enter Tryz.func83, Tryz.ntmps83
  go_wp2_with fail
  refine HB2.out.mono ?_
  rintro e w1 ⟨rfl, hb⟩
  have HBL := hide hb
  clear hb
  go_wp2_with fail
  go_ret
  exact ⟨rfl, HBL.out⟩
end Go.Proofs.YtlebockgdonceaaGreatDoor
