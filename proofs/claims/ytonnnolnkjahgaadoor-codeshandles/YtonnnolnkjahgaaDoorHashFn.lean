/- The contracts of digest.firstWords, digest.wordBytes, digest.putNumber, digest.New and the Hash's held, Size, turn: for every register, block and number. -/
import Derived.Test.YtonnnolnkjahgaaDoorTurnedFn
namespace Go.Proofs.YtonnnolnkjahgaaDoor
open Go.RowKit

set_option maxRecDepth 100000 in
theorem firstWords_any (w : World) : Calls Tryd.prog 58 #[] w fun e w' => e = .returned (.agg (first8.map wv).toArray) ∧ Below w.heap.size w w' := by
  go_enter Tryd.func58, Tryd.ntmps58
  go_wp2
  go_returns
  exact ⟨rfl, by go_grown⟩

theorem takeFill_length (out : List Nat) (k n : Nat) (hl : out.length = n) (hk : k ≤ n) : (out.take k ++ List.replicate (n - k) 0).length = n := by simp; omega
theorem takeFill_set (out : List Nat) (k n : Nat) (hl : out.length = n) (hk : k < n) : (out.take k ++ List.replicate (n - k) 0).set k (out.getD k 0) = out.take (k + 1) ++ List.replicate (n - (k + 1)) 0 := by
  have e : (out.take k).length = k := by simp; omega
  rw [List.set_append_right _ _ (by omega), e, Nat.sub_self, show n - k = (n - (k + 1)) + 1 by omega, List.replicate_succ, List.set_cons_zero, List.take_succ_eq_append_getElem (by omega), List.append_assoc]
  simp [List.getD, show k < out.length by omega]
theorem zeros32 : ([.int .u8 0, .int .u8 0, .int .u8 0, .int .u8 0, .int .u8 0, .int .u8 0, .int .u8 0, .int .u8 0, .int .u8 0, .int .u8 0, .int .u8 0, .int .u8 0, .int .u8 0, .int .u8 0, .int .u8 0, .int .u8 0, .int .u8 0, .int .u8 0, .int .u8 0, .int .u8 0, .int .u8 0, .int .u8 0, .int .u8 0, .int .u8 0, .int .u8 0, .int .u8 0, .int .u8 0, .int .u8 0, .int .u8 0, .int .u8 0, .int .u8 0, .int .u8 0] : List Value) = (List.replicate 32 0).map bv := by rfl

set_option maxHeartbeats 1000000 in
set_option maxRecDepth 100000 in
theorem wordBytes_any (r : List Nat) (w : World) (hr : r.length = 8) : Calls Tryd.prog 62 #[.agg (r.map wv).toArray] w fun e w' => e = .returned (.agg ((regBytes r).map bv).toArray) ∧ Below w.heap.size w w' := by
  have HL : Hid (r.length = 8) := hr
  clear hr
  go_enter Tryd.func62, Tryd.ntmps62
  go_wp2
  go_loopw [5] (fun i wr => ∃ k : Nat, k ≤ 32 ∧ i = .int .i64 k ∧ Hid (Bl wr w.heap.size (r.map wv) 76) ∧ Hid (Bl wr (w.heap.size + 1) ((List.replicate 32 0).map bv) 64) ∧ Hid (Bl wr (w.heap.size + 1 + 1) (((regBytes r).take k ++ List.replicate (32 - k) 0).map bv) 64) ∧ Hid (Below w.heap.size w wr)) (fun i _ => 32 - (intOf i).toNat)
  case atStart =>
    refine ⟨0, Nat.zero_le _, rfl, ?_, ?_, ?_, ?_⟩
    · exact ((Bl.new w _ _).alloc _).alloc _
    · have := (Bl.new (w.alloc (Obj.cells (r.map wv).toArray 76)) ((List.replicate 32 0).map bv).toArray 64)
      rw [World.size_alloc] at this
      exact this.alloc _
    · have := (Bl.new ((w.alloc (Obj.cells (r.map wv).toArray 76)).alloc (Obj.cells ((List.replicate 32 0).map bv).toArray 64)) ((List.replicate 32 0).map bv).toArray 64)
      rw [World.size_alloc, World.size_alloc] at this
      exact this
    · show Below _ _ _; go_grown
  case round =>
    obtain ⟨k, hk, rfl, G0, G1, G2, HB⟩ := hrel
    by_cases hlt : k < 32
    · have c0 : wr.cell? ⟨w.heap.size, k / 4, none⟩ = some (.int .u32 ((r.getD (k / 4) 0 : Nat) : Int)) := G0.out.u32 (k / 4) (by rw [HL.out]; omega)
      have f2 : wr.frozen? ⟨w.heap.size + 1 + 1, k, none⟩ = false := G2.out.frozen _
      have HLL : Hid (((regBytes r).take k ++ List.replicate (32 - k) 0).length = 32) := by show _ = _; simp [regBytes_length, HL.out]; omega
      have c2 : wr.cell? ⟨w.heap.size + 1 + 1, k, none⟩ = some (.int .u8 ((((regBytes r).take k ++ List.replicate (32 - k) 0).getD k 0 : Nat) : Int)) := G2.out.u8 k (by rw [HLL.out]; exact hlt)
      have HV : Hid ((regBytes r).getD k 0 = r.getD (k / 4) 0 / 2 ^ (24 - 8 * (k % 4)) % 256) := regBytes_get r k (by rw [HL.out]; omega)
      generalize r.getD (k / 4) 0 = x at *
      generalize ((regBytes r).take k ++ List.replicate (32 - k) 0).getD k 0 = old at *
      have HI : Hid (((x : Int) / 2 ^ (24 - 8 * (k % 4)) % 256) = (((regBytes r).getD k 0 : Nat) : Int)) := by show _ = _; rw [HV.out]; simp
      go_wp2
      rw [HI.out]
      go_roundw
      case rel =>
        refine ⟨k + 1, by omega, by go_num, ?_, ?_, ?_, ?_⟩
        · exact G0.out.other (by omega) _ _
        · exact G1.out.other (by omega) _ _
        · have := G2.out.set k (bv ((regBytes r).getD k 0))
          rw [← List.map_set, takeFill_set _ k 32 (by rw [regBytes_length, HL.out]) hlt] at this
          exact this
        · exact HB.out.setCell (by simp; omega) _
      case measure => simp [intOf]; omega
    · have HF : Hid ((regBytes r).take k ++ List.replicate (32 - k) 0 = regBytes r) := by
        show _ = _
        rw [List.take_of_length_le (by rw [regBytes_length, HL.out]; omega), show 32 - k = 0 by omega]
        simp
      have G3 : Hid (Bl wr (w.heap.size + 1 + 1) ((regBytes r).map bv) 64) := by rw [← HF.out]; exact G2
      have HS : Hid ((Tryd.prog.info? 64).map (·.size) = some ((regBytes r).map bv).toArray.size) := by show _ = _; rw [size24]; simp [regBytes_length, HL.out]
      go_wp2_with (first
        | (refine wpList_load_row rfl 64 _ rfl (w.heap.size + 1 + 1) rfl 64 ((regBytes r).map bv).toArray (0, 0) _ G3.out Tryd.underlying64 rfl HS.out ?_)
        | (refine wpList_store_row rfl 64 _ _ rfl (w.heap.size + 1) ((regBytes r).map bv).toArray rfl rfl 64 ((List.replicate 32 0).map bv).toArray G1.out HS.out (by simp [regBytes_length, HL.out]) (all_oneCell_toArray (bv_one _)) ?_))
      refine bodyPost_ret (results_cell_row rfl _ _ (w.heap.size + 1) 64 ((regBytes r).map bv).toArray (0, 0) _ rfl (G1.out.setRow _) Tryd.underlying64 rfl HS.out) rfl ⟨rfl, below_setRow HB.out (by omega) _⟩

/-- Eight bytes of a number into a row that lies in the midst of a block. -/
theorem eight_get (n k : Nat) (h : k < 8) : (eight n).getD k 0 = n / 2 ^ (56 - 8 * k) % 256 := by simp [eight, h]
set_option maxHeartbeats 1000000 in
set_option maxRecDepth 100000 in
theorem putNumber_any (g off n cap N : Nat) (pre post : List Value) (mid : List Nat) (t : TypeId) (w : World) (ho : pre.length = off) (hm : mid.length = 8) (hn : 8 ≤ n) (hnm : n ≤ 281474976710656) (hg : Bl w g (pre ++ (mid.map bv ++ post)) t) :
    Calls Tryd.prog 61 #[.slice (some ⟨g, off, none⟩) n cap, .int .u64 (N : Int)] w fun e w' => e = .returned (.tuple #[]) ∧ Hid (Bl w' g (pre ++ ((eight N).map bv ++ post)) t ∧ But g w w') := by
  have HM : Hid (mid.length = 8) := hm
  have HO : Hid (pre.length = off) := ho
  have HG : Hid (Bl w g (pre ++ (((eight N).take 0 ++ mid.drop 0).map bv ++ post)) t) := hg
  clear hm ho hg
  go_enter Tryd.func61, Tryd.ntmps61
  go_wp2
  go_loopw [5] (fun i wr => ∃ k : Nat, k ≤ 8 ∧ i = .int .i64 k ∧ Hid (Bl wr g (pre ++ (((eight N).take k ++ mid.drop k).map bv ++ post)) t) ∧ Hid (But g w wr)) (fun i _ => 8 - (intOf i).toNat)
  case atStart => exact ⟨0, Nat.zero_le _, rfl, HG, But.refl _ _⟩
  case round =>
    clear HG
    obtain ⟨k, hk, rfl, HG, HB⟩ := hrel
    by_cases hlt : k < 8
    · have HK : Hid (((eight N).take k).length = k) := by show _ = _; simp [eight_length]; omega
      have c0 : wr.cell? ⟨g, off + k, none⟩ = some (.int .u8 ((mid.getD k 0 : Nat) : Int)) := by
        rw [HG.out.cell, ← HO.out, List.getElem?_append_right (by omega), show pre.length + k - pre.length = k by omega, List.getElem?_append_left (by simp [HM.out, eight_length]; omega), List.getElem?_map, List.getElem?_append_right (by rw [HK.out]; omega), HK.out, Nat.sub_self, List.getElem?_drop]
        simp [HM.out, hlt, bv]
      have f0 : wr.frozen? ⟨g, off + k, none⟩ = false := HG.out.frozen _
      have HI : Hid (((N : Int) / 2 ^ (56 - 8 * k) % 256) = (((eight N).getD k 0 : Nat) : Int)) := by show _ = _; rw [eight_get N k hlt]; simp
      generalize mid.getD k 0 = old at *
      go_wp2
      rw [HI.out]
      go_roundw
      case rel =>
        refine ⟨k + 1, by omega, by go_num, ?_, HB.out.trans (But.setCell g wr _ _)⟩
        have := HG.out.set (off + k) (bv ((eight N).getD k 0))
        rw [← HO.out, List.set_append_right _ _ (by omega), show pre.length + k - pre.length = k by omega, List.set_append_left _ _ (by simp [HM.out, eight_length]; omega), ← List.map_set, List.set_append_right _ _ (by rw [HK.out]; omega), HK.out, Nat.sub_self,
          List.drop_eq_getElem_cons (by rw [HM.out]; exact hlt), List.set_cons_zero, ← List.singleton_append, ← List.append_assoc (List.take k (eight N))] at this
        rw [List.take_succ_eq_append_getElem (by rw [eight_length]; exact hlt), ← HO.out]
        simp only [List.getD, List.getElem?_eq_getElem (show k < (eight N).length by rw [eight_length]; exact hlt), Option.getD_some] at this ⊢
        exact this
      case measure => simp [intOf]; omega
    · have HF : Hid ((eight N).take k ++ mid.drop k = eight N) := by
        show _ = _
        rw [List.take_of_length_le (by rw [eight_length]; omega), List.drop_of_length_le (by rw [HM.out]; omega), List.append_nil]
      go_wp2
      go_returns
      refine ⟨rfl, ?_, HB.out⟩
      have := HG.out
      rw [HF.out] at this
      exact this

/-- A Hash in memory: its register, its block, its number. -/
def Hsh (w : World) (g : Nat) (reg blk : List Nat) (size : Nat) : Prop := Bl w g (reg.map wv ++ (blk.map bv ++ [.int .u64 (size : Int)])) 86 ∧ reg.length = 8 ∧ blk.length = 64
theorem Hsh.size {w : World} {g : Nat} {reg blk : List Nat} {n : Nat} (h : Hsh w g reg blk n) : w.cell? ⟨g, 72, none⟩ = some (.int .u64 (n : Int)) := by
  rw [h.1.cell, List.getElem?_append_right (by simp [h.2.1]), List.getElem?_append_right (by simp [h.2.1, h.2.2])]
  simp [h.2.1, h.2.2]
theorem Hsh.but {w w' : World} {g k : Nat} {reg blk : List Nat} {n : Nat} (h : Hsh w k reg blk n) (hb : But g w w') (hk : k ≠ g) : Hsh w' k reg blk n := ⟨h.1.but hb hk, h.2⟩
theorem Hsh.keep {w w' : World} {g : Nat} {reg blk : List Nat} {n : Nat} (h : Hsh w g reg blk n) (hb : Below w.heap.size w w') : Hsh w' g reg blk n := ⟨h.1.keep hb, h.2⟩
theorem Hsh.below {w w' : World} {g B : Nat} {reg blk : List Nat} {n : Nat} (h : Hsh w g reg blk n) (hb : Below B w w') (hg : g < B) : Hsh w' g reg blk n := ⟨h.1.below hb hg, h.2⟩

set_option maxRecDepth 100000 in
theorem held_any (g n : Nat) (w : World) (c : w.cell? ⟨g, 72, none⟩ = some (.int .u64 (n : Int))) : Calls Tryd.prog 59 #[.pointer (some ⟨g, 0, none⟩)] w fun e w' => e = .returned (.int .i64 ((n % 64 : Nat) : Int)) ∧ w' = w := by
  go_enter Tryd.func59, Tryd.ntmps59
  go_wp2
  go_ret
  exact ⟨by simp, rfl⟩
theorem size76 : (Tryd.prog.info? 86).map (·.size) = some 73 := by kernel_rfl
theorem wpList_build_eq {ops : Array Oper} {rest : List Oper} {o : Oper} {a : Act} {w : World} {Q : Exit → Act → World → Prop} (hg : o.guard = none) (t : TypeId) (parts : Array (Nat × Operand)) (ho : o.op = .build t parts) (cells : Array Value)
    (hf : Tryd.prog.built t (parts.map fun (i, x) => (i, a.eval x)).toList = some cells) (h : wpList Tryd.prog ops Q rest (a.put o.dst (.agg cells)) w) : wpList Tryd.prog ops Q (o :: rest) a w :=
  wpList_build hg t parts ho (by rw [hf]; rfl) (by rw [hf]; exact h)
set_option maxHeartbeats 1000000 in
set_option maxRecDepth 100000 in
theorem new_any (w : World) : Calls Tryd.prog 49 #[] w fun e w' => ∃ g, e = .returned (.pointer (some ⟨g, 0, none⟩)) ∧ Hid (w.heap.size ≤ g ∧ g < w'.heap.size ∧ Hsh w' g first8 (List.replicate 64 0) 0 ∧ Below w.heap.size w w') := by
  go_enter Tryd.func49, Tryd.ntmps49
  go_wp2_with fail
  refine (firstWords_any w).mono ?_
  rintro e w1 ⟨rfl, h1⟩
  have HB : Hid (Below w.heap.size w w1) := h1
  clear h1
  go_wp2_with (first | (refine wpList_build_eq rfl 86 _ rfl (first8.map wv ++ ((List.replicate 64 0).map bv ++ [Value.int .u64 ((0 : Nat) : Int)])).toArray (by kernel_rfl) ?_) | fail)
  go_ret
  refine ⟨w1.heap.size, rfl, HB.out.size, by simp, ⟨?_, rfl, rfl⟩, HB.out.alloc HB.out.size _⟩
  exact Bl.new w1 _ _
end Go.Proofs.YtonnnolnkjahgaaDoor
