/- The contracts of Handle and Match. -/
import Derived.Test.YtonnnolnkjahgaaDoorCShow
import Derived.Test.YtonnnolnkjahgaaDoorSumTop
import Derived.Test.YtonnnolnkjahgaaDoorSameFn
namespace Go.Proofs.YtonnnolnkjahgaaDoor
open Go.RowKit Go.Shelf

/-- The handle's bytes, the error. -/
def hdlT (k : Int) (l : List Nat) : List Nat := if k ≠ 1 ∧ k ≠ 2 then [] else if 64 < l.length then [] else sha (k.toNat :: l)
def hdlE (k : Int) (l : List Nat) : Nat := if k ≠ 1 ∧ k ≠ 2 then 2 else if 64 < l.length then 1 else 0
theorem psee2 (w : World) {a1 a2 : Option Addr} {c1 c2 n2 : Nat} {x1 x2 : List Nat} (h1 : Row w a1 x1) (h2 : Row w a2 x2) (hn : n2 = x2.length) :
    PSee (w.alloc (.cells #[.slice a1 x1.length c1, .slice a2 n2 c2] 25)) w.heap.size 0 [⟨a1, c1, x1⟩, ⟨a2, c2, x2⟩] := by
  subst hn
  have hb := below_new w (.cells #[.slice a1 x1.length c1, .slice a2 x2.length c2] 25)
  have hB := Bl.new w #[.slice a1 x1.length c1, .slice a2 x2.length c2] 25
  intro i p hp
  rw [Nat.zero_add, hB.cell]
  match i, hp with
  | 0, hp => cases hp; exact ⟨rfl, h1.keep hb⟩
  | 1, hp => cases hp; exact ⟨rfl, h2.keep hb⟩
set_option maxRecDepth 100000 in
theorem handleBad_any (k : Int) (s : ByteArray) (w : World) (h1 : k ≠ 1) (h2 : k ≠ 2) : Calls Tryd.prog 19 #[.int .i64 k, .string s] w fun e w' => e = .returned (.tuple #[.string { data := #[] }, .int .i64 2]) ∧ w' = w := by
  have e1 : (k == 1) = false := by simpa using h1
  have e2 : (k == 2) = false := by simpa using h2
  have e3 : (k != 1) = true := by simpa using h1
  have e4 : (k != 2) = true := by simpa using h2
  clear h1 h2
  go_enter Tryd.func19, Tryd.ntmps19
  go_wp2
  go_ret2
  exact ⟨rfl, rfl⟩
set_option maxRecDepth 100000 in
theorem handleLong_any (k : Int) (s : ByteArray) (w : World) (h : k = 1 ∨ k = 2) (hs : 64 < s.size) : Calls Tryd.prog 19 #[.int .i64 k, .string s] w fun e w' => e = .returned (.tuple #[.string { data := #[] }, .int .i64 1]) ∧ w' = w := by
  have hs' : (64 : Int) < (s.size : Int) := by omega
  clear hs
  rcases h with rfl | rfl
  all_goals
    go_enter Tryd.func19, Tryd.ntmps19
    go_wp2
    go_ret2
    exact ⟨rfl, rfl⟩
set_option maxHeartbeats 1000000 in
set_option maxRecDepth 100000 in
theorem handleOk_any (k : Nat) (s : ByteArray) (w : World) (h : k = 1 ∨ k = 2) (hs : s.size ≤ 64) (hT : Roots w 2) : Calls Tryd.prog 19 #[.int .i64 (k : Int), .string s] w fun e w' => e = .returned (.tuple #[.string (bstr (sha (k :: sbytes s))), .int .i64 0]) ∧ Below w.heap.size w w' := by
  have HT := hide hT
  have HS := hide hs
  have hs' : ¬ (64 : Int) < (s.size : Int) := by omega
  have hk256 : IntKind.u8.wrap (k : Int) = (k : Int) := by rcases h with rfl | rfl <;> rfl
  have HK : Hid (k < 256) := hide (by omega)
  obtain ⟨c1, w1, hcv, hr1, hb1, hle1⟩ := conv_text (w.alloc (.cells #[.int .u8 (k : Int)] 5)) s
  have hz1 : (w.alloc (.cells #[.int .u8 (k : Int)] 5)).heap.size = w.heap.size + 1 := by simp
  rw [hz1] at hcv hr1
  have HB1 : Hid (Below w.heap.size w w1) := hide ((below_new w _).trans (hb1.mono (by simp)))
  have HR0 : Hid (Row w1 (some ⟨w.heap.size, 0, none⟩) [k]) := hide ((row_one w k).keep hb1)
  have HP := hide (psee2 w1 (c1 := 1) (c2 := c1) HR0.out hr1 (sbytes_length s).symm)
  have HJ := hide (joined_any w1.heap.size 0 2 2 _ _ HP.out rfl (by omega) (by have := sbytes_length s; simp [flat]; omega))
  have HFL : Hid (flat [⟨some ⟨w.heap.size, 0, none⟩, 1, [k]⟩, ⟨some ⟨w.heap.size + 1, 0, none⟩, c1, sbytes s⟩] = k :: sbytes s) := hide (by simp [flat])
  rw [HFL.out] at HJ
  have HBW2 : Hid (Below w.heap.size w (w1.alloc (.cells #[.slice (some ⟨w.heap.size, 0, none⟩) [k].length 1, .slice (some ⟨w.heap.size + 1, 0, none⟩) s.size c1] 25))) := hide (HB1.out.alloc HB1.out.size _)
  have HBY : Hid (∀ x ∈ k :: sbytes s, x < 256) := hide (fun x hx => by
    rcases List.mem_cons.1 hx with e | e
    · rw [e]; exact HK.out
    · exact sbytes_lt s x e)
  have HLN : Hid ((k :: sbytes s).length ≤ 65) := hide (by have := sbytes_length s; simp; omega)
  have HSL : Hid ((sha (k :: sbytes s)).length = 32) := sha_length _
  have HSB := hide (fun n c ao W hn hnc hr hT => sum_any n c ao (k :: sbytes s) W (by have := HLN.out; omega) hn hnc HBY.out hr hT)
  rw [show [k].length = 1 from rfl] at HJ HBW2
  generalize sha (k :: sbytes s) = kk at *
  clear hT hs hr1 hb1 hle1 hz1 HP
  generalize k :: sbytes s = ms at *
  have h12 : (((k : Int) != 1) = false) ∨ (((k : Int) != 1) = true ∧ ((k : Int) != 2) = false) := by
    rcases h with rfl | rfl
    · exact .inl rfl
    · exact .inr ⟨rfl, rfl⟩
  clear h
  rcases h12 with h1 | ⟨h1, h2⟩
  all_goals
    go_enter Tryd.func19, Tryd.ntmps19
    go_upto_region 6 with (first
      | (go_at_call 40; refine HJ.out.mono ?_; rintro e w3 ⟨v, rfl, h3, h4⟩; obtain ⟨ao, c, rfl, hle, hrow⟩ := h3.read; have HB3 := hide (HBW2.out.trans (h4.mono HBW2.out.size)); have HD := hide (HSB.out ms.length c ao w3 rfl hle hrow (HT.out.keep HB3.out)); clear h3 h4 hrow hle)
      | (go_at_call 41; refine HD.out.mono ?_; rintro e w4 ⟨rfl, h4⟩; have HB4 := hide (HB3.out.trans (h4.mono HB3.out.size)); have HC : Hid ((Tryd.prog.info? 64).map (·.size) = some (kk.map bv).toArray.size) := (by show _ = _; rw [size24]; simp [HSL.out]); clear h4)
      | (refine wpList_store_row rfl 64 _ _ rfl w4.heap.size (kk.map bv).toArray rfl rfl 64 _ (Bl.new w4 _ _) HC.out (by simp [HSL.out]) (all_oneCell_toArray (bv_one _)) ?_)
      | fail)
    obtain ⟨w5, hq5⟩ : ∃ x, x = (w4.alloc (Obj.cells #[.int .u8 0, .int .u8 0, .int .u8 0, .int .u8 0, .int .u8 0, .int .u8 0, .int .u8 0, .int .u8 0, .int .u8 0, .int .u8 0, .int .u8 0, .int .u8 0, .int .u8 0, .int .u8 0, .int .u8 0, .int .u8 0, .int .u8 0, .int .u8 0, .int .u8 0, .int .u8 0, .int .u8 0, .int .u8 0, .int .u8 0, .int .u8 0, .int .u8 0, .int .u8 0, .int .u8 0, .int .u8 0, .int .u8 0, .int .u8 0, .int .u8 0, .int .u8 0] 64)).setRow w4.heap.size (kk.map bv).toArray := ⟨_, rfl⟩
    rw [← hq5]
    have HG5 : Hid (Bl w5 w4.heap.size (kk.map bv) 64) := by rw [hq5]; exact (Bl.new w4 _ _).setRow _
    have HB5 : Hid (Below w.heap.size w w5) := by rw [hq5]; exact below_setRow (HB4.out.alloc HB4.out.size _) HB4.out.size _
    clear hq5
    have hs32 : ∀ W, (Instr.sliceAt 64 (.pointer (some ⟨w4.heap.size, 0, none⟩)) none none none).run Tryd.prog W = .ok (.slice (some ⟨w4.heap.size, 0, none⟩) 32 32) W := fun W => arr_all 64 32 Tryd.underlying64 w4.heap.size 0 (by decide) W
    have hcv5 : (convert 25 9 (.slice (some ⟨w4.heap.size, 0, none⟩) 32 32)).run Tryd.prog w5 = .ok (.string (bstr kk)) w5 := by
      have := conv_row 32 HG5.out.row
      rwa [HSL.out] at this
    go_wp2_with fail
    go_ret2
    exact ⟨rfl, HB5.out⟩
end Go.Proofs.YtonnnolnkjahgaaDoor
