/- The walk of the law DigestPieces: for every row of bytes and all cuts it returns true and turns nothing old; the table of roots is a condition. -/
import Derived.Test.YtjdglpfjemoodaaDoorPieceMath
import Derived.Deep.CutBlock
import Derived.Test.YtjdglpfjemoodaaDoorHeldSteps
import Derived.Test.YtjdglpfjemoodaaDoorLive2
import Derived.Test.YtjdglpfjemoodaaDoorSmallOwn
import Derived.Test.YtjdglpfjemoodaaDoorArrEq
namespace Go.Proofs.YtjdglpfjemoodaaDoor
open Go.RowKit

/-- A row of ints in memory. -/
def IRow (w : World) (ao : Option Addr) (zs : List Int) : Prop := zs = [] ∨ ∃ b off, ao = some ⟨b, off, none⟩ ∧ ∀ i, i < zs.length → w.cell? ⟨b, off + i, none⟩ = some (.int .i64 (zs.getD i 0))
theorem copied2 {w w1 : World} {o : Obj} {v : Value} {xs : List Nat} {n m c : Nat} (hown : Own w1 w.heap.size v ([] ++ xs)) (hgr : (w.alloc o).grownBy w1 (Value.slice (some ⟨w.heap.size, 0, none⟩) m c).ownBlock) (hn : n = xs.length) :
    ∃ ao c, v = .slice ao n c ∧ n ≤ c ∧ Row w1 ao xs ∧ Below w.heap.size w w1 ∧ ∀ a, ao = some a → w.heap.size ≤ a.block := by
  obtain ⟨ao, c', h1, h2, h3, h4⟩ := copied hown hgr hn
  refine ⟨ao, c', h1, h2, h3, h4, fun a ha => ?_⟩
  subst ha
  subst h1
  rcases hown.2 with ⟨e, _⟩ | ⟨gg, cap', cur, e, hb, _⟩
  · cases e
  · cases e; exact hb
theorem take_piece (xs : List Nat) (a q : Nat) : xs.take a ++ (xs.drop a).take q = xs.take (a + q) := (List.take_add).symm

set_option linter.unusedSimpArgs false in
set_option maxHeartbeats 4000000 in
set_option maxRecDepth 100000 in
theorem digestPieces_walk (n cap m mc : Nat) (ao co : Option Addr) (xs : List Nat) (zs : List Int) (w : World) (hl : n ≤ 140737488351232) (hn : n = xs.length) (hnc : n ≤ cap) (hx : ∀ x ∈ xs, x < 256) (hr : Row w ao xs)
    (hm : m = zs.length) (hml : m ≤ 140737488351232) (hz : ∀ z ∈ zs, -9223372036854775808 ≤ z ∧ z ≤ 9223372036854775807) (hc : IRow w co zs) (hT : Roots w 0) :
    Calls Tryd.prog 8 #[.slice ao n cap, .slice co m mc] w fun e w' => e = .returned (.bool true) ∧ Below w.heap.size w w' := by
  have HN : Hid (n = xs.length) := hn
  have HX : Hid (∀ x ∈ xs, x < 256) := hx
  have HR : Hid (Row w ao xs) := hr
  have HM : Hid (m = zs.length) := hm
  have HZ : Hid (∀ z ∈ zs, -9223372036854775808 ≤ z ∧ z ≤ 9223372036854775807) := hz
  have HC : Hid (IRow w co zs) := hc
  have HT : Hid (Roots w 0) := hT
  have h00 := hT.lt
  have kc := fun (w : World) (C : Array Value) (n c : Nat) => Lib.run_convert_bytes_const (P := Tryd.prog) w 26 5 C n c Tryd.underlying26 Tryd.underlying5
  clear hn hx hr hm hz hc hT
  go_enter Tryd.func8, Tryd.ntmps8
  go_wp2_with fail
  refine (newState_any w).mono ?_
  rintro e w1 ⟨g0, rfl, h1⟩
  have hg0 : w.heap.size ≤ g0 := h1.out.1
  have HS1 : Hid (HState w1 g0 first8 0 (xs.take 0)) := h1.out.2.2.1
  have HB1 : Hid (Below w.heap.size w w1) := h1.out.2.2.2
  clear h1
  go_wp2
  go_loopw [5, 6, 7] (fun hp av iv wr => ∃ k a g : Nat, k ≤ m ∧ a ≤ n ∧ iv = .int .i64 (k : Int) ∧ av = .int .i64 (a : Int) ∧ hp = .pointer (some ⟨g, 0, none⟩) ∧ w.heap.size ≤ g ∧ Hid (HState wr g first8 0 (xs.take a)) ∧ Hid (Below w.heap.size w wr)) (fun _ _ i _ => m - (intOf i).toNat)
  case atStart => exact ⟨0, 0, g0, Nat.zero_le _, Nat.zero_le _, rfl, rfl, rfl, hg0, HS1, HB1⟩
  case round =>
    clear HS1 HB1 hg0
    obtain ⟨k, a, g, hk, ha, rfl, rfl, rfl, hg, HS, HB⟩ := hrel
    have hs := HB.out.size
    have hgl : g < wr.heap.size := HS.out.lt
    by_cases hlt : k < m
    · obtain ⟨cb, coff, rfl, hcell⟩ : ∃ b off, co = some ⟨b, off, none⟩ ∧ ∀ i, i < zs.length → w.cell? ⟨b, off + i, none⟩ = some (.int .i64 (zs.getD i 0)) := by
        rcases HC.out with h | h
        · rw [HM.out, h] at hlt; simp at hlt
        · exact h
      have ck : wr.cell? ⟨cb, coff + k, none⟩ = some (.int .i64 (zs.getD k 0)) := cell_kept (hcell k (by rw [← HM.out]; exact hlt)) HB.out
      have hzb := HZ.out (zs.getD k 0) (by simp [List.getD, show k < zs.length by rw [← HM.out]; exact hlt])
      clear hcell
      generalize zs.getD k 0 = z at *
      obtain ⟨hz1, hz2⟩ := hzb
      have hdt : decide ((k : Int) < (m : Int)) = true := decide_eq_true (by omega)
      by_cases hneg : z < 0
      · have hd1 : decide (z < 0) = true := decide_eq_true hneg
        go_wp2
        go_roundw
        case rel => exact ⟨k + 1, a, g, by omega, ha, by go_num, rfl, rfl, hg, HS, HB⟩
        case measure => simp [intOf]; omega
      by_cases hbig : (n : Int) - (a : Int) < z
      · have hd1 : decide (z < 0) = false := decide_eq_false hneg
        have hd2 : decide ((n : Int) - (a : Int) < z) = true := decide_eq_true hbig
        go_wp2
        go_roundw
        case rel => exact ⟨k + 1, a, g, by omega, ha, by go_num, rfl, rfl, hg, HS, HB⟩
        case measure => simp [intOf]; omega
      · have hd1 : decide (z < 0) = false := decide_eq_false hneg
        have hd2 : decide ((n : Int) - (a : Int) < z) = false := decide_eq_false hbig
        obtain ⟨q, rfl⟩ := Int.eq_ofNat_of_zero_le (show 0 ≤ z by omega)
        have haq : a + q ≤ n := by omega
        obtain ⟨ao8, hsl8, hrow8⟩ := slice_mid_any ao n cap a (a + q) (a : Int) ((a : Int) + (q : Int)) rfl (by omega) (by omega) haq hnc
        rw [show a + q - a = q by omega] at hsl8
        have HR8 : Hid (Row wr ao8 ((xs.drop a).take q)) := by
          have := hrow8 wr xs HN.out (HR.out.keep HB.out)
          rw [show a + q - a = q by omega] at this
          exact this
        have HL8 : Hid (q = ((xs.drop a).take q).length) := by show _ = _; rw [List.length_take, List.length_drop, ← HN.out]; omega
        have HX8 : Hid (∀ x ∈ (xs.drop a).take q, x < 256) := lt_take (lt_drop HX.out a) q
        have HTP : Hid (xs.take a ++ (xs.drop a).take q = xs.take (a + q)) := take_piece xs a q
        have HTL : Hid ((xs.take a).length = a) := by show _ = _; rw [List.length_take, ← HN.out]; omega
        clear hrow8
        generalize (xs.drop a).take q = ps at *
        go_wp2_with (first | (at_builtin; refine wpList_append_bytes rfl _ _ rfl wr.heap.size _ [] rfl (own_new wr wr.heap.size [] (Nat.le_refl _) (Nat.zero_le _)) ao8 q _ ps HL8.out rfl (HR8.out.keep (below_new wr _)) (by simp; rw [← HL8.out]; omega) (by simp) ?_) | fail)
        rintro v2 w2 hown2 hgr2
        obtain ⟨ao2, c2, rfl, hc2, hr2, hb2, hf2⟩ := copied2 hown2 hgr2 HL8.out
        have HB2 : Hid (Below w.heap.size w w2) := HB.out.trans (hb2.mono hs)
        have HR2 : Hid (Row w2 ao2 ps) := hr2
        have HS2 : Hid (HState w2 g first8 0 (xs.take a)) := HS.out.keep hb2
        have HF2 : Hid (∀ x, ao2 = some x → x.block ≠ g) := fun x hx => by have := hf2 x hx; omega
        have hs2 := HB2.out.size
        clear hown2 hgr2 hr2 hb2 hf2 hsl8 HR8
        go_wp2_with fail
        refine (writeState_any g q c2 0 ao2 ps first8 (xs.take a) w2 HS2.out (by rw [HTL.out, ← HL8.out]; omega) HX8.out HR2.out (fun _ => HF2.out) HL8.out hc2 (HT.out.keep HB2.out) (by omega)).mono ?_
        rintro e w3 ⟨rfl, h3⟩
        have HS3 : Hid (HState w3 g first8 0 (xs.take (a + q))) := by rw [← HTP.out]; exact h3.out.1
        have HB3 : Hid (Below w.heap.size w w3) := HB2.out.trans (h3.out.2.below hg hs2)
        have hs3 := HB3.out.size
        clear h3 HS2 HR2 HF2 HTP HTL HL8 HX8
        obtain ⟨A, hA⟩ : ∃ A, A = a + q := ⟨_, rfl⟩
        have hAi : (a : Int) + (q : Int) = (A : Int) := by omega
        rw [← hA] at HS3 haq
        clear hA
        go_wp2_with fail
        refine (sumState_any g 0 first8 (xs.take A) w3 HS3.out (HT.out.keep HB3.out)).mono ?_
        rintro e w4 ⟨rfl, h4⟩
        have HSE : Hid (total first8 0 (xs.take A) = sha (xs.take A)) := rfl
        rw [HSE.out]
        have HS4 : Hid (HState w4 g first8 0 (xs.take A)) := HS3.out.keep h4
        have HB4 : Hid (Below w.heap.size w w4) := HB3.out.trans (h4.mono hs3)
        have hs4 := HB4.out.size
        clear h4 HS3
        have HXL : Hid ((sha (xs.take A)).length = 32) := sha_length _
        generalize hsx : sha (xs.take A) = sx at *
        replace hsx := hide hsx
        have HC4 : Hid ((Tryd.prog.info? 24).map (·.size) = some (sx.map bv).toArray.size) := by show _ = _; rw [size24]; simp [HXL.out]
        go_upto_region 11 with (first | (refine wpList_store_row rfl 24 _ _ rfl w4.heap.size (sx.map bv).toArray rfl rfl 24 _ (Bl.new w4 _ _) HC4.out (by simp [HXL.out]) (all_oneCell_toArray (bv_one _)) ?_) | fail)
        obtain ⟨w5, hq5⟩ : ∃ x, x = (w4.alloc (Obj.cells #[.int .u8 0, .int .u8 0, .int .u8 0, .int .u8 0, .int .u8 0, .int .u8 0, .int .u8 0, .int .u8 0, .int .u8 0, .int .u8 0, .int .u8 0, .int .u8 0, .int .u8 0, .int .u8 0, .int .u8 0, .int .u8 0, .int .u8 0, .int .u8 0, .int .u8 0, .int .u8 0, .int .u8 0, .int .u8 0, .int .u8 0, .int .u8 0, .int .u8 0, .int .u8 0, .int .u8 0, .int .u8 0, .int .u8 0, .int .u8 0, .int .u8 0, .int .u8 0] 24)).setRow w4.heap.size (sx.map bv).toArray := ⟨_, rfl⟩
        rw [← hq5]
        have HG5 : Hid (Bl w5 w4.heap.size (sx.map bv) 24) := by rw [hq5]; exact (Bl.new w4 _ _).setRow _
        have H45 : Hid (Below w4.heap.size w4 w5) := by rw [hq5]; exact below_setRow (below_new w4 _) (Nat.le_refl _) _
        clear hq5
        have HS5 : Hid (HState w5 g first8 0 (xs.take A)) := HS4.out.keep H45.out
        have HB5 : Hid (Below w.heap.size w w5) := HB4.out.trans (H45.out.mono hs4)
        have hs5 := HB5.out.size
        obtain ⟨b9, hb9⟩ : ∃ b, b = w4.heap.size := ⟨_, rfl⟩
        rw [← hb9] at HG5 ⊢
        have hg9 : g < b9 := by have := HS4.out.lt; omega
        have hb95 : b9 < w5.heap.size := HG5.out.lt
        clear hb9 H45 HS4 HB4 HC4 HB3 HB2
        go_upto_block 2 with fail
        go_cut [5] (fun hp wx => ∃ g2 : Nat, hp = .pointer (some ⟨g2, 0, none⟩) ∧ w.heap.size ≤ g2 ∧ Hid (HState wx g2 first8 0 (xs.take A)) ∧ Hid (Bl wx b9 (sx.map bv) 24) ∧ Hid (Below w.heap.size w wx))
        case first =>
          have HTL : Hid ((xs.take A).length = A) := by show _ = _; rw [List.length_take, ← HN.out]; omega
          by_cases h31 : k % 3 = 1
          · have hb1 : ((k : Int) % 3 == 1) = true := by rw [beq_iff_eq]; omega
            go_wp2_with fail
            refine (copy_any g 0 first8 (xs.take A) w5 HS5.out).mono ?_
            rintro e w6 ⟨k2, rfl, h6⟩
            have hk2 : b9 < k2 := by have := h6.out.1; omega
            have HK6 : Hid (HState w6 k2 first8 0 (xs.take A)) := h6.out.2.2.1
            have HS6 : Hid (HState w6 g first8 0 (xs.take A)) := HS5.out.keep h6.out.2.2.2
            have HG6 : Hid (Bl w6 b9 (sx.map bv) 24) := HG5.out.keep h6.out.2.2.2
            have HB6 : Hid (Below w.heap.size w w6) := HB5.out.trans (h6.out.2.2.2.mono hs5)
            have hs6 := HB6.out.size
            have hk26 : k2 < w6.heap.size := HK6.out.lt
            clear h6
            go_wp2_with fail
            refine (writeState_any g 6 6 0 (some ⟨w6.heap.size, 0, none⟩) [115, 112, 111, 105, 108, 116] first8 (xs.take A) _ (by exact HS6.out.keep (below_mark w6 _ _ _)) (by rw [HTL.out]; simp; omega) (by decide) (by exact row_mark w6 [115, 112, 111, 105, 108, 116] 6 7) (fun _ a ha => by cases ha; simp; omega) rfl (by decide) (by exact (HT.out.keep HB6.out).keep (below_mark w6 _ _ _)) (by omega)).mono ?_
            rintro e w7 ⟨rfl, h7⟩
            have HK7 : Hid (HState w7 k2 first8 0 (xs.take A)) := (HK6.out.keep (below_mark w6 _ _ _)).but h7.out.2 (by omega)
            have HG7 : Hid (Bl w7 b9 (sx.map bv) 24) := (HG6.out.keep (below_mark w6 _ _ _)).but h7.out.2 (by omega)
            have HB7 : Hid (Below w.heap.size w w7) := (HB6.out.trans ((below_mark w6 _ _ _).mono hs6)).trans (h7.out.2.below hg (by simp; omega))
            clear h7
            go_wp2
            go_meet
            case rel => exact ⟨k2, rfl, by omega, HK7, HG7, HB7⟩
          · have hb1 : ((k : Int) % 3 == 1) = false := by rw [beq_eq_false_iff_ne]; omega
            by_cases h32 : k % 3 = 2
            · have hb2 : ((k : Int) % 3 == 2) = true := by rw [beq_iff_eq]; omega
              go_wp2_with fail
              refine (save_any g 0 first8 (xs.take A) w5 HS5.out).mono ?_
              rintro e w6 ⟨rfl, h6⟩
              have HO6 : Hid (Own w6 w5.heap.size (.slice (some ⟨w5.heap.size, 0, none⟩) 104 104) (saved first8 0 (xs.take A))) := h6.out.1
              have HS6 : Hid (HState w6 g first8 0 (xs.take A)) := HS5.out.keep h6.out.2
              have HG6 : Hid (Bl w6 b9 (sx.map bv) 24) := HG5.out.keep h6.out.2
              have HB6 : Hid (Below w.heap.size w w6) := HB5.out.trans (h6.out.2.mono hs5)
              have hs6 := HB6.out.size
              clear h6
              have HR6 : Hid (Row w6 (some ⟨w5.heap.size, 0, none⟩) (saved first8 0 (xs.take A))) := by
                obtain ⟨a', c', e, _, r⟩ := HO6.out.read
                simp only [Value.slice.injEq] at e
                rw [e.1]
                exact r
              have HLE : Hid (loadErr (saved first8 0 (xs.take A)) = 0) := saved_ok first8 (xs.take A) 0 rfl first8_lt rfl (by rw [HTL.out]; omega) (fun _ => rfl)
              have HLR : Hid (regOf (saved first8 0 (xs.take A)) = absorb first8 (xs.take A)) := saved_reg _ _ _ rfl first8_lt
              have HLB : Hid (((saved first8 0 (xs.take A)).drop 32).take 64 = hold (xs.take A)) := saved_blk _ _ _ rfl
              have HLN : Hid (num8 ((saved first8 0 (xs.take A)).drop 96) = 0 + (xs.take A).length) := saved_num _ _ _ rfl (by rw [HTL.out]; omega)
              have HL4 : Hid (104 = (saved first8 0 (xs.take A)).length) := (saved_length _ _ _ rfl).symm
              have HLX : Hid (∀ x ∈ saved first8 0 (xs.take A), x < 256) := saved_lt _ _ _ (lt_take HX.out A)
              go_wp2_with fail
              refine (load_any 104 104 (some ⟨w5.heap.size, 0, none⟩) (saved first8 0 (xs.take A)) w6 HL4.out (by decide) HLX.out HR6.out).mono ?_
              rintro e w7 ⟨p7, rfl, h7⟩
              obtain ⟨k2, rfl, hk2, hh2⟩ := h7.out.2.1 HLE.out
              rw [HLE.out]
              have HK7 : Hid (HState w7 k2 first8 0 (xs.take A)) := by
                rw [HLR.out, HLB.out, HLN.out] at hh2
                exact ⟨hh2, rfl, rfl, lt_take HX.out A⟩
              have HS7 : Hid (HState w7 g first8 0 (xs.take A)) := HS6.out.keep h7.out.2.2
              have HG7 : Hid (Bl w7 b9 (sx.map bv) 24) := HG6.out.keep h7.out.2.2
              have HB7 : Hid (Below w.heap.size w w7) := HB6.out.trans (h7.out.2.2.mono hs6)
              have hs7 := HB7.out.size
              have hk27 : k2 < w7.heap.size := HK7.out.lt
              have hg6 : b9 < w6.heap.size := HG6.out.lt
              clear h7 hh2 HR6 HO6 HLR HLB HLN HL4 HLX
              go_wp2_with (go_at_call 34; refine (num_any _ _).mono ?_; rintro e w7 ⟨rfl, rfl⟩)
              refine (writeState_any g 6 6 0 (some ⟨w7.heap.size, 0, none⟩) [115, 112, 111, 105, 108, 116] first8 (xs.take A) _ (by exact HS7.out.keep (below_mark w7 _ _ _)) (by rw [HTL.out]; simp; omega) (by decide) (by exact row_mark w7 [115, 112, 111, 105, 108, 116] 6 7) (fun _ a ha => by cases ha; simp; omega) rfl (by decide) (by exact (HT.out.keep HB7.out).keep (below_mark w7 _ _ _)) (by omega)).mono ?_
              rintro e w8 ⟨rfl, h8⟩
              have HK8 : Hid (HState w8 k2 first8 0 (xs.take A)) := (HK7.out.keep (below_mark w7 _ _ _)).but h8.out.2 (by omega)
              have HG8 : Hid (Bl w8 b9 (sx.map bv) 24) := (HG7.out.keep (below_mark w7 _ _ _)).but h8.out.2 (by omega)
              have HB8 : Hid (Below w.heap.size w w8) := (HB7.out.trans ((below_mark w7 _ _ _).mono hs7)).trans (h8.out.2.below hg (by simp; omega))
              clear h8
              go_wp2
              go_meet
              case rel => exact ⟨k2, rfl, by omega, HK8, HG8, HB8⟩
            · have hb2 : ((k : Int) % 3 == 2) = false := by rw [beq_eq_false_iff_ne]; omega
              go_wp2
              go_meet
              case rel => exact ⟨g, rfl, hg, HS5, HG5, HB5⟩
        case rest =>
          obtain ⟨g2, rfl, hg2, HS6, HG6, HB6⟩ := hcut
          clear HS5 HG5 HB5
          have hs6 := HB6.out.size
          have HTL : Hid (A = (xs.take A).length) := by show _ = _; rw [List.length_take, ← HN.out]; omega
          have HXA : Hid (∀ x ∈ xs.take A, x < 256) := lt_take HX.out A
          obtain ⟨ao9, hsl9, hrow9⟩ := slice_to_any ao n cap A (A : Int) rfl haq hnc
          have HR9 : Hid (∀ W, Below w.heap.size w W → Row W ao9 (xs.take A)) := fun W h => hrow9 W xs HN.out (HR.out.keep h)
          clear hrow9
          have hq : ∀ W, (Op.equalIn 10000 24 (.agg (sx.map bv).toArray) (.agg (sx.map bv).toArray)).run Tryd.prog W = .ok true W := fun W => by rw [arr32_eq _ _ W HXL.out HXL.out]; simp
          have HC6 : Hid ((Tryd.prog.info? 24).map (·.size) = some (sx.map bv).toArray.size) := by show _ = _; rw [size24]; simp [HXL.out]
          have hld : ∀ W, Bl W b9 (sx.map bv) 24 → (Instr.loadAt 24 (.pointer (some ⟨b9, 0, none⟩))).run Tryd.prog W = .ok (.agg (sx.map bv).toArray) W := fun W hB => by
            simp only [Instr.loadAt, Instr.sureAddr, Sem.run_bind, Sem.run_pure, Result.andThen_ok, run_loadVar_row W b9 _ _ _ _ _ hB Tryd.underlying24 rfl HC6.out]
          replace hld := hide hld
          go_wp2
          refine region_held_var (fun W => Bl W b9 (sx.map bv) 24) (by kernel_rfl) ?_
          intro F hF
          have hsz : F.tmps.size = 124 := by rw [hF]; rfl
          have e0 : F.eval (.tmp 0) = .slice ao n cap := by rw [hF]; rfl
          have e5 : F.eval (.tmp 5) = .pointer (some ⟨g2, 0, none⟩) := by rw [hF]; rfl
          have e6 : F.eval (.tmp 6) = .int .i64 (A : Int) := by rw [hF]; rfl
          have e9 : F.eval (.tmp 9) = .pointer (some ⟨b9, 0, none⟩) := by rw [hF]; rfl
          have HSw : Hid (Bl wc.drew b9 (sx.map bv) 24) := HG6
          refine heldMove (i := 0) 80 5 (.pointer (some ⟨g2, 0, none⟩)) rfl rfl rfl (by kernel_rfl) (by kernel_rfl) (by kernel_rfl) (fun _ _ _ h => h) rfl (by simp [ev_put, hsz, sz_put, e0, e5, e6, e9]) HSw.out ?_
          refine heldRun (i := 2) 82 (.agg (sx.map bv).toArray) rfl rfl (by kernel_rfl) (by kernel_rfl) (by kernel_rfl) (fun _ _ _ h => h) rfl (fun w hSw => by unfold execOp; simp [ev_put, hsz, sz_put, e0, e5, e6, e9]; rw [hld.out w hSw]; rfl) HSw.out ?_
          refine heldCall (i := 1) 81 20 #[.pointer (some ⟨g2, 0, none⟩)] rfl rfl (by kernel_rfl) rfl (by unfold execOp; simp [ev_put, hsz, sz_put, e0, e5, e6, e9] <;> go_simp) ?_
          refine (sumState_any g2 0 first8 (xs.take A) wc.drew HS6.out (HT.out.keep (below_drewN HB6.out 1))).mono ?_
          rintro e w7 ⟨rfl, h7⟩
          have HSE2 : Hid (total first8 0 (xs.take A) = sx) := hsx.out
          rw [HSE2.out]
          have H67 : Hid (Below wc.heap.size wc w7) := below_undrewN1 h7
          clear h7 HSw
          have HSw : Hid (Bl w7 b9 (sx.map bv) 24) := HG6.out.keep H67.out
          have HB7 : Hid (Below w.heap.size w w7) := HB6.out.trans (H67.out.mono hs6)
          have HS7 : Hid (HState w7 g2 first8 0 (xs.take A)) := HS6.out.keep H67.out
          have hs7 := HB7.out.size
          refine ⟨_, rfl, HSw.out, ?_⟩
          refine heldRun (i := 3) 83 (.bool false) rfl rfl (by kernel_rfl) (by kernel_rfl) (by kernel_rfl) (fun _ _ _ h => h) rfl (fun w hSw => by unfold execOp; simp [ev_put, hsz, sz_put, e0, e5, e6, e9] <;> go_simp) HSw.out ?_
          refine heldMove (i := 4) 84 83 (.bool false) rfl rfl rfl (by kernel_rfl) (by kernel_rfl) (by kernel_rfl) (fun _ _ _ h => h) rfl (by simp [ev_put, hsz, sz_put, e0, e5, e6, e9]) HSw.out ?_
          refine heldRun (i := 5) 85 (.agg (sx.map bv).toArray) rfl rfl (by kernel_rfl) (by kernel_rfl) (by kernel_rfl) (fun _ _ _ h => h) (wants 4 84 false rfl rfl (by simp [sz_put, hsz]) (by simp [ev_put, hsz, sz_put, e0, e5, e6, e9])) (fun w hSw => by unfold execOp; simp [ev_put, hsz, sz_put, e0, e5, e6, e9]; rw [hld.out w hSw]; rfl) HSw.out ?_
          refine heldMove (i := 7) 87 0 (.slice ao n cap) rfl rfl rfl (by kernel_rfl) (by kernel_rfl) (by kernel_rfl) (fun _ _ _ h => h) (wants 4 84 false rfl rfl (by simp [sz_put, hsz]) (by simp [ev_put, hsz, sz_put, e0, e5, e6, e9])) (by simp [ev_put, hsz, sz_put, e0, e5, e6, e9]) HSw.out ?_
          refine heldMove (i := 8) 88 6 (.int .i64 (A : Int)) rfl rfl rfl (by kernel_rfl) (by kernel_rfl) (by kernel_rfl) (fun _ _ _ h => h) (wants 4 84 false rfl rfl (by simp [sz_put, hsz]) (by simp [ev_put, hsz, sz_put, e0, e5, e6, e9])) (by simp [ev_put, hsz, sz_put, e0, e5, e6, e9]) HSw.out ?_
          refine heldRun (i := 9) 89 (.slice ao9 A cap) rfl rfl (by kernel_rfl) (by kernel_rfl) (by kernel_rfl) (fun _ _ _ h => h) (wants 4 84 false rfl rfl (by simp [sz_put, hsz]) (by simp [ev_put, hsz, sz_put, e0, e5, e6, e9])) (fun w hSw => by unfold execOp; simp [ev_put, hsz, sz_put, e0, e5, e6, e9] <;> go_simp) HSw.out ?_
          refine heldOne (i := 6) (w' := w7.alloc (Obj.cells #[] 5)) 86 (.slice (some ⟨w7.heap.size, 0, none⟩) 0 0) rfl rfl (by kernel_rfl) (wants 4 84 false rfl rfl (by simp [sz_put, hsz]) (by simp [ev_put, hsz, sz_put, e0, e5, e6, e9])) (by unfold execOp; simp [ev_put, hsz, sz_put, e0, e5, e6, e9] <;> go_simp <;> rfl) (HSw.out.alloc _) ?_
          refine heldAppend (i := 10) 90 rfl rfl (by kernel_rfl) (wants 4 84 false rfl rfl (by simp [sz_put, hsz]) (by simp [ev_put, hsz, sz_put, e0, e5, e6, e9])) (.tmp 86) (.tmp 89) rfl w7.heap.size (.slice (some ⟨w7.heap.size, 0, none⟩) 0 0) [] (by simp [ev_put, hsz, sz_put, e0, e5, e6, e9]) (own_new w7 w7.heap.size [] (Nat.le_refl _) (Nat.zero_le _)) ao9 A cap (xs.take A) HTL.out (by simp [ev_put, hsz, sz_put, e0, e5, e6, e9]) ((HR9.out _ HB7.out).keep (below_new w7 _)) (by simp; omega) (by simp) ?_
          intro v8 w8 hown8 hgr8
          obtain ⟨ao8, c8, rfl, hc8, hr8, hb8⟩ := copied hown8 hgr8 HTL.out
          have HB8 : Hid (Below w.heap.size w w8) := HB7.out.trans (hb8.mono hs7)
          have HS8 : Hid (HState w8 g2 first8 0 (xs.take A)) := HS7.out.keep hb8
          have HR8 : Hid (Row w8 ao8 (xs.take A)) := hr8
          have HSx : Hid (Bl w8 b9 (sx.map bv) 24) := HSw.out.keep hb8
          have hs8 := HB8.out.size
          clear hown8 hgr8 hr8 hb8 HSw
          refine ⟨HSx.out, ?_⟩
          refine heldCall (i := 11) 91 11 #[.slice ao8 A c8] rfl rfl (by kernel_rfl) (wants 4 84 false rfl rfl (by simp [sz_put, hsz]) (by simp [ev_put, hsz, sz_put, e0, e5, e6, e9])) (by unfold execOp; simp [ev_put, hsz, sz_put, e0, e5, e6, e9] <;> go_simp) ?_
          refine (sum_any A c8 ao8 (xs.take A) w8 (by omega) HTL.out hc8 HXA.out HR8.out (HT.out.keep HB8.out)).mono ?_
          rintro e w9 ⟨rfl, h9⟩
          rw [hsx.out]
          have HB9 : Hid (Below w.heap.size w w9) := HB8.out.trans (h9.mono hs8)
          have HS9 : Hid (HState w9 g2 first8 0 (xs.take A)) := HS8.out.keep h9
          have HSw : Hid (Bl w9 b9 (sx.map bv) 24) := HSx.out.keep h9
          clear h9 HR8 HSx
          refine ⟨_, rfl, HSw.out, ?_⟩
          refine heldRun (i := 12) 92 (.bool false) rfl rfl (by kernel_rfl) (by kernel_rfl) (by kernel_rfl) (fun _ _ _ h => h) (wants 4 84 false rfl rfl (by simp [sz_put, hsz]) (by simp [ev_put, hsz, sz_put, e0, e5, e6, e9])) (fun w hSw => by unfold execOp; simp [ev_put, hsz, sz_put, e0, e5, e6, e9] <;> go_simp) HSw.out ?_
          refine heldRun (i := 13) 93 (.bool false) rfl rfl (by kernel_rfl) (by kernel_rfl) (by kernel_rfl) (fun _ _ _ h => h) rfl (fun w hSw => by unfold execOp; simp [ev_put, hsz, sz_put, e0, e5, e6, e9] <;> go_simp) HSw.out ?_
          refine heldMove (i := 14) 94 93 (.bool false) rfl rfl rfl (by kernel_rfl) (by kernel_rfl) (by kernel_rfl) (fun _ _ _ h => h) rfl (by simp [ev_put, hsz, sz_put, e0, e5, e6, e9]) HSw.out ?_
          refine heldMove (i := 15) 95 5 (.pointer (some ⟨g2, 0, none⟩)) rfl rfl rfl (by kernel_rfl) (by kernel_rfl) (by kernel_rfl) (fun _ _ _ h => h) (wants 14 94 false rfl rfl (by simp [sz_put, hsz]) (by simp [ev_put, hsz, sz_put, e0, e5, e6, e9])) (by simp [ev_put, hsz, sz_put, e0, e5, e6, e9]) HSw.out ?_
          refine heldMove (i := 17) 97 6 (.int .i64 (A : Int)) rfl rfl rfl (by kernel_rfl) (by kernel_rfl) (by kernel_rfl) (fun _ _ _ h => h) (wants 14 94 false rfl rfl (by simp [sz_put, hsz]) (by simp [ev_put, hsz, sz_put, e0, e5, e6, e9])) (by simp [ev_put, hsz, sz_put, e0, e5, e6, e9]) HSw.out ?_
          refine heldCall (i := 16) 96 22 #[.pointer (some ⟨g2, 0, none⟩)] rfl rfl (by kernel_rfl) (wants 14 94 false rfl rfl (by simp [sz_put, hsz]) (by simp [ev_put, hsz, sz_put, e0, e5, e6, e9])) (by unfold execOp; simp [ev_put, hsz, sz_put, e0, e5, e6, e9] <;> go_simp) ?_
          refine (size_any g2 A w9 (by omega) (by have := HS9.out.1.size; rw [Nat.zero_add, ← HTL.out] at this; exact this)).mono ?_
          rintro e w10 ⟨rfl, rfl⟩
          refine ⟨_, rfl, HSw.out, ?_⟩
          refine heldRun (i := 18) 98 (.bool false) rfl rfl (by kernel_rfl) (by kernel_rfl) (by kernel_rfl) (fun _ _ _ h => h) (wants 14 94 false rfl rfl (by simp [sz_put, hsz]) (by simp [ev_put, hsz, sz_put, e0, e5, e6, e9])) (fun w hSw => by unfold execOp; simp [ev_put, hsz, sz_put, e0, e5, e6, e9] <;> go_simp) HSw.out ?_
          refine heldRun (i := 19) 99 (.bool false) rfl rfl (by kernel_rfl) (by kernel_rfl) (by kernel_rfl) (fun _ _ _ h => h) rfl (fun w hSw => by unfold execOp; simp [ev_put, hsz, sz_put, e0, e5, e6, e9] <;> go_simp) HSw.out ?_
          refine wpAnyH_done (by kernel_rfl) ?_ _
          subst hF
          simp only [put_mk, List.set_cons_succ, List.set_cons_zero]
          go_wp2
          go_roundw
          case rel => exact ⟨k + 1, A, g2, by omega, haq, by go_num, rfl, rfl, hg2, HS9, HB9⟩
          case measure => simp [intOf]; omega
    · have hdt : decide ((k : Int) < (m : Int)) = false := decide_eq_false (by omega)
      obtain ⟨ao4, hsl4, hrow4⟩ := slice_from_any ao n cap a (a : Int) rfl ha hnc
      have HR4 : Hid (Row wr ao4 (xs.drop a)) := hrow4 wr xs HN.out (HR.out.keep HB.out)
      have HL4 : Hid (n - a = (xs.drop a).length) := by show _ = _; rw [List.length_drop, ← HN.out]
      have HTL : Hid ((xs.take a).length = a) := by show _ = _; rw [List.length_take, ← HN.out]; omega
      clear hrow4
      go_wp2_with (first | (at_builtin; refine wpList_append_bytes rfl _ _ rfl wr.heap.size _ [] rfl (own_new wr wr.heap.size [] (Nat.le_refl _) (Nat.zero_le _)) ao4 (n - a) _ (xs.drop a) HL4.out rfl (HR4.out.keep (below_new wr _)) (by rw [← HL4.out]; simp only [List.length_nil]; omega) (by simp) ?_) | fail)
      rintro v2 w2 hown2 hgr2
      obtain ⟨ao2, c2, rfl, hc2, hr2, hb2, hf2⟩ := copied2 hown2 hgr2 HL4.out
      have HB2 : Hid (Below w.heap.size w w2) := HB.out.trans (hb2.mono hs)
      have HR2 : Hid (Row w2 ao2 (xs.drop a)) := hr2
      have HS2 : Hid (HState w2 g first8 0 (xs.take a)) := HS.out.keep hb2
      have HF2 : Hid (∀ x, ao2 = some x → x.block ≠ g) := fun x hx => by have := hf2 x hx; omega
      have hs2 := HB2.out.size
      clear hown2 hgr2 hr2 hb2 hf2 hsl4 HR4
      go_wp2_with fail
      refine (writeState_any g (n - a) c2 0 ao2 (xs.drop a) first8 (xs.take a) w2 HS2.out (by rw [HTL.out, ← HL4.out]; omega) (lt_drop HX.out a) HR2.out (fun _ => HF2.out) HL4.out hc2 (HT.out.keep HB2.out) (by omega)).mono ?_
      rintro e w3 ⟨rfl, h3⟩
      have HS3 : Hid (HState w3 g first8 0 xs) := by have := h3.out.1; rw [List.take_append_drop] at this; exact this
      have HB3 : Hid (Below w.heap.size w w3) := HB2.out.trans (h3.out.2.below hg hs2)
      have hs3 := HB3.out.size
      clear h3 HS2 HR2 HF2 HTL HL4
      have HSE : Hid (total first8 0 xs = sha xs) := rfl
      have HXL : Hid ((sha xs).length = 32) := sha_length _
      generalize hsx : sha xs = sx at *
      replace hsx := hide hsx
      have hq : ∀ W, (Op.equalIn 10000 24 (.agg (sx.map bv).toArray) (.agg (sx.map bv).toArray)).run Tryd.prog W = .ok true W := fun W => by rw [arr32_eq _ _ W HXL.out HXL.out]; simp
      go_wp2_with fail
      refine (live_true w3 (HT.out.keep HB3.out)).mono ?_
      rintro e w4 ⟨rfl, h4⟩
      have HS4 : Hid (HState w4 g first8 0 xs) := HS3.out.keep h4
      have HB4 : Hid (Below w.heap.size w w4) := HB3.out.trans (h4.mono hs3)
      have hs4 := HB4.out.size
      clear h4 HS3
      go_wp2_with fail
      refine (sumState_any g 0 first8 xs w4 HS4.out (HT.out.keep HB4.out)).mono ?_
      rintro e w5 ⟨rfl, h5⟩
      rw [HSE.out]
      have HS5 : Hid (HState w5 g first8 0 xs) := HS4.out.keep h5
      have HB5 : Hid (Below w.heap.size w w5) := HB4.out.trans (h5.mono hs4)
      have hs5 := HB5.out.size
      clear h5 HS4
      go_wp2_with (first | (at_builtin; refine wpList_append_g (by rfl) _ _ rfl w5.heap.size _ [] rfl (own_new w5 w5.heap.size [] (Nat.le_refl _) (Nat.zero_le _)) ao n cap xs HN.out rfl ((HR.out.keep HB5.out).keep (below_new w5 _)) (by simp; rw [← HN.out]; omega) (by simp) ?_) | fail)
      rintro v6 w6 hown6 hgr6 _
      obtain ⟨ao6, c6, rfl, hc6, hr6, hb6⟩ := copied hown6 hgr6 HN.out
      have HB6 : Hid (Below w.heap.size w w6) := HB5.out.trans (hb6.mono hs5)
      have HR6 : Hid (Row w6 ao6 xs) := hr6
      have HS6 : Hid (HState w6 g first8 0 xs) := HS5.out.keep hb6
      have hs6 := HB6.out.size
      clear hown6 hgr6 hr6 hb6 HS5
      go_wp2_with fail
      refine (sum_any n c6 ao6 xs w6 (by omega) HN.out hc6 HX.out HR6.out (HT.out.keep HB6.out)).mono ?_
      rintro e w7 ⟨rfl, h7⟩
      rw [hsx.out]
      have HS7 : Hid (HState w7 g first8 0 xs) := HS6.out.keep h7
      have HB7 : Hid (Below w.heap.size w w7) := HB6.out.trans (h7.mono hs6)
      clear h7 HS6 HR6
      go_wp2_with fail
      refine (size_any g n w7 (by omega) (by have := HS7.out.1.size; rw [Nat.zero_add, ← HN.out] at this; exact this)).mono ?_
      rintro e w8 ⟨rfl, rfl⟩
      go_wp2
      go_ret
      exact ⟨rfl, HB7.out⟩
end Go.Proofs.YtjdglpfjemoodaaDoor
