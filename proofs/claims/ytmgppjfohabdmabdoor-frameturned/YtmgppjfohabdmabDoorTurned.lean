/- The walk of the law FrameTurned: every kind, load, place, pattern: it returns true and turns nothing old. -/
import Derived.Deep.DeepCutAuto
import Derived.BigQuiet
import Derived.Test.YtmgppjfohabdmabDoorTurnMath
import Derived.Test.YtmgppjfohabdmabDoorOpenAll
import Derived.Test.YtmgppjfohabdmabDoorSealAll
import Derived.Test.YtmgppjfohabdmabDoorSmall
namespace Go.Proofs.YtmgppjfohabdmabDoor
open Go.RowKit

theorem below_drewN {B n : Nat} {w w' : World} (h : Below B w w') : Below B w (w'.drewN n) := ⟨h.os, h.tape, h.output, h.size, h.block⟩
theorem sealed_num {kind : Nat} {load : List Nat} (hl : load.length ≤ 2097152) : num4 (sealed kind load) = load.length := by
  unfold sealed
  rw [num4_append (four_length _), num4_four (by omega)]
theorem open_sealed (kd g n : Nat) (xs : List Nat) (w : World) (hk0 : 0 < kd) (hk : kd < 256) (hn : n = 9 + xs.length) (hl : xs.length ≤ 2097152) (hx : ∀ x ∈ xs, x < 256) (hb : Blk w g (sealed kd xs)) (hT : Tab w) :
    Calls Tryd.prog 25 #[.slice (some ⟨g, 0, none⟩) n n] w fun e w' => ∃ lo ln lc, e = .returned (.tuple #[.agg #[.int .u8 (kd : Int), .slice lo ln lc], .int .i64 (n : Int), .int .i64 0]) ∧ Hid (Below w.heap.size w w') := by
  have h := open_all n n (some ⟨g, 0, none⟩) (sealed kd xs) w (by rw [sealed_length]; exact hn) (Nat.le_refl _) (by omega) (sealed_lt hk hx) hb.row hT
  have h0 : openErr (sealed kd xs) = 0 := sealed_open hk0 hl
  have e1 : openKind (sealed kd xs) = kd := by unfold openKind; rw [if_pos h0]; rfl
  have e2 : openEnd (sealed kd xs) = n := by unfold openEnd; rw [if_pos h0, sealed_num hl]; exact hn.symm
  rw [e1, e2, h0] at h
  refine h.mono ?_
  rintro e w' ⟨lo, ln, lc, rfl, h⟩
  exact ⟨lo, ln, lc, rfl, h.out.2.2.2.2⟩
theorem open_sum12 (g n : Nat) (ys : List Nat) (w : World) (hn : n = ys.length) (hl : n ≤ 140737488351232) (hy : ∀ x ∈ ys, x < 256) (h12 : openErr ys = 12) (hb : Blk w g ys) (hT : Tab w) :
    Calls Tryd.prog 25 #[.slice (some ⟨g, 0, none⟩) n n] w fun e w' => e = .returned (.tuple #[.agg #[.int .u8 0, .slice none 0 0], .int .i64 0, .int .i64 12]) ∧ Hid (Below w.heap.size w w') := by
  have h := open_bad n n (some ⟨g, 0, none⟩) ys w hn (Nat.le_refl _) hl hy hb.row hT (by rw [h12]; decide)
  rw [h12] at h
  exact h

theorem bit_test (pat k : Nat) (hp : pat < 4294967296) : (bits BinOp.and IntKind.u32 ((pat : Int) / 2 ^ k) 1 == 1) = pat.testBit k := by
  have e : ((pat : Int) / 2 ^ k) = ((pat / 2 ^ k : Nat) : Int) := by simp
  have h := u32_and_nat (pat / 2 ^ k) 1 (Nat.lt_of_le_of_lt (Nat.div_le_self _ _) hp) (by decide)
  rw [Nat.and_one_is_mod] at h
  rw [e, show (1 : Int) = ((1 : Nat) : Int) from rfl, h, Nat.testBit_eq_decide_div_mod_eq]
  by_cases h1 : pat / 2 ^ k % 2 = 1
  · simp [h1]
  · have : pat / 2 ^ k % 2 = 0 := by omega
    simp [this]
theorem turn_step {wc wr : World} {g f pat k y i : Nat} {xs : List Nat} (h : Hid (Blk wr g (turnK xs f pat k) ∧ wc.grownBy wr (some g) ∧ wr.heap.size = wc.heap.size)) (hx : ∀ x ∈ xs, x < 256) (hbit : pat.testBit k = true) (hi : i = f + k) (hy : y = (turnK xs f pat k).getD (i / 8) 0) :
    Hid (Blk (wr.setCell ⟨g, i / 8, none⟩ (.int .u8 (bits BinOp.xor IntKind.u8 (y : Int) (2 ^ (i % 8) % 256)))) g (turnK xs f pat (k + 1)) ∧ wc.grownBy (wr.setCell ⟨g, i / 8, none⟩ (.int .u8 (bits BinOp.xor IntKind.u8 (y : Int) (2 ^ (i % 8) % 256)))) (some g) ∧
      (wr.setCell ⟨g, i / 8, none⟩ (.int .u8 (bits BinOp.xor IntKind.u8 (y : Int) (2 ^ (i % 8) % 256)))).heap.size = wc.heap.size) := by
  have hp := pow8_lt i
  have hy2 : y < 256 := by rw [hy]; exact lt_get (turnK_lt hx f pat k) _
  have e : (2 ^ (i % 8) % 256 : Int) = ((2 ^ (i % 8) : Nat) : Int) := by
    rw [show (2 ^ (i % 8) : Int) = ((2 ^ (i % 8) : Nat) : Int) by simp]
    exact Int.emod_eq_of_lt (Int.natCast_nonneg _) (show ((2 ^ (i % 8) : Nat) : Int) < ((256 : Nat) : Int) from Int.ofNat_lt.2 hp)
  have e2 : turnK xs f pat (k + 1) = (turnK xs f pat k).set (i / 8) (y ^^^ 2 ^ (i % 8)) := by
    show (if pat.testBit k then flip (turnK xs f pat k) (f + k) else turnK xs f pat k) = _
    rw [if_pos hbit, hy, hi]
    rfl
  rw [e, u8_xor_nat _ _ hy2 hp, e2]
  exact ⟨h.out.1.set (i / 8) _, grownBy_trans h.out.2.1 (grownBy_setCell _ _ _ _), by rw [← h.out.2.2]; simp [World.setCell]⟩

set_option maxHeartbeats 1600000 in
set_option maxRecDepth 100000 in
theorem frameTurned_walk (kd cl pat : Nat) (lo : Option Addr) (xs : List Nat) (at0 : Int) (os : Bool) (w : World) (hkd : kd < 256) (hl : xs.length ≤ 140737488351232) (hm : -9223372036854775808 ≤ at0 ∧ at0 ≤ 9223372036854775807) (hp : pat < 4294967296)
    (hx : ∀ x ∈ xs, x < 256) (hb : Row w lo xs) (hT : Tab w) :
    Calls Tryd.prog 8 #[.agg #[.int .u8 (kd : Int), .slice lo xs.length cl, .int .i64 at0, .int .u32 (pat : Int), .bool os]] w fun e w' => e = .returned (.bool true) ∧ Below w.heap.size w w' := by
  have HX : Hid (∀ x ∈ xs, x < 256) := hx
  have HBW : Hid (Row w lo xs) := hb
  have HT : Hid (Tab w) := hT
  clear hx hb hT
  go_enter Tryd.func8, Tryd.ntmps8
  go_upto_region 1 with fail
  go_cut [3, 4, 5, 6] (fun a b c d wx => a = .int .u8 (kd : Int) ∧ b = .slice lo xs.length cl ∧ c = .int .i64 at0 ∧ d = .int .u32 (pat : Int) ∧ Hid (Below w.heap.size w wx ∧ wx.cell? ⟨w.heap.size, 4, none⟩ = some (.bool os)))
  case first =>
    go_quiet (fail)
    go_wp2
    go_meet
    case rel => exact ⟨rfl, rfl, rfl, rfl, below_drewN (below_new w _), by simp⟩
  case rest =>
    obtain ⟨rfl, rfl, rfl, rfl, hc1⟩ := hcut
    have HT1 : Hid (Tab wc) := HT.out.keep hc1.out.1
    have HB1 : Hid (Row wc lo xs) := HBW.out.keep hc1.out.1
    have hs1 := hc1.out.1.size
    clear HBW
    by_cases hk0 : kd = 0
    · subst hk0
      go_wp2_with fail
      refine (live_true _ (by exact HT1.out)).mono ?_
      rintro e w2 ⟨rfl, h2⟩
      have HL : Hid (Below w.heap.size w w2) := hc1.out.1.trans (h2.mono hs1)
      clear h2
      go_wp2
      go_ret
      exact ⟨rfl, HL.out⟩
    · have hkb : ((kd : Int) == 0) = false := by rw [beq_eq_false_iff_ne]; omega
      by_cases hbig : 2097152 < xs.length
      · have hbb : decide ((2097152 : Int) < (xs.length : Int)) = true := by simp; omega
        go_wp2_with fail
        refine (live_true _ (by exact HT1.out)).mono ?_
        rintro e w2 ⟨rfl, h2⟩
        have HL : Hid (Below w.heap.size w w2) := hc1.out.1.trans (h2.mono hs1)
        clear h2
        go_wp2
        go_ret
        exact ⟨rfl, HL.out⟩
      · have hbb : decide ((2097152 : Int) < (xs.length : Int)) = false := by simp; omega
        go_wp2_with fail
        refine (seal_any cl kd lo xs.length xs _ (by omega) hkd rfl (by omega) HX.out (by exact HB1.out) (by exact HT1.out)).mono ?_
        rintro e w2 ⟨rfl, h2⟩
        have HL2 : Hid (Below w.heap.size w w2) := hc1.out.1.trans (h2.out.2.mono hs1)
        have HT2 : Hid (Tab w2) := HT1.out.keep h2.out.2
        have HP2 : Hid (Blk w2 wc.heap.size (sealed kd xs)) := h2.out.1
        have HC2 : Hid (w2.cell? ⟨w.heap.size, 4, none⟩ = some (.bool os)) := cell_kept hc1.out.2 h2.out.2
        obtain ⟨g, HG⟩ : ∃ g, Hid (g = wc.heap.size) := ⟨_, rfl⟩
        rw [← HG.out] at HP2 ⊢
        have hgw : w.heap.size ≤ g := by rw [HG.out]; exact hs1
        have hs2 := HL2.out.size
        clear h2 HG hs1 HT1 HB1 hc1
        go_wp2_with (go_at_call 12; refine (num_any _ _).mono ?_; rintro e w5 ⟨rfl, rfl⟩)
        refine (live_true _ (by exact HT2.out)).mono ?_
        rintro e w3 ⟨rfl, h3⟩
        have HL3 : Hid (Below w.heap.size w w3) := HL2.out.trans (h3.mono hs2)
        have HT3 : Hid (Tab w3) := HT2.out.keep h3
        have HP3 : Hid (Blk w3 g (sealed kd xs)) := HP2.out.keep h3
        have HC3 : Hid (w3.cell? ⟨w.heap.size, 4, none⟩ = some (.bool os)) := cell_kept HC2.out h3
        clear h3 HL2 HT2 HP2 HC2 hs2
        by_cases hp0 : pat = 0
        · subst hp0
          go_wp2_with fail
          refine (open_sealed kd g (9 + xs.length) xs _ (by omega) hkd rfl (by omega) HX.out (by exact HP3.out) (by exact HT3.out)).mono ?_
          rintro e w4 ⟨lo', ln, lc, rfl, h4⟩
          have HL4 : Hid (Below w.heap.size w w4) := HL3.out.trans (h4.out.mono HL3.out.size)
          have hs4 := HL4.out.size
          clear h4
          go_wp2_with (go_at_call 12; refine (num_any _ _).mono ?_; rintro e w5 ⟨rfl, rfl⟩)
          go_ret
          exact ⟨by simp, HL4.out.alloc hs4 _⟩
        · have hpb : ((pat : Int) == 0) = false := by rw [beq_eq_false_iff_ne]; omega
          have hc4 := HC3.out
          go_upto_if 79 with fail
          go_cut [12, 13] (fun a b wx => ∃ F B : Nat, a = .int .i64 (F : Int) ∧ b = .int .i64 (B : Int) ∧ Hid (F = 64 ∧ B = 8 * (1 + xs.length) ∨ F = 32 ∧ B = 32) ∧ wx = w3)
          case first =>
            cases os
            · go_wp2
              go_meet
              case rel => exact ⟨64, 8 * (1 + xs.length), rfl, by simp, .inl ⟨rfl, rfl⟩, rfl⟩
            · go_wp2
              go_meet
              case rel => exact ⟨32, 32, rfl, rfl, .inr ⟨rfl, rfl⟩, rfl⟩
          case rest =>
            obtain ⟨F, B, rfl, rfl, HF, hw⟩ := hcut
            subst hw
            have hB : 0 < B ∧ B ≤ 16777224 := by rcases HF.out with h | h <;> omega
            have hF : F ≤ 64 := by rcases HF.out with h | h <;> omega
            clear hc4
            go_upto_if 81 with fail
            go_cut [5] (fun a wx => ∃ A0 : Nat, a = .int .i64 (A0 : Int) ∧ A0 ≤ 9223372036854775807 ∧ wx = wc)
            case first =>
              by_cases hneg : at0 < 0
              · have hnb : decide (at0 < 0) = true := by simp [hneg]
                go_wp2
                go_meet
                case rel => exact ⟨(-(at0 + 1)).toNat, by congr 1; omega, by omega, rfl⟩
              · have hnb : decide (at0 < 0) = false := by simp [hneg]
                go_wp2
                go_meet
                case rel => exact ⟨at0.toNat, by congr 1; omega, by omega, rfl⟩
            case rest =>
              obtain ⟨A0, rfl, hA0, hw⟩ := hcut
              subst hw
              go_upto_region 17 with fail
              go_cut [5] (fun a wx => ∃ t : Nat, a = .int .i64 (t : Int) ∧ t < B ∧ wx = wc)
              case first =>
                go_wp2
                go_meet
                case rel => exact ⟨A0 % B, by simp, Nat.mod_lt _ hB.1, rfl⟩
              case rest =>
                obtain ⟨t, rfl, ht, hw⟩ := hcut
                subst hw
                go_wp2_with fail
                go_loopw [14, 15] (fun c i wr => ∃ k cn : Nat, (k ≤ 32 ∧ t + k ≤ B ∧ cn ≤ k) ∧ c = .int .i64 (cn : Int) ∧ i = .int .i64 k ∧ Hid (cn = cntK pat k) ∧ Hid (Blk wr g (turnK (sealed kd xs) (F + t) pat k) ∧ wc.grownBy wr (some g) ∧ wr.heap.size = wc.heap.size)) (fun _ i _ => 32 - (intOf i).toNat)
                case atStart => exact ⟨0, 0, ⟨by omega, by omega, by omega⟩, rfl, rfl, rfl, HP3.out, World.grownBy.refl _ _, rfl⟩
                case round =>
                  obtain ⟨k, cn, hk, rfl, rfl, HCN, HR⟩ := hrel
                  by_cases hlt : k < 32 ∧ t + k < B
                  · by_cases hbit : pat.testBit k = true
                    · have hbt : (bits BinOp.and IntKind.u32 ((pat : Int) / 2 ^ k) 1 == 1) = true := by rw [bit_test pat k hp]; exact hbit
                      have hln : (turnK (sealed kd xs) (F + t) pat k).length = 9 + xs.length := by rw [turnK_length, sealed_length]
                      have hbl : (F + t + k) / 8 < 9 + xs.length := by rcases HF.out with h | h <;> omega
                      have hidx : 0 ≤ ((F : Int) + t + k) / 8 ∧ ((F : Int) + t + k) / 8 < (xs.length : Int) + 9 := by omega
                      obtain ⟨y, HY⟩ : ∃ y, Hid (y = (turnK (sealed kd xs) (F + t) pat k).getD ((F + t + k) / 8) 0) := ⟨_, rfl⟩
                      have hcell := HR.out.1.cell ((F + t + k) / 8) (by rw [hln]; exact hbl)
                      rw [← HY.out] at hcell
                      have hfz := HR.out.1.frozen ((F + t + k) / 8)
                      clear HT HT3 HP3 HC3 HL3
                      go_wp2
                      go_roundw
                      case rel => exact ⟨k + 1, cn + 1, ⟨by omega, by omega, by omega⟩, rfl, rfl, by show _ = _; rw [cntK, if_pos hbit, HCN.out], turn_step HR (sealed_lt hkd HX.out) hbit rfl HY.out⟩
                      case measure => simp [intOf]; omega
                    · have hbt : (bits BinOp.and IntKind.u32 ((pat : Int) / 2 ^ k) 1 == 1) = false := by rw [bit_test pat k hp]; simpa using hbit
                      clear HT HT3 HP3 HC3 HL3
                      go_wp2
                      go_roundw
                      case rel => exact ⟨k + 1, cn, ⟨by omega, by omega, by omega⟩, rfl, rfl, by show _ = _; rw [cntK, if_neg hbit, HCN.out], by show _ ∧ _; rw [turnK, if_neg hbit]; exact HR.out⟩
                      case measure => simp [intOf]; omega
                  · rcases (show k = 32 ∨ (k < 32 ∧ t + k = B) by omega) with hk32 | ⟨hk32, hkB⟩
                    · have hlb : decide ((k : Int) < 32) = false := by simp; omega
                      clear hk32
                      have HBW : Hid (Below w.heap.size w wr) := HL3.out.grown HR.out.2.1 HL3.out.size (fun j hj => by cases hj; exact hgw)
                      have HTR : Hid (Tab wr) := HT.out.keep HBW.out
                      have hsr := HBW.out.size
                      by_cases h0 : cn = 0
                      · have HPR : Hid (Blk wr g (sealed kd xs)) := by
                          show Blk wr g (sealed kd xs)
                          have := HR.out.1
                          rw [turnK_none (HCN.out.symm.trans h0)] at this
                          exact this
                        have hcb : ((cn : Int) == 0) = true := by rw [h0]; rfl
                        clear HR HP3 HC3 HT3
                        go_wp2_with fail
                        refine (open_sealed kd g (9 + xs.length) xs _ (by omega) hkd rfl (by omega) HX.out (by exact HPR.out) (by exact HTR.out)).mono ?_
                        rintro e w4 ⟨lo', ln, lc, rfl, h4⟩
                        have HL4 : Hid (Below w.heap.size w w4) := HBW.out.trans (h4.out.mono hsr)
                        have hs4 := HL4.out.size
                        clear h4
                        go_wp2_with (go_at_call 12; refine (num_any _ _).mono ?_; rintro e w5 ⟨rfl, rfl⟩)
                        go_ret
                        exact ⟨by simp, HL4.out.alloc hs4 _⟩
                      · have HPR : Hid (Blk wr g (turnK (sealed kd xs) (F + t) pat k)) := HR.out.1
                        have hcb : ((cn : Int) == 0) = false := by rw [beq_eq_false_iff_ne]; omega
                        have hmod : pat % 2 ^ k ≠ 0 := fun h => h0 (HCN.out.trans (cntK_mod h))
                        have H12 : Hid (openErr (turnK (sealed kd xs) (F + t) pat k) = 12) := by
                          rcases HF.out with ⟨rfl, rfl⟩ | ⟨rfl, rfl⟩
                          · exact turned_load hkd HX.out (by omega) hk.1 hk.2.1 hmod
                          · exact turned_sum (by omega) hk.2.1 hmod
                        clear HR HP3 HC3 HT3 hmod
                        go_wp2_with fail
                        refine (open_sum12 g (9 + xs.length) _ _ (by rw [turnK_length, sealed_length]) (by omega) (turnK_lt (sealed_lt hkd HX.out) _ _ _) H12.out (by exact HPR.out) (by exact HTR.out)).mono ?_
                        rintro e w4 ⟨rfl, h4⟩
                        have HL4 : Hid (Below w.heap.size w w4) := HBW.out.trans (h4.out.mono hsr)
                        have hs4 := HL4.out.size
                        clear h4
                        go_wp2_with (go_at_call 12; refine (num_any _ _).mono ?_; rintro e w5 ⟨rfl, rfl⟩)
                        go_ret
                        exact ⟨by simp, HL4.out.alloc hs4 _⟩
                    · have hlb : decide ((t : Int) + k < B) = false := by simp; omega
                      clear hkB
                      have HBW : Hid (Below w.heap.size w wr) := HL3.out.grown HR.out.2.1 HL3.out.size (fun j hj => by cases hj; exact hgw)
                      have HTR : Hid (Tab wr) := HT.out.keep HBW.out
                      have hsr := HBW.out.size
                      by_cases h0 : cn = 0
                      · have HPR : Hid (Blk wr g (sealed kd xs)) := by
                          show Blk wr g (sealed kd xs)
                          have := HR.out.1
                          rw [turnK_none (HCN.out.symm.trans h0)] at this
                          exact this
                        have hcb : ((cn : Int) == 0) = true := by rw [h0]; rfl
                        clear HR HP3 HC3 HT3
                        go_wp2_with fail
                        refine (open_sealed kd g (9 + xs.length) xs _ (by omega) hkd rfl (by omega) HX.out (by exact HPR.out) (by exact HTR.out)).mono ?_
                        rintro e w4 ⟨lo', ln, lc, rfl, h4⟩
                        have HL4 : Hid (Below w.heap.size w w4) := HBW.out.trans (h4.out.mono hsr)
                        have hs4 := HL4.out.size
                        clear h4
                        go_wp2_with (go_at_call 12; refine (num_any _ _).mono ?_; rintro e w5 ⟨rfl, rfl⟩)
                        go_ret
                        exact ⟨by simp, HL4.out.alloc hs4 _⟩
                      · have HPR : Hid (Blk wr g (turnK (sealed kd xs) (F + t) pat k)) := HR.out.1
                        have hcb : ((cn : Int) == 0) = false := by rw [beq_eq_false_iff_ne]; omega
                        have hmod : pat % 2 ^ k ≠ 0 := fun h => h0 (HCN.out.trans (cntK_mod h))
                        have H12 : Hid (openErr (turnK (sealed kd xs) (F + t) pat k) = 12) := by
                          rcases HF.out with ⟨rfl, rfl⟩ | ⟨rfl, rfl⟩
                          · exact turned_load hkd HX.out (by omega) hk.1 hk.2.1 hmod
                          · exact turned_sum (by omega) hk.2.1 hmod
                        clear HR HP3 HC3 HT3 hmod
                        go_wp2_with fail
                        refine (open_sum12 g (9 + xs.length) _ _ (by rw [turnK_length, sealed_length]) (by omega) (turnK_lt (sealed_lt hkd HX.out) _ _ _) H12.out (by exact HPR.out) (by exact HTR.out)).mono ?_
                        rintro e w4 ⟨rfl, h4⟩
                        have HL4 : Hid (Below w.heap.size w w4) := HBW.out.trans (h4.out.mono hsr)
                        have hs4 := HL4.out.size
                        clear h4
                        go_wp2_with (go_at_call 12; refine (num_any _ _).mono ?_; rintro e w5 ⟨rfl, rfl⟩)
                        go_ret
                        exact ⟨by simp, HL4.out.alloc hs4 _⟩
end Go.Proofs.YtmgppjfohabdmabDoor
