/- The contract of utf8.FullRuneInString: does a text that is not empty begin with a whole character, or with none? -/
import Derived.Test.YtlebockgdonceaaGreatDoorKDec
import Derived.Test.YtlebockgdonceaaGreatDoorJBase
namespace Go.Proofs.YtlebockgdonceaaGreatDoor
open Go.RowKit

/-- The two tables of utf8, as they are laid. -/
def Tabs (w : World) : Prop := Lib.Utf8Tabs 0 1 w
theorem Tabs.keep {w w' : World} (h : Tabs w) (hb : Below w.heap.size w w') : Tabs w' :=
  ⟨fun c hc => cell_kept (h.1 c hc) hb, fun i hi => ⟨cell_kept (h.2 i hi).1 hb, cell_kept (h.2 i hi).2 hb⟩⟩
theorem Tabs.but {w w' : World} {R : Nat} (h : Tabs w) (hb : But R w w') (hR : 2 ≤ R) : Tabs w' := by
  have key : ∀ a v, w.cell? a = some v → a.block < 2 → w'.cell? a = some v := fun a v ha h2 => by
    rw [World.cell?_of_block (hb.block a.block (World.block_lt_of_cell? w a ha) (by omega))]; exact ha
  exact ⟨fun c hc => key _ _ (h.1 c hc) (by show (0 : Nat) < 2; omega), fun i hi => ⟨key _ _ (h.2 i hi).1 (by show (1 : Nat) < 2; omega), key _ _ (h.2 i hi).2 (by show (1 : Nat) < 2; omega)⟩⟩
def Ch.isShort : Ch → Bool | .error true => true | _ => false
def fullB (l : By) : Bool := !(chr l).isShort

theorem lead_first {c : Nat} (h : 2 ≤ Lib.firstT c % 8) : lead c = (Lib.firstT c % 8, Lib.accLo (Lib.firstT c / 16), Lib.accHi (Lib.firstT c / 16)) := by
  have hx : Lib.firstT c < 240 := by have := Lib.firstT_cases c; omega
  rcases Lib.firstT_low hx with h | h | h | h | h | h | h
  · rw [Lib.firstT_C2 h, lead_C2 h]; rfl
  · rw [Lib.firstT_E0 h, lead_E0 h]; rfl
  · rw [Lib.firstT_E1 h, lead_E1 h]; rfl
  · rw [Lib.firstT_ED h, lead_ED h]; rfl
  · rw [Lib.firstT_F0 h, lead_F0 h]; rfl
  · rw [Lib.firstT_F1 h, lead_F1 h]; rfl
  · rw [Lib.firstT_F4 h, lead_F4 h]; rfl
theorem chr_bt (s : ByteArray) (hn : 0 < s.size) : chr (sbytes s) = chrN s.size (bt (sbytes s) 0) (bt (sbytes s) 1) (bt (sbytes s) 2) (bt (sbytes s) 3) := by
  have := chr_chrN (sbytes s) (fun h => by have := sbytes_length s; rw [h] at this; simp at this; omega)
  rw [sbytes_length] at this
  exact this
theorem full_ge (s : ByteArray) (hn : 0 < s.size) (h : Lib.firstT (bt (sbytes s) 0) % 8 ≤ s.size) : fullB (sbytes s) = true := by
  unfold fullB
  rw [chr_bt s hn]
  by_cases h2 : 2 ≤ Lib.firstT (bt (sbytes s) 0) % 8
  · have hl := lead_first h2
    unfold chrN
    rw [hl]
    simp only
    have h4 : Lib.firstT (bt (sbytes s) 0) % 8 ≤ 4 := by have := Lib.firstT_cases (bt (sbytes s) 0); omega
    generalize Lib.firstT (bt (sbytes s) 0) % 8 = z at *
    rw [if_neg (by omega), if_neg (by omega), if_neg (by omega)]
    split
    · split
      · rfl
      · rw [if_neg (by omega)]
        split
        · split
          · rfl
          · rw [if_neg (by omega)]
            split <;> rfl
        · rfl
    · rfl
  · have hl : (lead (bt (sbytes s) 0)).1 ≤ 1 := by
      have hb := lt_get (sbytes_lt s) 0
      rw [show (sbytes s).getD 0 0 = bt (sbytes s) 0 from rfl] at hb
      generalize bt (sbytes s) 0 = b at *
      by_cases g1 : b < 128
      · unfold lead; rw [if_pos g1]; decide
      · by_cases g2 : b < 194
        · rw [lead_lo ⟨by omega, g2⟩]; decide
        · by_cases g3 : 244 < b
          · rw [lead_hi g3]; decide
          · exfalso
            rcases (show (194 ≤ b ∧ b < 224) ∨ b = 224 ∨ ((225 ≤ b ∧ b < 237) ∨ (238 ≤ b ∧ b < 240)) ∨ b = 237 ∨ b = 240 ∨ (241 ≤ b ∧ b < 244) ∨ b = 244 by omega) with h | h | h | h | h | h | h
            · rw [Lib.firstT_C2 h] at h2; omega
            · rw [Lib.firstT_E0 h] at h2; omega
            · rw [Lib.firstT_E1 h] at h2; omega
            · rw [Lib.firstT_ED h] at h2; omega
            · rw [Lib.firstT_F0 h] at h2; omega
            · rw [Lib.firstT_F1 h] at h2; omega
            · rw [Lib.firstT_F4 h] at h2; omega
    unfold chrN
    rcases (show (lead (bt (sbytes s) 0)).1 = 0 ∨ (lead (bt (sbytes s) 0)).1 = 1 by omega) with e | e
    · rw [if_pos e]; rfl
    · rw [if_neg (by omega), if_pos e]; rfl
theorem full_lt (s : ByteArray) (hn : 0 < s.size) (h : ¬ Lib.firstT (bt (sbytes s) 0) % 8 ≤ s.size) : fullB (sbytes s) = (decide (1 < s.size) && decide (bt (sbytes s) 1 < Lib.accLo (Lib.firstT (bt (sbytes s) 0) / 16) ∨ Lib.accHi (Lib.firstT (bt (sbytes s) 0) / 16) < bt (sbytes s) 1) || decide (2 < s.size) && decide (bt (sbytes s) 2 < 128 ∨ 191 < bt (sbytes s) 2)) := by
  unfold fullB
  rw [chr_bt s hn]
  have h2 : 2 ≤ Lib.firstT (bt (sbytes s) 0) % 8 := by omega
  have hl := lead_first h2
  have h4 : Lib.firstT (bt (sbytes s) 0) % 8 ≤ 4 := by have := Lib.firstT_cases (bt (sbytes s) 0); omega
  unfold chrN
  rw [hl]
  simp only
  generalize Lib.firstT (bt (sbytes s) 0) % 8 = z at *
  generalize Lib.accLo (Lib.firstT (bt (sbytes s) 0) / 16) = lo at *
  generalize Lib.accHi (Lib.firstT (bt (sbytes s) 0) / 16) = hi at *
  rw [if_neg (by omega), if_neg (by omega)]
  by_cases a1 : s.size < 2
  · rw [if_pos a1]
    simp [Ch.isShort, show ¬ 1 < s.size by omega, show ¬ 2 < s.size by omega]
  · rw [if_neg a1]
    by_cases a2 : lo ≤ bt (sbytes s) 1 ∧ bt (sbytes s) 1 ≤ hi
    · rw [if_pos a2, if_neg (by omega)]
      have a3 : decide (bt (sbytes s) 1 < lo ∨ hi < bt (sbytes s) 1) = false := by simp; omega
      rw [a3]
      by_cases a4 : s.size < 3
      · rw [if_pos a4]
        simp [Ch.isShort, show ¬ 2 < s.size by omega]
      · rw [if_neg a4]
        by_cases a5 : 128 ≤ bt (sbytes s) 2 ∧ bt (sbytes s) 2 ≤ 191
        · rw [if_pos a5, if_neg (by omega), if_pos (by omega)]
          have a6 : decide (bt (sbytes s) 2 < 128 ∨ 191 < bt (sbytes s) 2) = false := by simp; omega
          rw [a6]
          simp [Ch.isShort]
        · rw [if_neg a5]
          have a6 : decide (bt (sbytes s) 2 < 128 ∨ 191 < bt (sbytes s) 2) = true := by simp; omega
          rw [a6]
          simp [Ch.isShort]; omega
    · rw [if_neg a2]
      have a3 : decide (bt (sbytes s) 1 < lo ∨ hi < bt (sbytes s) 1) = true := by simp; omega
      rw [a3]
      simp [Ch.isShort]; omega

set_option maxHeartbeats 2000000 in
set_option maxRecDepth 100000 in
theorem full_any (s : ByteArray) (w : World) (hn : 0 < s.size) (hT : Tabs w) :
    Calls Tryz.prog 62 #[.string s] w fun e w' => e = .returned (.bool (fullB (sbytes s))) ∧ Below w.heap.size w w' := by
  have hc := lt_get (sbytes_lt s) 0
  obtain ⟨c, hcc⟩ : ∃ c, c = (sbytes s).getD 0 0 := ⟨_, rfl⟩
  have hi0 : ∀ w, (Instr.index 9 (.string s) (.int .i64 0)).run Tryz.prog w = .ok (.int .u8 (c : Int)) w := fun w => by rw [hcc]; exact str_index s 0 hn w
  rw [← hcc] at hc
  have hx := hT.1 c hc
  obtain ⟨x, hxx⟩ : ∃ x, x = Lib.firstT c := ⟨_, rfl⟩
  rw [← hxx] at hx
  have hfc := Lib.firstT_cases c
  rw [← hxx] at hfc
  have HCC := hide hcc
  have HXX := hide hxx
  have hxl : x < 256 := by omega
  have hlo := (hT.2 (x / 16) (by omega)).1
  have hhi := (hT.2 (x / 16) (by omega)).2
  rw [Nat.mul_comm] at hlo hhi
  have hz : ((s.size : Int) == 0) = false := by rw [beq_eq_false_iff_ne]; omega
  clear hcc hxx
  by_cases hge : x % 8 ≤ s.size
  · have HF : Hid (fullB (sbytes s) = true) := full_ge s hn (by show Lib.firstT ((sbytes s).getD 0 0) % 8 ≤ _; rw [← HCC.out, ← HXX.out]; exact hge)
    have hgi : decide (((x : Int) % 8) ≤ (s.size : Int)) = true := by simp; omega
    go_enter Tryz.func62, Tryz.ntmps62
    go_wp2_with fail
    go_ret
    exact ⟨ret_bool HF.out.symm, Below.refl _ _⟩
  · have HF : Hid (fullB (sbytes s) = (decide (1 < s.size) && decide (bt (sbytes s) 1 < Lib.accLo (x / 16) ∨ Lib.accHi (x / 16) < bt (sbytes s) 1) || decide (2 < s.size) && decide (bt (sbytes s) 2 < 128 ∨ 191 < bt (sbytes s) 2))) := by
      have := full_lt s hn (by show ¬ Lib.firstT ((sbytes s).getD 0 0) % 8 ≤ _; rw [← HCC.out, ← HXX.out]; exact hge)
      rw [show bt (sbytes s) 0 = c from HCC.out.symm, ← HXX.out] at this
      exact this
    have hgi : decide (((x : Int) % 8) ≤ (s.size : Int)) = false := by simp; omega
    have hb1 := lt_get (sbytes_lt s) 1
    have hb2 := lt_get (sbytes_lt s) 2
    have hi1 : 1 < s.size → ∀ w, (Instr.index 9 (.string s) (.int .i64 1)).run Tryz.prog w = .ok (.int .u8 (bt (sbytes s) 1 : Int)) w := fun h w => str_index s 1 h w
    have hi2 : 2 < s.size → ∀ w, (Instr.index 9 (.string s) (.int .i64 2)).run Tryz.prog w = .ok (.int .u8 (bt (sbytes s) 2 : Int)) w := fun h w => str_index s 2 h w
    generalize bt (sbytes s) 1 = b1 at *
    generalize bt (sbytes s) 2 = b2 at *
    generalize Lib.accLo (x / 16) = lo at *
    generalize Lib.accHi (x / 16) = hi at *
    have HI1 := hide hi1
    have HI2 := hide hi2
    clear hi1 hi2 hge hfc
    by_cases a1 : 1 < s.size
    · have q1 : decide ((1 : Int) < (s.size : Int)) = true := by simp; omega
      have hj1 := HI1.out a1
      by_cases a2 : b1 < lo
      · have q2 : decide ((b1 : Int) < (lo : Int)) = true := by simp; omega
        have HG : Hid (fullB (sbytes s) = true) := by show _ = _; rw [HF.out, decide_eq_true a1, decide_eq_true (Or.inl a2)]; rfl
        go_enter Tryz.func62, Tryz.ntmps62
        go_wp2_with fail
        go_quiet (fail)
        go_wp2_with fail
        go_ret
        exact ⟨ret_bool HG.out.symm, below_drewN (below_new _ _) _⟩
      · have q2 : decide ((b1 : Int) < (lo : Int)) = false := by simp; omega
        by_cases a3 : hi < b1
        · have q3 : decide ((hi : Int) < (b1 : Int)) = true := by simp; omega
          have HG : Hid (fullB (sbytes s) = true) := by show _ = _; rw [HF.out, decide_eq_true a1, decide_eq_true (Or.inr a3)]; rfl
          go_enter Tryz.func62, Tryz.ntmps62
          go_wp2_with fail
          go_quiet (fail)
          go_wp2_with fail
          go_ret
          exact ⟨ret_bool HG.out.symm, below_drewN (below_new _ _) _⟩
        · have q3 : decide ((hi : Int) < (b1 : Int)) = false := by simp; omega
          have HX : Hid (decide (b1 < lo ∨ hi < b1) = false) := by show _ = _; simp; omega
          by_cases a4 : 2 < s.size
          · have q4 : decide ((2 : Int) < (s.size : Int)) = true := by simp; omega
            have hj2 := HI2.out a4
            by_cases a5 : b2 < 128
            · have q5 : decide ((b2 : Int) < 128) = true := by simp; omega
              have HG : Hid (fullB (sbytes s) = true) := by show _ = _; rw [HF.out, HX.out, decide_eq_true a4, decide_eq_true (Or.inl a5)]; simp
              go_enter Tryz.func62, Tryz.ntmps62
              go_wp2_with fail
              go_quiet (fail)
              go_wp2_with fail
              go_ret
              exact ⟨ret_bool HG.out.symm, below_drewN (below_new _ _) _⟩
            · have q5 : decide ((b2 : Int) < 128) = false := by simp; omega
              by_cases a6 : 191 < b2
              · have q6 : decide ((191 : Int) < (b2 : Int)) = true := by simp; omega
                have HG : Hid (fullB (sbytes s) = true) := by show _ = _; rw [HF.out, HX.out, decide_eq_true a4, decide_eq_true (Or.inr a6)]; simp
                go_enter Tryz.func62, Tryz.ntmps62
                go_wp2_with fail
                go_quiet (fail)
                go_wp2_with fail
                go_ret
                exact ⟨ret_bool HG.out.symm, below_drewN (below_new _ _) _⟩
              · have q6 : decide ((191 : Int) < (b2 : Int)) = false := by simp; omega
                have HY : Hid (decide (b2 < 128 ∨ 191 < b2) = false) := by show _ = _; simp; omega
                have HG : Hid (fullB (sbytes s) = false) := by show _ = _; rw [HF.out, HX.out, HY.out]; simp
                go_enter Tryz.func62, Tryz.ntmps62
                go_wp2_with fail
                go_quiet (fail)
                go_wp2_with fail
                go_ret
                exact ⟨ret_bool HG.out.symm, below_drewN (below_new _ _) _⟩
          · have q4 : decide ((2 : Int) < (s.size : Int)) = false := by simp; omega
            have HG : Hid (fullB (sbytes s) = false) := by show _ = _; rw [HF.out, HX.out, decide_eq_false a4]; simp
            go_enter Tryz.func62, Tryz.ntmps62
            go_wp2_with fail
            go_quiet (fail)
            go_wp2_with fail
            go_ret
            exact ⟨ret_bool HG.out.symm, below_drewN (below_new _ _) _⟩
    · have q1 : decide ((1 : Int) < (s.size : Int)) = false := by simp; omega
      have a4 : ¬ 2 < s.size := by omega
      have q4 : decide ((2 : Int) < (s.size : Int)) = false := by simp; omega
      have HG : Hid (fullB (sbytes s) = false) := by show _ = _; rw [HF.out, decide_eq_false a1, decide_eq_false a4]; simp
      go_enter Tryz.func62, Tryz.ntmps62
      go_wp2_with fail
      go_quiet (fail)
      go_wp2_with fail
      go_ret
      exact ⟨ret_bool HG.out.symm, below_drewN (below_new _ _) _⟩
end Go.Proofs.YtlebockgdonceaaGreatDoor
