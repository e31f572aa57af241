/- The walk of the law JtextFirst: every text: true, and nothing old turns. -/
import Derived.Test.YtehpgkgdjojhpabGreatDoorKLive
import Derived.Test.YtehpgkgdjojhpabGreatDoorKMath
import Derived.Test.YtehpgkgdjojhpabGreatDoorKBase
namespace Go.Proofs.YtehpgkgdjojhpabGreatDoor
open Go.RowKit

theorem parse_ok_place {s : By} (h : (parse s).2.1 = 0) : (parse s).2.2 = 0 ∧ s.length ≤ 16384 := by
  unfold parse at h ⊢
  split
  · rename_i hl
    rw [if_pos hl] at h
    cases h
  · rename_i hl
    rw [if_neg hl] at h
    refine ⟨?_, by omega⟩
    cases hv : vAt s 32 (skip s 0) with
    | error e p =>
      rw [hv] at h
      exact absurd h ((vAt_local 32).ill s [] (skip s 0) e p (skip_le (by simp)) hv).2.2.2.1
    | ok v p =>
      rw [hv] at h
      simp only at h ⊢
      split
      · rename_i h2
        rw [if_pos h2] at h
        cases h
      · rfl
theorem sbytes_app (a b : ByteArray) : sbytes (a ++ b) = sbytes a ++ sbytes b := by
  unfold sbytes
  rw [ByteArray.data_append, Array.toList_append, List.map_append]

set_option maxHeartbeats 2000000 in
set_option maxRecDepth 100000 in
theorem jtextFirst_walk (s : ByteArray) (w : World) (hs : s.size ≤ 9223372036854775807) (hT : Tabs w) (hZ : ZT w) (hz : 6 ≤ w.heap.size) :
    Calls Tryz.prog 4 #[.string s] w fun e w' => e = .returned (.bool true) ∧ Below w.heap.size w w' := by
  have HP1 := hide (parse_any s w hT (by omega) hs)
  have HT := hide hT
  have HZ := hide hZ
  have HL := hide (sbytes_length s)
  have HF := hide (parse_first (s := sbytes s))
  have HZE := hide (parse_zero (s := sbytes s))
  have HOK := hide (parse_ok_place (s := sbytes s))
  obtain ⟨j, er, pl, hO⟩ : ∃ j er pl, parse (sbytes s) = (j, er, pl) := ⟨_, _, _, rfl⟩
  rw [hO] at HP1 HF HZE HOK
  simp only at HP1 HF HZE HOK
  clear hT hZ hO
  go_enter Tryz.func4, Tryz.ntmps4
  go_wp2_with fail
  refine HP1.out.mono ?_
  rintro ε w1 ⟨x, rfl, _, hb⟩
  have HB1 : Hid (Below w.heap.size w (w1.alloc (.cells #[.int .i64 x.k, .string x.t, .slice x.an x.ln x.cn, .slice x.ai x.li x.ci] 25))) := hb.alloc hb.size _
  clear hb HP1
  rw [show x.val = .agg #[.int .i64 x.k, .string x.t, .slice x.an x.ln x.cn, .slice x.ai x.li x.ci] from rfl]
  go_wp2_with fail
  generalize w1.alloc (.cells #[.int .i64 x.k, .string x.t, .slice x.an x.ln x.cn, .slice x.ai x.li x.ci] 25) = w2 at *
  refine (num_any _ _).mono ?_
  rintro e w5 ⟨rfl, rfl⟩
  have hz2 := HB1.out.size
  by_cases he : er = 0
  · obtain ⟨hp0, hl⟩ := HOK.out he
    rw [HL.out] at hl
    subst hp0
    have HZ2 : Hid (s.size < 16384 → (parse (sbytes (s ++ ⟨#[0]⟩))).2 = (4, s.size)) := fun h => by
      rw [sbytes_app]
      have := (HZE.out he (by rw [HL.out]; exact h)).2
      rw [HL.out] at this
      exact this
    have hse : (s ++ (⟨#[0]⟩ : ByteArray)).size = s.size + 1 := by rw [ByteArray.size_append]; rfl
    have HP2 := hide (parse_any (s ++ ⟨#[0]⟩) w5 (HT.out.keep HB1.out) (by omega) (by omega))
    have hadd : ∀ w, (Op.stringOp .add s ⟨#[0]⟩).run Tryz.prog w = .ok (.string (s ++ ⟨#[0]⟩)) w := fun w => run_string_add_sum (P := Tryz.prog) (w := w) s ⟨#[0]⟩ (by show s.size + 1 ≤ _; omega)
    have he0 : ((er : Int) == 0) = true := by simp; omega
    clear he HOK HF HZE hse
    generalize s ++ (⟨#[0]⟩ : ByteArray) = s2 at *
    obtain ⟨j2, e2, p2, hO2⟩ : ∃ j er pl, parse (sbytes s2) = (j, er, pl) := ⟨_, _, _, rfl⟩
    rw [hO2] at HP2 HZ2
    simp only at HP2 HZ2
    go_wp2_with fail
    refine HP2.out.mono ?_
    rintro ε w6 ⟨y, rfl, _, hb⟩
    have HB2 : Hid (Below w.heap.size w (w6.alloc (.cells #[.int .i64 y.k, .string y.t, .slice y.an y.ln y.cn, .slice y.ai y.li y.ci] 25))) := (HB1.out.trans ⟨hb.os, hb.tape, hb.output, hb.size, fun k hk => hb.block k (by omega)⟩).alloc (by have := hb.size; omega) _
    clear hb HP2 HB1
    rw [show y.val = .agg #[.int .i64 y.k, .string y.t, .slice y.an y.ln y.cn, .slice y.ai y.li y.ci] from rfl]
    by_cases hlong : s.size = 16384
    · have hl1 : ((s.size : Int) == 16384) = true := by rw [hlong]; rfl
      go_wp2_with fail
      generalize w6.alloc (.cells #[.int .i64 y.k, .string y.t, .slice y.an y.ln y.cn, .slice y.ai y.li y.ci] 25) = w7 at *
      refine (live_true w7 (HT.out.keep HB2.out) (HZ.out.keep HB2.out) (by have := HB2.out.size; omega)).mono ?_
      rintro e w8 ⟨rfl, hb8⟩
      have HB8 : Hid (Below w.heap.size w w8) := HB2.out.trans ⟨hb8.os, hb8.tape, hb8.output, hb8.size, fun k hk => hb8.block k (by have := HB2.out.size; omega)⟩
      clear hb8
      go_wp2_with fail
      go_ret
      exact ⟨rfl, HB8.out⟩
    · have hl1 : ((s.size : Int) == 16384) = false := by simp; omega
      have h4 := HZ2.out (by omega)
      injection h4 with h5 h6
      subst h5; subst h6
      go_wp2_with fail
      generalize w6.alloc (.cells #[.int .i64 y.k, .string y.t, .slice y.an y.ln y.cn, .slice y.ai y.li y.ci] 25) = w7 at *
      refine (live_true w7 (HT.out.keep HB2.out) (HZ.out.keep HB2.out) (by have := HB2.out.size; omega)).mono ?_
      rintro e w8 ⟨rfl, hb8⟩
      have HB8 : Hid (Below w.heap.size w w8) := HB2.out.trans ⟨hb8.os, hb8.tape, hb8.output, hb8.size, fun k hk => hb8.block k (by have := HB2.out.size; omega)⟩
      clear hb8
      go_wp2_with fail
      refine (num_any _ _).mono ?_
      rintro e w9 ⟨rfl, rfl⟩
      go_wp2_with fail
      go_ret
      exact ⟨rfl, HB8.out⟩
  · obtain ⟨f1, f2, f3⟩ := HF.out he
    rw [HL.out] at f1 f2
    have he0 : ((er : Int) == 0) = false := by simp; omega
    have hneg : ¬ ((pl : Int) < 0) := by omega
    have hgt : ¬ ((s.size : Int) < (pl : Int)) := by omega
    have hsl := extract_bstr s 0 pl
    rw [List.drop_zero] at hsl
    have HSB : Hid (sbytes (bstr ((sbytes s).take pl)) = (sbytes s).take pl) := sbytes_bstr (fun x hx => sbytes_lt s x (List.mem_of_mem_take hx))
    have HP2 := hide (parse_any (bstr ((sbytes s).take pl)) w5 (HT.out.keep HB1.out) (by omega) (by rw [bstr_size, List.length_take, HL.out]; omega))
    rw [HSB.out] at HP2
    obtain ⟨j2, e2, p2, hO2⟩ : ∃ j er pl', parse ((sbytes s).take pl) = (j, er, pl') := ⟨_, _, _, rfl⟩
    rw [hO2] at HP2 f3
    simp only at HP2 f3
    have hrun : ∀ w, (Instr.slice 9 (.string s) none (some (.int .i64 (pl : Int))) none).run Tryz.prog w = .ok (.string (bstr ((sbytes s).take pl))) w := fun w => by
      rw [run_slice_string_h w 9 s Tryz.underlying9 .i64 (pl : Int) (by omega) (by omega), Int.toNat_natCast, hsl]
    clear hO2 hsl HSB HOK HF HZE he
    generalize bstr ((sbytes s).take pl) = s2 at *
    have FIN : Hid (∀ w7 w8, Below w.heap.size w w7 → Below w7.heap.size w7 w8 → Below w.heap.size w w8) := fun w7 w8 h7 h8 => h7.trans ⟨h8.os, h8.tape, h8.output, h8.size, fun k hk => h8.block k (by have := h7.size; omega)⟩
    by_cases h3 : er = 3
    · have h3b : ((er : Int) == 3) = true := by simp; omega
      have hpl : pl = s.size := f2 h3
      have hpe : ((pl : Int) != (s.size : Int)) = false := by simp; omega
      clear h3 hpl f2
      go_wp2_with fail
      refine (num_any _ _).mono ?_
      rintro e w6 ⟨rfl, rfl⟩
      go_wp2_with fail
      refine HP2.out.mono ?_
      rintro ε w7 ⟨y, rfl, _, hb⟩
      have HB2 : Hid (Below w.heap.size w (w7.alloc (.cells #[.int .i64 y.k, .string y.t, .slice y.an y.ln y.cn, .slice y.ai y.li y.ci] 25))) := (FIN.out _ _ HB1.out hb).alloc (by have := hb.size; omega) _
      clear hb HP2 HB1
      rw [show y.val = .agg #[.int .i64 y.k, .string y.t, .slice y.an y.ln y.cn, .slice y.ai y.li y.ci] from rfl]
      go_wp2_with fail
      generalize w7.alloc (.cells #[.int .i64 y.k, .string y.t, .slice y.an y.ln y.cn, .slice y.ai y.li y.ci] 25) = w8 at *
      refine (live_true w8 (HT.out.keep HB2.out) (HZ.out.keep HB2.out) (by have := HB2.out.size; omega)).mono ?_
      rintro e w9 ⟨rfl, hb9⟩
      have HB9 := hide (FIN.out _ _ HB2.out hb9)
      clear hb9
      go_wp2_with fail
      refine (num_any _ _).mono ?_
      rintro e w10 ⟨rfl, rfl⟩
      rcases f3 with h0 | ⟨h30, hpp⟩
      · subst h0
        go_wp2_with fail
        go_ret
        exact ⟨rfl, HB9.out⟩
      · subst h30
        subst hpp
        go_wp2_with fail
        refine (num_any _ _).mono ?_
        rintro e w11 ⟨rfl, rfl⟩
        go_wp2_with fail
        go_ret
        exact ⟨rfl, HB9.out⟩
    · have h3b : ((er : Int) == 3) = false := by simp; omega
      clear h3 f2
      go_wp2_with fail
      refine (num_any _ _).mono ?_
      rintro e w6 ⟨rfl, rfl⟩
      go_wp2_with fail
      refine HP2.out.mono ?_
      rintro ε w7 ⟨y, rfl, _, hb⟩
      have HB2 : Hid (Below w.heap.size w (w7.alloc (.cells #[.int .i64 y.k, .string y.t, .slice y.an y.ln y.cn, .slice y.ai y.li y.ci] 25))) := (FIN.out _ _ HB1.out hb).alloc (by have := hb.size; omega) _
      clear hb HP2 HB1
      rw [show y.val = .agg #[.int .i64 y.k, .string y.t, .slice y.an y.ln y.cn, .slice y.ai y.li y.ci] from rfl]
      go_wp2_with fail
      generalize w7.alloc (.cells #[.int .i64 y.k, .string y.t, .slice y.an y.ln y.cn, .slice y.ai y.li y.ci] 25) = w8 at *
      refine (live_true w8 (HT.out.keep HB2.out) (HZ.out.keep HB2.out) (by have := HB2.out.size; omega)).mono ?_
      rintro e w9 ⟨rfl, hb9⟩
      have HB9 := hide (FIN.out _ _ HB2.out hb9)
      clear hb9
      go_wp2_with fail
      refine (num_any _ _).mono ?_
      rintro e w10 ⟨rfl, rfl⟩
      rcases f3 with h0 | ⟨h30, hpp⟩
      · subst h0
        go_wp2_with fail
        go_ret
        exact ⟨rfl, HB9.out⟩
      · subst h30
        subst hpp
        go_wp2_with fail
        refine (num_any _ _).mono ?_
        rintro e w11 ⟨rfl, rfl⟩
        go_wp2_with fail
        go_ret
        exact ⟨rfl, HB9.out⟩
end Go.Proofs.YtehpgkgdjojhpabGreatDoor
