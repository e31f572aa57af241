/- The document's value, by its items. -/
import Derived.Test.YtlebockgdonceaaGreatDoorRPn
import Derived.Test.YtlebockgdonceaaGreatDoorRPo
namespace Go.Proofs.YtlebockgdonceaaGreatDoor
open Go.RowKit

theorem rv_form {o : Out J} {w w' : World} {ε : Ending} (h : RVAns o w ε w') : (∃ (x : JV) (a e p : Nat), ε = .returned (gotV x.k x.t (.slice x.an x.ln x.cn) (.slice x.ai x.li x.ci) a e p)) ∧ Below w.heap.size w w' := by
  cases o with
  | ok j q =>
    obtain ⟨x, rfl, _, hb⟩ := h
    exact ⟨⟨x, q, 0, 0, rfl⟩, hb⟩
  | error e q =>
    obtain ⟨rfl, hb⟩ := h
    exact ⟨⟨⟨0, { data := #[] }, none, 0, 0, none, 0, 0⟩, 0, e, q, rfl⟩, hb⟩
theorem rv_lift {o : Out J} {w W w7 w8 : World} {N : Nat} {ε : Ending} (h : RVAns o W ε w7) (hb : Below w.heap.size w W) (hN : w.heap.size ≤ N) (hNW : N < W.heap.size) (hbt : But N w7 w8) : RVAns o w ε w8 := by
  have hs := hb.size
  cases o with
  | ok j q =>
    obtain ⟨x, rfl, hj, hb7⟩ := h
    have h7 := hb7.size
    exact ⟨x, rfl, JRep.wide (JRep.stay _ _ _ hj (fun b hb => hbt.block b hb.2 (by have := hb.1; omega))) (fun b hb => ⟨by have := hb.1; omega, Nat.lt_of_lt_of_le hb.2 hbt.size⟩), (hb.trans (hb7.mono hs)).trans (hbt.below hN (by omega))⟩
  | error e q =>
    obtain ⟨rfl, hb7⟩ := h
    have h7 := hb7.size
    exact ⟨rfl, (hb.trans (hb7.mono hs)).trans (hbt.below hN (by omega))⟩
theorem rv_word {o : Out Unit} {k : Int} {w w' : World} {ε : Ending} (h : WdAns k o w ε w') : RVAns (o.map fun _ => J.mk k [] [] []) w ε w' := by
  cases o with
  | ok u q =>
    obtain ⟨rfl, hb⟩ := h
    exact ⟨⟨k, ⟨#[]⟩, none, 0, 0, none, 0, 0⟩, rfl, jrep_leaf _ k [] _ (by simp), hb⟩
  | error e q => exact h
theorem rv_num {o : Out By} {w w' : World} {ε : Ending} (h : NmAns o w ε w') : RVAns (o.map fun t => J.mk 3 t [] []) w ε w' := by
  cases o with
  | ok t q =>
    obtain ⟨rfl, ht, hb⟩ := h
    exact ⟨⟨3, bstr t, none, 0, 0, none, 0, 0⟩, rfl, jrep_leaf _ 3 t _ ht, hb⟩
  | error e q => exact h
theorem rv_txt {o : Out By} {w w' : World} {ε : Ending} (h : TxtAns o w ε w') : RVAns (o.map fun t => J.mk 4 t [] []) w ε w' := by
  cases o with
  | ok t q =>
    obtain ⟨rfl, ht, hb⟩ := h
    exact ⟨⟨4, bstr t, none, 0, 0, none, 0, 0⟩, rfl, jrep_leaf _ 4 t _ ht, hb⟩
  | error e q => exact h
set_option maxHeartbeats 4000000 in
set_option maxRecDepth 100000 in
theorem rvalue_step (d : Nat) (hsub : ∀ d', d = d' + 1 → d' < 32 ∧ RValOk d') : RValOk d := by
  intro s p w hC hs hp
  have hsl := sbytes_length s
  have HIX := hide (str_index s)
  obtain ⟨D, hD⟩ : ∃ D : Int, D = 32 - (d : Int) := ⟨_, rfl⟩
  rw [← hD]
  have HG0 := hide (GZ.new w)
  have HB0 := hide (below_new w (.cells #[.int .i64 0, .string { data := #[] }, .slice none 0 0, .slice none 0 0, .int .i64 0, .int .i64 0, .int .i64 0] 41))
  have HVE : Hid (vAt (sbytes s) d p = vStep (sbytes s) (subAt (sbytes s) d) p) := vAt_eq _ _ _
  obtain ⟨V, hVd⟩ : ∃ V, V = vAt (sbytes s) d p := ⟨_, rfl⟩
  rw [← hVd] at HVE ⊢
  have HWD : Hid (∀ (L : ByteArray) (k : Int) (W : World), L.size ≤ 16 → Calls Tryz.prog 17 #[.string s, .int .i64 (p : Int), .string L, .int .i64 k] W fun ε w' => RVAns ((wordAt (sbytes s) p (sbytes L)).map fun _ => J.mk k [] [] []) W ε w') := fun L k W hL => (rword_any s L p k W hp hs hL).mono fun _ _ h => rv_word h
  have HNU : Hid (∀ W, Calls Tryz.prog 18 #[.string s, .int .i64 (p : Int)] W fun ε w' => RVAns ((numAt (sbytes s) p).map fun t => J.mk 3 t [] []) W ε w') := fun W => (rnumber_any s p W hp hs).mono fun _ _ h => rv_num h
  have HST : Hid (∀ W, p < s.size → Calls Tryz.prog 19 #[.string s, .int .i64 (p : Int)] W fun ε w' => RVAns ((textAt (sbytes s) p).map fun t => J.mk 4 t [] []) W ε w') := fun W h => (rstr_any s p W hC h hs).mono fun _ _ h => rv_txt h
  have HBD : Hid (∀ (e q : Nat) (W : World), V = .error e q → Calls Tryz.prog 16 #[.int .i64 (e : Int), .int .i64 (q : Int)] W fun ε w' => RVAns V W ε w') := fun e q W h => (rbad_any e q W).mono fun ε w' h2 => by rw [h2.1]; exact rv_bad h h2.2
  have HLI : Hid (∀ (W : World), p < s.size → d ≠ 0 → Calls Tryz.prog 20 #[.string s, .int .i64 (p : Int), .int .i64 D, .agg #[.int .i64 5, .string { data := #[] }, .slice none 0 0, .slice none 0 0], .int .u8 93] W fun ε w' => RVAns ((inAt (sbytes s) 93 (fun _ => vAt (sbytes s) (d - 1)) p).map fun l => J.mk 5 [] [] l) W ε w') := fun W h h0 => by
    obtain ⟨d', rfl⟩ : ∃ d', d = d' + 1 := ⟨d - 1, by omega⟩
    have := ritems_list d' (hsub d' rfl).2 (hsub d' rfl).1 s p W hC hs h
    rw [show (31 : Int) - (d' : Int) = D by rw [hD]; omega] at this
    exact this
  have HOB : Hid (∀ (W : World), p < s.size → d ≠ 0 → Calls Tryz.prog 20 #[.string s, .int .i64 (p : Int), .int .i64 D, .agg #[.int .i64 6, .string { data := #[] }, .slice none 0 0, .slice none 0 0], .int .u8 125] W fun ε w' => RVAns ((inAt (sbytes s) 125 (memAt (sbytes s) (vAt (sbytes s) (d - 1))) p).map fun l => J.mk 6 [] (l.map (·.1)) (l.map (·.2))) W ε w') := fun W h h0 => by
    obtain ⟨d', rfl⟩ : ∃ d', d = d' + 1 := ⟨d - 1, by omega⟩
    have := ritems_obj d' (hsub d' rfl).2 (hsub d' rfl).1 s p W hC hs h
    rw [show (31 : Int) - (d' : Int) = D by rw [hD]; omega] at this
    exact this
  have HD32 : Hid (d ≤ 32) := by
    show _ ≤ _
    cases d with
    | zero => omega
    | succ d' => have := (hsub d' rfl).1; omega
  suffices HSU : ∀ PP : Ending → World → Prop, (∀ ε w', RVAns V w ε w' → PP ε w') → Calls Tryz.prog 10 #[.string s, .int .i64 (p : Int), .int .i64 D] w fun ε w' => True ∧ PP ε w' from (HSU _ (fun _ _ h => h)).mono fun _ _ h => h.2
  intro PP hPP
  have HPP := hide hPP
  have HSL := hide hsl
  clear hPP hC hs hsub hVd
  generalize sbytes s = l at *
  generalize hn : s.size = n at *
  have HDD := hide hD
  clear hsl hD
  obtain ⟨c, hc⟩ : ∃ c, c = bt l p := ⟨_, rfl⟩
  go_enter Tryz.func10, Tryz.ntmps10
  go_upto_region 1 with fail
  generalize (w.alloc (.cells #[.int .i64 0, .string { data := #[] }, .slice none 0 0, .slice none 0 0, .int .i64 0, .int .i64 0, .int .i64 0] 41)) = w1 at *
  obtain ⟨N, hN⟩ : ∃ N, N = w.heap.size := ⟨_, rfl⟩
  rw [← hN] at HG0 ⊢
  have HN := hide hN
  clear hN
  by_cases hpn : p < n
  rotate_left
  · have hge : (n : Int) ≤ (p : Int) := by omega
    have HCALL : Hid (∀ W, Calls Tryz.prog 16 #[.int .i64 3, .int .i64 (n : Int)] W fun ε w' => RVAns V W ε w') := fun W => HBD.out 3 n W (by rw [HVE.out]; unfold vStep; rw [if_neg (by rw [HSL.out]; exact hpn), HSL.out])
    clear HVE HWD HNU HST HLI HOB hpn HIX
    go_wp2_with fail
    refine (HCALL.out _).mono ?_
    intro ε w7 h7
    obtain ⟨⟨x, aa, ee, qq, rfl⟩, hb7⟩ := rv_form h7
    have HR7 := hide h7
    have HG7 := hide (HG0.out.keep hb7)
    obtain ⟨⟨c0, c1, c2, c3, c4, c5, c6⟩, f0, f1, f2, f3, f4, f5, f6⟩ := HG7.out.facts
    clear h7 hb7
    rw [show gotV x.k x.t (.slice x.an x.ln x.cn) (.slice x.ai x.li x.ci) aa ee qq = .agg #[.int .i64 x.k, .string x.t, .slice x.an x.ln x.cn, .slice x.ai x.li x.ci, .int .i64 (aa : Int), .int .i64 (ee : Int), .int .i64 (qq : Int)] from rfl]
    go_wp2_with fail
    refine bodyPost_ret (got_results rfl rfl (putG_bl HG7.out (.int .i64 x.k) (.string x.t) (.slice x.an x.ln x.cn) (.slice x.ai x.li x.ci) (.int .i64 (aa : Int)) (.int .i64 (ee : Int)) (.int .i64 (qq : Int)))) rfl ?_
    exact ⟨trivial, HPP.out _ _ (rv_lift HR7.out HB0.out (Nat.le_of_eq HN.out.symm) HG0.out.lt (putG_but w7 N _ _ _ _ _ _ _))⟩
  have hlt : ¬ (n : Int) ≤ (p : Int) := by omega
  have hxk : ∀ W, (Instr.index 9 (.string s) (.int .i64 (p : Int))).run Tryz.prog W = .ok (.int .u8 (c : Int)) W := fun W => by rw [hc]; exact HIX.out p hpn W
  have HV2 : Hid (V = if c = 110 then (wordAt l p [110, 117, 108, 108]).map fun _ => J.mk 0 [] [] []
    else if c = 102 then (wordAt l p [102, 97, 108, 115, 101]).map fun _ => J.mk 1 [] [] []
    else if c = 116 then (wordAt l p [116, 114, 117, 101]).map fun _ => J.mk 2 [] [] []
    else if c = 45 ∨ isDigit c = true then (numAt l p).map fun t => J.mk 3 t [] []
    else if c = 34 then (textAt l p).map fun t => J.mk 4 t [] []
    else if c = 91 ∨ c = 123 then
      match subAt l d with
      | none => .error 46 p
      | some f => if c = 91 then (inAt l 93 (fun _ => f) p).map fun l => J.mk 5 [] [] l
        else (inAt l 125 (memAt l f) p).map fun l => J.mk 6 [] (l.map (·.1)) (l.map (·.2))
    else .error 40 p) := by show _ = _; rw [HVE.out]; unfold vStep; rw [if_pos (by rw [HSL.out]; exact hpn), ← hc]; cases subAt l d <;> rfl
  clear hc HVE HIX
  by_cases h110 : c = 110
  · subst h110
    have HCALL : Hid (∀ W, Calls Tryz.prog 17 #[.string s, .int .i64 (p : Int), .string { data := #[110, 117, 108, 108] }, .int .i64 0] W fun ε w' => RVAns V W ε w') := fun W => by
      have hv : V = (wordAt l p (sbytes { data := #[110, 117, 108, 108] })).map fun _ => J.mk 0 [] [] [] := HV2.out
      rw [hv]
      exact HWD.out { data := #[110, 117, 108, 108] } 0 W (by decide)
    clear HV2 HWD HNU HST HLI HOB HBD
    go_wp2_with fail
    refine (HCALL.out _).mono ?_
    intro ε w7 h7
    obtain ⟨⟨x, aa, ee, qq, rfl⟩, hb7⟩ := rv_form h7
    have HR7 := hide h7
    have HG7 := hide (HG0.out.keep hb7)
    obtain ⟨⟨c0, c1, c2, c3, c4, c5, c6⟩, f0, f1, f2, f3, f4, f5, f6⟩ := HG7.out.facts
    clear h7 hb7
    rw [show gotV x.k x.t (.slice x.an x.ln x.cn) (.slice x.ai x.li x.ci) aa ee qq = .agg #[.int .i64 x.k, .string x.t, .slice x.an x.ln x.cn, .slice x.ai x.li x.ci, .int .i64 (aa : Int), .int .i64 (ee : Int), .int .i64 (qq : Int)] from rfl]
    go_wp2_with fail
    refine bodyPost_ret (got_results rfl rfl (putG_bl HG7.out (.int .i64 x.k) (.string x.t) (.slice x.an x.ln x.cn) (.slice x.ai x.li x.ci) (.int .i64 (aa : Int)) (.int .i64 (ee : Int)) (.int .i64 (qq : Int)))) rfl ?_
    exact ⟨trivial, HPP.out _ _ (rv_lift HR7.out HB0.out (Nat.le_of_eq HN.out.symm) HG0.out.lt (putG_but w7 N _ _ _ _ _ _ _))⟩
  by_cases h102 : c = 102
  · subst h102
    have HCALL : Hid (∀ W, Calls Tryz.prog 17 #[.string s, .int .i64 (p : Int), .string { data := #[102, 97, 108, 115, 101] }, .int .i64 1] W fun ε w' => RVAns V W ε w') := fun W => by
      have hv : V = (wordAt l p (sbytes { data := #[102, 97, 108, 115, 101] })).map fun _ => J.mk 1 [] [] [] := HV2.out
      rw [hv]
      exact HWD.out { data := #[102, 97, 108, 115, 101] } 1 W (by decide)
    clear HV2 HWD HNU HST HLI HOB HBD
    go_wp2_with fail
    refine (HCALL.out _).mono ?_
    intro ε w7 h7
    obtain ⟨⟨x, aa, ee, qq, rfl⟩, hb7⟩ := rv_form h7
    have HR7 := hide h7
    have HG7 := hide (HG0.out.keep hb7)
    obtain ⟨⟨c0, c1, c2, c3, c4, c5, c6⟩, f0, f1, f2, f3, f4, f5, f6⟩ := HG7.out.facts
    clear h7 hb7
    rw [show gotV x.k x.t (.slice x.an x.ln x.cn) (.slice x.ai x.li x.ci) aa ee qq = .agg #[.int .i64 x.k, .string x.t, .slice x.an x.ln x.cn, .slice x.ai x.li x.ci, .int .i64 (aa : Int), .int .i64 (ee : Int), .int .i64 (qq : Int)] from rfl]
    go_wp2_with fail
    refine bodyPost_ret (got_results rfl rfl (putG_bl HG7.out (.int .i64 x.k) (.string x.t) (.slice x.an x.ln x.cn) (.slice x.ai x.li x.ci) (.int .i64 (aa : Int)) (.int .i64 (ee : Int)) (.int .i64 (qq : Int)))) rfl ?_
    exact ⟨trivial, HPP.out _ _ (rv_lift HR7.out HB0.out (Nat.le_of_eq HN.out.symm) HG0.out.lt (putG_but w7 N _ _ _ _ _ _ _))⟩
  by_cases h116 : c = 116
  · subst h116
    have HCALL : Hid (∀ W, Calls Tryz.prog 17 #[.string s, .int .i64 (p : Int), .string { data := #[116, 114, 117, 101] }, .int .i64 2] W fun ε w' => RVAns V W ε w') := fun W => by
      have hv : V = (wordAt l p (sbytes { data := #[116, 114, 117, 101] })).map fun _ => J.mk 2 [] [] [] := HV2.out
      rw [hv]
      exact HWD.out { data := #[116, 114, 117, 101] } 2 W (by decide)
    clear HV2 HWD HNU HST HLI HOB HBD
    go_wp2_with fail
    refine (HCALL.out _).mono ?_
    intro ε w7 h7
    obtain ⟨⟨x, aa, ee, qq, rfl⟩, hb7⟩ := rv_form h7
    have HR7 := hide h7
    have HG7 := hide (HG0.out.keep hb7)
    obtain ⟨⟨c0, c1, c2, c3, c4, c5, c6⟩, f0, f1, f2, f3, f4, f5, f6⟩ := HG7.out.facts
    clear h7 hb7
    rw [show gotV x.k x.t (.slice x.an x.ln x.cn) (.slice x.ai x.li x.ci) aa ee qq = .agg #[.int .i64 x.k, .string x.t, .slice x.an x.ln x.cn, .slice x.ai x.li x.ci, .int .i64 (aa : Int), .int .i64 (ee : Int), .int .i64 (qq : Int)] from rfl]
    go_wp2_with fail
    refine bodyPost_ret (got_results rfl rfl (putG_bl HG7.out (.int .i64 x.k) (.string x.t) (.slice x.an x.ln x.cn) (.slice x.ai x.li x.ci) (.int .i64 (aa : Int)) (.int .i64 (ee : Int)) (.int .i64 (qq : Int)))) rfl ?_
    exact ⟨trivial, HPP.out _ _ (rv_lift HR7.out HB0.out (Nat.le_of_eq HN.out.symm) HG0.out.lt (putG_but w7 N _ _ _ _ _ _ _))⟩
  by_cases h45 : c = 45
  · subst h45
    have HV4 : V = (numAt l p).map fun t => J.mk 3 t [] [] := HV2.out
    have HCALL : Hid (∀ W, Calls Tryz.prog 18 #[.string s, .int .i64 (p : Int)] W fun ε w' => RVAns V W ε w') := fun W => by
      have hv : V = (numAt l p).map fun t => J.mk 3 t [] [] := HV4
      rw [hv]
      exact HNU.out W
    clear HV2 HV4 HWD HNU HST HLI HOB HBD
    go_wp2_with fail
    refine (HCALL.out _).mono ?_
    intro ε w7 h7
    obtain ⟨⟨x, aa, ee, qq, rfl⟩, hb7⟩ := rv_form h7
    have HR7 := hide h7
    have HG7 := hide (HG0.out.keep hb7)
    obtain ⟨⟨c0, c1, c2, c3, c4, c5, c6⟩, f0, f1, f2, f3, f4, f5, f6⟩ := HG7.out.facts
    clear h7 hb7
    rw [show gotV x.k x.t (.slice x.an x.ln x.cn) (.slice x.ai x.li x.ci) aa ee qq = .agg #[.int .i64 x.k, .string x.t, .slice x.an x.ln x.cn, .slice x.ai x.li x.ci, .int .i64 (aa : Int), .int .i64 (ee : Int), .int .i64 (qq : Int)] from rfl]
    go_wp2_with fail
    refine bodyPost_ret (got_results rfl rfl (putG_bl HG7.out (.int .i64 x.k) (.string x.t) (.slice x.an x.ln x.cn) (.slice x.ai x.li x.ci) (.int .i64 (aa : Int)) (.int .i64 (ee : Int)) (.int .i64 (qq : Int)))) rfl ?_
    exact ⟨trivial, HPP.out _ _ (rv_lift HR7.out HB0.out (Nat.le_of_eq HN.out.symm) HG0.out.lt (putG_but w7 N _ _ _ _ _ _ _))⟩
  have b110 : ((c : Int) == 110) = false := by simp; omega
  have b102 : ((c : Int) == 102) = false := by simp; omega
  have b116 : ((c : Int) == 116) = false := by simp; omega
  have b45 : ((c : Int) == 45) = false := by simp; omega
  by_cases hdg : isDigit c = true
  · have HV4 : V = (numAt l p).map fun t => J.mk 3 t [] [] := by rw [HV2.out, if_neg h110, if_neg h102, if_neg h116, if_pos (Or.inr hdg)]
    have hdr : 48 ≤ c ∧ c ≤ 57 := of_decide_eq_true hdg
    have h48 : (48 : Int) ≤ (c : Int) := by omega
    have h57 : (c : Int) ≤ 57 := by omega
    clear hdg hdr h110 h102 h116 h45
    have HCALL : Hid (∀ W, Calls Tryz.prog 18 #[.string s, .int .i64 (p : Int)] W fun ε w' => RVAns V W ε w') := fun W => by
      have hv : V = (numAt l p).map fun t => J.mk 3 t [] [] := HV4
      rw [hv]
      exact HNU.out W
    clear HV2 HV4 HWD HNU HST HLI HOB HBD
    go_wp2_with fail
    refine (HCALL.out _).mono ?_
    intro ε w7 h7
    obtain ⟨⟨x, aa, ee, qq, rfl⟩, hb7⟩ := rv_form h7
    have HR7 := hide h7
    have HG7 := hide (HG0.out.keep hb7)
    obtain ⟨⟨c0, c1, c2, c3, c4, c5, c6⟩, f0, f1, f2, f3, f4, f5, f6⟩ := HG7.out.facts
    clear h7 hb7
    rw [show gotV x.k x.t (.slice x.an x.ln x.cn) (.slice x.ai x.li x.ci) aa ee qq = .agg #[.int .i64 x.k, .string x.t, .slice x.an x.ln x.cn, .slice x.ai x.li x.ci, .int .i64 (aa : Int), .int .i64 (ee : Int), .int .i64 (qq : Int)] from rfl]
    go_wp2_with fail
    refine bodyPost_ret (got_results rfl rfl (putG_bl HG7.out (.int .i64 x.k) (.string x.t) (.slice x.an x.ln x.cn) (.slice x.ai x.li x.ci) (.int .i64 (aa : Int)) (.int .i64 (ee : Int)) (.int .i64 (qq : Int)))) rfl ?_
    exact ⟨trivial, HPP.out _ _ (rv_lift HR7.out HB0.out (Nat.le_of_eq HN.out.symm) HG0.out.lt (putG_but w7 N _ _ _ _ _ _ _))⟩
  have hdr : ¬ (48 ≤ c ∧ c ≤ 57) := fun h => hdg (decide_eq_true h)
  by_cases h34 : c = 34
  · subst h34
    have HCALL : Hid (∀ W, Calls Tryz.prog 19 #[.string s, .int .i64 (p : Int)] W fun ε w' => RVAns V W ε w') := fun W => by
      have hv : V = (textAt l p).map fun t => J.mk 4 t [] [] := HV2.out
      rw [hv]
      exact HST.out W hpn
    clear HV2 HWD HNU HST HLI HOB HBD b110 b102 b116 b45 hdg hdr h110 h102 h116 h45
    go_wp2_with fail
    refine (HCALL.out _).mono ?_
    intro ε w7 h7
    obtain ⟨⟨x, aa, ee, qq, rfl⟩, hb7⟩ := rv_form h7
    have HR7 := hide h7
    have HG7 := hide (HG0.out.keep hb7)
    obtain ⟨⟨c0, c1, c2, c3, c4, c5, c6⟩, f0, f1, f2, f3, f4, f5, f6⟩ := HG7.out.facts
    clear h7 hb7
    rw [show gotV x.k x.t (.slice x.an x.ln x.cn) (.slice x.ai x.li x.ci) aa ee qq = .agg #[.int .i64 x.k, .string x.t, .slice x.an x.ln x.cn, .slice x.ai x.li x.ci, .int .i64 (aa : Int), .int .i64 (ee : Int), .int .i64 (qq : Int)] from rfl]
    go_wp2_with fail
    refine bodyPost_ret (got_results rfl rfl (putG_bl HG7.out (.int .i64 x.k) (.string x.t) (.slice x.an x.ln x.cn) (.slice x.ai x.li x.ci) (.int .i64 (aa : Int)) (.int .i64 (ee : Int)) (.int .i64 (qq : Int)))) rfl ?_
    exact ⟨trivial, HPP.out _ _ (rv_lift HR7.out HB0.out (Nat.le_of_eq HN.out.symm) HG0.out.lt (putG_but w7 N _ _ _ _ _ _ _))⟩
  have b34 : ((c : Int) == 34) = false := by simp; omega
  by_cases hop : c = 91 ∨ c = 123
  rotate_left
  · have b91 : ((c : Int) != 91) = true := by simp; omega
    have b123 : ((c : Int) != 123) = true := by simp; omega
    have HCALL : Hid (∀ W, Calls Tryz.prog 16 #[.int .i64 40, .int .i64 (p : Int)] W fun ε w' => RVAns V W ε w') := fun W => HBD.out 40 p W (by rw [HV2.out, if_neg h110, if_neg h102, if_neg h116, if_neg (fun h => h.elim h45 hdg), if_neg h34, if_neg hop])
    by_cases h48 : 48 ≤ c
    · have h48i : (48 : Int) ≤ (c : Int) := by omega
      have h57i : ¬ (c : Int) ≤ 57 := by omega
      clear HV2 HWD HNU HST HLI HOB HBD hdg hdr h110 h102 h116 h45 h34 hop h48
      go_wp2_with fail
      refine (HCALL.out _).mono ?_
      intro ε w7 h7
      obtain ⟨⟨x, aa, ee, qq, rfl⟩, hb7⟩ := rv_form h7
      have HR7 := hide h7
      have HG7 := hide (HG0.out.keep hb7)
      obtain ⟨⟨c0, c1, c2, c3, c4, c5, c6⟩, f0, f1, f2, f3, f4, f5, f6⟩ := HG7.out.facts
      clear h7 hb7
      rw [show gotV x.k x.t (.slice x.an x.ln x.cn) (.slice x.ai x.li x.ci) aa ee qq = .agg #[.int .i64 x.k, .string x.t, .slice x.an x.ln x.cn, .slice x.ai x.li x.ci, .int .i64 (aa : Int), .int .i64 (ee : Int), .int .i64 (qq : Int)] from rfl]
      go_wp2_with fail
      refine bodyPost_ret (got_results rfl rfl (putG_bl HG7.out (.int .i64 x.k) (.string x.t) (.slice x.an x.ln x.cn) (.slice x.ai x.li x.ci) (.int .i64 (aa : Int)) (.int .i64 (ee : Int)) (.int .i64 (qq : Int)))) rfl ?_
      exact ⟨trivial, HPP.out _ _ (rv_lift HR7.out HB0.out (Nat.le_of_eq HN.out.symm) HG0.out.lt (putG_but w7 N _ _ _ _ _ _ _))⟩
    · have h48i : ¬ (48 : Int) ≤ (c : Int) := by omega
      clear HV2 HWD HNU HST HLI HOB HBD hdg hdr h110 h102 h116 h45 h34 hop h48
      go_wp2_with fail
      refine (HCALL.out _).mono ?_
      intro ε w7 h7
      obtain ⟨⟨x, aa, ee, qq, rfl⟩, hb7⟩ := rv_form h7
      have HR7 := hide h7
      have HG7 := hide (HG0.out.keep hb7)
      obtain ⟨⟨c0, c1, c2, c3, c4, c5, c6⟩, f0, f1, f2, f3, f4, f5, f6⟩ := HG7.out.facts
      clear h7 hb7
      rw [show gotV x.k x.t (.slice x.an x.ln x.cn) (.slice x.ai x.li x.ci) aa ee qq = .agg #[.int .i64 x.k, .string x.t, .slice x.an x.ln x.cn, .slice x.ai x.li x.ci, .int .i64 (aa : Int), .int .i64 (ee : Int), .int .i64 (qq : Int)] from rfl]
      go_wp2_with fail
      refine bodyPost_ret (got_results rfl rfl (putG_bl HG7.out (.int .i64 x.k) (.string x.t) (.slice x.an x.ln x.cn) (.slice x.ai x.li x.ci) (.int .i64 (aa : Int)) (.int .i64 (ee : Int)) (.int .i64 (qq : Int)))) rfl ?_
      exact ⟨trivial, HPP.out _ _ (rv_lift HR7.out HB0.out (Nat.le_of_eq HN.out.symm) HG0.out.lt (putG_but w7 N _ _ _ _ _ _ _))⟩
  clear b110 b102 b116 b45 b34 hdg hdr h110 h102 h116 h45 h34
  by_cases hd0 : d = 0
  · have HCALL : Hid (∀ W, Calls Tryz.prog 16 #[.int .i64 46, .int .i64 (p : Int)] W fun ε w' => RVAns V W ε w') := fun W => HBD.out 46 p W (by rw [HV2.out, hd0]; rcases hop with rfl | rfl <;> rfl)
    have hDD : (32 : Int) ≤ D := by have := HDD.out; omega
    clear HV2 HWD HNU HST HLI HOB HBD hd0
    rcases hop with rfl | rfl
    · go_wp2_with fail
      refine (HCALL.out _).mono ?_
      intro ε w7 h7
      obtain ⟨⟨x, aa, ee, qq, rfl⟩, hb7⟩ := rv_form h7
      have HR7 := hide h7
      have HG7 := hide (HG0.out.keep hb7)
      obtain ⟨⟨c0, c1, c2, c3, c4, c5, c6⟩, f0, f1, f2, f3, f4, f5, f6⟩ := HG7.out.facts
      clear h7 hb7
      rw [show gotV x.k x.t (.slice x.an x.ln x.cn) (.slice x.ai x.li x.ci) aa ee qq = .agg #[.int .i64 x.k, .string x.t, .slice x.an x.ln x.cn, .slice x.ai x.li x.ci, .int .i64 (aa : Int), .int .i64 (ee : Int), .int .i64 (qq : Int)] from rfl]
      go_wp2_with fail
      refine bodyPost_ret (got_results rfl rfl (putG_bl HG7.out (.int .i64 x.k) (.string x.t) (.slice x.an x.ln x.cn) (.slice x.ai x.li x.ci) (.int .i64 (aa : Int)) (.int .i64 (ee : Int)) (.int .i64 (qq : Int)))) rfl ?_
      exact ⟨trivial, HPP.out _ _ (rv_lift HR7.out HB0.out (Nat.le_of_eq HN.out.symm) HG0.out.lt (putG_but w7 N _ _ _ _ _ _ _))⟩
    · go_wp2_with fail
      refine (HCALL.out _).mono ?_
      intro ε w7 h7
      obtain ⟨⟨x, aa, ee, qq, rfl⟩, hb7⟩ := rv_form h7
      have HR7 := hide h7
      have HG7 := hide (HG0.out.keep hb7)
      obtain ⟨⟨c0, c1, c2, c3, c4, c5, c6⟩, f0, f1, f2, f3, f4, f5, f6⟩ := HG7.out.facts
      clear h7 hb7
      rw [show gotV x.k x.t (.slice x.an x.ln x.cn) (.slice x.ai x.li x.ci) aa ee qq = .agg #[.int .i64 x.k, .string x.t, .slice x.an x.ln x.cn, .slice x.ai x.li x.ci, .int .i64 (aa : Int), .int .i64 (ee : Int), .int .i64 (qq : Int)] from rfl]
      go_wp2_with fail
      refine bodyPost_ret (got_results rfl rfl (putG_bl HG7.out (.int .i64 x.k) (.string x.t) (.slice x.an x.ln x.cn) (.slice x.ai x.li x.ci) (.int .i64 (aa : Int)) (.int .i64 (ee : Int)) (.int .i64 (qq : Int)))) rfl ?_
      exact ⟨trivial, HPP.out _ _ (rv_lift HR7.out HB0.out (Nat.le_of_eq HN.out.symm) HG0.out.lt (putG_but w7 N _ _ _ _ _ _ _))⟩
  have hDD : ¬ (32 : Int) ≤ D := by have := HDD.out; omega
  have hsb : subAt l d = some (vAt l (d - 1)) := by
    obtain ⟨d', rfl⟩ : ∃ d', d = d' + 1 := ⟨d - 1, by omega⟩
    rfl
  rcases hop with rfl | rfl
  · have HCALL : Hid (∀ W, Calls Tryz.prog 20 #[.string s, .int .i64 (p : Int), .int .i64 D, .agg #[.int .i64 5, .string { data := #[] }, .slice none 0 0, .slice none 0 0], .int .u8 93] W fun ε w' => RVAns V W ε w') := fun W => by
      have hv : V = (inAt l 93 (fun _ => vAt l (d - 1)) p).map fun l => J.mk 5 [] [] l := by rw [HV2.out, hsb]; rfl
      rw [hv]
      exact HLI.out W hpn hd0
    clear HV2 HWD HNU HST HLI HOB HBD hd0 hsb
    go_wp2_with fail
    refine (HCALL.out _).mono ?_
    intro ε w7 h7
    obtain ⟨⟨x, aa, ee, qq, rfl⟩, hb7⟩ := rv_form h7
    have HR7 := hide h7
    have HG7 := hide (HG0.out.keep hb7)
    obtain ⟨⟨c0, c1, c2, c3, c4, c5, c6⟩, f0, f1, f2, f3, f4, f5, f6⟩ := HG7.out.facts
    clear h7 hb7
    rw [show gotV x.k x.t (.slice x.an x.ln x.cn) (.slice x.ai x.li x.ci) aa ee qq = .agg #[.int .i64 x.k, .string x.t, .slice x.an x.ln x.cn, .slice x.ai x.li x.ci, .int .i64 (aa : Int), .int .i64 (ee : Int), .int .i64 (qq : Int)] from rfl]
    go_wp2_with fail
    refine bodyPost_ret (got_results rfl rfl (putG_bl HG7.out (.int .i64 x.k) (.string x.t) (.slice x.an x.ln x.cn) (.slice x.ai x.li x.ci) (.int .i64 (aa : Int)) (.int .i64 (ee : Int)) (.int .i64 (qq : Int)))) rfl ?_
    exact ⟨trivial, HPP.out _ _ (rv_lift HR7.out HB0.out (Nat.le_of_eq HN.out.symm) HG0.out.lt (putG_but w7 N _ _ _ _ _ _ _))⟩
  · have HCALL : Hid (∀ W, Calls Tryz.prog 20 #[.string s, .int .i64 (p : Int), .int .i64 D, .agg #[.int .i64 6, .string { data := #[] }, .slice none 0 0, .slice none 0 0], .int .u8 125] W fun ε w' => RVAns V W ε w') := fun W => by
      have hv : V = (inAt l 125 (memAt l (vAt l (d - 1))) p).map fun l => J.mk 6 [] (l.map (·.1)) (l.map (·.2)) := by rw [HV2.out, hsb]; rfl
      rw [hv]
      exact HOB.out W hpn hd0
    clear HV2 HWD HNU HST HLI HOB HBD hd0 hsb
    go_wp2_with fail
    refine (HCALL.out _).mono ?_
    intro ε w7 h7
    obtain ⟨⟨x, aa, ee, qq, rfl⟩, hb7⟩ := rv_form h7
    have HR7 := hide h7
    have HG7 := hide (HG0.out.keep hb7)
    obtain ⟨⟨c0, c1, c2, c3, c4, c5, c6⟩, f0, f1, f2, f3, f4, f5, f6⟩ := HG7.out.facts
    clear h7 hb7
    rw [show gotV x.k x.t (.slice x.an x.ln x.cn) (.slice x.ai x.li x.ci) aa ee qq = .agg #[.int .i64 x.k, .string x.t, .slice x.an x.ln x.cn, .slice x.ai x.li x.ci, .int .i64 (aa : Int), .int .i64 (ee : Int), .int .i64 (qq : Int)] from rfl]
    go_wp2_with fail
    refine bodyPost_ret (got_results rfl rfl (putG_bl HG7.out (.int .i64 x.k) (.string x.t) (.slice x.an x.ln x.cn) (.slice x.ai x.li x.ci) (.int .i64 (aa : Int)) (.int .i64 (ee : Int)) (.int .i64 (qq : Int)))) rfl ?_
    exact ⟨trivial, HPP.out _ _ (rv_lift HR7.out HB0.out (Nat.le_of_eq HN.out.symm) HG0.out.lt (putG_but w7 N _ _ _ _ _ _ _))⟩
theorem rvalue_any : ∀ d, d ≤ 32 → RValOk d
  | 0, _ => rvalue_step 0 (fun d' h => by cases h)
  | d + 1, h => rvalue_step (d + 1) (fun d' e => by
    obtain rfl : d = d' := by omega
    exact ⟨by omega, rvalue_any d (by omega)⟩)
end Go.Proofs.YtlebockgdonceaaGreatDoor
