/- The document's items, of an object. -/
import Derived.Test.YtlebockgdonceaaGreatDoorRPm
namespace Go.Proofs.YtlebockgdonceaaGreatDoor
open Go.RowKit

theorem rmember_any (s : ByteArray) (p B ln cn : Nat) (an : Option Addr) (ns : List By) (w : World) (hC : ChFacts s) (hs : s.size ≤ 16384) (hp : p ≤ s.size) (hN : NSee w B an ln ns) (hNb : ∀ a ∈ ns, ∀ x ∈ a, x < 256) (hB : B ≤ w.heap.size) (hln : ln ≤ 16384) : Calls Tryz.prog 35 #[.string s, .int .i64 (p : Int), .slice an ln cn] w fun ε w' => MbAns (nameAt (sbytes s) ns p) w ε w' := by
  by_cases h : p < s.size ∧ bt (sbytes s) p = 34
  · cases ht : textAt (sbytes s) p with
    | error e q => exact rmember_err s p e q _ ns w hC hs h.1 h.2 ht
    | ok nm q => exact rmember_text s p q B ln cn an nm ns w hC hs h.1 h.2 ht hN hNb hB hln
  · exact rmember_bad s p _ w h hp ns
theorem fsts_snoc (acc : List (By × J)) (nm : By) (j : J) : fsts (acc ++ [(nm, j)]) = fsts acc ++ [nm] := by simp [fsts]
theorem snds_snoc (acc : List (By × J)) (nm : By) (j : J) : snds (acc ++ [(nm, j)]) = snds acc ++ [j] := by simp [snds]
set_option maxHeartbeats 4000000 in
set_option maxRecDepth 100000 in
theorem ritems_obj (d : Nat) (hV : RValOk d) (hd : d < 32) (s : ByteArray) (p : Nat) (w : World) (hC : ChFacts s) (hs : s.size ≤ 16384) (hp : p < s.size) :
    Calls Tryz.prog 20 #[.string s, .int .i64 (p : Int), .int .i64 (31 - (d : Int)), .agg #[.int .i64 6, .string { data := #[] }, .slice none 0 0, .slice none 0 0], .int .u8 125] w fun ε w' => RVAns ((inAt (sbytes s) 125 (memAt (sbytes s) (vAt (sbytes s) d)) p).map fun l => J.mk 6 [] (l.map (·.1)) (l.map (·.2))) w ε w' := by
  have hsl := sbytes_length s
  have HIX := hide (str_index s)
  have HSS := hide hs
  have HPS := hide hp
  have HVV : Hid (∀ (r : Nat) (D : Int) (W : World), D = 32 - (d : Int) → r ≤ s.size → Calls Tryz.prog 10 #[.string s, .int .i64 (r : Int), .int .i64 D] W fun ε w' => RVAns (vAt (sbytes s) d r) W ε w') := fun r D W h1 h2 => by subst h1; exact hV s r W hC hs h2
  have HBK : Hid (∀ (r : Nat) (ri : Int) (W : World), ri = (r : Int) → r ≤ s.size → Calls Tryz.prog 11 #[.string s, .int .i64 ri] W fun e w' => e = .returned (.int .i64 ((skip (sbytes s) r : Nat) : Int)) ∧ w' = W) := fun r ri W h1 h2 => by subst h1; exact rblanks_any s r W h2 hs
  have HMU := hide (rmust_any s)
  have HBDS : Hid (∀ r q j, r ≤ s.size → vAt (sbytes s) d r = .ok j q → r < q ∧ q ≤ s.size) := fun r q j h1 h2 => vAt_bd s d r q j h1 h2
  have HNZ : Hid (∀ r e q, r ≤ s.size → vAt (sbytes s) d r = .error e q → e ≠ 0) := fun r e q h1 h2 => ((vAt_local d).ill (sbytes s) [] r e q (by omega) h2).2.2.2.1
  have HSK : Hid (∀ r, r ≤ s.size → skip (sbytes s) r ≤ s.size) := fun r h => by have := skip_le (s := sbytes s) (p := r) (by omega); omega
  obtain ⟨R, HR⟩ : ∃ R, Hid (R = inAt (sbytes s) 125 (memAt (sbytes s) (vAt (sbytes s) d)) p) := ⟨_, hide rfl⟩
  rw [← HR.out]
  suffices HSU : ∀ PP : Ending → World → Prop, (∀ ε w', RVAns (R.map fun l => J.mk 6 [] (l.map (·.1)) (l.map (·.2))) w ε w' → PP ε w') → Calls Tryz.prog 20 #[.string s, .int .i64 (p : Int), .int .i64 (31 - (d : Int)), .agg #[.int .i64 6, .string { data := #[] }, .slice none 0 0, .slice none 0 0], .int .u8 125] w fun ε w' => True ∧ PP ε w' from (HSU _ (fun _ _ h => h)).mono fun _ _ h => h.2
  intro PP hPP
  have HPP := hide hPP
  have hp16 : p ≤ 16384 := by omega
  have hdep : (31 - (d : Int)) + 1 = 32 - (d : Int) := by omega
  have hd1 : (0 : Int) ≤ 31 - (d : Int) := by omega
  have hd2 : 31 - (d : Int) ≤ 31 := by omega
  have HJ0 : Hid (Jb ((w.alloc (.cells #[.int .i64 6, .string { data := #[] }, .slice none 0 0, .slice none 0 0] 25)).alloc (.cells #[.int .i64 0, .string { data := #[] }, .slice none 0 0, .slice none 0 0, .int .i64 0, .int .i64 0, .int .i64 0] 41)) w.heap.size 6 ⟨#[]⟩ (.slice none 0 0) (.slice none 0 0)) := Bl.alloc (Jb.new w _ _ _ _) _
  have HG0 : Hid (GZ ((w.alloc (.cells #[.int .i64 6, .string { data := #[] }, .slice none 0 0, .slice none 0 0] 25)).alloc (.cells #[.int .i64 0, .string { data := #[] }, .slice none 0 0, .slice none 0 0, .int .i64 0, .int .i64 0, .int .i64 0] 41)) (w.heap.size + 1)) := by
    have h := GZ.new (w.alloc (.cells #[.int .i64 6, .string { data := #[] }, .slice none 0 0, .slice none 0 0] 25))
    rw [show (w.alloc (.cells #[.int .i64 6, .string { data := #[] }, .slice none 0 0, .slice none 0 0] 25)).heap.size = w.heap.size + 1 by simp] at h
    exact h
  have HB0 : Hid (Below w.heap.size w ((w.alloc (.cells #[.int .i64 6, .string { data := #[] }, .slice none 0 0, .slice none 0 0] 25)).alloc (.cells #[.int .i64 0, .string { data := #[] }, .slice none 0 0, .slice none 0 0, .int .i64 0, .int .i64 0, .int .i64 0] 41))) := (below_new w _).trans ((below_new _ _).mono (by simp))
  have HZ0 : Hid (((w.alloc (.cells #[.int .i64 6, .string { data := #[] }, .slice none 0 0, .slice none 0 0] 25)).alloc (.cells #[.int .i64 0, .string { data := #[] }, .slice none 0 0, .slice none 0 0, .int .i64 0, .int .i64 0, .int .i64 0] 41)).heap.size = w.heap.size + 2) := by show _ = _; simp
  obtain ⟨k0, hk0⟩ : ∃ k0, k0 = skip (sbytes s) (p + 1) := ⟨_, rfl⟩
  have HB1 : Hid (∀ W, Calls Tryz.prog 11 #[.string s, .int .i64 ((p : Int) + 1)] W fun e w' => e = .returned (.int .i64 (k0 : Int)) ∧ w' = W) := fun W => by rw [hk0]; exact HBK.out (p + 1) _ W (by simp) (by omega)
  have HK0 : Hid (k0 ≤ s.size) := by show _ ≤ _; rw [hk0]; exact HSK.out _ (by omega)
  have HIN : Hid (R = if k0 < s.size ∧ bt (sbytes s) k0 = 125 then .ok [] (k0 + 1) else seqAt (sbytes s) 125 (memAt (sbytes s) (vAt (sbytes s) d)) (s.size + 1) k0 []) := by show _ = _; rw [HR.out, inAt, ← hk0, hsl]
  have HSL := hide hsl
  have HMB : Hid (∀ (r B ln cn : Nat) (an : Option Addr) (ns : List By) (W : World), r ≤ s.size → NSee W B an ln ns → (∀ a ∈ ns, ∀ x ∈ a, x < 256) → B ≤ W.heap.size → ln ≤ 16384 → Calls Tryz.prog 35 #[.string s, .int .i64 (r : Int), .slice an ln cn] W fun ε w' => MbAns (nameAt (sbytes s) ns r) W ε w') := fun r B ln cn an ns W h1 h2 h3 h4 h5 => rmember_any s r B ln cn an ns W hC hs h1 h2 h3 h4 h5
  clear hPP hC hs hp hV hd hk0 HR hsl
  generalize sbytes s = l at *
  go_enter Tryz.func20, Tryz.ntmps20
  go_upto_region 1 with fail
  generalize ((w.alloc (.cells #[.int .i64 6, .string { data := #[] }, .slice none 0 0, .slice none 0 0] 25)).alloc (.cells #[.int .i64 0, .string { data := #[] }, .slice none 0 0, .slice none 0 0, .int .i64 0, .int .i64 0, .int .i64 0] 41)) = w1 at *
  obtain ⟨N, hN⟩ : ∃ N, N = w.heap.size := ⟨_, rfl⟩
  rw [← hN] at HJ0 HG0 HZ0 HB0 ⊢
  have HN := hide hN
  clear hN
  go_upto_region 2 with (go_at_call 11; refine (HB1.out _).mono ?_; rintro ε wx ⟨rfl, hwx⟩; have hwy := hwx.symm; subst hwy; clear hwx)
  generalize hn : s.size = n at *
  have HN16 : Hid (n ≤ 16384) := HSS
  obtain ⟨i0, hi0, hz0, hz1, hz2⟩ := info_parts infoJson
  have HI0 : Hid (Tryz.prog.info? 25 = some i0 ∧ i0.zero = some (.agg #[.int .i64 0, .string { data := #[] }, .slice none 0 0, .slice none 0 0]) ∧ i0.size = 4 ∧ i0.bytes = 72) := ⟨hi0, hz0, hz1, hz2⟩
  clear hi0 hz0 hz1 hz2
  obtain ⟨F0, hF0⟩ : ∃ F0, F0 = decide (k0 < n ∧ bt l k0 = 125) := ⟨_, rfl⟩
  have HF0 := hide hF0
  clear hF0
  go_cut [29] (fun c wx => c = .bool F0 ∧ wx = w1)
  case first =>
    by_cases hkn : k0 < n
    · have hkn' : (k0 : Int) < (n : Int) := by omega
      have hxk : ∀ W, (Instr.index 9 (.string s) (.int .i64 (k0 : Int))).run Tryz.prog W = .ok (.int .u8 ((bt l k0 : Nat) : Int)) W := HIX.out k0 hkn
      by_cases h93 : bt l k0 = 125
      · have HT : Hid (F0 = true) := hide (by rw [HF0.out]; exact decide_eq_true ⟨hkn, h93⟩)
        rw [h93] at hxk
        clear hkn h93
        go_wp2_with fail
        go_meet
        case rel => exact ⟨by rw [HT.out], rfl⟩
      · have HT : Hid (F0 = false) := hide (by rw [HF0.out]; exact decide_eq_false fun h => h93 h.2)
        have h93' : (((bt l k0 : Nat) : Int) == 125) = false := by simp; omega
        clear hkn h93 HF0 HIN
        generalize bt l k0 = c at *
        go_wp2_with fail
        go_meet
        case rel => exact ⟨by rw [HT.out], rfl⟩
    · have hkn' : ¬ (k0 : Int) < (n : Int) := by omega
      have HT : Hid (F0 = false) := hide (by rw [HF0.out]; exact decide_eq_false fun h => hkn h.1)
      clear hkn
      go_wp2_with fail
      go_meet
      case rel => exact ⟨by rw [HT.out], rfl⟩
  case rest =>
    obtain ⟨rfl, hwc⟩ := hcut
    have hwd := hwc.symm
    subst hwd
    clear hwc
    cases F0 with
    | true =>
      have hT : k0 < n ∧ bt l k0 = 125 := of_decide_eq_true HF0.out.symm
      have HRO : Hid (R = .ok [] (k0 + 1)) := by show _ = _; rw [HIN.out, if_pos hT]
      obtain ⟨k1, hk1⟩ : ∃ k1, k1 = k0 + 1 := ⟨_, rfl⟩
      have hks : (k0 : Int) + 1 = (k1 : Int) := by omega
      have hk16 : k1 ≤ 16385 := by have := HN16.out; omega
      rw [← hk1] at HRO
      clear hT hk1 HIN HF0
      have e0 := HJ0.out.c0
      have e1 := HJ0.out.c1
      have e2 := HJ0.out.c2
      have e3 := HJ0.out.c3
      obtain ⟨⟨c0, c1, c2, c3, c4, c5, c6⟩, f0, f1, f2, f3, f4, f5, f6⟩ := HG0.out.facts
      go_wp2_with fail
      refine bodyPost_ret (got_results rfl rfl (putG_bl HG0.out (.int .i64 6) (.string { data := #[] }) (.slice none 0 0) (.slice none 0 0) (.int .i64 (k1 : Int)) (.int .i64 0) (.int .i64 0))) rfl ?_
      refine ⟨trivial, HPP.out _ _ (rv_ok (x := ⟨6, ⟨#[]⟩, none, 0, 0, none, 0, 0⟩) (j := .mk 6 [] [] []) (q := k1) (by rw [HRO.out]; rfl) (jrep_leaf _ 6 [] _ (by simp)) ?_)⟩
      rw [← HN.out]
      exact HB0.out.trans ((putG_but w1 (N + 1) _ _ _ _ _ _ _).below (by omega) (by have := HZ0.out; omega))
    | false =>
      have hF : ¬ (k0 < n ∧ bt l k0 = 125) := of_decide_eq_false HF0.out.symm
      have HRS : Hid (seqAt l 125 (memAt l (vAt l d)) (n + 1) k0 [] = R) := by show _ = _; rw [HIN.out, if_neg hF]
      have hkz := HK0.out
      clear hF HIN HF0
      go_wp2_with fail
      obtain ⟨iT, hiT, hzT0, hzT1, hzT2⟩ := info_parts infoText
      have HIT : Hid (Tryz.prog.info? 9 = some iT ∧ iT.zero = some (.string { data := #[] }) ∧ iT.size = 1 ∧ iT.bytes = 16) := ⟨hiT, hzT0, hzT1, hzT2⟩
      clear hiT hzT0 hzT1 hzT2
      go_loopw [11, 12, 13, 14] (fun a v12 v13 v14 wr => ∃ (k fuel : Nat) (acc : List (By × J)) (an ai : Option Addr) (ln cn li ci : Nat) (vs : List JV) (F : Nat → Prop), a = .int .i64 (k : Int) ∧ k ≤ n ∧ Hid (acc.length ≤ k ∧ n < k + fuel) ∧ Hid (seqAt l 125 (memAt l (vAt l d)) fuel k acc = R) ∧ Hid (Parts wr N (N + 2) 6 (fsts acc) (snds acc) an ai ln cn li ci vs F) ∧ Hid (GZ wr (N + 1)) ∧ Hid (Below N w wr) ∧ Hid (∀ a ∈ fsts acc, ∀ x ∈ a, x < 256)) (fun a _ _ _ _ => n - (intOf a).toNat)
      case atStart => exact ⟨k0, n + 1, [], none, none, 0, 0, 0, 0, [], _, rfl, hkz, ⟨by simp, by omega⟩, HRS, parts_new w1 N (N + 2) 6 HJ0.out, HG0, HB0, by intro a ha; cases ha⟩
      case round =>
        obtain ⟨k, fuel, acc, an, ai, ln, cn, li, ci, vs, F, rfl, hk, HAL, HS, HP, HGR, HBR, HNB⟩ := hrel
        obtain ⟨f, rfl⟩ : ∃ f, fuel = f + 1 := ⟨fuel - 1, by have := HAL.out; omega⟩
        obtain ⟨ao1, cap1, hsn⟩ := ownsRow_slice HP.out.g4
        injection hsn with hs1 hs2 hs3
        have HLN : Hid (ln = acc.length) := by show _ = _; rw [hs2]; simp [fsts]
        clear hs1 hs2 hs3 ao1 cap1
        have e0 := HP.out.g3.c0
        have e2 := HP.out.g3.c2
        have HK := hide hk
        have hNr := HGR.out.lt
        have HMC := hide (HMB.out k wr.heap.size ln cn an (fsts acc) wr hk (nown_see HP.out.g4 (fun b hb => (ownsRow_own HP.out.g4 hb).2)) HNB.out (Nat.le_refl _) (by have := HLN.out; have := HAL.out; have := HN16.out; omega))
        clear hk
        go_wp2_with fail
        refine HMC.out.mono ?_
        intro ε w3 h3
        cases hm : nameAt l (fsts acc) k with
        | error e1 q1 =>
          rw [hm] at h3
          obtain ⟨rfl, hb3⟩ := h3
          have he0 : e1 ≠ 0 := (nameAt_bad (s := l) (by have := HSL.out; have := HK.out; omega) hm).2.2.2.1
          have HRE : Hid (R = .error e1 q1) := by
            show _ = _
            unfold fsts at hm
            rw [← HS.out, seqAt, memAt, hm]
          clear hm e2
          have hei : ((e1 : Int) != 0) = true := by simp; omega
          have HB3 := hide hb3
          have HG3 := hide (HGR.out.keep hb3)
          have hgb := GB.new w3 0 { data := #[] } (.slice none 0 0) (.slice none 0 0) 0 e1 q1
          have hba := below_new w3 (.cells #[.int .i64 0, .string { data := #[] }, .slice none 0 0, .slice none 0 0, .int .i64 0, .int .i64 (e1 : Int), .int .i64 (q1 : Int)] 41)
          clear hb3 he0 e0 HS
          rw [show badV e1 q1 = .agg #[.int .i64 0, .string { data := #[] }, .slice none 0 0, .slice none 0 0, .int .i64 ((0 : Nat) : Int), .int .i64 (e1 : Int), .int .i64 (q1 : Int)] from rfl]
          go_upto_region 6 with fail
          have hgb2 : GB (w3.alloc (.cells #[.int .i64 0, .string { data := #[] }, .slice none 0 0, .slice none 0 0, .int .i64 0, .int .i64 (e1 : Int), .int .i64 (q1 : Int)] 41)) w3.heap.size 0 { data := #[] } (.slice none 0 0) (.slice none 0 0) 0 e1 q1 := hgb
          generalize w3.alloc (.cells #[.int .i64 0, .string { data := #[] }, .slice none 0 0, .slice none 0 0, .int .i64 0, .int .i64 (e1 : Int), .int .i64 (q1 : Int)] 41) = w4 at *
          obtain ⟨m0, m1, m2, m3, m4, m5, m6⟩ := hgb2.facts
          have HG4 := hide (HG3.out.keep hba)
          have HB4 := hide (HBR.out.trans ((HB3.out.mono (by omega)).trans (hba.mono (by have := HB3.out.size; omega))))
          obtain ⟨⟨c0, c1, c2, c3, c4, c5, c6⟩, f0, f1, f2, f3, f4, f5, f6⟩ := HG4.out.facts
          clear hgb hgb2 hba
          go_wp2_with fail
          refine bodyPost_ret (got_results rfl rfl (putG_bl HG4.out (.int .i64 0) (.string { data := #[] }) (.slice none 0 0) (.slice none 0 0) (.int .i64 0) (.int .i64 (e1 : Int)) (.int .i64 (q1 : Int)))) rfl ?_
          refine ⟨trivial, HPP.out _ _ (rv_bad (e := e1) (q := q1) (by rw [HRE.out]; rfl) ?_)⟩
          rw [← HN.out]
          exact HB4.out.trans ((putG_but w4 (N + 1) _ _ _ _ _ _ _).below (by omega) (by have := HG4.out.lt; omega))
        | ok nm q0 =>
          rw [hm] at h3
          obtain ⟨rfl, hn256, hb3⟩ := h3
          have hkq0 := nameAt_bounds hm
          have HKM : Hid (k < q0 ∧ q0 ≤ n) := ⟨hkq0.1, by have := HSL.out; omega⟩
          have HMA : Hid (memAt l (vAt l d) acc k = (vAt l d q0).map fun v => (nm, v)) := by
            show _ = _
            unfold fsts at hm
            unfold memAt
            rw [hm]
          have HB3 := hide hb3
          have HG3 := hide (HGR.out.keep hb3)
          have HP3 := hide (HP.out.stay (fun b hb _ => hb3.block b hb) hb3.size)
          have HN256 := hide hn256
          have hgb := GB.new w3 0 { data := #[] } (.slice none 0 0) (.slice none 0 0) q0 0 0
          have hba := below_new w3 (.cells #[.int .i64 0, .string { data := #[] }, .slice none 0 0, .slice none 0 0, .int .i64 (q0 : Int), .int .i64 0, .int .i64 0] 41)
          have hz4 : (w3.alloc (.cells #[.int .i64 0, .string { data := #[] }, .slice none 0 0, .slice none 0 0, .int .i64 (q0 : Int), .int .i64 0, .int .i64 0] 41)).heap.size = w3.heap.size + 1 := by simp
          have hz3 := hb3.size
          clear hm hb3 hn256 hkq0 e0 e2
          rw [show gotV 0 { data := #[] } (.slice none 0 0) (.slice none 0 0) q0 0 0 = .agg #[.int .i64 0, .string { data := #[] }, .slice none 0 0, .slice none 0 0, .int .i64 (q0 : Int), .int .i64 ((0 : Nat) : Int), .int .i64 ((0 : Nat) : Int)] from rfl]
          go_upto_region 6 with fail
          have hgb2 : GB (w3.alloc (.cells #[.int .i64 0, .string { data := #[] }, .slice none 0 0, .slice none 0 0, .int .i64 (q0 : Int), .int .i64 0, .int .i64 0] 41)) w3.heap.size 0 { data := #[] } (.slice none 0 0) (.slice none 0 0) q0 0 0 := hgb
          clear hgb
          generalize w3.alloc (.cells #[.int .i64 0, .string { data := #[] }, .slice none 0 0, .slice none 0 0, .int .i64 (q0 : Int), .int .i64 0, .int .i64 0] 41) = w4 at *
          obtain ⟨m0, m1, m2, m3, m4, m5, m6⟩ := hgb2.facts
          have HGB := hide hgb2
          have HBA := hide hba
          have HV4 : Hid (Jb w4 N 6 ⟨#[]⟩ (.slice an ln cn) (.slice ai li ci)) := HP3.out.g3.keep hba
          have HG4 := hide (HG3.out.keep hba)
          have HOW : Hid (∀ o, (w4.alloc o).ownsRow (N + 2) 9 1 (.slice an ln cn) ln ((fsts acc).map tv)) := fun o => by
            have := World.ownsRow.alloc (ownsRow_stay HP3.out.g4 (fun g hg => hba.block g (ownsRow_own HP3.out.g4 hg).2)) o
            rw [show (fsts acc).length = ln by rw [HLN.out]; simp [fsts]] at this
            exact this
          have v2 := HV4.out.c2
          have HZ4 : Hid (w4.heap.size = w3.heap.size + 1 ∧ wr.heap.size ≤ w3.heap.size ∧ N + 1 < wr.heap.size) := ⟨hz4, hz3, hNr⟩
          clear hgb2 hba hz4 hz3 hNr
          go_wp2_with (first | (at_builtin; refine wpList_append_own_at _ rfl _ _ 22 rfl (N + 2) 9 iT (.string { data := #[] }) 1 16 Tryz.underlying22 HIT.out.1 HIT.out.2.1 HIT.out.2.2.1 HIT.out.2.2.2 rfl (by decide) (.slice an ln cn) ln ((fsts acc).map tv) rfl ?e1 ⟨w4.heap.size, 0, none⟩ 1 1 [.string (bstr nm)] rfl rfl ?e2 ?e3 ?e4 ?e5 ?e6 ?_) | fail)
          case e1 => exact HOW.out _
          case e2 =>
            intro j u hu
            rw [add_none, Nat.zero_add]
            exact ((Bl.new w4 #[.string (bstr nm)] 9).cell j).trans hu
          case e3 =>
            intro u hu
            rcases List.mem_singleton.1 hu with rfl
            rfl
          case e4 => have := HLN.out; have := HAL.out; have := HKM.out; have := HN16.out; unfold maxLen; omega
          case e5 => have := HLN.out; have := HAL.out; have := HKM.out; have := HN16.out; omega
          case e6 => have := HZ4.out; simp; omega
          intro v' w5 f1 f2 f3 f4
          obtain ⟨an', cn', rfl⟩ := ownsRow_slice f1
          have HO5 : NOwn w5 (N + 2) (.slice an' (ln + 1) cn') (fsts acc ++ [nm]) := by
            show World.ownsRow _ _ _ _ _ _ _
            rw [List.length_append, List.map_append, show (fsts acc).length = ln by rw [HLN.out]; simp [fsts]]
            exact f1
          have HW5 := hide (HP3.out.name (w2 := w4.alloc (.cells #[.string (bstr nm)] 9)) (by omega) (HBA.out.trans ((below_new w4 _).mono (by have := HZ4.out; omega))) HO5 f2 (f4.imp id (fun h => h.trans (by simp))) rfl)
          have hN4 : N < w4.heap.size := by have := HZ4.out; omega
          have HE5 : Hid (∀ b, b < w4.heap.size → Value.ownBlock (.slice an ln cn) ≠ some b → w5.heap[b]? = w4.heap[b]?) := fun b h1 h2 => (f2.block b (by simp; omega) (fun e => h2 e.symm)).trans ((below_new w4 _).block b h1)
          have HNO : Hid (∀ b, Value.ownBlock (.slice an ln cn) = some b → N + 2 ≤ b ∧ b < wr.heap.size) := fun b hb => ownsRow_own HP.out.g4 hb
          have HV5 : Jb w5 N 6 ⟨#[]⟩ (.slice an ln cn) (.slice ai li ci) := (HE5.out N hN4 (fun e => by have := (HNO.out N e).1; omega)).trans HV4.out
          have HQ6 : Hid (GB (w5.setCell ⟨N, 2, none⟩ (.slice an' (ln + 1) cn')) w3.heap.size 0 { data := #[] } (.slice none 0 0) (.slice none 0 0) q0 0 0) := (heap_setCell_other w5 ⟨N, 2, none⟩ _ _ (by show w3.heap.size ≠ N; have := HZ4.out; omega)).trans ((HE5.out w3.heap.size (by have := HZ4.out; omega) (fun e => by have := (HNO.out _ e).2; have := HZ4.out; omega)).trans HGB.out)
          have HG6 : Hid (GZ (w5.setCell ⟨N, 2, none⟩ (.slice an' (ln + 1) cn')) (N + 1)) := (heap_setCell_other w5 ⟨N, 2, none⟩ _ _ (by show N + 1 ≠ N; omega)).trans ((HE5.out (N + 1) (by have := HZ4.out; omega) (fun e => by have := (HNO.out _ e).1; omega)).trans HG4.out)
          have w2c := HV5.c2
          have w2f := HV5.fz 2
          clear f1 f2 f3 f4 HO5 HV5 m0 m1 m2 m3 m4 m5 m6 v2 hN4
          go_upto_region 9 with fail
          generalize w5.setCell ⟨N, 2, none⟩ (.slice an' (ln + 1) cn') = w9 at *
          obtain ⟨k6, z6, ⟨o6, t6, u6⟩, p6⟩ := HW5.out
          have HP9 := hide p6
          have HB9 : Hid (Below N w w9) := by
            have hb := HBR.out.trans (HB3.out.mono (by have := HZ4.out; omega))
            refine ⟨o6.trans hb.os, t6.trans hb.tape, u6.trans hb.output, Nat.le_trans hb.size z6, fun b hbN => (k6 b (by have := HZ4.out; omega) (by omega) (fun e => by have := (HNO.out b e).1; omega)).trans (hb.block b hbN)⟩
          have HNB9 : Hid (∀ a ∈ fsts acc ++ [nm], ∀ x ∈ a, x < 256) := fun a ha => by
            rcases List.mem_append.1 ha with h | h
            · exact HNB.out a h
            · rcases List.mem_singleton.1 h with rfl
              exact HN256.out
          obtain ⟨m0, m1, m2, m3, m4, m5, m6⟩ := HQ6.out.facts
          clear k6 z6 o6 t6 u6 p6 HW5 HOW HV4 HG4 HGB HE5 HBA HP3 HP HG3 HGR HB3 HBR w2c w2f HNO HZ4 HNB
          have HP := HP9
          have HGR := HG6
          have HBR := HB9
          have hNr := HGR.out.lt
          clear HP9 HG6 HB9
          have HCV := hide (HVV.out q0 (32 - (d : Int)) w9 rfl HKM.out.2)
          go_wp2_with fail
          clear m0 m1 m2 m3 m4 m5 m6 HQ6
          refine HCV.out.mono ?_
          intro ε w3 h3
          cases ho : vAt l d q0 with
          | error e1 q1 =>
            rw [ho] at h3
            have e0 : True := trivial
            obtain ⟨rfl, hb3⟩ := h3
            have he0 : e1 ≠ 0 := HNZ.out q0 e1 q1 HKM.out.2 ho
            have HRE : Hid (R = .error e1 q1) := by
              show _ = _
              rw [← HS.out, seqAt, HMA.out, ho]
              rfl
            clear ho
            have hei : ((e1 : Int) != 0) = true := by simp; omega
            have HB3 := hide hb3
            have HG3 := hide (HGR.out.keep hb3)
            have hgb := GB.new w3 0 { data := #[] } (.slice none 0 0) (.slice none 0 0) 0 e1 q1
            have hba := below_new w3 (.cells #[.int .i64 0, .string { data := #[] }, .slice none 0 0, .slice none 0 0, .int .i64 0, .int .i64 (e1 : Int), .int .i64 (q1 : Int)] 41)
            clear hb3 he0 e0 HS
            rw [show badV e1 q1 = .agg #[.int .i64 0, .string { data := #[] }, .slice none 0 0, .slice none 0 0, .int .i64 ((0 : Nat) : Int), .int .i64 (e1 : Int), .int .i64 (q1 : Int)] from rfl]
            go_upto_region 11 with fail
            have hgb2 : GB (w3.alloc (.cells #[.int .i64 0, .string { data := #[] }, .slice none 0 0, .slice none 0 0, .int .i64 0, .int .i64 (e1 : Int), .int .i64 (q1 : Int)] 41)) w3.heap.size 0 { data := #[] } (.slice none 0 0) (.slice none 0 0) 0 e1 q1 := hgb
            generalize w3.alloc (.cells #[.int .i64 0, .string { data := #[] }, .slice none 0 0, .slice none 0 0, .int .i64 0, .int .i64 (e1 : Int), .int .i64 (q1 : Int)] 41) = w4 at *
            obtain ⟨m0, m1, m2, m3, m4, m5, m6⟩ := hgb2.facts
            have HG4 := hide (HG3.out.keep hba)
            have HB4 := hide (HBR.out.trans ((HB3.out.mono (by omega)).trans (hba.mono (by have := HB3.out.size; omega))))
            obtain ⟨⟨c0, c1, c2, c3, c4, c5, c6⟩, f0, f1, f2, f3, f4, f5, f6⟩ := HG4.out.facts
            clear hgb hgb2 hba
            go_wp2_with fail
            refine bodyPost_ret (got_results rfl rfl (putG_bl HG4.out (.int .i64 0) (.string { data := #[] }) (.slice none 0 0) (.slice none 0 0) (.int .i64 0) (.int .i64 (e1 : Int)) (.int .i64 (q1 : Int)))) rfl ?_
            refine ⟨trivial, HPP.out _ _ (rv_bad (e := e1) (q := q1) (by rw [HRE.out]; rfl) ?_)⟩
            rw [← HN.out]
            exact HB4.out.trans ((putG_but w4 (N + 1) _ _ _ _ _ _ _).below (by omega) (by have := HG4.out.lt; omega))
          | ok j q1 =>
            rw [ho] at h3
            obtain ⟨x, rfl, hj, hb3⟩ := h3
            obtain ⟨hkq, hqn⟩ := HBDS.out q0 q1 j HKM.out.2 ho
            have HRQ : Hid (R = if skip l q1 < n then (if bt l (skip l q1) = 125 then .ok (acc ++ [(nm, j)]) (skip l q1 + 1) else if bt l (skip l q1) = 44 then seqAt l 125 (memAt l (vAt l d)) f (skip l (skip l q1 + 1)) (acc ++ [(nm, j)]) else .error 40 (skip l q1)) else .error 3 n) := by show _ = _; rw [← HS.out, seqAt, HMA.out, ho, HSL.out]; rfl
            have HB3 := hide hb3
            have HG3 := hide (HGR.out.keep hb3)
            have HP3 := hide (HP.out.stay (fun b hb _ => hb3.block b hb) hb3.size)
            have HJ3 := hide hj
            obtain ⟨ao, cap, hslv⟩ := ownsRow_slice HP.out.g5
            injection hslv with hs1 hs2 hs3
            subst hs2
            clear hs1 hs3
            have HVL : Hid (vs.length = acc.length) := by show _ = _; have := JReps.len HP.out.g6; simpa [snds] using this
            have HKQ : Hid (k < q1 ∧ q1 ≤ n) := ⟨by have := HKM.out; omega, hqn⟩
            have hgb := GB.new w3 x.k x.t (.slice x.an x.ln x.cn) (.slice x.ai x.li x.ci) q1 0 0
            have hba := below_new w3 (.cells #[.int .i64 x.k, .string x.t, .slice x.an x.ln x.cn, .slice x.ai x.li x.ci, .int .i64 (q1 : Int), .int .i64 0, .int .i64 0] 41)
            have hz4 : (w3.alloc (.cells #[.int .i64 x.k, .string x.t, .slice x.an x.ln x.cn, .slice x.ai x.li x.ci, .int .i64 (q1 : Int), .int .i64 0, .int .i64 0] 41)).heap.size = w3.heap.size + 1 := by simp
            have hz3 := hb3.size
            clear ho hb3 hj HS hkq hqn
            rw [show gotX x q1 = .agg #[.int .i64 x.k, .string x.t, .slice x.an x.ln x.cn, .slice x.ai x.li x.ci, .int .i64 (q1 : Int), .int .i64 ((0 : Nat) : Int), .int .i64 ((0 : Nat) : Int)] from rfl]
            go_upto_region 11 with fail
            have hgb2 : GB (w3.alloc (.cells #[.int .i64 x.k, .string x.t, .slice x.an x.ln x.cn, .slice x.ai x.li x.ci, .int .i64 (q1 : Int), .int .i64 0, .int .i64 0] 41)) w3.heap.size x.k x.t (.slice x.an x.ln x.cn) (.slice x.ai x.li x.ci) q1 0 0 := hgb
            clear hgb
            generalize w3.alloc (.cells #[.int .i64 x.k, .string x.t, .slice x.an x.ln x.cn, .slice x.ai x.li x.ci, .int .i64 (q1 : Int), .int .i64 0, .int .i64 0] 41) = w4 at *
            obtain ⟨m0, m1, m2, m3, m4, m5, m6⟩ := hgb2.facts
            have HGB := hide hgb2
            have HBA := hide hba
            have HV4 : Hid (Jb w4 N 6 ⟨#[]⟩ (.slice an' (ln + 1) cn') (.slice ai vs.length ci)) := HP3.out.g3.keep hba
            have HG4 := hide (HG3.out.keep hba)
            have HOW : Hid (∀ o, (w4.alloc o).ownsRow (N + 2) 25 4 (.slice ai vs.length ci) vs.length (flat4 vs)) := fun o => World.ownsRow.alloc (ownsRow_stay HP3.out.g5 (fun g hg => hba.block g (ownsRow_own HP3.out.g5 hg).2)) o
            have v3 := HV4.out.c3
            have HZ4 : Hid (w4.heap.size = w3.heap.size + 1 ∧ w9.heap.size ≤ w3.heap.size ∧ N + 1 < w9.heap.size) := ⟨hz4, hz3, hNr⟩
            clear hgb2 hba hz4 hz3 hNr
            go_wp2_with (first | (at_builtin; refine wpList_append_own_at _ rfl _ _ 23 rfl (N + 2) 25 i0 (.agg #[.int .i64 0, .string { data := #[] }, .slice none 0 0, .slice none 0 0]) 4 72 Tryz.underlying23 HI0.out.1 HI0.out.2.1 HI0.out.2.2.1 HI0.out.2.2.2 rfl (by decide) (.slice ai vs.length ci) vs.length (flat4 vs) rfl ?e1 ⟨w4.heap.size, 0, none⟩ 1 1 x.cells rfl rfl ?e2 ?e3 ?e4 ?e5 ?e6 ?_) | fail)
            case e1 => exact HOW.out _
            case e2 =>
              intro j u hu
              rw [add_none, Nat.zero_add]
              exact ((Bl.new w4 #[.int .i64 x.k, .string x.t, .slice x.an x.ln x.cn, .slice x.ai x.li x.ci] 25).cell j).trans hu
            case e3 =>
              intro u hu
              simp only [JV.cells, List.mem_cons, List.not_mem_nil, or_false] at hu
              rcases hu with rfl | rfl | rfl | rfl <;> rfl
            case e4 => have := HVL.out; have := HAL.out; have := HKQ.out; have := HN16.out; unfold maxLen; omega
            case e5 => have := HVL.out; have := HAL.out; have := HKQ.out; have := HN16.out; omega
            case e6 => have := HZ4.out; simp; omega
            intro v' w5 f1 f2 f3 f4
            obtain ⟨ai', ci', rfl⟩ := ownsRow_slice f1
            have HO5 : JOwn w5 (N + 2) (.slice ai' (vs.length + 1) ci') (vs ++ [x]) := by
              show World.ownsRow _ _ _ _ _ _ _
              rw [List.length_append, flat4_snoc]
              exact f1
            have HW5 := hide (HP3.out.item1 (w2 := w4.alloc (.cells #[.int .i64 x.k, .string x.t, .slice x.an x.ln x.cn, .slice x.ai x.li x.ci] 25)) (by omega) (HBA.out.trans ((below_new w4 _).mono (by have := HZ4.out; omega))) HO5 f2 (f4.imp id (fun h => h.trans (by simp))) rfl HJ3.out (fun b hb => ⟨by have := HZ4.out; omega, hb.2⟩) (fun b h1 h2 => by have := (HP.out.g7 b h1).2; omega) (fun b h1 h2 => by have := (ownsRow_own HP.out.g4 h1).2; omega) (fun b h1 h2 => by have := (ownsRow_own HP.out.g5 h1).2; omega))
            have hN4 : N < w4.heap.size := by have := HZ4.out; omega
            have HE5 : Hid (∀ b, b < w4.heap.size → Value.ownBlock (.slice ai vs.length ci) ≠ some b → w5.heap[b]? = w4.heap[b]?) := fun b h1 h2 => (f2.block b (by simp; omega) (fun e => h2 e.symm)).trans ((below_new w4 _).block b h1)
            have HNO : Hid (∀ b, Value.ownBlock (.slice ai vs.length ci) = some b → N + 2 ≤ b ∧ b < w9.heap.size) := fun b hb => ownsRow_own HP.out.g5 hb
            have HV5 : Jb w5 N 6 ⟨#[]⟩ (.slice an' (ln + 1) cn') (.slice ai vs.length ci) := (HE5.out N hN4 (fun e => by have := (HNO.out N e).1; omega)).trans HV4.out
            have HQ6 : Hid (GB (w5.setCell ⟨N, 3, none⟩ (.slice ai' (vs.length + 1) ci')) w3.heap.size x.k x.t (.slice x.an x.ln x.cn) (.slice x.ai x.li x.ci) q1 0 0) := (heap_setCell_other w5 ⟨N, 3, none⟩ _ _ (by show w3.heap.size ≠ N; have := HZ4.out; omega)).trans ((HE5.out w3.heap.size (by have := HZ4.out; omega) (fun e => by have := (HNO.out _ e).2; have := HZ4.out; omega)).trans HGB.out)
            have HG6 : Hid (GZ (w5.setCell ⟨N, 3, none⟩ (.slice ai' (vs.length + 1) ci')) (N + 1)) := (heap_setCell_other w5 ⟨N, 3, none⟩ _ _ (by show N + 1 ≠ N; omega)).trans ((HE5.out (N + 1) (by have := HZ4.out; omega) (fun e => by have := (HNO.out _ e).1; omega)).trans HG4.out)
            have w3c := HV5.c3
            have w3f := HV5.fz 3
            clear f1 f2 f3 f4 HO5 HV5 m0 m1 m2 m3 m4 m5 m6 v3 hN4
            go_upto_region 14 with fail
            generalize w5.setCell ⟨N, 3, none⟩ (.slice ai' (vs.length + 1) ci') = w6 at *
            obtain ⟨k6, z6, ⟨o6, t6, u6⟩, p6⟩ := HW5.out
            have HP6 := hide p6
            have HB6 : Hid (Below N w w6) := by
              have hb := HBR.out.trans (HB3.out.mono (by have := HZ4.out; omega))
              refine ⟨o6.trans hb.os, t6.trans hb.tape, u6.trans hb.output, Nat.le_trans hb.size z6, fun b hbN => (k6 b (by have := HZ4.out; omega) (by omega) (fun e => by have := (HNO.out b e).1; omega)).trans (hb.block b hbN)⟩
            obtain ⟨m0, m1, m2, m3, m4, m5, m6⟩ := HQ6.out.facts
            obtain ⟨k2, hk2⟩ : ∃ k2, k2 = skip l q1 := ⟨_, rfl⟩
            have hk2n : k2 ≤ n := by rw [hk2]; exact HSK.out _ HKQ.out.2
            have hk2g : q1 ≤ k2 := by rw [hk2]; exact skip_ge l q1
            have HBQ : Hid (∀ W, Calls Tryz.prog 11 #[.string s, .int .i64 (q1 : Int)] W fun e w' => e = .returned (.int .i64 (k2 : Int)) ∧ w' = W) := fun W => by rw [hk2]; exact HBK.out q1 _ W rfl HKQ.out.2
            rw [← hk2] at HRQ
            have HK2 : Hid (k < k2 ∧ k2 ≤ n) := ⟨by have := HKQ.out; omega, hk2n⟩
            clear hk2 hk2n hk2g k6 z6 o6 t6 u6 p6 HW5 HOW HV4 HG4 HGB HE5 HBA HP3 HP HJ3 HG3 HGR HB3 HBR w3c w3f
            go_upto_region 15 with (go_at_call 11; refine (HBQ.out _).mono ?_; rintro ε wx ⟨rfl, hwx⟩; have hwy := hwx.symm; subst hwy; clear hwx)
            obtain ⟨F1, hF1⟩ : ∃ F1, F1 = decide (k2 < n ∧ bt l k2 = 125) := ⟨_, rfl⟩
            have HF1 := hide hF1
            clear hF1
            go_cut [87] (fun c wx => c = .bool F1 ∧ wx = w6)
            case first =>
              by_cases hkn : k2 < n
              · have hkn' : (k2 : Int) < (n : Int) := by omega
                have hxk : ∀ W, (Instr.index 9 (.string s) (.int .i64 (k2 : Int))).run Tryz.prog W = .ok (.int .u8 ((bt l k2 : Nat) : Int)) W := HIX.out k2 hkn
                by_cases h93 : bt l k2 = 125
                · have HT : Hid (F1 = true) := hide (by rw [HF1.out]; exact decide_eq_true ⟨hkn, h93⟩)
                  rw [h93] at hxk
                  clear hkn h93
                  go_wp2_with fail
                  go_meet
                  case rel => exact ⟨by rw [HT.out], rfl⟩
                · have HT : Hid (F1 = false) := hide (by rw [HF1.out]; exact decide_eq_false fun h => h93 h.2)
                  have h93' : (((bt l k2 : Nat) : Int) == 125) = false := by simp; omega
                  clear hkn h93 HF1 HRQ
                  generalize bt l k2 = c at *
                  go_wp2_with fail
                  go_meet
                  case rel => exact ⟨by rw [HT.out], rfl⟩
              · have hkn' : ¬ (k2 : Int) < (n : Int) := by omega
                have HT : Hid (F1 = false) := hide (by rw [HF1.out]; exact decide_eq_false fun h => hkn h.1)
                clear hkn
                go_wp2_with fail
                go_meet
                case rel => exact ⟨by rw [HT.out], rfl⟩
            case rest =>
              obtain ⟨rfl, hwc⟩ := hcut
              have hwd := hwc.symm
              subst hwd
              clear hwc m0 m1 m2 m3 m4 m5 m6
              obtain ⟨⟨c0, c1, c2, c3, c4, c5, c6⟩, f0, f1, f2, f3, f4, f5, f6⟩ := HG6.out.facts
              cases F1 with
              | true =>
                have hT : k2 < n ∧ bt l k2 = 125 := of_decide_eq_true HF1.out.symm
                have HRO : Hid (R = .ok (acc ++ [(nm, j)]) (k2 + 1)) := by show _ = _; rw [HRQ.out, if_pos hT.1, if_pos hT.2]
                obtain ⟨k3, hk3⟩ : ∃ k3, k3 = k2 + 1 := ⟨_, rfl⟩
                have hks : (k2 : Int) + 1 = (k3 : Int) := by omega
                have hk16 : k3 ≤ 16385 := by have := HN16.out; have := HK2.out; omega
                rw [← hk3] at HRO
                clear hT hk3 HRQ HF1
                clear HVV HBK HBDS HNZ HSK HB1 HAL HK HCV HKQ HVL HZ4 HNO HK2 HBQ HQ6 HIX HMB HMC HMA HKM HIT HLN HN256 hdep hd1 hd2 hp16 HI0 HMU HRS hkz HJ0 HG0 HB0 HZ0 HK0
                have e0 := HP6.out.g3.c0
                have e1 := HP6.out.g3.c1
                have e2 := HP6.out.g3.c2
                have e3 := HP6.out.g3.c3
                go_wp2_with fail
                refine bodyPost_ret (got_results rfl rfl (putG_bl HG6.out (.int .i64 6) (.string { data := #[] }) (.slice an' (ln + 1) cn') (.slice ai' (vs.length + 1) ci') (.int .i64 (k3 : Int)) (.int .i64 0) (.int .i64 0))) rfl ?_
                have hbt := putG_but w6 (N + 1) (.int .i64 6) (.string { data := #[] }) (.slice an' (ln + 1) cn') (.slice ai' (vs.length + 1) ci') (.int .i64 (k3 : Int)) (.int .i64 0) (.int .i64 0)
                refine ⟨trivial, HPP.out _ _ (rv_ok (x := ⟨6, ⟨#[]⟩, an', ln + 1, cn', ai', vs.length + 1, ci'⟩) (j := .mk 6 [] (fsts acc ++ [nm]) (snds acc ++ [j])) (q := k3) (by rw [HRO.out, ← fsts_snoc acc nm j, ← snds_snoc acc nm j]; rfl) (JRep.wide (JRep.stay _ _ _ (parts_rep HP6.out HNB9.out) (fun b hb => hbt.block b hb.2 (by have := hb.1; omega))) (fun b hb => ⟨by have := HN.out; have := hb.1; omega, Nat.lt_of_lt_of_le hb.2 hbt.size⟩)) ?_)⟩
                rw [← HN.out]
                exact HB6.out.trans (hbt.below (by omega) (by have := HG6.out.lt; omega))
              | false =>
                have hF : ¬ (k2 < n ∧ bt l k2 = 125) := of_decide_eq_false HF1.out.symm
                clear HF1
                by_cases hkn : k2 < n
                · have hkn' : (k2 : Int) < (n : Int) := by omega
                  have hgk' : ¬ (n : Int) ≤ (k2 : Int) := by omega
                  have hxk : ∀ W, (Instr.index 9 (.string s) (.int .i64 (k2 : Int))).run Tryz.prog W = .ok (.int .u8 ((bt l k2 : Nat) : Int)) W := HIX.out k2 hkn
                  rw [if_pos hkn, if_neg (fun h => hF ⟨hkn, h⟩)] at HRQ
                  by_cases h44 : bt l k2 = 44
                  · rw [if_pos h44] at HRQ
                    rw [h44] at hxk
                    obtain ⟨k4, hk4⟩ : ∃ k4, k4 = skip l (k2 + 1) := ⟨_, rfl⟩
                    have HBN : Hid (∀ W, Calls Tryz.prog 11 #[.string s, .int .i64 ((k2 : Int) + 1)] W fun e w' => e = .returned (.int .i64 (k4 : Int)) ∧ w' = W) := fun W => by rw [hk4]; exact HBK.out (k2 + 1) _ W (by simp) (by omega)
                    have HK4 : Hid (k2 < k4 ∧ k4 ≤ n) := ⟨by rw [hk4]; have := skip_ge l (k2 + 1); omega, by rw [hk4]; exact HSK.out _ (by omega)⟩
                    rw [← hk4] at HRQ
                    have hk16 : k2 ≤ 16384 := by have := HN16.out; omega
                    clear hF hkn h44 hk4
                    go_wp2_with (go_at_call 11; refine (HBN.out _).mono ?_; rintro ε wx ⟨rfl, hwx⟩; have hwy := hwx.symm; subst hwy; clear hwx)
                    go_roundw
                    case rel => exact ⟨k4, f, acc ++ [(nm, j)], an', ai', ln + 1, cn', vs.length + 1, ci', vs ++ [x], _, rfl, HK4.out.2, ⟨by have := HAL.out; have := HK2.out; have := HK4.out; simp; omega, by have := HAL.out; have := HK2.out; have := HK4.out; omega⟩, HRQ.out.symm, by rw [fsts_snoc, snds_snoc]; exact HP6, HG6, HB6, by rw [fsts_snoc]; exact HNB9⟩
                    case measure => have := HK2.out; have := HK4.out; simp [intOf]; omega
                  · rw [if_neg h44] at HRQ
                    have HMK := hide (HMU.out k2)
                    rw [if_pos hkn] at HMK
                    have h44' : (((bt l k2 : Nat) : Int) != 44) = true := by simp; omega
                    have hz6 := HG6.out.lt
                    have HRE : Hid (R = .error 40 k2) := HRQ
                    unfold badV gotV at HMK
                    clear HP6 HVV HBK HBDS HNZ HSK HB1 HAL HK HCV HKQ HVL HZ4 HNO HK2 HBQ HQ6 HIX HMB HMC HMA HKM HIT HLN HN256 hdep hd1 hd2 hp16 HI0 HMU HRS hkz HJ0 HG0 HB0 HZ0 HK0
                    clear hF hkn h44 HRQ c0 c1 c2 c3 c4 c5 c6 f0 f1 f2 f3 f4 f5 f6
                    generalize bt l k2 = c at *
                    go_wp2_with (go_at_call 30; refine (HMK.out _).mono ?_; rintro ε w7 ⟨rfl, h7⟩; have HG7 := hide (HG6.out.keep h7); have H7 := hide (HB6.out.trans (h7.mono (by omega))); obtain ⟨⟨c0, c1, c2, c3, c4, c5, c6⟩, f0, f1, f2, f3, f4, f5, f6⟩ := HG7.out.facts; clear h7)
                    refine bodyPost_ret (got_results rfl rfl (putG_bl HG7.out _ _ _ _ _ _ _)) rfl ?_
                    refine ⟨trivial, HPP.out _ _ (rv_bad (e := 40) (q := k2) (by rw [HRE.out]; rfl) ?_)⟩
                    rw [← HN.out]
                    exact H7.out.trans ((putG_but w7 (N + 1) _ _ _ _ _ _ _).below (by omega) (by have := HG7.out.lt; omega))
                · have hkn' : ¬ (k2 : Int) < (n : Int) := by omega
                  have hgk' : (n : Int) ≤ (k2 : Int) := by omega
                  rw [if_neg hkn] at HRQ
                  have HMK := hide (HMU.out k2)
                  rw [if_neg hkn] at HMK
                  have hz6 := HG6.out.lt
                  have HRE : Hid (R = .error 3 n) := HRQ
                  unfold badV gotV at HMK
                  clear HP6 HVV HBK HBDS HNZ HSK HB1 HAL HK HCV HKQ HVL HZ4 HNO HK2 HBQ HQ6 HIX HMB HMC HMA HKM HIT HLN HN256 hdep hd1 hd2 hp16 HI0 HMU HRS hkz HJ0 HG0 HB0 HZ0 HK0
                  clear hF hkn HRQ c0 c1 c2 c3 c4 c5 c6 f0 f1 f2 f3 f4 f5 f6
                  go_wp2_with (go_at_call 30; refine (HMK.out _).mono ?_; rintro ε w7 ⟨rfl, h7⟩; have HG7 := hide (HG6.out.keep h7); have H7 := hide (HB6.out.trans (h7.mono (by omega))); obtain ⟨⟨c0, c1, c2, c3, c4, c5, c6⟩, f0, f1, f2, f3, f4, f5, f6⟩ := HG7.out.facts; clear h7)
                  refine bodyPost_ret (got_results rfl rfl (putG_bl HG7.out _ _ _ _ _ _ _)) rfl ?_
                  refine ⟨trivial, HPP.out _ _ (rv_bad (e := 3) (q := n) (by rw [HRE.out]; rfl) ?_)⟩
                  rw [← HN.out]
                  exact H7.out.trans ((putG_but w7 (N + 1) _ _ _ _ _ _ _).below (by omega) (by have := HG7.out.lt; omega))
end Go.Proofs.YtlebockgdonceaaGreatDoor
