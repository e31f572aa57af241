/- The walk of the law JtextBack: every Json: true, and nothing old turns. -/
import Derived.Test.YtehpgkgdjojhpaaGreatDoorRTwin
import Derived.Test.YtehpgkgdjojhpaaGreatDoorKForm
namespace Go.Proofs.YtehpgkgdjojhpaaGreatDoor
open Go.RowKit

/-- A way of writing whose faults have numbers. -/
def Nz (f : By → Pr) : Prop := ∀ xs e, f xs = .error e → e ≠ 0
theorem nz_put (t : By) : Nz fun xs => putAt xs t := fun xs e h0 => by
  have h : putAt xs t = .error e := h0
  rcases putAt_pok xs t with ⟨ys, h2⟩ | h2
  · rw [h2] at h; cases h
  · rw [h2] at h
    injection h with h
    omega
theorem nz_then {f g : By → Pr} (hf : Nz f) (hg : Nz g) : Nz fun xs => (f xs).then g := fun xs e h => by
  cases hx : f xs with
  | ok ys =>
    have h2 : (f xs).then g = .error e := h
    rw [hx] at h2
    exact hg ys e h2
  | error e2 =>
    have h2 : (f xs).then g = .error e := h
    rw [hx] at h2
    injection h2 with h2
    rw [← h2]
    exact hf xs e2 hx
theorem nz_quote {t : By} (h : clean t = true) : Nz (quoteAt t) := fun xs e he => by
  rcases quoteAt_pok h xs with ⟨ys, h2⟩ | h2
  · rw [h2] at he; cases he
  · rw [h2] at he
    injection he with he
    omega
theorem nz_name (had : List By) (nm : By) : Nz (wNameAt had nm) := fun xs e h => by
  unfold wNameAt at h
  split at h
  · rename_i hc
    split at h
    · injection h with h; omega
    · exact nz_then (nz_quote hc) (nz_put [58]) xs e h
  · injection h with h; omega
theorem nz_seq {f : Nat → By → Pr} (h : ∀ i, Nz (f i)) : ∀ (m i : Nat), Nz (wSeq f m i)
  | 0, i => fun xs e he => by cases he
  | m + 1, i => fun xs e he => by
    refine nz_then (nz_then (f := fun xs => if 0 < i then putAt xs [44] else .ok xs) (fun xs e he => ?_) (h i)) (nz_seq h m (i + 1)) xs e he
    simp only at he
    split at he
    · exact nz_put [44] xs e he
    · cases he
theorem nz_betw (o c : By) (n : Nat) {f : Nat → By → Pr} (h : ∀ i, Nz (f i)) : Nz (betwAt o c n f) := nz_then (nz_put o) (nz_then (nz_seq h n 0) (nz_put c))
theorem nz_step (sub : Option (J → By → Pr)) (hs : ∀ f, sub = some f → ∀ j, Nz (f j)) (j : J) : Nz (pStep sub j) := fun xs e h => by
  unfold pStep at h
  split at h
  · injection h with h; omega
  split at h
  · injection h with h; omega
  split at h
  · exact nz_put _ xs e h
  split at h
  · exact nz_put _ xs e h
  split at h
  · exact nz_put _ xs e h
  split at h
  · split at h
    · exact nz_put _ xs e h
    · injection h with h; omega
  split at h
  · split at h
    · rename_i hc
      exact nz_quote hc xs e h
    · injection h with h; omega
  split at h
  · cases sub with
    | none => injection h with h; omega
    | some f => exact nz_betw _ _ _ (fun i => hs f rfl _) xs e h
  split at h
  · cases sub with
    | none => injection h with h; omega
    | some f =>
      simp only at h
      split at h
      · exact nz_betw _ _ _ (fun i => nz_then (nz_name _ _) (hs f rfl _)) xs e h
      · injection h with h; omega
  injection h with h; omega
theorem pAt_nz : ∀ (d : Nat) (j : J), Nz (pAt d j)
  | 0, j => nz_step none (fun f h => by cases h) j
  | d + 1, j => nz_step (some (pAt d)) (fun f h j => by injection h with h; rw [← h]; exact pAt_nz d j) j

set_option maxHeartbeats 4000000 in
set_option maxRecDepth 100000 in
theorem jtextBack_walk (j : J) (x : JV) (B : Nat) (w : World) (hx : JSee w B j x) (hf : JFit j) (hB : B ≤ w.heap.size) (hT : Tabs w) (hZ : ZT w) (hz : 7 ≤ w.heap.size) :
    Calls Tryz.prog 8 #[x.val] w fun e w' => e = .returned (.bool true) ∧ Below w.heap.size w w' := by
  have ev : ∀ v : JV, v.val = .agg #[.int .i64 v.k, .string v.t, .slice v.an v.ln v.cn, .slice v.ai v.li v.ci] := fun _ => rfl
  have HU := hide (below_new w (.cells #[.int .i64 x.k, .string x.t, .slice x.an x.ln x.cn, .slice x.ai x.li x.ci] 25))
  have HJ1 := hide (Jb.new w x.k x.t (.slice x.an x.ln x.cn) (.slice x.ai x.li x.ci))
  have HX : Hid (∀ W, Below w.heap.size w W → JSee W B j x) := fun W hW => JSee.stay _ _ hx (fun k hk => hW.block k (by omega))
  have HT : Hid (∀ W, Below w.heap.size w W → Tabs W ∧ ZT W ∧ 7 ≤ W.heap.size ∧ B ≤ W.heap.size) := fun W hW => ⟨hT.keep hW, hZ.keep hW, by have := hW.size; omega, by have := hW.size; omega⟩
  have HF := hide hf
  rw [ev x]
  obtain ⟨N, hN⟩ : ∃ N, N = w.heap.size := ⟨_, rfl⟩
  clear hx hf hT hZ
  go_enter Tryz.func8, Tryz.ntmps8
  go_upto_region 1 with fail
  rw [← hN] at HJ1 ⊢
  have HNW := hide hN
  clear hN
  generalize w.alloc (.cells #[.int .i64 x.k, .string x.t, .slice x.an x.ln x.cn, .slice x.ai x.li x.ci] 25) = u at *
  have p0 := HJ1.out.c0
  have p1 := HJ1.out.c1
  have p2 := HJ1.out.c2
  have p3 := HJ1.out.c3
  have HC1 := hide (large_any j x B u (HX.out u HU.out) HF.out (HT.out u HU.out).2.2.2)
  rw [ev x] at HC1
  go_wp2_with fail
  refine HC1.out.mono ?_
  rintro ε w2 ⟨q, rfl, hq, hb2⟩
  have HB2 := hide (below_up HU.out hb2)
  have HJ2 := hide (HJ1.out.keep hb2)
  have HQ := hide hq
  clear hq hb2 HC1 HJ1 p0 p1 p2 p3
  cases q with
  | true =>
    go_wp2_with fail
    go_ret
    exact ⟨rfl, HB2.out⟩
  | false =>
    have p0 := HJ2.out.c0
    have p1 := HJ2.out.c1
    have p2 := HJ2.out.c2
    have p3 := HJ2.out.c3
    have HC2 := hide (twin_any j x B w2 (HX.out w2 HB2.out) HF.out (HQ.out (by first | exact rfl | trivial)) (HT.out w2 HB2.out).2.2.2)
    rw [ev x] at HC2
    go_wp2_with fail
    refine HC2.out.mono ?_
    rintro ε w3 ⟨y, rfl, hr, hb3⟩
    have HB3 := hide (below_up HB2.out hb3)
    have HJ3 := hide (HJ2.out.keep hb3)
    have HC3 := hide (print_any j y w3.heap.size w3 (JRep.see _ _ _ hr (fun b h => h.2)) HF.out (Nat.le_refl _) (HT.out w3 HB3.out).2.2.1 (HT.out w3 HB3.out).1 (HT.out w3 HB3.out).2.1)
    have HASC := hide (fun ys hy => (pAt_asc 32 j [] ys (fun c hc => by cases hc) hy).lt)
    have HBK := hide (fun ys (hy : pAt 32 j [] = .ok ys) => parse_back hy)
    have HPL := hide (fun ys (hy : pAt 32 j [] = .ok ys) => (pAt_goes 32 j [] ys hy).1)
    have HNZ := hide (pAt_nz 32 j [])
    generalize pAt 32 j [] = P at HC3 HASC HBK HPL HNZ
    rw [ev y] at HC3 ⊢
    clear hr hb3 HC2 HJ2 p0 p1 p2 p3
    go_wp2_with fail
    refine HC3.out.mono ?_
    rintro ε w4 ⟨rfl, hb4⟩
    have HB4 := hide (below_up HB3.out hb4)
    have HJ4 := hide (HJ3.out.keep hb4)
    clear hb4 HC3 HJ3
    cases P with
    | error e =>
      have hne := HNZ.out e rfl
      have hne0 : ((e : Int) != 0) = true := by simp; omega
      rw [show prVal (.error e) = .tuple #[.string ⟨#[]⟩, .int .i64 (e : Int)] from rfl]
      clear hne
      go_wp2_with fail
      refine (num_any _ _).mono ?_
      rintro e2 w5 ⟨rfl, rfl⟩
      go_wp2_with fail
      refine (live_true w5 (HT.out w5 HB4.out).1 (HT.out w5 HB4.out).2.1 (HT.out w5 HB4.out).2.2.1).mono ?_
      rintro e3 w8 ⟨rfl, hb8⟩
      have HB8 := hide (below_up HB4.out hb8)
      clear hb8
      go_wp2_with fail
      go_ret
      exact ⟨rfl, HB8.out⟩
    | ok ys =>
      have HSB := hide (sbytes_bstr (HASC.out ys rfl))
      have HPA := hide (HBK.out ys rfl)
      have hyl := HPL.out ys rfl
      have HP4 := hide (parse_any (bstr ys) w4 (HT.out w4 HB4.out).1 (by have := (HT.out w4 HB4.out).2.2.1; omega) (by rw [bstr_size]; omega))
      rw [HSB.out, HPA.out] at HP4
      rw [show prVal (.ok ys) = .tuple #[.string (bstr ys), .int .i64 0] from rfl]
      clear HASC HBK HPL HNZ
      go_wp2_with fail
      refine (num_any _ _).mono ?_
      rintro e w5 ⟨rfl, rfl⟩
      go_wp2_with fail
      refine HP4.out.mono ?_
      rintro ε w6 ⟨z, rfl, hr6, hb6⟩
      have HB6 : Hid (Below w5.heap.size w5 (w6.alloc (.cells #[.int .i64 z.k, .string z.t, .slice z.an z.ln z.cn, .slice z.ai z.li z.ci] 25))) := hb6.alloc hb6.size _
      have HY6 : Hid (JSee (w6.alloc (.cells #[.int .i64 z.k, .string z.t, .slice z.an z.ln z.cn, .slice z.ai z.li z.ci] 25)) w6.heap.size j z) := JSee.stay _ _ (JRep.see _ _ _ hr6 (fun b h => h.2)) (fun k hk => (below_new w6 _).block k hk)
      have HK6 := hide (Jb.new w6 z.k z.t (.slice z.an z.ln z.cn) (.slice z.ai z.li z.ci))
      obtain ⟨N2, hN2⟩ : ∃ N, N = w6.heap.size := ⟨_, rfl⟩
      have HLT6 : Hid (N2 ≤ (w6.alloc (.cells #[.int .i64 z.k, .string z.t, .slice z.an z.ln z.cn, .slice z.ai z.li z.ci] 25)).heap.size) := by show _ ≤ _; rw [hN2]; simp
      have hBN2 : B ≤ N2 := by have := (HT.out w5 HB4.out).2.2.2; have := hb6.size; omega
      rw [← hN2] at HY6 HK6
      rw [ev z]
      have HNN := hide hN2
      clear hb6 hr6 HP4 hN2
      go_wp2_with fail
      rw [← HNN.out]
      clear HNN
      generalize w6.alloc (.cells #[.int .i64 z.k, .string z.t, .slice z.an z.ln z.cn, .slice z.ai z.li z.ci] 25) = w7 at *
      have HB7 := hide (below_up HB4.out HB6.out)
      have HJ7 := hide (HJ4.out.keep HB6.out)
      refine (live_true w7 (HT.out w7 HB7.out).1 (HT.out w7 HB7.out).2.1 (HT.out w7 HB7.out).2.2.1).mono ?_
      rintro e w9 ⟨rfl, hb9⟩
      have HB9 := hide (below_up HB7.out hb9)
      have HJ9 := hide (HJ7.out.keep hb9)
      have HK9 := hide (HK6.out.keep hb9)
      have HX9 : Hid (JSee w9 N2 j x) := (jsee_up hBN2).1 _ _ (HX.out w9 HB9.out)
      have HY9 : Hid (JSee w9 N2 j z) := JSee.stay _ _ HY6.out (fun k hk => hb9.block k (by have := HLT6.out; omega))
      have HZ9 : Hid (N2 ≤ w9.heap.size) := by have := hb9.size; have := HLT6.out; show _ ≤ _; omega
      clear hb9 HJ7 HK6 HY6 HJ4
      go_wp2_with fail
      refine (num_any _ _).mono ?_
      rintro e w10 ⟨rfl, rfl⟩
      have b0 := HJ9.out.c0
      have b1 := HJ9.out.c1
      have b2 := HJ9.out.c2
      have b3 := HJ9.out.c3
      have c0 := HK9.out.c0
      have c1 := HK9.out.c1
      have c2 := HK9.out.c2
      have c3 := HK9.out.c3
      have HEQ := hide (equal_any j j x z N2 w10 HX9.out HY9.out HF.out HZ9.out)
      rw [ev x, ev z] at HEQ
      go_wp2_with fail
      refine HEQ.out.mono ?_
      rintro ε w11 ⟨q, rfl, hq, hb11⟩
      obtain rfl : q = true := hq.2 (by first | exact rfl | trivial)
      have HB11 := hide (below_up HB9.out hb11)
      clear hq hb11
      go_wp2_with fail
      go_ret
      exact ⟨rfl, HB11.out⟩
end Go.Proofs.YtehpgkgdjojhpaaGreatDoor
