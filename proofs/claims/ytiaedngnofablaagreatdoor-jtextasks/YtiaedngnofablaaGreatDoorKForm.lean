/- The contract of Same; what was written is a value, and says the same as itself. -/
import Derived.Test.YtiaedngnofablaaGreatDoorKSame2
import Derived.Test.YtiaedngnofablaaGreatDoorKLive
import Derived.Test.YtiaedngnofablaaGreatDoorJSound
namespace Go.Proofs.YtiaedngnofablaaGreatDoor
open Go.RowKit

set_option maxHeartbeats 2000000 in
set_option maxRecDepth 100000 in
theorem same_any (j1 j2 : J) (x y : JV) (B : Nat) (w : World) (hx : JSee w B j1 x) (hy : JSee w B j2 y) (hf : JFit j1) (hf' : JFit j2) (hB : B ≤ w.heap.size) (hT : Tabs w) :
    Calls Tryz.prog 20 #[x.val, y.val] w fun e w' => ∃ q : Bool, e = .returned (.bool q) ∧ (q = true ↔ (VOk j1 0 ∧ VOk j2 0 ∧ Says j1 j2)) ∧ Below w.heap.size w w' := by
  have HU : Hid (Below w.heap.size w ((w.alloc (.cells #[.int .i64 x.k, .string x.t, .slice x.an x.ln x.cn, .slice x.ai x.li x.ci] 25)).alloc (.cells #[.int .i64 y.k, .string y.t, .slice y.an y.ln y.cn, .slice y.ai y.li y.ci] 25))) := ((Below.refl _ _).alloc (Nat.le_refl _) _).alloc (by simp) _
  obtain ⟨N, hN⟩ : ∃ N, N = w.heap.size := ⟨_, rfl⟩
  have HJ1 : Hid (Jb ((w.alloc (.cells #[.int .i64 x.k, .string x.t, .slice x.an x.ln x.cn, .slice x.ai x.li x.ci] 25)).alloc (.cells #[.int .i64 y.k, .string y.t, .slice y.an y.ln y.cn, .slice y.ai y.li y.ci] 25)) N x.k x.t (.slice x.an x.ln x.cn) (.slice x.ai x.li x.ci)) := by
    rw [hN]; exact (Jb.new w x.k x.t (.slice x.an x.ln x.cn) (.slice x.ai x.li x.ci)).alloc _
  have HJ2 : Hid (Jb ((w.alloc (.cells #[.int .i64 x.k, .string x.t, .slice x.an x.ln x.cn, .slice x.ai x.li x.ci] 25)).alloc (.cells #[.int .i64 y.k, .string y.t, .slice y.an y.ln y.cn, .slice y.ai y.li y.ci] 25)) (N + 1) y.k y.t (.slice y.an y.ln y.cn) (.slice y.ai y.li y.ci)) := by
    have := Jb.new (w.alloc (.cells #[.int .i64 x.k, .string x.t, .slice x.an x.ln x.cn, .slice x.ai x.li x.ci] 25)) y.k y.t (.slice y.an y.ln y.cn) (.slice y.ai y.li y.ci)
    rw [show (w.alloc (.cells #[.int .i64 x.k, .string x.t, .slice x.an x.ln x.cn, .slice x.ai x.li x.ci] 25)).heap.size = N + 1 by rw [hN]; simp] at this
    exact this
  have HX : Hid (∀ W, Below w.heap.size w W → JSee W B j1 x) := fun W hW => JSee.stay _ _ hx (fun k hk => hW.block k (by omega))
  have HY : Hid (∀ W, Below w.heap.size w W → JSee W B j2 y) := fun W hW => JSee.stay _ _ hy (fun k hk => hW.block k (by omega))
  have HT : Hid (∀ W, Below w.heap.size w W → Tabs W) := fun W hW => hT.keep hW
  have HBw : Hid (∀ W, Below w.heap.size w W → B ≤ W.heap.size) := fun W hW => by have := hW.size; omega
  have HF := hide hf
  have HF' := hide hf'
  suffices HSU : ∀ PP : Ending → World → Prop, (∀ q w', (q = true ↔ (VOk j1 0 ∧ VOk j2 0 ∧ Says j1 j2)) → Below w.heap.size w w' → PP (.returned (.bool q)) w') → Calls Tryz.prog 20 #[x.val, y.val] w fun ε w' => True ∧ PP ε w' from (HSU _ (fun q w' h1 h2 => ⟨q, rfl, h1, h2⟩)).mono fun _ _ h => h.2
  intro PP hPP
  have HPP := hide hPP
  have ev : ∀ v : JV, v.val = .agg #[.int .i64 v.k, .string v.t, .slice v.an v.ln v.cn, .slice v.ai v.li v.ci] := fun _ => rfl
  rw [ev x, ev y]
  clear hPP hx hy hf hf' hB hT
  go_enter Tryz.func20, Tryz.ntmps20
  go_upto_region 1 with fail
  rw [← hN]
  clear hN
  generalize (w.alloc (.cells #[.int .i64 x.k, .string x.t, .slice x.an x.ln x.cn, .slice x.ai x.li x.ci] 25)).alloc (.cells #[.int .i64 y.k, .string y.t, .slice y.an y.ln y.cn, .slice y.ai y.li y.ci] 25) = u at *
  have p0 := HJ1.out.c0
  have p1 := HJ1.out.c1
  have p2 := HJ1.out.c2
  have p3 := HJ1.out.c3
  have HC1 := hide (isValue_any j1 x B 0 u (HX.out u HU.out) HF.out (HBw.out u HU.out) (HT.out u HU.out) (by decide) (by decide))
  rw [ev x] at HC1
  go_wp2_with fail
  refine HC1.out.mono ?_
  rintro ε w2 ⟨q1, rfl, hq1, hb2⟩
  have HB2 := hide (below_up HU.out hb2)
  have HK1 := hide (HJ1.out.keep hb2)
  have HK2 := hide (HJ2.out.keep hb2)
  have HQ1 := hide hq1
  clear hq1 hb2 HC1 HJ1 HJ2 p0 p1 p2 p3
  cases q1 with
  | false =>
    have HE := hide (HPP.out false w2 (iff_no (fun h => by have := HQ1.out.2 h.1; cases this)) HB2.out)
    go_wp2_with fail
    first | (go_ret; exact ⟨trivial, HE.out⟩) | exact HE.out
  | true =>
    have q0 := HK2.out.c0
    have q1 := HK2.out.c1
    have q2 := HK2.out.c2
    have q3 := HK2.out.c3
    have HC2 := hide (isValue_any j2 y B 0 w2 (HY.out w2 HB2.out) HF'.out (HBw.out w2 HB2.out) (HT.out w2 HB2.out) (by decide) (by decide))
    rw [ev y] at HC2
    go_wp2_with fail
    refine HC2.out.mono ?_
    rintro ε w3 ⟨r1, rfl, hr1, hb3⟩
    have HB3 := hide (below_up HB2.out hb3)
    have HL1 := hide (HK1.out.keep hb3)
    have HL2 := hide (HK2.out.keep hb3)
    have HR1 := hide hr1
    clear hr1 hb3 HC2 HK1 HK2 q0 q1 q2 q3
    cases r1 with
    | false =>
      have HE := hide (HPP.out false w3 (iff_no (fun h => by have := HR1.out.2 h.2.1; cases this)) HB3.out)
      go_wp2_with fail
      first | (go_ret; exact ⟨trivial, HE.out⟩) | exact HE.out
    | true =>
      have a0 := HL1.out.c0
      have a1 := HL1.out.c1
      have a2 := HL1.out.c2
      have a3 := HL1.out.c3
      have b0 := HL2.out.c0
      have b1 := HL2.out.c1
      have b2 := HL2.out.c2
      have b3 := HL2.out.c3
      have HC3 := hide (alike_any j1 j2 x y B 0 w3 (HX.out w3 HB3.out) (HY.out w3 HB3.out) HF.out HF'.out (HQ1.out.1 (by first | exact rfl | trivial)) (HR1.out.1 (by first | exact rfl | trivial)) (HBw.out w3 HB3.out))
      rw [ev x, ev y] at HC3
      go_wp2_with fail
      refine HC3.out.mono ?_
      rintro ε w4 ⟨s1, rfl, hs1, hb4⟩
      have HE := hide (HPP.out s1 w4 (hs1.trans ⟨fun h => ⟨HQ1.out.1 (by first | exact rfl | trivial), HR1.out.1 (by first | exact rfl | trivial), h⟩, fun h => h.2.2⟩) (below_up HB3.out hb4))
      clear hs1 hb4
      go_wp2_with fail
      first | (go_ret; exact ⟨trivial, HE.out⟩) | exact HE.out
theorem NSee.up {w : World} {B B' n : Nat} {ao : Option Addr} {ns : List By} (h : NSee w B ao n ns) (hB : B ≤ B') : NSee w B' ao n ns := by
  refine ⟨h.1, ?_⟩
  rcases h.2 with h | ⟨g, off, h1, h2, h3⟩
  · exact .inl h
  · exact .inr ⟨g, off, h1, by omega, h3⟩
theorem ISee.up {w : World} {B B' n : Nat} {ao : Option Addr} {vs : List JV} (h : ISee w B ao n vs) (hB : B ≤ B') : ISee w B' ao n vs := by
  refine ⟨h.1, ?_⟩
  rcases h.2 with h | ⟨g, off, h1, h2, h3⟩
  · exact .inl h
  · exact .inr ⟨g, off, h1, by omega, h3⟩
theorem jsee_up {w : World} {B B' : Nat} (hB : B ≤ B') : (∀ (j : J) (v : JV), JSee w B j v → JSee w B' j v) ∧ (∀ (js : List J) (vs : List JV), JSees w B js vs → JSees w B' js vs) := by
  refine J.both ?_ ?_ ?_
  · intro k t ns is ih v h
    rw [JSee_mk] at h ⊢
    obtain ⟨h1, h2, h3, h4, h5, vs, h6, h7⟩ := h
    exact ⟨h1, h2, h3, h4, h5.up hB, vs, h6.up hB, ih vs h7⟩
  · intro vs h
    rw [JSees_nil] at h ⊢
    exact h
  · intro j js i1 i2 vs h
    rw [JSees_cons] at h ⊢
    obtain ⟨v, vs', h1, h2, h3⟩ := h
    exact ⟨v, vs', h1, i1 v h2, i2 vs' h3⟩
theorem wSeq_each {f : Nat → By → Pr} : ∀ (m i : Nat) (xs ys : By), wSeq f m i xs = .ok ys → ∀ k, i ≤ k → k < i + m → ∃ us vs, f k us = .ok vs
  | 0, i, xs, ys, _, k, h1, h2 => by omega
  | m + 1, i, xs, ys, h, k, h1, h2 => by
    obtain ⟨zs, hz, h3⟩ := then_split h
    obtain ⟨us, _, hz2⟩ := then_split hz
    by_cases hk : k = i
    · rw [hk]; exact ⟨us, zs, hz2⟩
    · exact wSeq_each m (i + 1) zs ys h3 k (by omega) (by omega)
theorem betw_each {o c : By} {n : Nat} {f : Nat → By → Pr} {xs ys : By} (h : betwAt o c n f xs = .ok ys) : ∀ k, k < n → ∃ us vs, f k us = .ok vs := fun k hk => by
  obtain ⟨zs, _, h2⟩ := then_split h
  obtain ⟨us, h3, _⟩ := then_split h2
  exact wSeq_each n 0 zs us h3 k (by omega) (by omega)
theorem name_each {had : List By} {nm xs ys : By} (h : wNameAt had nm xs = .ok ys) : clean nm = true ∧ nm ∉ had := by
  unfold wNameAt at h
  split at h
  · rename_i hc
    split at h
    · cases h
    · rename_i hh
      exact ⟨hc, fun hm => hh (List.contains_iff_mem.2 hm)⟩
  · cases h
theorem nodup_of : ∀ (ns : List By), (∀ i (h : i < ns.length), ns[i] ∉ ns.take i) → ns.Nodup := fun ns h => by
  unfold List.Nodup
  rw [List.pairwise_iff_getElem]
  intro i j hi hj hij e
  exact h j hj (by rw [← e]; exact List.mem_take_iff_getElem.2 ⟨i, by omega, rfl⟩)
/-- What was written is a value. -/
theorem vok_step (d : Nat) (h32 : d ≤ 32) (sub : Option (J → By → Pr)) (hnone : sub.isNone = true ↔ d = 0) (w : World) (B : Nat) (hsub : ∀ f, sub = some f → ∀ (j : J) (x : JV) xs ys, JSee w B j x → f j xs = .ok ys → VOk j (32 - (d : Int) + 1)) (j : J) (x : JV) (xs ys : By) (hj : JSee w B j x) (h : pStep sub j xs = .ok ys) : VOk j (32 - (d : Int)) := by
  obtain ⟨k, t, ns, is⟩ := j
  rw [JSee_mk] at hj
  obtain ⟨a1, a2, a3, a4, an, vs, ai, ajs⟩ := hj
  have hli : x.li = is.length := by rw [ai.1]; exact (JSees.get is vs ajs).1
  have hst : sbytes x.t = t := by rw [a2, sbytes_bstr a3]
  have hsh := pStep_sh sub d hnone h32 (.mk k t ns is) x xs a1 hst an.1 hli
  have he : shErr (32 - (d : Int)) x = 0 := by
    by_cases he : shErr (32 - (d : Int)) x = 0
    · exact he
    · rw [hsh.1 he] at h; cases h
  obtain ⟨hb, hkr, _, hl6, hs56⟩ := hsh.2 he
  have hsJ := he
  rw [shErr_J a1 a2 an.1 hli] at hsJ
  rw [hb] at h
  rw [VOk_mk, voks_iff]
  have hN : k ≠ 6 → ns = [] := fun hk => by
    have := hsJ
    unfold shJ shErr at this
    split at this
    · cases this
    · split at this
      · cases this
      · rename_i hf
        unfold fieldsB at hf
        simp only [Bool.or_eq_true, Bool.and_eq_true, decide_eq_true_iff, not_or, not_and, bne_iff_ne] at hf
        have h3 := hf.1.2
        cases ns with
        | nil => rfl
        | cons a b => exact absurd hk (h3 (by simp))
  have hI : ¬ (k = 5 ∨ k = 6) → is = [] := fun hk => by
    cases is with
    | nil => rfl
    | cons a b =>
      exfalso
      have := hsJ
      unfold shJ shErr at this
      split at this
      · cases this
      · split at this
        · cases this
        · rename_i hf
          unfold fieldsB at hf
          apply hf
          rw [Bool.or_eq_true]
          right
          rw [Bool.and_eq_true]
          exact ⟨by simp, by simp only [Bool.not_eq_true', decide_eq_false_iff_not]; exact hk⟩
  unfold pBody at h
  simp only at h
  by_cases h5 : k = 5
  · subst h5
    cases sub with
    | none => exact absurd (hs56 (.inl a1)) (by decide)
    | some f =>
      simp at h
      refine ⟨hsJ, by rw [hN (by decide)]; rfl, fun j hjm => ?_⟩
      obtain ⟨i, hi, rfl⟩ := List.getElem_of_mem hjm
      obtain ⟨us, vs2, hu⟩ := betw_each h i hi
      obtain ⟨v, hv1, hv2⟩ := (JSees.get is vs ajs).2 i is[i] (List.getElem?_eq_getElem hi)
      exact hsub f rfl is[i] v us vs2 hv2 (by simpa [List.getD, hi] using hu)
  · by_cases h6 : k = 6
    · subst h6
      cases sub with
      | none => exact absurd (hs56 (.inr a1)) (by decide)
      | some f =>
        simp at h
        have hlen : ns.length = is.length := hl6 a1
        have each : ∀ i (hi : i < is.length), (clean (ns.getD i []) = true ∧ ns.getD i [] ∉ ns.take i) ∧ ∃ us vs, f is[i] us = .ok vs := fun i hi => by
          obtain ⟨us, vs2, hu⟩ := betw_each h i hi
          unfold memW at hu
          obtain ⟨zs, hz, hu2⟩ := then_split hu
          exact ⟨name_each hz, zs, vs2, by simpa [List.getD, hi] using hu2⟩
        refine ⟨hsJ, ?_, fun j hjm => ?_⟩
        · unfold namesOk
          rw [Bool.and_eq_true, decide_eq_true_iff, List.all_eq_true]
          refine ⟨fun n hn => ?_, nodup_of ns (fun i hi => ?_)⟩
          · obtain ⟨i, hi, rfl⟩ := List.getElem_of_mem hn
            have := (each i (by omega)).1.1
            simpa [List.getD, hi] using this
          · have := (each i (by omega)).1.2
            simpa [List.getD, hi] using this
        · obtain ⟨i, hi, rfl⟩ := List.getElem_of_mem hjm
          obtain ⟨us, vs2, hu⟩ := (each i hi).2
          obtain ⟨v, hv1, hv2⟩ := (JSees.get is vs ajs).2 i is[i] (List.getElem?_eq_getElem hi)
          exact hsub f rfl is[i] v us vs2 hv2 hu
    · refine ⟨hsJ, by rw [hN h6]; rfl, fun j hjm => ?_⟩
      rw [hI (by omega)] at hjm
      cases hjm
theorem vok_print (w : World) (B : Nat) : ∀ (d : Nat), d ≤ 32 → ∀ (j : J) (x : JV) (xs ys : By), JSee w B j x → pAt d j xs = .ok ys → VOk j (32 - (d : Int))
  | 0, h, j, x, xs, ys, hj, hp => vok_step 0 h none (by simp) w B (fun f e => by cases e) j x xs ys hj hp
  | d + 1, h, j, x, xs, ys, hj, hp => vok_step (d + 1) h (some (pAt d)) (by simp) w B (fun f e j x xs ys hj hf => by
    injection e with e
    rw [← e] at hf
    have := vok_print w B d (by omega) j x xs ys hj hf
    rw [show (32 - ((d + 1 : Nat) : Int) + 1) = 32 - (d : Int) by push_cast; omega]
    exact this) j x xs ys hj hp
theorem says_refl (j : J) : ∀ d, VOk j d → Says j j := (J.both (M1 := fun j => ∀ d, VOk j d → Says j j) (M2 := fun js => ∀ j ∈ js, ∀ d, VOk j d → Says j j) (fun k t ns is ih d h => by
    rw [VOk_mk, voks_iff] at h
    obtain ⟨h1, _, h3⟩ := h
    rw [Says_mk]
    refine ⟨rfl, rfl, rfl, ?_⟩
    have self : ∀ i j, is[i]? = some j → Says j (is.getD i J.zero) := fun i j hj => by
      rw [show is.getD i J.zero = j by simp [List.getD, hj]]
      exact ih j (List.mem_of_getElem? hj) _ (h3 j (List.mem_of_getElem? hj))
    by_cases h6 : k = 6
    · rw [if_pos h6]
      rw [h6] at h1
      have hl := sh_object h1
      intro i j hj
      have hi : i < ns.length := by have := (List.getElem?_eq_some_iff.1 hj).1; omega
      exact ⟨i, by simp [List.getD, hi], self i j hj⟩
    · rw [if_neg h6]
      exact self) (fun j h => by cases h) (fun j js h1 h2 j' h => by
    rcases List.mem_cons.1 h with e | e
    · rw [e]; exact h1
    · exact h2 j' e)).1 j

end Go.Proofs.YtiaedngnofablaaGreatDoor
