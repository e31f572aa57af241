/- The contract of the document's says. -/
import Derived.Test.YtiaedngnofablaaGreatDoorRValid
import Derived.Test.YtiaedngnofablaaGreatDoorKSame2
namespace Go.Proofs.YtiaedngnofablaaGreatDoor
open Go.RowKit

/-- Does the i-th item find its like on the other side? -/
def Meets (k : Int) (ns ns' : List By) (is' : List J) (i : Nat) (j : J) : Prop := if k = 6 then ∃ m, ns'[m]? = some (ns.getD i []) ∧ Says j (is'.getD m J.zero) else Says j (is'.getD i J.zero)
theorem says_meets (k : Int) (t : By) (ns : List By) (is : List J) (k' : Int) (t' : By) (ns' : List By) (is' : List J) : Says (.mk k t ns is) (.mk k' t' ns' is') ↔ (k = k' ∧ t = t' ∧ is.length = is'.length ∧ ∀ i j, is[i]? = some j → Meets k ns ns' is' i j) := by
  rw [Says_mk]
  unfold Meets
  by_cases h : k = 6
  · simp only [if_pos h]
  · simp only [if_neg h]
theorem meets_list {k : Int} {ns ns' : List By} {is' : List J} {i : Nat} {j : J} (h : k ≠ 6) (hi : i < is'.length) : Meets k ns ns' is' i j ↔ Says j is'[i] := by
  unfold Meets
  rw [if_neg h]
  have e : is'.getD i J.zero = is'[i] := by simp [List.getD, hi]
  rw [e]
theorem meets_found {ns ns' : List By} {is' : List J} {i m : Nat} {j : J} {nm : By} (hn : ns.getD i [] = nm) (hm : ns'[m]? = some nm) (hd : ns'.Nodup) (hi : m < is'.length) : Meets 6 ns ns' is' i j ↔ Says j is'[m] := by
  unfold Meets
  rw [if_pos rfl, hn]
  have e : is'.getD m J.zero = is'[m] := by simp [List.getD, hi]
  rw [← e]
  constructor
  · rintro ⟨m2, h1, h2⟩
    by_cases h : m2 = m
    · rw [← h]; exact h2
    · exact absurd hd (nodup_twice h1 hm h)
  · exact fun h => ⟨m, hm, h⟩
theorem meets_none {ns ns' : List By} {is' : List J} {i : Nat} {j : J} {nm : By} (hn : ns.getD i [] = nm) (h : nm ∉ ns') : ¬ Meets 6 ns ns' is' i j := by
  unfold Meets
  rw [if_pos rfl, hn]
  rintro ⟨m, h1, _⟩
  exact h (List.mem_of_getElem? h1)
/-- The contract of says at a value on the left. -/
def RsOk (j1 : J) : Prop := ∀ (j2 : J) (x y : JV) (B : Nat) (d : Int) (w : World), JSee w B j1 x → JSee w B j2 y → JFit j1 → JFit j2 → VOk j1 d → VOk j2 d → B ≤ w.heap.size →
  Calls Tryz.prog 46 #[x.val, y.val] w fun e w' => ∃ q : Bool, e = .returned (.bool q) ∧ (q = true ↔ Says j1 j2) ∧ Below w.heap.size w w'

set_option maxHeartbeats 8000000 in
set_option maxRecDepth 100000 in
theorem rsays_step (k : Int) (t : By) (ns : List By) (is : List J) (ih : ∀ j ∈ is, RsOk j) : RsOk (.mk k t ns is) := by
  rintro ⟨k', t', ns', is'⟩ x y B d w hx hy hf hf' ho ho' hB
  rw [JSee_mk] at hx hy
  obtain ⟨a1, a2, a3, a4, an, vs, ai, ajs⟩ := hx
  obtain ⟨b1, b2, b3, b4, bn, vs', bi, bjs⟩ := hy
  rw [JFit_mk] at hf hf'
  obtain ⟨f1, f2, f3, f4, f5⟩ := hf
  obtain ⟨f1', f2', f3', f4', f5'⟩ := hf'
  rw [VOk_mk] at ho ho'
  obtain ⟨c1, c2, c3⟩ := ho
  obtain ⟨d1, d2, d3⟩ := ho'
  rw [voks_iff] at c3 d3
  have hnd : ns'.Nodup := by
    unfold namesOk at d2
    rw [Bool.and_eq_true, decide_eq_true_iff] at d2
    exact d2.2
  have HQ := hide (says_meets k t ns is k' t' ns' is')
  have HO : Hid (k = 6 → ns.length = is.length) := fun h6 => by rw [h6] at c1; exact sh_object c1
  have HO' : Hid (k' = 6 → ns'.length = is'.length) := fun h6 => by rw [h6] at d1; exact sh_object d1
  have HND := hide hnd
  obtain ⟨N, hN⟩ : ∃ N, N = w.heap.size := ⟨_, rfl⟩
  have HU : Hid (Below w.heap.size w ((w.alloc (.cells #[.int .i64 x.k, .string x.t, .slice x.an x.ln x.cn, .slice x.ai x.li x.ci] 25)).alloc (.cells #[.int .i64 y.k, .string y.t, .slice y.an y.ln y.cn, .slice y.ai y.li y.ci] 25))) := ((Below.refl _ _).alloc (Nat.le_refl _) _).alloc (by simp) _
  have HJ1 : Hid (Jb ((w.alloc (.cells #[.int .i64 x.k, .string x.t, .slice x.an x.ln x.cn, .slice x.ai x.li x.ci] 25)).alloc (.cells #[.int .i64 y.k, .string y.t, .slice y.an y.ln y.cn, .slice y.ai y.li y.ci] 25)) N x.k x.t (.slice x.an x.ln x.cn) (.slice x.ai x.li x.ci)) := by
    rw [hN]; exact (Jb.new w x.k x.t (.slice x.an x.ln x.cn) (.slice x.ai x.li x.ci)).alloc _
  have HJ2 : Hid (Jb ((w.alloc (.cells #[.int .i64 x.k, .string x.t, .slice x.an x.ln x.cn, .slice x.ai x.li x.ci] 25)).alloc (.cells #[.int .i64 y.k, .string y.t, .slice y.an y.ln y.cn, .slice y.ai y.li y.ci] 25)) (N + 1) y.k y.t (.slice y.an y.ln y.cn) (.slice y.ai y.li y.ci)) := by
    have := Jb.new (w.alloc (.cells #[.int .i64 x.k, .string x.t, .slice x.an x.ln x.cn, .slice x.ai x.li x.ci] 25)) y.k y.t (.slice y.an y.ln y.cn) (.slice y.ai y.li y.ci)
    rw [show (w.alloc (.cells #[.int .i64 x.k, .string x.t, .slice x.an x.ln x.cn, .slice x.ai x.li x.ci] 25)).heap.size = N + 1 by rw [hN]; simp] at this
    exact this
  have HLN : Hid (x.ln = ns.length) := an.1
  have HLN' : Hid (y.ln = ns'.length) := bn.1
  have HLI : Hid (x.li = is.length) := by show _ = _; rw [ai.1]; exact (JSees.get is vs ajs).1
  have HLI' : Hid (y.li = is'.length) := by show _ = _; rw [bi.1]; exact (JSees.get is' vs' bjs).1
  have HTE : Hid ((x.t.toList == y.t.toList) = decide (t = t')) := by show _ = _; rw [a2, b2, bstr_beq a3 b3]
  have HA1 := hide a1
  have HB1 := hide b1
  have HA4 := hide a4
  have HB4 := hide b4
  have HAN := hide an
  have HBN := hide bn
  have HAI := hide ai
  have HBI := hide bi
  have HAJ := hide ajs
  have HBJ := hide bjs
  have HIH := hide ih
  have HF5 := hide f5
  have HF5' := hide f5'
  have HC3 := hide c3
  have HD3 := hide d3
  have HBw := hide hB
  generalize Says (.mk k t ns is) (.mk k' t' ns' is') = R at HQ ⊢
  suffices HSU : ∀ PP : Ending → World → Prop, (∀ q w', (q = true ↔ R) → Below w.heap.size w w' → PP (.returned (.bool q)) w') → Calls Tryz.prog 46 #[x.val, y.val] w fun ε w' => True ∧ PP ε w' from (HSU _ (fun q w' h1 h2 => ⟨q, rfl, h1, h2⟩)).mono fun _ _ h => h.2
  intro PP hPP
  have HPP := hide hPP
  rw [show x.val = .agg #[.int .i64 x.k, .string x.t, .slice x.an x.ln x.cn, .slice x.ai x.li x.ci] from rfl, show y.val = .agg #[.int .i64 y.k, .string y.t, .slice y.an y.ln y.cn, .slice y.ai y.li y.ci] from rfl]
  clear hPP a1 a2 a3 a4 b1 b2 b3 b4 an bn ai bi ajs bjs ih f1 f2 f5 f1' f2' f5' c1 c2 c3 d1 d2 d3 hB hnd
  go_enter Tryz.func46, Tryz.ntmps46
  go_upto_region 1 with fail
  rw [← hN]
  have hNs : w.heap.size = N := hN.symm
  have HNS := hide hNs
  clear hN hNs
  generalize (w.alloc (.cells #[.int .i64 x.k, .string x.t, .slice x.an x.ln x.cn, .slice x.ai x.li x.ci] 25)).alloc (.cells #[.int .i64 y.k, .string y.t, .slice y.an y.ln y.cn, .slice y.ai y.li y.ci] 25) = u at *
  have p0 := HJ1.out.c0
  have p1 := HJ1.out.c1
  have p2 := HJ1.out.c2
  have p3 := HJ1.out.c3
  have q0 := HJ2.out.c0
  have q1 := HJ2.out.c1
  have q2 := HJ2.out.c2
  have q3 := HJ2.out.c3
  by_cases hk : x.k = y.k
  · have hkb : (x.k != y.k) = false := by simp [hk]
    by_cases ht : t = t'
    · have htb : (x.t.toList == y.t.toList) = true := by rw [HTE.out, decide_eq_true ht]
      by_cases hi : x.li = y.li
      · have hib : ((x.li : Int) != (y.li : Int)) = false := by simp [hi]
        have hlei : is.length = is'.length := by rw [← HLI.out, ← HLI'.out, hi]
        have HKK : Hid (x.k = y.k) := hk
        have HRT : Hid (R ↔ ∀ i j, is[i]? = some j → Meets k ns ns' is' i j) := ⟨fun h => (HQ.out.1 h).2.2.2, fun h => HQ.out.2 ⟨by rw [← HA1.out, ← HB1.out, hk], ht, hlei, h⟩⟩
        clear hk hi ht HQ HTE
        go_wp2_with fail
        go_loopw [5] (fun v5 wr => ∃ i : Nat, i ≤ is.length ∧ v5 = .int .i64 (i : Int) ∧ Hid (Below u.heap.size u wr) ∧ Hid (∀ i' j, i' < i → is[i']? = some j → Meets k ns ns' is' i' j)) (fun v5 _ => is.length - (intOf v5).toNat)
        case atStart => exact ⟨0, Nat.zero_le _, rfl, Below.refl _ _, fun i' j h => by omega⟩
        case round =>
          obtain ⟨i, hi, rfl, HB, HE⟩ := hrel
          have s0 := cell_kept p0 HB.out
          have s2 := cell_kept p2 HB.out
          have s3 := cell_kept p3 HB.out
          have r2 := cell_kept q2 HB.out
          have r3 := cell_kept q3 HB.out
          by_cases hin : i < is.length
          · have hil : (i : Int) < (x.li : Int) := by have := HLI.out; omega
            have HSTEP : Hid (Meets k ns ns' is' i is[i] → ∀ i' j, i' < i + 1 → is[i']? = some j → Meets k ns ns' is' i' j) := fun hg i' j h1 h2 => by
              by_cases h : i' = i
              · subst h
                rw [List.getElem?_eq_getElem hin] at h2
                injection h2 with h2
                rw [← h2]; exact hg
              · exact HE.out i' j (by omega) h2
            have HNOT : Hid (¬ Meets k ns ns' is' i is[i] → ¬ R) := fun h hR => h (HRT.out.1 hR i _ (List.getElem?_eq_getElem hin))
            by_cases h6 : x.k = 6
            · have h6b : (x.k == 6) = true := by simp [h6]
              have hk6 : k = 6 := by rw [← HA1.out, h6]
              have hk6' : k' = 6 := by rw [← HB1.out, ← HKK.out, h6]
              have hln : ns.length = is.length := HO.out hk6
              have hln' : ns'.length = is'.length := HO'.out hk6'
              have hinn : i < ns.length := by omega
              have HK6 := hide hk6
              clear hk6 hk6'
              obtain ⟨g1, o1, e1, hg1, hc1⟩ : ∃ g off, x.an = some ⟨g, off, none⟩ ∧ g < B ∧ ∀ i nm, ns[i]? = some nm → w.cell? ⟨g, off + i, none⟩ = some (.string (bstr nm)) := by
                rcases HAN.out.2 with e | e
                · rw [e] at hinn; simp at hinn
                · exact e
              obtain ⟨g2, o2, e2, hg2, hc2⟩ : ∃ g off, y.an = some ⟨g, off, none⟩ ∧ g < B ∧ ∀ i nm, ns'[i]? = some nm → w.cell? ⟨g, off + i, none⟩ = some (.string (bstr nm)) := by
                rcases HBN.out.2 with e | e
                · rw [e] at hln'; simp at hln'; omega
                · exact e
              have HCC1 := hide (cell_kept (hc1 i _ (List.getElem?_eq_getElem hinn)) HU.out)
              have HCC2 := hide hc2
              have hinl : (i : Int) < (x.ln : Int) := by have := HLN.out; omega
              have HGN : Hid (ns.getD i [] = ns[i]) := by show _ = _; simp [List.getD, hinn]
              have HC4 := hide (HA4.out _ (List.getElem_mem hinn))
              rw [e1] at p2
              rw [e2] at q2
              generalize ns[i] = nm at *
              clear hc1 hc2 e1 e2 s2 r2 r3 HO HO'
              go_wp2_with fail
              clear s0 s3
              go_loopw [6] (fun v6 wr => ∃ m : Nat, m ≤ ns'.length ∧ v6 = .int .i64 (m : Int) ∧ Hid (Below u.heap.size u wr) ∧ Hid (nm ∉ ns'.take m)) (fun v6 _ => ns'.length - (intOf v6).toNat)
              case atStart => exact ⟨0, Nat.zero_le _, rfl, HB, by rw [List.take_zero]; exact List.not_mem_nil⟩
              case round =>
                clear HB
                obtain ⟨m, hm, rfl, HB, HO⟩ := hrel
                have s2 := cell_kept p2 HB.out
                have r2 := cell_kept q2 HB.out
                by_cases hmn : m < ns'.length
                · have hml : decide ((m : Int) < (y.ln : Int)) = true := by simp; have := HLN'.out; omega
                  have hml' : (m : Int) < (y.ln : Int) := by have := HLN'.out; omega
                  have n2 := List.getElem?_eq_getElem hmn
                  have cc1 := cell_kept HCC1.out HB.out
                  have cc2 := cell_kept (cell_kept (HCC2.out m _ n2) HU.out) HB.out
                  have HEQ := hide (bstr_beq (HB4.out _ (List.getElem_mem hmn)) HC4.out)
                  have HTK2 : Hid (ns'.take (m + 1) = ns'.take m ++ [ns'[m]]) := by show _ = _; rw [List.take_add_one, List.getElem?_eq_getElem hmn]; rfl
                  have HN2 := hide n2
                  generalize ns'[m] = m2 at *
                  clear n2
                  by_cases hmm : m2 = nm
                  · have hme : ((bstr m2).toList == (bstr nm).toList) = true := by rw [HEQ.out, decide_eq_true hmm]
                    clear HEQ HTK2
                    go_wp2_with fail
                    go_quiet (fail)
                    have HBZ := hide (below_drewNv HB.out nq)
                    have hne : ((m : Int) == (y.ln : Int)) = false := by rw [beq_eq_false_iff_ne]; omega
                    have hmi : m < is'.length := by omega
                    have HG : Hid (Meets k ns ns' is' i is[i] ↔ Says is[i] is'[m]) := by
                      show _ ↔ _
                      rw [HK6.out]
                      exact meets_found HGN.out (by rw [HN2.out, hmm]) HND.out hmi
                    clear hmm s2 r2 cc1 cc2 hme
                    generalize wr.drewN nq = wz at *
                    have z2 := cell_kept q2 HBZ.out
                    have t3 := cell_kept p3 HBZ.out
                    have z3 := cell_kept q3 HBZ.out
                    obtain ⟨v1, hv1, hw1⟩ := (JSees.get is vs HAJ.out).2 i is[i] (List.getElem?_eq_getElem hin)
                    obtain ⟨v2, hv2, hw2⟩ := (JSees.get is' vs' HBJ.out).2 m is'[m] (List.getElem?_eq_getElem hmi)
                    obtain ⟨h1, w1, e1, hg1, hc1⟩ : ∃ g off, x.ai = some ⟨g, off, none⟩ ∧ g < B ∧ ∀ i v, vs[i]? = some v → ∀ j u, v.cells[j]? = some u → w.cell? ⟨g, off + (4 * i + j), none⟩ = some u := by
                      rcases HAI.out.2 with e | e
                      · rw [e] at hv1; simp at hv1
                      · exact e
                    obtain ⟨h2, w2, e2, hg2, hc2⟩ : ∃ g off, y.ai = some ⟨g, off, none⟩ ∧ g < B ∧ ∀ i v, vs'[i]? = some v → ∀ j u, v.cells[j]? = some u → w.cell? ⟨g, off + (4 * i + j), none⟩ = some u := by
                      rcases HBI.out.2 with e | e
                      · rw [e] at hv2; simp at hv2
                      · exact e
                    have k0 : wz.cell? ⟨h1, w1 + i * 4, none⟩ = some (.int .i64 v1.k) := by have := cell_kept (cell_kept (hc1 i v1 hv1 0 _ rfl) HU.out) HBZ.out; rw [show w1 + (4 * i + 0) = w1 + i * 4 by omega] at this; exact this
                    have k1 : wz.cell? ⟨h1, w1 + i * 4 + 1, none⟩ = some (.string v1.t) := by have := cell_kept (cell_kept (hc1 i v1 hv1 1 _ rfl) HU.out) HBZ.out; rw [show w1 + (4 * i + 1) = w1 + i * 4 + 1 by omega] at this; exact this
                    have k2 : wz.cell? ⟨h1, w1 + i * 4 + 2, none⟩ = some (.slice v1.an v1.ln v1.cn) := by have := cell_kept (cell_kept (hc1 i v1 hv1 2 _ rfl) HU.out) HBZ.out; rw [show w1 + (4 * i + 2) = w1 + i * 4 + 2 by omega] at this; exact this
                    have k3 : wz.cell? ⟨h1, w1 + i * 4 + 3, none⟩ = some (.slice v1.ai v1.li v1.ci) := by have := cell_kept (cell_kept (hc1 i v1 hv1 3 _ rfl) HU.out) HBZ.out; rw [show w1 + (4 * i + 3) = w1 + i * 4 + 3 by omega] at this; exact this
                    have l0 : wz.cell? ⟨h2, w2 + m * 4, none⟩ = some (.int .i64 v2.k) := by have := cell_kept (cell_kept (hc2 m v2 hv2 0 _ rfl) HU.out) HBZ.out; rw [show w2 + (4 * m + 0) = w2 + m * 4 by omega] at this; exact this
                    have l1 : wz.cell? ⟨h2, w2 + m * 4 + 1, none⟩ = some (.string v2.t) := by have := cell_kept (cell_kept (hc2 m v2 hv2 1 _ rfl) HU.out) HBZ.out; rw [show w2 + (4 * m + 1) = w2 + m * 4 + 1 by omega] at this; exact this
                    have l2 : wz.cell? ⟨h2, w2 + m * 4 + 2, none⟩ = some (.slice v2.an v2.ln v2.cn) := by have := cell_kept (cell_kept (hc2 m v2 hv2 2 _ rfl) HU.out) HBZ.out; rw [show w2 + (4 * m + 2) = w2 + m * 4 + 2 by omega] at this; exact this
                    have l3 : wz.cell? ⟨h2, w2 + m * 4 + 3, none⟩ = some (.slice v2.ai v2.li v2.ci) := by have := cell_kept (cell_kept (hc2 m v2 hv2 3 _ rfl) HU.out) HBZ.out; rw [show w2 + (4 * m + 3) = w2 + m * 4 + 3 by omega] at this; exact this
                    rw [e1] at t3
                    rw [e2] at z3
                    have hml2 : (m : Int) < (y.li : Int) := by have := HLI'.out; omega
                    have HLOW : Hid (∀ k, k < B → wz.drew.heap[k]? = w.heap[k]?) := fun k hk => (HBZ.out.block k (by have := HBw.out; have := HU.out.size; omega)).trans (HU.out.block k (by have := HBw.out; omega))
                    have HC := hide (HIH.out is[i] (List.getElem_mem hin) is'[m] v1 v2 B (d + 1) wz.drew (JSee.stay _ _ hw1 HLOW.out) (JSee.stay _ _ hw2 HLOW.out) (JFits.get is HF5.out i _ (List.getElem?_eq_getElem hin)) (JFits.get is' HF5'.out m _ (List.getElem?_eq_getElem hmi)) (HC3.out _ (List.getElem_mem hin)) (HD3.out _ (List.getElem_mem hmi)) (by have := HBw.out; have := HU.out.size; have := HBZ.out.size; show B ≤ wz.heap.size; omega))
                    rw [show v1.val = .agg #[.int .i64 v1.k, .string v1.t, .slice v1.an v1.ln v1.cn, .slice v1.ai v1.li v1.ci] from rfl, show v2.val = .agg #[.int .i64 v2.k, .string v2.t, .slice v2.an v2.ln v2.cn, .slice v2.ai v2.li v2.ci] from rfl] at HC
                    clear hv1 hv2 hw1 hw2 hc1 hc2 e1 e2 HLOW
                    go_wp2_with fail
                    go_region_held (fun W => W.cell? ⟨N, 3, none⟩ = some (.slice (some ⟨h1, w1, none⟩) x.li x.ci) ∧ W.cell? ⟨N + 1, 3, none⟩ = some (.slice (some ⟨h2, w2, none⟩) y.li y.ci) ∧ W.cell? ⟨h1, w1 + i * 4, none⟩ = some (.int .i64 v1.k) ∧ W.cell? ⟨h1, w1 + i * 4 + 1, none⟩ = some (.string v1.t) ∧ W.cell? ⟨h1, w1 + i * 4 + 2, none⟩ = some (.slice v1.an v1.ln v1.cn) ∧ W.cell? ⟨h1, w1 + i * 4 + 3, none⟩ = some (.slice v1.ai v1.li v1.ci) ∧ W.cell? ⟨h2, w2 + m * 4, none⟩ = some (.int .i64 v2.k) ∧ W.cell? ⟨h2, w2 + m * 4 + 1, none⟩ = some (.string v2.t) ∧ W.cell? ⟨h2, w2 + m * 4 + 2, none⟩ = some (.slice v2.an v2.ln v2.cn) ∧ W.cell? ⟨h2, w2 + m * 4 + 3, none⟩ = some (.slice v2.ai v2.li v2.ci)) (go_keep) (first | (go_at_call 46; refine HC.out.mono ?_; rintro ε w5 ⟨q, rfl, hq, h5⟩; have HQQ := hide hq; have hb5 := below_undrewN1 h5; have HB5 := hide hb5; have y0 := cell_kept t3 hb5; have y1 := cell_kept z3 hb5; have y2 := cell_kept k0 hb5; have y3 := cell_kept k1 hb5; have y4 := cell_kept k2 hb5; have y5 := cell_kept k3 hb5; have y6 := cell_kept l0 hb5; have y7 := cell_kept l1 hb5; have y8 := cell_kept l2 hb5; have y9 := cell_kept l3 hb5; clear h5 hb5 hq))
                    clear t3 z3 k0 k1 k2 k3 l0 l1 l2 l3
                    cases q with
                    | true =>
                      have HD9 := hide (HSTEP.out (HG.out.2 (HQQ.out.1 rfl)))
                      go_wp2_with fail
                      go_roundw
                      case rel => first | exact ⟨i + 1, by omega, by simp, below_up HBZ.out HB5.out, HD9⟩ | exact ⟨i + 1, by omega, by simp, HD9⟩
                      case measure => simp [intOf]; omega
                    | false =>
                      have HD9 : Hid (¬ R) := HNOT.out (fun e => by have h := HQQ.out.2 (HG.out.1 e); cases h)
                      go_wp2_with fail
                      first | (go_ret; exact ⟨trivial, HPP.out false _ (iff_no HD9.out) (below_up HU.out (below_up HBZ.out HB5.out))⟩) | exact HPP.out false _ (iff_no HD9.out) (below_up HU.out (below_up HBZ.out HB5.out))
                  · have hme : ((bstr m2).toList == (bstr nm).toList) = false := by rw [HEQ.out, decide_eq_false hmm]
                    have HO2 : Hid (nm ∉ ns'.take (m + 1)) := fun h => by
                      rw [HTK2.out] at h
                      rcases List.mem_append.1 h with h | h
                      · exact HO.out h
                      · exact hmm (List.mem_singleton.1 h).symm
                    clear HEQ HTK2
                    go_wp2_with fail
                    go_quiet (fail)
                    go_wp2_with fail
                    go_roundw
                    case rel => exact ⟨m + 1, by omega, by simp, below_drewNv HB.out _, HO2⟩
                    case measure => simp [intOf]; omega
                · have hml : decide (m < y.ln) = false := by simp; have := HLN'.out; omega
                  have HR : Hid (¬ R) := HNOT.out (by
                    rw [HK6.out]
                    refine meets_none HGN.out ?_
                    have h := HO.out
                    rw [List.take_of_length_le (by omega)] at h
                    exact h)
                  go_wp2_with fail
                  go_quiet (fail)
                  have HBZ := hide (below_drewNv HB.out nq)
                  have hne : ((m : Int) == (y.ln : Int)) = true := by rw [beq_iff_eq]; have := HLN'.out; omega
                  clear s2 r2
                  generalize wr.drewN nq = wz at *
                  have z2 := cell_kept q2 HBZ.out
                  go_wp2_with fail
                  first | (go_ret; exact ⟨trivial, HPP.out false _ (iff_no HR.out) (below_up HU.out HBZ.out)⟩) | exact HPP.out false _ (iff_no HR.out) (below_up HU.out HBZ.out)
            · have h6b : (x.k == 6) = false := by rw [beq_eq_false_iff_ne]; exact h6
              have hmi : i < is'.length := by omega
              have HG : Hid (Meets k ns ns' is' i is[i] ↔ Says is[i] is'[i]) := meets_list (fun e => h6 (by rw [HA1.out, e])) hmi
              clear s2 r2 s3 r3 HO HO' h6
              have t3 := cell_kept p3 HB.out
              have z3 := cell_kept q3 HB.out
              obtain ⟨v1, hv1, hw1⟩ := (JSees.get is vs HAJ.out).2 i is[i] (List.getElem?_eq_getElem hin)
              obtain ⟨v2, hv2, hw2⟩ := (JSees.get is' vs' HBJ.out).2 i is'[i] (List.getElem?_eq_getElem hmi)
              obtain ⟨h1, w1, e1, hg1, hc1⟩ : ∃ g off, x.ai = some ⟨g, off, none⟩ ∧ g < B ∧ ∀ i v, vs[i]? = some v → ∀ j u, v.cells[j]? = some u → w.cell? ⟨g, off + (4 * i + j), none⟩ = some u := by
                rcases HAI.out.2 with e | e
                · rw [e] at hv1; simp at hv1
                · exact e
              obtain ⟨h2, w2, e2, hg2, hc2⟩ : ∃ g off, y.ai = some ⟨g, off, none⟩ ∧ g < B ∧ ∀ i v, vs'[i]? = some v → ∀ j u, v.cells[j]? = some u → w.cell? ⟨g, off + (4 * i + j), none⟩ = some u := by
                rcases HBI.out.2 with e | e
                · rw [e] at hv2; simp at hv2
                · exact e
              have k0 : wr.cell? ⟨h1, w1 + i * 4, none⟩ = some (.int .i64 v1.k) := by have := cell_kept (cell_kept (hc1 i v1 hv1 0 _ rfl) HU.out) HB.out; rw [show w1 + (4 * i + 0) = w1 + i * 4 by omega] at this; exact this
              have k1 : wr.cell? ⟨h1, w1 + i * 4 + 1, none⟩ = some (.string v1.t) := by have := cell_kept (cell_kept (hc1 i v1 hv1 1 _ rfl) HU.out) HB.out; rw [show w1 + (4 * i + 1) = w1 + i * 4 + 1 by omega] at this; exact this
              have k2 : wr.cell? ⟨h1, w1 + i * 4 + 2, none⟩ = some (.slice v1.an v1.ln v1.cn) := by have := cell_kept (cell_kept (hc1 i v1 hv1 2 _ rfl) HU.out) HB.out; rw [show w1 + (4 * i + 2) = w1 + i * 4 + 2 by omega] at this; exact this
              have k3 : wr.cell? ⟨h1, w1 + i * 4 + 3, none⟩ = some (.slice v1.ai v1.li v1.ci) := by have := cell_kept (cell_kept (hc1 i v1 hv1 3 _ rfl) HU.out) HB.out; rw [show w1 + (4 * i + 3) = w1 + i * 4 + 3 by omega] at this; exact this
              have l0 : wr.cell? ⟨h2, w2 + i * 4, none⟩ = some (.int .i64 v2.k) := by have := cell_kept (cell_kept (hc2 i v2 hv2 0 _ rfl) HU.out) HB.out; rw [show w2 + (4 * i + 0) = w2 + i * 4 by omega] at this; exact this
              have l1 : wr.cell? ⟨h2, w2 + i * 4 + 1, none⟩ = some (.string v2.t) := by have := cell_kept (cell_kept (hc2 i v2 hv2 1 _ rfl) HU.out) HB.out; rw [show w2 + (4 * i + 1) = w2 + i * 4 + 1 by omega] at this; exact this
              have l2 : wr.cell? ⟨h2, w2 + i * 4 + 2, none⟩ = some (.slice v2.an v2.ln v2.cn) := by have := cell_kept (cell_kept (hc2 i v2 hv2 2 _ rfl) HU.out) HB.out; rw [show w2 + (4 * i + 2) = w2 + i * 4 + 2 by omega] at this; exact this
              have l3 : wr.cell? ⟨h2, w2 + i * 4 + 3, none⟩ = some (.slice v2.ai v2.li v2.ci) := by have := cell_kept (cell_kept (hc2 i v2 hv2 3 _ rfl) HU.out) HB.out; rw [show w2 + (4 * i + 3) = w2 + i * 4 + 3 by omega] at this; exact this
              rw [e1] at t3
              rw [e2] at z3
              have hml2 : (i : Int) < (y.li : Int) := by have := HLI'.out; omega
              have HLOW : Hid (∀ k, k < B → wr.drew.heap[k]? = w.heap[k]?) := fun k hk => (HB.out.block k (by have := HBw.out; have := HU.out.size; omega)).trans (HU.out.block k (by have := HBw.out; omega))
              have HC := hide (HIH.out is[i] (List.getElem_mem hin) is'[i] v1 v2 B (d + 1) wr.drew (JSee.stay _ _ hw1 HLOW.out) (JSee.stay _ _ hw2 HLOW.out) (JFits.get is HF5.out i _ (List.getElem?_eq_getElem hin)) (JFits.get is' HF5'.out i _ (List.getElem?_eq_getElem hmi)) (HC3.out _ (List.getElem_mem hin)) (HD3.out _ (List.getElem_mem hmi)) (by have := HBw.out; have := HU.out.size; have := HB.out.size; show B ≤ wr.heap.size; omega))
              rw [show v1.val = .agg #[.int .i64 v1.k, .string v1.t, .slice v1.an v1.ln v1.cn, .slice v1.ai v1.li v1.ci] from rfl, show v2.val = .agg #[.int .i64 v2.k, .string v2.t, .slice v2.an v2.ln v2.cn, .slice v2.ai v2.li v2.ci] from rfl] at HC
              clear hv1 hv2 hw1 hw2 hc1 hc2 e1 e2 HLOW
              go_wp2_with fail
              go_region_held (fun W => W.cell? ⟨N, 3, none⟩ = some (.slice (some ⟨h1, w1, none⟩) x.li x.ci) ∧ W.cell? ⟨N + 1, 3, none⟩ = some (.slice (some ⟨h2, w2, none⟩) y.li y.ci) ∧ W.cell? ⟨h1, w1 + i * 4, none⟩ = some (.int .i64 v1.k) ∧ W.cell? ⟨h1, w1 + i * 4 + 1, none⟩ = some (.string v1.t) ∧ W.cell? ⟨h1, w1 + i * 4 + 2, none⟩ = some (.slice v1.an v1.ln v1.cn) ∧ W.cell? ⟨h1, w1 + i * 4 + 3, none⟩ = some (.slice v1.ai v1.li v1.ci) ∧ W.cell? ⟨h2, w2 + i * 4, none⟩ = some (.int .i64 v2.k) ∧ W.cell? ⟨h2, w2 + i * 4 + 1, none⟩ = some (.string v2.t) ∧ W.cell? ⟨h2, w2 + i * 4 + 2, none⟩ = some (.slice v2.an v2.ln v2.cn) ∧ W.cell? ⟨h2, w2 + i * 4 + 3, none⟩ = some (.slice v2.ai v2.li v2.ci)) (go_keep) (first | (go_at_call 46; refine HC.out.mono ?_; rintro ε w5 ⟨q, rfl, hq, h5⟩; have HQQ := hide hq; have hb5 := below_undrewN1 h5; have HB5 := hide hb5; have y0 := cell_kept t3 hb5; have y1 := cell_kept z3 hb5; have y2 := cell_kept k0 hb5; have y3 := cell_kept k1 hb5; have y4 := cell_kept k2 hb5; have y5 := cell_kept k3 hb5; have y6 := cell_kept l0 hb5; have y7 := cell_kept l1 hb5; have y8 := cell_kept l2 hb5; have y9 := cell_kept l3 hb5; clear h5 hb5 hq))
              clear t3 z3 k0 k1 k2 k3 l0 l1 l2 l3
              cases q with
              | true =>
                have HD9 := hide (HSTEP.out (HG.out.2 (HQQ.out.1 rfl)))
                go_wp2_with fail
                go_roundw
                case rel => first | exact ⟨i + 1, by omega, by simp, below_up HB.out HB5.out, HD9⟩ | exact ⟨i + 1, by omega, by simp, HD9⟩
                case measure => simp [intOf]; omega
              | false =>
                have HD9 : Hid (¬ R) := HNOT.out (fun e => by have h := HQQ.out.2 (HG.out.1 e); cases h)
                go_wp2_with fail
                first | (go_ret; exact ⟨trivial, HPP.out false _ (iff_no HD9.out) (below_up HU.out (below_up HB.out HB5.out))⟩) | exact HPP.out false _ (iff_no HD9.out) (below_up HU.out (below_up HB.out HB5.out))
          · have hil : ¬ (i : Int) < (x.li : Int) := by have := HLI.out; omega
            have HR3 : Hid R := HRT.out.2 (fun i' j hj => HE.out i' j (by obtain ⟨h, _⟩ := List.getElem?_eq_some_iff.1 hj; omega) hj)
            clear HE
            go_wp2_with fail
            first | (go_ret; exact ⟨trivial, HPP.out true _ (iff_yes HR3.out) (below_up HU.out HB.out)⟩) | exact HPP.out true _ (iff_yes HR3.out) (below_up HU.out HB.out)
      · have hib : ((x.li : Int) != (y.li : Int)) = true := by simp; omega
        have HR : Hid (¬ R) := fun h => hi (by rw [HLI.out, HLI'.out, (HQ.out.1 h).2.2.1])
        clear hk hi ht
        go_wp2_with fail
        first | (go_ret; exact ⟨trivial, HPP.out false _ (iff_no HR.out) (HU.out)⟩) | exact HPP.out false _ (iff_no HR.out) (HU.out)
    · have htb : (x.t.toList == y.t.toList) = false := by rw [HTE.out, decide_eq_false ht]
      have HR : Hid (¬ R) := fun h => ht (HQ.out.1 h).2.1
      clear hk ht
      go_wp2_with fail
      first | (go_ret; exact ⟨trivial, HPP.out false _ (iff_no HR.out) (HU.out)⟩) | exact HPP.out false _ (iff_no HR.out) (HU.out)
  · have hkb : (x.k != y.k) = true := by simp [hk]
    have HR : Hid (¬ R) := fun h => hk (by rw [HA1.out, HB1.out, (HQ.out.1 h).1])
    clear hk
    go_wp2_with fail
    first | (go_ret; exact ⟨trivial, HPP.out false _ (iff_no HR.out) (HU.out)⟩) | exact HPP.out false _ (iff_no HR.out) (HU.out)
theorem rsays_any (j : J) : RsOk j := (J.both (M1 := RsOk) (M2 := fun js => ∀ j ∈ js, RsOk j) rsays_step (fun j h => by cases h) (fun j js h1 h2 j' h => by
    rcases List.mem_cons.1 h with e | e
    · rw [e]; exact h1
    · exact h2 j' e)).1 j
end Go.Proofs.YtiaedngnofablaaGreatDoor
