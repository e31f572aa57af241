/- The contract of the document's Equal. -/
import Derived.Test.YtlebockgdonceaaGreatDoorKPList
namespace Go.Proofs.YtlebockgdonceaaGreatDoor
open Go.RowKit

theorem below_up {u v w : World} (h : Below u.heap.size u v) (k : Below v.heap.size v w) : Below u.heap.size u w := h.trans ⟨k.os, k.tape, k.output, k.size, fun i hi => k.block i (by have := h.size; omega)⟩
theorem iff_no {R : Prop} (h : ¬ R) : (false = true) ↔ R := ⟨fun e => absurd e (by decide), fun e => absurd e h⟩
theorem iff_yes {R : Prop} (h : R) : (true = true) ↔ R := ⟨fun _ => h, fun _ => rfl⟩
/-- The contract of Equal at a Json on the left. -/
def EqOk (j1 : J) : Prop := ∀ (j2 : J) (x y : JV) (B : Nat) (w : World), JSee w B j1 x → JSee w B j2 y → JFit j1 → B ≤ w.heap.size →
  Calls Tryz.prog 8 #[x.val, y.val] w fun e w' => ∃ q : Bool, e = .returned (.bool q) ∧ (q = true ↔ j1 = j2) ∧ Below w.heap.size w w'
set_option maxHeartbeats 4000000 in
set_option maxRecDepth 100000 in
theorem equal_step (k : Int) (t : By) (ns : List By) (is : List J) (ih : ∀ j ∈ is, EqOk j) : EqOk (.mk k t ns is) := by
  rintro ⟨k', t', ns', is'⟩ x y B w hx hy hf hB
  rw [JSee_mk] at hx hy
  obtain ⟨a1, a2, a3, a4, an, vs, ai, ajs⟩ := hx
  obtain ⟨b1, b2, b3, b4, bn, vs', bi, bjs⟩ := hy
  rw [JFit_mk] at hf
  obtain ⟨f1, f2, f3, f4, f5⟩ := hf
  obtain ⟨N, hN⟩ : ∃ N, N = w.heap.size := ⟨_, rfl⟩
  have HU : Hid (Below w.heap.size w ((w.alloc (.cells #[.int .i64 x.k, .string x.t, .slice x.an x.ln x.cn, .slice x.ai x.li x.ci] 25)).alloc (.cells #[.int .i64 y.k, .string y.t, .slice y.an y.ln y.cn, .slice y.ai y.li y.ci] 25))) := ((Below.refl _ _).alloc (Nat.le_refl _) _).alloc (by simp) _
  have HJ1 : Hid (Jb ((w.alloc (.cells #[.int .i64 x.k, .string x.t, .slice x.an x.ln x.cn, .slice x.ai x.li x.ci] 25)).alloc (.cells #[.int .i64 y.k, .string y.t, .slice y.an y.ln y.cn, .slice y.ai y.li y.ci] 25)) N x.k x.t (.slice x.an x.ln x.cn) (.slice x.ai x.li x.ci)) := by
    rw [hN]; exact (Jb.new w x.k x.t (.slice x.an x.ln x.cn) (.slice x.ai x.li x.ci)).alloc _
  have HJ2 : Hid (Jb ((w.alloc (.cells #[.int .i64 x.k, .string x.t, .slice x.an x.ln x.cn, .slice x.ai x.li x.ci] 25)).alloc (.cells #[.int .i64 y.k, .string y.t, .slice y.an y.ln y.cn, .slice y.ai y.li y.ci] 25)) (N + 1) y.k y.t (.slice y.an y.ln y.cn) (.slice y.ai y.li y.ci)) := by
    have := Jb.new (w.alloc (.cells #[.int .i64 x.k, .string x.t, .slice x.an x.ln x.cn, .slice x.ai x.li x.ci] 25)) y.k y.t (.slice y.an y.ln y.cn) (.slice y.ai y.li y.ci)
    rw [show (w.alloc (.cells #[.int .i64 x.k, .string x.t, .slice x.an x.ln x.cn, .slice x.ai x.li x.ci] 25)).heap.size = N + 1 by rw [hN]; simp] at this
    exact this
  have hln : x.ln = ns.length := an.1
  have hln' : y.ln = ns'.length := bn.1
  have hli : x.li = is.length := by rw [ai.1]; exact (JSees.get is vs ajs).1
  have hli' : y.li = is'.length := by rw [bi.1]; exact (JSees.get is' vs' bjs).1
  have HQ : Hid ((J.mk k t ns is = J.mk k' t' ns' is') ↔ (k = k' ∧ t = t' ∧ ns = ns' ∧ is = is')) := by show _ ↔ _; rw [J.mk.injEq]
  have HTE : Hid ((x.t.toList == y.t.toList) = decide (t = t')) := by show _ = _; rw [a2, b2, bstr_beq a3 b3]
  have HAN := hide an
  have HBN := hide bn
  have HAI := hide ai
  have HBI := hide bi
  have HAJ := hide ajs
  have HBJ := hide bjs
  have HA4 := hide a4
  have HB4 := hide b4
  have HIH := hide ih
  have HF5 := hide f5
  have HBw := hide hB
  have HLN := hide hln
  have HLN' := hide hln'
  have HLI := hide hli
  have HLI' := hide hli'
  have HA1 := hide a1
  have HB1 := hide b1
  generalize (J.mk k t ns is = J.mk k' t' ns' is') = R at HQ ⊢
  suffices HSU : ∀ PP : Ending → World → Prop, (∀ q w', (q = true ↔ R) → Below w.heap.size w w' → PP (.returned (.bool q)) w') → Calls Tryz.prog 8 #[x.val, y.val] w fun ε w' => True ∧ PP ε w' from (HSU _ (fun q w' h1 h2 => ⟨q, rfl, h1, h2⟩)).mono fun _ _ h => h.2
  intro PP hPP
  have HPP := hide hPP
  clear hPP
  rw [show x.val = .agg #[.int .i64 x.k, .string x.t, .slice x.an x.ln x.cn, .slice x.ai x.li x.ci] from rfl, show y.val = .agg #[.int .i64 y.k, .string y.t, .slice y.an y.ln y.cn, .slice y.ai y.li y.ci] from rfl]
  clear an bn ai bi ajs bjs a4 b4 ih f5 hB a2 b2 a3 b3 f1 f2 hln hln' hli hli' a1 b1
  go_enter Tryz.func8, Tryz.ntmps8
  go_upto_region 1 with fail
  rw [← hN]
  have hNs : w.heap.size = N := hN.symm
  have HNS := hide hNs
  clear hN hNs
  generalize (w.alloc (.cells #[.int .i64 x.k, .string x.t, .slice x.an x.ln x.cn, .slice x.ai x.li x.ci] 25)).alloc (.cells #[.int .i64 y.k, .string y.t, .slice y.an y.ln y.cn, .slice y.ai y.li y.ci] 25) = u at *
  have p0 := HJ1.out.c0
  have p1 := HJ1.out.c1
  have p2 := HJ1.out.c2
  have p3 := HJ1.out.c3
  have q0 := HJ2.out.c0
  have q1 := HJ2.out.c1
  have q2 := HJ2.out.c2
  have q3 := HJ2.out.c3
  by_cases hk : x.k = y.k
  · have hkb : (x.k != y.k) = false := by simp [hk]
    by_cases ht : t = t'
    · have htb : (x.t.toList == y.t.toList) = true := by rw [HTE.out, decide_eq_true ht]
      by_cases hl : x.ln = y.ln
      · have hlb : ((x.ln : Int) != (y.ln : Int)) = false := by simp [hl]
        by_cases hi : x.li = y.li
        · have hib : ((x.li : Int) != (y.li : Int)) = false := by simp [hi]
          have HRT : Hid (R ↔ (ns = ns' ∧ is = is')) := ⟨fun h => (HQ.out.1 h).2.2, fun h => HQ.out.2 ⟨by rw [← HA1.out, ← HB1.out, hk], ht, h⟩⟩
          have hlen : ns.length = ns'.length := by rw [← HLN.out, ← HLN'.out, hl]
          have hlei : is.length = is'.length := by rw [← HLI.out, ← HLI'.out, hi]
          clear hk hl hi ht HQ HTE
          go_wp2_with fail
          go_loopw [5] (fun v5 wr => ∃ i : Nat, i ≤ ns.length ∧ v5 = .int .i64 (i : Int) ∧ Hid (Below u.heap.size u wr) ∧ Hid (ns.take i = ns'.take i)) (fun v5 _ => ns.length - (intOf v5).toNat)
          case atStart => exact ⟨0, Nat.zero_le _, rfl, Below.refl _ _, by show _ = _; rw [List.take_zero, List.take_zero]⟩
          case round =>
            obtain ⟨i, hi, rfl, HB, HE⟩ := hrel
            have s2 := cell_kept p2 HB.out
            have r2 := cell_kept q2 HB.out
            by_cases hin : i < ns.length
            · obtain ⟨g1, o1, e1, hg1, hc1⟩ : ∃ g off, x.an = some ⟨g, off, none⟩ ∧ g < B ∧ ∀ i nm, ns[i]? = some nm → w.cell? ⟨g, off + i, none⟩ = some (.string (bstr nm)) := by
                rcases HAN.out.2 with e | e
                · rw [e] at hin; simp at hin
                · exact e
              obtain ⟨g2, o2, e2, hg2, hc2⟩ : ∃ g off, y.an = some ⟨g, off, none⟩ ∧ g < B ∧ ∀ i nm, ns'[i]? = some nm → w.cell? ⟨g, off + i, none⟩ = some (.string (bstr nm)) := by
                rcases HBN.out.2 with e | e
                · rw [e] at hlen; simp at hlen; rw [hlen] at hin; simp at hin
                · exact e
              have hin' : i < ns'.length := by omega
              have n1 := List.getElem?_eq_getElem hin
              have n2 := List.getElem?_eq_getElem hin'
              have c1 := cell_kept (cell_kept (hc1 i _ n1) HU.out) HB.out
              have c2 := cell_kept (cell_kept (hc2 i _ n2) HU.out) HB.out
              rw [e1] at s2
              rw [e2] at r2
              have hil : (i : Int) < (x.ln : Int) := by have := HLN.out; omega
              have hil' : (i : Int) < (y.ln : Int) := by have := HLN'.out; omega
              have HEQ := hide (bstr_beq (HA4.out _ (List.getElem_mem hin)) (HB4.out _ (List.getElem_mem hin')))
              have HSN : Hid (ns[i] = ns'[i] → ns.take (i + 1) = ns'.take (i + 1)) := fun e => by
                rw [List.take_add_one, List.take_add_one, HE.out, n1, n2, e]
              have HNE : Hid (ns[i] ≠ ns'[i] → ns ≠ ns') := fun h e => h (by subst e; rfl)
              generalize ns[i] = m1 at *
              generalize ns'[i] = m2 at *
              clear n1 n2 hc1 hc2 e1 e2
              by_cases hm : m1 = m2
              · have hme : ((bstr m1).toList == (bstr m2).toList) = true := by rw [HEQ.out, decide_eq_true hm]
                have HT := hide (HSN.out hm)
                clear HEQ HSN HNE HE hm
                go_wp2_with fail
                go_quiet (fail)
                go_wp2_with fail
                go_roundw
                case rel => exact ⟨i + 1, by omega, by simp, below_drewNv HB.out _, HT⟩
                case measure => simp [intOf]; omega
              · have hme : ((bstr m1).toList == (bstr m2).toList) = false := by rw [HEQ.out, decide_eq_false hm]
                have HR : Hid (¬ R) := fun h => HNE.out hm (HRT.out.1 h).1
                clear HEQ HSN HNE HE hm
                go_wp2_with fail
                go_quiet (fail)
                go_wp2_with fail
                first | (go_ret; exact ⟨trivial, HPP.out false _ (iff_no HR.out) (below_up HU.out (below_drewNv HB.out _))⟩) | exact HPP.out false _ (iff_no HR.out) (below_up HU.out (below_drewNv HB.out _))
            · have hie : i = ns.length := by omega
              have HNN : Hid (ns = ns') := by
                have := HE.out
                rw [hie, List.take_length, hlen, List.take_length] at this
                exact this
              have hil : ¬ (i : Int) < (x.ln : Int) := by have := HLN.out; omega
              have HR2 : Hid (R ↔ is = is') := ⟨fun h => (HRT.out.1 h).2, fun h => HRT.out.2 ⟨HNN.out, h⟩⟩
              have p3a := cell_kept p3 HB.out
              have q3a := cell_kept q3 HB.out
              clear hie HE HNN HRT
              go_wp2_with fail
              go_loopw [6] (fun v6 wr => ∃ i : Nat, i ≤ is.length ∧ v6 = .int .i64 (i : Int) ∧ Hid (Below u.heap.size u wr) ∧ Hid (is.take i = is'.take i)) (fun v6 _ => is.length - (intOf v6).toNat)
              case atStart => exact ⟨0, Nat.zero_le _, rfl, HB, by show _ = _; rw [List.take_zero, List.take_zero]⟩
              case round =>
                clear HB p3a q3a s2 r2
                obtain ⟨i, hi, rfl, HB, HE⟩ := hrel
                have s3 := cell_kept p3 HB.out
                have r3 := cell_kept q3 HB.out
                by_cases hin : i < is.length
                · obtain ⟨v1, hv1, hw1⟩ := (JSees.get is vs HAJ.out).2 i is[i] (List.getElem?_eq_getElem hin)
                  have hin' : i < is'.length := by omega
                  obtain ⟨v2, hv2, hw2⟩ := (JSees.get is' vs' HBJ.out).2 i is'[i] (List.getElem?_eq_getElem hin')
                  obtain ⟨g1, o1, e1, hg1, hc1⟩ : ∃ g off, x.ai = some ⟨g, off, none⟩ ∧ g < B ∧ ∀ i v, vs[i]? = some v → ∀ j u, v.cells[j]? = some u → w.cell? ⟨g, off + (4 * i + j), none⟩ = some u := by
                    rcases HAI.out.2 with e | e
                    · rw [e] at hv1; simp at hv1
                    · exact e
                  obtain ⟨g2, o2, e2, hg2, hc2⟩ : ∃ g off, y.ai = some ⟨g, off, none⟩ ∧ g < B ∧ ∀ i v, vs'[i]? = some v → ∀ j u, v.cells[j]? = some u → w.cell? ⟨g, off + (4 * i + j), none⟩ = some u := by
                    rcases HBI.out.2 with e | e
                    · rw [e] at hv2; simp at hv2
                    · exact e
                  have k0 : wr.cell? ⟨g1, o1 + i * 4, none⟩ = some (.int .i64 v1.k) := by have := cell_kept (cell_kept (hc1 i v1 hv1 0 _ rfl) HU.out) HB.out; rw [show o1 + (4 * i + 0) = o1 + i * 4 by omega] at this; exact this
                  have k1 : wr.cell? ⟨g1, o1 + i * 4 + 1, none⟩ = some (.string v1.t) := by have := cell_kept (cell_kept (hc1 i v1 hv1 1 _ rfl) HU.out) HB.out; rw [show o1 + (4 * i + 1) = o1 + i * 4 + 1 by omega] at this; exact this
                  have k2 : wr.cell? ⟨g1, o1 + i * 4 + 2, none⟩ = some (.slice v1.an v1.ln v1.cn) := by have := cell_kept (cell_kept (hc1 i v1 hv1 2 _ rfl) HU.out) HB.out; rw [show o1 + (4 * i + 2) = o1 + i * 4 + 2 by omega] at this; exact this
                  have k3 : wr.cell? ⟨g1, o1 + i * 4 + 3, none⟩ = some (.slice v1.ai v1.li v1.ci) := by have := cell_kept (cell_kept (hc1 i v1 hv1 3 _ rfl) HU.out) HB.out; rw [show o1 + (4 * i + 3) = o1 + i * 4 + 3 by omega] at this; exact this
                  have l0 : wr.cell? ⟨g2, o2 + i * 4, none⟩ = some (.int .i64 v2.k) := by have := cell_kept (cell_kept (hc2 i v2 hv2 0 _ rfl) HU.out) HB.out; rw [show o2 + (4 * i + 0) = o2 + i * 4 by omega] at this; exact this
                  have l1 : wr.cell? ⟨g2, o2 + i * 4 + 1, none⟩ = some (.string v2.t) := by have := cell_kept (cell_kept (hc2 i v2 hv2 1 _ rfl) HU.out) HB.out; rw [show o2 + (4 * i + 1) = o2 + i * 4 + 1 by omega] at this; exact this
                  have l2 : wr.cell? ⟨g2, o2 + i * 4 + 2, none⟩ = some (.slice v2.an v2.ln v2.cn) := by have := cell_kept (cell_kept (hc2 i v2 hv2 2 _ rfl) HU.out) HB.out; rw [show o2 + (4 * i + 2) = o2 + i * 4 + 2 by omega] at this; exact this
                  have l3 : wr.cell? ⟨g2, o2 + i * 4 + 3, none⟩ = some (.slice v2.ai v2.li v2.ci) := by have := cell_kept (cell_kept (hc2 i v2 hv2 3 _ rfl) HU.out) HB.out; rw [show o2 + (4 * i + 3) = o2 + i * 4 + 3 by omega] at this; exact this
                  rw [e1] at s3
                  rw [e2] at r3
                  have hil : (i : Int) < (x.li : Int) := by have := HLI.out; omega
                  have hil' : (i : Int) < (y.li : Int) := by have := HLI'.out; omega
                  have HLOW : Hid (∀ k, k < B → wr.drew.heap[k]? = w.heap[k]?) := fun k hk => (HB.out.block k (by have := HBw.out; have := HU.out.size; omega)).trans (HU.out.block k (by have := HBw.out; omega))
                  have HC := hide (HIH.out is[i] (List.getElem_mem hin) is'[i] v1 v2 B wr.drew (JSee.stay _ _ hw1 HLOW.out) (JSee.stay _ _ hw2 HLOW.out) (JFits.get is HF5.out i _ (List.getElem?_eq_getElem hin)) (by have := HBw.out; have := HU.out.size; have := HB.out.size; show B ≤ wr.heap.size; omega))
                  rw [show v1.val = .agg #[.int .i64 v1.k, .string v1.t, .slice v1.an v1.ln v1.cn, .slice v1.ai v1.li v1.ci] from rfl, show v2.val = .agg #[.int .i64 v2.k, .string v2.t, .slice v2.an v2.ln v2.cn, .slice v2.ai v2.li v2.ci] from rfl] at HC
                  have HD1 : Hid (is[i] = is'[i] → is.take (i + 1) = is'.take (i + 1)) := fun e => by
                    rw [List.take_add_one, List.take_add_one, HE.out, List.getElem?_eq_getElem hin, List.getElem?_eq_getElem hin', e]
                  have HD2 : Hid (is[i] ≠ is'[i] → ¬ R) := fun h hR => h (by have e := HR2.out.1 hR; subst e; rfl)
                  clear hv1 hv2 hw1 hw2 hc1 hc2 e1 e2 HE HLOW
                  go_wp2_with fail
                  go_region_held (fun W => W.cell? ⟨N, 3, none⟩ = some (.slice (some ⟨g1, o1, none⟩) x.li x.ci) ∧ W.cell? ⟨N + 1, 3, none⟩ = some (.slice (some ⟨g2, o2, none⟩) y.li y.ci) ∧ W.cell? ⟨g1, o1 + i * 4, none⟩ = some (.int .i64 v1.k) ∧ W.cell? ⟨g1, o1 + i * 4 + 1, none⟩ = some (.string v1.t) ∧ W.cell? ⟨g1, o1 + i * 4 + 2, none⟩ = some (.slice v1.an v1.ln v1.cn) ∧ W.cell? ⟨g1, o1 + i * 4 + 3, none⟩ = some (.slice v1.ai v1.li v1.ci) ∧ W.cell? ⟨g2, o2 + i * 4, none⟩ = some (.int .i64 v2.k) ∧ W.cell? ⟨g2, o2 + i * 4 + 1, none⟩ = some (.string v2.t) ∧ W.cell? ⟨g2, o2 + i * 4 + 2, none⟩ = some (.slice v2.an v2.ln v2.cn) ∧ W.cell? ⟨g2, o2 + i * 4 + 3, none⟩ = some (.slice v2.ai v2.li v2.ci)) (go_keep) (first | (go_at_call 8; refine HC.out.mono ?_; rintro ε w2 ⟨q, rfl, hq, h5⟩; have HQQ := hide hq; have hb5 := below_undrewN1 h5; have HB5 := hide hb5; have t0 := cell_kept s3 hb5; have t1 := cell_kept r3 hb5; have t2 := cell_kept k0 hb5; have t3 := cell_kept k1 hb5; have t4 := cell_kept k2 hb5; have t5 := cell_kept k3 hb5; have t6 := cell_kept l0 hb5; have t7 := cell_kept l1 hb5; have t8 := cell_kept l2 hb5; have t9 := cell_kept l3 hb5; clear h5 hb5 hq))
                  clear s3 r3 k0 k1 k2 k3 l0 l1 l2 l3
                  cases q with
                  | true =>
                    have HD3 := hide (HD1.out (HQQ.out.1 rfl))
                    go_wp2_with fail
                    go_roundw
                    case rel => exact ⟨i + 1, by omega, by simp, below_up HB.out HB5.out, HD3⟩
                    case measure => simp [intOf]; omega
                  | false =>
                    have HD3 : Hid (¬ R) := HD2.out (fun e => by have h := HQQ.out.2 e; cases h)
                    go_wp2_with fail
                    first | (go_ret; exact ⟨trivial, HPP.out false _ (iff_no HD3.out) (below_up HU.out (below_up HB.out HB5.out))⟩) | exact HPP.out false _ (iff_no HD3.out) (below_up HU.out (below_up HB.out HB5.out))
                · have hil : ¬ (i : Int) < (x.li : Int) := by have := HLI.out; omega
                  have HR3 : Hid R := HR2.out.2 (by
                    have h := HE.out
                    rw [List.take_of_length_le (by omega), List.take_of_length_le (by omega)] at h
                    exact h)
                  clear HE
                  go_wp2_with fail
                  first | (go_ret; exact ⟨trivial, HPP.out true _ (iff_yes HR3.out) (below_up HU.out HB.out)⟩) | exact HPP.out true _ (iff_yes HR3.out) (below_up HU.out HB.out)
        · have hib : ((x.li : Int) != (y.li : Int)) = true := by simp; omega
          have HR : Hid (¬ R) := fun h => hi (by rw [HLI.out, HLI'.out, (HQ.out.1 h).2.2.2])
          clear hk hl hi ht
          go_wp2_with fail
          first | (go_ret; exact ⟨trivial, HPP.out false _ (iff_no HR.out) (HU.out)⟩) | exact HPP.out false _ (iff_no HR.out) (HU.out)
      · have hlb : ((x.ln : Int) != (y.ln : Int)) = true := by simp; omega
        have HR : Hid (¬ R) := fun h => hl (by rw [HLN.out, HLN'.out, (HQ.out.1 h).2.2.1])
        clear hk hl ht
        go_wp2_with fail
        first | (go_ret; exact ⟨trivial, HPP.out false _ (iff_no HR.out) (HU.out)⟩) | exact HPP.out false _ (iff_no HR.out) (HU.out)
    · have htb : (x.t.toList == y.t.toList) = false := by rw [HTE.out, decide_eq_false ht]
      have HR : Hid (¬ R) := fun h => ht (HQ.out.1 h).2.1
      clear hk ht
      go_wp2_with fail
      first | (go_ret; exact ⟨trivial, HPP.out false _ (iff_no HR.out) (HU.out)⟩) | exact HPP.out false _ (iff_no HR.out) (HU.out)
  · have hkb : (x.k != y.k) = true := by simp [hk]
    have HR : Hid (¬ R) := fun h => hk (by rw [HA1.out, HB1.out, (HQ.out.1 h).1])
    clear hk
    go_wp2_with fail
    first | (go_ret; exact ⟨trivial, HPP.out false _ (iff_no HR.out) (HU.out)⟩) | exact HPP.out false _ (iff_no HR.out) (HU.out)
theorem equal_any (j : J) : EqOk j := (J.both (M1 := EqOk) (M2 := fun js => ∀ j ∈ js, EqOk j) equal_step (fun j h => by cases h) (fun j js h1 h2 j' h => by
    rcases List.mem_cons.1 h with e | e
    · rw [e]; exact h1
    · exact h2 j' e)).1 j
end Go.Proofs.YtlebockgdonceaaGreatDoor
