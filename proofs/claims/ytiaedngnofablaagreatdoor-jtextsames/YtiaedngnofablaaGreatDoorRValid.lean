/- The contract of the document's Valid. -/
import Derived.Test.YtiaedngnofablaaGreatDoorRFit
namespace Go.Proofs.YtiaedngnofablaaGreatDoor
open Go.RowKit

theorem nodup_snoc {l : List By} {a : By} (h : l.Nodup) (ha : a ∉ l) : (l ++ [a]).Nodup := by
  rw [List.nodup_append]
  refine ⟨h, by simp, ?_⟩
  intro x hx y hy e
  rw [List.mem_singleton] at hy
  subst hy; subst e
  exact ha hx
theorem nodup_twice {l : List By} {i k : Nat} {a : By} (h1 : l[k]? = some a) (h2 : l[i]? = some a) (hne : k ≠ i) : ¬ l.Nodup := by
  intro h
  obtain ⟨hk, e1⟩ := List.getElem?_eq_some_iff.1 h1
  obtain ⟨hi, e2⟩ := List.getElem?_eq_some_iff.1 h2
  have hp := List.pairwise_iff_getElem.1 h
  rcases Nat.lt_or_gt_of_ne hne with hlt | hlt
  · exact hp k i hk hi hlt (e1.trans e2.symm)
  · exact hp i k hi hk hlt (e2.trans e1.symm)
/-- The first i names are clean, and no two are alike. -/
def NamesTo (ns : List By) (i : Nat) : Prop := (ns.take i).all clean = true ∧ (ns.take i).Nodup
/-- The contract of Valid at a Json. -/
def RvOk (j : J) : Prop := ∀ (x : JV) (B : Nat) (dep : Int) (w : World), JSee w B j x → JFit j → B ≤ w.heap.size → 0 ≤ dep → dep ≤ 32 →
  Calls Tryz.prog 22 #[x.val, .int .i64 dep] w fun e w' => ∃ q : Bool, e = .returned (.bool q) ∧ (q = true ↔ VOk j dep) ∧ Below w.heap.size w w'

set_option maxHeartbeats 4000000 in
set_option maxRecDepth 100000 in
theorem rvalid_step (k : Int) (t : By) (ns : List By) (is : List J) (ih : ∀ j ∈ is, RvOk j) : RvOk (.mk k t ns is) := by
  intro x B dep w hx hf hB hd0 hd1
  rw [JSee_mk] at hx
  obtain ⟨a1, a2, a3, a4, an, vs, ai, ajs⟩ := hx
  rw [JFit_mk] at hf
  obtain ⟨f1, f2, f3, f4, f5⟩ := hf
  have hli : x.li = is.length := by rw [ai.1]; exact (JSees.get is vs ajs).1
  have hsz : x.t.size ≤ 4611686018427387904 := by rw [a2, bstr_size]; omega
  have HQ : Hid (VOk (.mk k t ns is) dep ↔ (shErr dep x = 0 ∧ namesOk ns = true ∧ ∀ j ∈ is, VOk j (dep + 1))) := by
    show _ ↔ _
    rw [VOk_mk, voks_iff, shErr_J a1 a2 an.1 hli]
  have HDP : Hid (shErr dep x = 0 → 0 < is.length → dep < 32) := fun h hi => by
    rw [shErr_J a1 a2 an.1 hli] at h
    exact shJ_deep h hi
  have HU := hide (below_new w (.cells #[.int .i64 x.k, .string x.t, .slice x.an x.ln x.cn, .slice x.ai x.li x.ci] 25))
  have HJ1 := hide (Jb.new w x.k x.t (.slice x.an x.ln x.cn) (.slice x.ai x.li x.ci))
  have HSH := hide (fit_any x dep (w.alloc (.cells #[.int .i64 x.k, .string x.t, .slice x.an x.ln x.cn, .slice x.ai x.li x.ci] 25)) hd1 hsz)
  have HAN := hide an
  have HAI := hide ai
  have HAJ := hide ajs
  have HA4 := hide a4
  have HF2 := hide f2
  have HF5 := hide f5
  have HLN : Hid (x.ln = ns.length) := an.1
  have HLI := hide hli
  have HIH := hide ih
  have HBw := hide hB
  generalize VOk (.mk k t ns is) dep = R at HQ ⊢
  obtain ⟨e0, he0⟩ : ∃ e, e = shErr dep x := ⟨_, rfl⟩
  rw [← he0] at HSH HQ HDP
  suffices HSU : ∀ PP : Ending → World → Prop, (∀ q w', (q = true ↔ R) → Below w.heap.size w w' → PP (.returned (.bool q)) w') → Calls Tryz.prog 22 #[x.val, .int .i64 dep] w fun ε w' => True ∧ PP ε w' from (HSU _ (fun q w' h1 h2 => ⟨q, rfl, h1, h2⟩)).mono fun _ _ h => h.2
  intro PP hPP
  have HPP := hide hPP
  rw [show x.val = .agg #[.int .i64 x.k, .string x.t, .slice x.an x.ln x.cn, .slice x.ai x.li x.ci] from rfl] at HSH ⊢
  clear hPP an ai ajs a4 f2 f5 hli ih hB a1 a2 a3 f1 he0 hsz
  go_enter Tryz.func22, Tryz.ntmps22
  go_wp2_with fail
  refine HSH.out.mono ?_
  rintro ε w2 ⟨rfl, hb2⟩
  have HB2 := hide (below_up HU.out hb2)
  have HJ2 := hide (HJ1.out.keep hb2)
  obtain ⟨N, hN⟩ : ∃ N, N = w.heap.size := ⟨_, rfl⟩
  rw [← hN] at HJ2 ⊢
  clear hb2 HJ1 HU HSH hN
  have p2 := HJ2.out.c2
  have p3 := HJ2.out.c3
  by_cases he : e0 = 0
  · subst he
    go_wp2_with fail
    go_loopw [5] (fun v5 wr => ∃ i : Nat, i ≤ ns.length ∧ v5 = .int .i64 (i : Int) ∧ Hid (Below w.heap.size w wr) ∧ Hid (Below w2.heap.size w2 wr) ∧ Hid (NamesTo ns i)) (fun v5 _ => ns.length - (intOf v5).toNat)
    case atStart => exact ⟨0, Nat.zero_le _, rfl, HB2, Below.refl _ _, by show NamesTo _ _; unfold NamesTo; rw [List.take_zero]; exact ⟨rfl, List.nodup_nil⟩⟩
    case round =>
      obtain ⟨i, hi, rfl, HB, HBB, HE⟩ := hrel
      have s2 := cell_kept p2 HBB.out
      by_cases hin : i < ns.length
      · obtain ⟨g1, o1, e1, hg1, hc1⟩ : ∃ g off, x.an = some ⟨g, off, none⟩ ∧ g < B ∧ ∀ i nm, ns[i]? = some nm → w.cell? ⟨g, off + i, none⟩ = some (.string (bstr nm)) := by
          rcases HAN.out.2 with e | e
          · rw [e] at hin; simp at hin
          · exact e
        have n1 := List.getElem?_eq_getElem hin
        have HCC := hide hc1
        have c1 := cell_kept (hc1 i _ n1) HB.out
        rw [e1] at s2 p2
        have hil : (i : Int) < (x.ln : Int) := by have := HLN.out; omega
        have HN1 := hide n1
        have HCL := hide (rclean_any (bstr ns[i]) wr (by rw [bstr_size]; exact HF2.out _ (List.getElem_mem hin)))
        have HSB := hide (sbytes_bstr (HA4.out _ (List.getElem_mem hin)))
        have HC4 := hide (HA4.out _ (List.getElem_mem hin))
        have HMEM : Hid (ns[i] ∈ ns) := List.getElem_mem hin
        have HTK : Hid (ns.take (i + 1) = ns.take i ++ [ns[i]]) := by show _ = _; rw [List.take_add_one, List.getElem?_eq_getElem hin]; rfl
        generalize ns[i] = nm at *
        clear n1 hc1
        go_wp2_with fail
        refine HCL.out.mono ?_
        rintro ε w3 ⟨rfl, hb3⟩
        have HB3 := hide (below_up HB.out hb3)
        have HBB3 := hide (below_up HBB.out hb3)
        clear hb3 HB HBB HCL c1 s2
        rw [HSB.out]
        cases hcl : clean nm with
        | false =>
          have HR : Hid (¬ R) := fun h => by
            have h2 := (HQ.out.1 h).2.1
            unfold namesOk at h2
            rw [Bool.and_eq_true, List.all_eq_true] at h2
            have := h2.1 nm HMEM.out
            rw [hcl] at this; cases this
          clear hcl
          go_wp2_with fail
          first | (go_ret; exact ⟨trivial, HPP.out false _ (iff_no HR.out) HB3.out⟩) | exact HPP.out false _ (iff_no HR.out) HB3.out
        | true =>
          have HCN := hide hcl
          clear hcl
          go_wp2_with fail
          go_loopw [6] (fun v6 wr => ∃ k : Nat, k ≤ i ∧ v6 = .int .i64 (k : Int) ∧ Hid (Below w.heap.size w wr) ∧ Hid (Below w2.heap.size w2 wr) ∧ Hid (nm ∉ ns.take k)) (fun v6 _ => i - (intOf v6).toNat)
          case atStart => exact ⟨0, Nat.zero_le _, rfl, HB3, HBB3, by rw [List.take_zero]; exact List.not_mem_nil⟩
          case round =>
            clear HB3 HBB3
            obtain ⟨k, hk, rfl, HB, HBB, HO⟩ := hrel
            by_cases hki : k < i
            · have s2 := cell_kept p2 HBB.out
              have hkn : k < ns.length := by omega
              have n2 := List.getElem?_eq_getElem hkn
              have c1 := cell_kept (HCC.out i _ HN1.out) HB.out
              have c2 := cell_kept (HCC.out k _ n2) HB.out
              have hkl : (k : Int) < (x.ln : Int) := by have := HLN.out; omega
              have hkk : (k : Int) < (i : Int) := by omega
              have HEQ := hide (bstr_beq (HA4.out _ (List.getElem_mem hkn)) HC4.out)
              have HTK2 : Hid (ns.take (k + 1) = ns.take k ++ [ns[k]]) := by show _ = _; rw [List.take_add_one, List.getElem?_eq_getElem hkn]; rfl
              have HTW : Hid (ns[k] = nm → ¬ ns.Nodup) := fun e => nodup_twice (by rw [n2, e]) HN1.out (by omega)
              generalize ns[k] = m2 at *
              clear n2
              by_cases hm : m2 = nm
              · have hme : ((bstr m2).toList == (bstr nm).toList) = true := by rw [HEQ.out, decide_eq_true hm]
                have HR : Hid (¬ R) := fun h => by
                  have h2 := (HQ.out.1 h).2.1
                  unfold namesOk at h2
                  rw [Bool.and_eq_true, decide_eq_true_iff] at h2
                  exact HTW.out hm h2.2
                clear HEQ HTW HTK2 hm
                go_wp2_with fail
                go_quiet (fail)
                go_wp2_with fail
                first | (go_ret; exact ⟨trivial, HPP.out false _ (iff_no HR.out) (below_drewNv HB.out _)⟩) | exact HPP.out false _ (iff_no HR.out) (below_drewNv HB.out _)
              · have hme : ((bstr m2).toList == (bstr nm).toList) = false := by rw [HEQ.out, decide_eq_false hm]
                have HO2 : Hid (nm ∉ ns.take (k + 1)) := fun h => by
                  rw [HTK2.out] at h
                  rcases List.mem_append.1 h with h | h
                  · exact HO.out h
                  · exact hm (List.mem_singleton.1 h).symm
                clear HEQ HTW HTK2 hm
                go_wp2_with fail
                go_quiet (fail)
                go_wp2_with fail
                go_roundw
                case rel => exact ⟨k + 1, by omega, by simp, below_drewNv HB.out _, below_drewNv HBB.out _, HO2⟩
                case measure => simp [intOf]; omega
            · have hkk : ¬ (k : Int) < (i : Int) := by omega
              have HE2 : Hid (NamesTo ns (i + 1)) := by
                have hke : k = i := by omega
                rw [hke] at HO
                show NamesTo _ _
                unfold NamesTo
                rw [HTK.out, List.all_append, HE.out.1]
                exact ⟨by simp [HCN.out], nodup_snoc HE.out.2 HO.out⟩
              go_wp2_with fail
              go_roundw
              case rel => first | exact ⟨i + 1, by omega, by simp, HE2⟩ | exact ⟨i + 1, by omega, by simp, HB, HE2⟩
              case measure => simp [intOf]; omega
      · have hil : ¬ (i : Int) < (x.ln : Int) := by have := HLN.out; omega
        have HR1 : Hid (R ↔ ∀ j ∈ is, VOk j (dep + 1)) := by
          have h := HE.out
          unfold NamesTo at h
          rw [List.take_of_length_le (by omega)] at h
          refine ⟨fun h => (HQ.out.1 h).2.2, fun h2 => HQ.out.2 ⟨by first | exact rfl | trivial, ?_, h2⟩⟩
          unfold namesOk
          rw [h.1, decide_eq_true h.2]; rfl
        have t3 := cell_kept p3 HBB.out
        clear HQ HE
        go_wp2_with fail
        go_loopw [7] (fun v7 wr => ∃ i : Nat, i ≤ is.length ∧ v7 = .int .i64 (i : Int) ∧ Hid (Below w.heap.size w wr) ∧ Hid (Below w2.heap.size w2 wr) ∧ Hid (∀ j ∈ is.take i, VOk j (dep + 1))) (fun v7 _ => is.length - (intOf v7).toNat)
        case atStart => exact ⟨0, Nat.zero_le _, rfl, HB, HBB, fun j hj => by rw [List.take_zero] at hj; cases hj⟩
        case round =>
          clear HB HBB t3 s2
          obtain ⟨i, hi, rfl, HB, HBB, HE⟩ := hrel
          have s3 := cell_kept p3 HBB.out
          by_cases hin : i < is.length
          · obtain ⟨v1, hv1, hw1⟩ := (JSees.get is vs HAJ.out).2 i is[i] (List.getElem?_eq_getElem hin)
            obtain ⟨g1, o1, e1, hg1, hc1⟩ : ∃ g off, x.ai = some ⟨g, off, none⟩ ∧ g < B ∧ ∀ i v, vs[i]? = some v → ∀ j u, v.cells[j]? = some u → w.cell? ⟨g, off + (4 * i + j), none⟩ = some u := by
              rcases HAI.out.2 with e | e
              · rw [e] at hv1; simp at hv1
              · exact e
            have k0 : wr.cell? ⟨g1, o1 + i * 4, none⟩ = some (.int .i64 v1.k) := by have := cell_kept (hc1 i v1 hv1 0 _ rfl) HB.out; rw [show o1 + (4 * i + 0) = o1 + i * 4 by omega] at this; exact this
            have k1 : wr.cell? ⟨g1, o1 + i * 4 + 1, none⟩ = some (.string v1.t) := by have := cell_kept (hc1 i v1 hv1 1 _ rfl) HB.out; rw [show o1 + (4 * i + 1) = o1 + i * 4 + 1 by omega] at this; exact this
            have k2 : wr.cell? ⟨g1, o1 + i * 4 + 2, none⟩ = some (.slice v1.an v1.ln v1.cn) := by have := cell_kept (hc1 i v1 hv1 2 _ rfl) HB.out; rw [show o1 + (4 * i + 2) = o1 + i * 4 + 2 by omega] at this; exact this
            have k3 : wr.cell? ⟨g1, o1 + i * 4 + 3, none⟩ = some (.slice v1.ai v1.li v1.ci) := by have := cell_kept (hc1 i v1 hv1 3 _ rfl) HB.out; rw [show o1 + (4 * i + 3) = o1 + i * 4 + 3 by omega] at this; exact this
            have hil : (i : Int) < (x.li : Int) := by have := HLI.out; omega
            have hdlt : dep < 32 := HDP.out (by first | exact rfl | trivial) (by omega)
            have hwr : IntKind.i64.wrap (dep + 1) = dep + 1 := by rw [IntKind.wrap_i64]; omega
            have HC := hide (HIH.out is[i] (List.getElem_mem hin) v1 B (dep + 1) wr (JSee.stay _ _ hw1 (fun k hk => HB.out.block k (by have := HBw.out; omega))) (JFits.get is HF5.out i _ (List.getElem?_eq_getElem hin)) (by have := HBw.out; have := HB.out.size; omega) (by omega) (by omega))
            rw [show v1.val = .agg #[.int .i64 v1.k, .string v1.t, .slice v1.an v1.ln v1.cn, .slice v1.ai v1.li v1.ci] from rfl] at HC
            have HMEM : Hid (is[i] ∈ is) := List.getElem_mem hin
            have HTK : Hid (is.take (i + 1) = is.take i ++ [is[i]]) := by show _ = _; rw [List.take_add_one, List.getElem?_eq_getElem hin]; rfl
            generalize is[i] = ji at *
            rw [e1] at s3
            clear hv1 hw1 hc1 e1
            go_wp2_with fail
            refine HC.out.mono ?_
            rintro ε w4 ⟨q, rfl, hq, hb4⟩
            have HB4 := hide (below_up HB.out hb4)
            have HBB4 := hide (below_up HBB.out hb4)
            have HQQ := hide hq
            clear hb4 hq HC
            cases q with
            | true =>
              have HE2 : Hid (∀ j ∈ is.take (i + 1), VOk j (dep + 1)) := fun j hj => by
                rw [HTK.out] at hj
                rcases List.mem_append.1 hj with h | h
                · exact HE.out j h
                · rw [List.mem_singleton.1 h]; exact HQQ.out.1 rfl
              go_wp2_with fail
              go_roundw
              case rel => exact ⟨i + 1, by omega, by simp, HB4, HBB4, HE2⟩
              case measure => simp [intOf]; omega
            | false =>
              have HR : Hid (¬ R) := fun h => by have := HQQ.out.2 (HR1.out.1 h ji HMEM.out); cases this
              go_wp2_with fail
              first | (go_ret; exact ⟨trivial, HPP.out false _ (iff_no HR.out) HB4.out⟩) | exact HPP.out false _ (iff_no HR.out) HB4.out
          · have hil : ¬ (i : Int) < (x.li : Int) := by have := HLI.out; omega
            have HR : Hid R := HR1.out.2 (by
              have h := HE.out
              rw [List.take_of_length_le (by omega)] at h
              exact h)
            go_wp2_with fail
            first | (go_ret; exact ⟨trivial, HPP.out true _ (iff_yes HR.out) HB.out⟩) | exact HPP.out true _ (iff_yes HR.out) HB.out
  · have hne0 : ((e0 : Int) != 0) = true := by simp; omega
    have HR : Hid (¬ R) := fun h => he (HQ.out.1 h).1
    go_wp2_with fail
    first | (go_ret; exact ⟨trivial, HPP.out false _ (iff_no HR.out) HB2.out⟩) | exact HPP.out false _ (iff_no HR.out) HB2.out
theorem rvalid_any (j : J) : RvOk j := (J.both (M1 := RvOk) (M2 := fun js => ∀ j ∈ js, RvOk j) rvalid_step (fun _ h => by cases h) (fun j js h1 h2 a ha => by
  rcases List.mem_cons.1 ha with rfl | h
  · exact h1
  · exact h2 a h)).1 j
end Go.Proofs.YtiaedngnofablaaGreatDoor
