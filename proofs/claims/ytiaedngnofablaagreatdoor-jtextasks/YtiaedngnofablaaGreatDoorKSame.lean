/- The contracts of namesDiffer and isValue: is a Json a value? -/
import Derived.Test.YtiaedngnofablaaGreatDoorREqual
namespace Go.Proofs.YtiaedngnofablaaGreatDoor
open Go.RowKit Go.Maps

theorem had_size : ∀ (n : Nat) (ns : List By), ns.length = n → (∀ x ∈ ns, ∀ c ∈ x, c < 256) → Maps.size (setOf (H := Unit) (.agg []) (ns.map keyL)) ≤ ns.length ∧ (Maps.size (setOf (H := Unit) (.agg []) (ns.map keyL)) = ns.length ↔ ns.Nodup)
  | 0, ns, hn, _ => by
    have : ns = [] := List.length_eq_zero_iff.1 hn
    subst this
    exact ⟨Nat.le_refl _, by simp [setOf, Maps.size]⟩
  | n + 1, ns, hn, hb => by
    obtain ⟨ms, m, rfl⟩ : ∃ ms m, ns = ms ++ [m] := ⟨ns.dropLast, ns.getLast (by intro e; rw [e] at hn; simp at hn), (List.dropLast_concat_getLast _).symm⟩
    have hl : ms.length = n := by simpa using hn
    obtain ⟨i1, i2⟩ := had_size n ms hl (fun x hx => hb x (by simp [hx]))
    have hh := had_has (ns := ms) (n := m) (fun x hx => hb x (by simp [hx])) (hb m (by simp))
    rw [List.map_append, List.map_singleton, setOf_snoc, Maps.size_put (tidy_setOf _ _ (fun x hx => by obtain ⟨y, _, rfl⟩ := List.mem_map.1 hx; exact keyL_key y)), hh, List.length_append, List.length_singleton, List.nodup_append]
    cases hc : ms.contains m with
    | true =>
      rw [if_pos rfl]
      have hm : m ∈ ms := by simpa using hc
      exact ⟨by omega, ⟨fun h => by omega, fun h => absurd rfl (h.2.2 m hm m (by simp))⟩⟩
    | false =>
      rw [if_neg (by decide)]
      have hm : m ∉ ms := fun h => by
        have h2 : ms.contains m = true := List.contains_iff_mem.2 h
        rw [h2] at hc
        cases hc
      refine ⟨by omega, ⟨fun h => ⟨i2.1 (by omega), by simp, fun a ha b hb e => ?_⟩, fun h => ?_⟩⟩
      · simp at hb
        subst hb
        exact hm (e ▸ ha)
      · have := i2.2 h.1
        omega
theorem had_stay {w w' : World} {M : Nat} {ns : List By} (h : HadIs w M ns) (hb : w'.heap[M]? = w.heap[M]?) : HadIs w' M ns := by
  obtain ⟨es, clock, hm, r⟩ := h
  exact ⟨es, clock, hb.trans hm, r⟩
/-- Are all names clean, and no two alike? -/
def namesOk (ns : List By) : Bool := ns.all clean && decide ns.Nodup

set_option maxHeartbeats 2000000 in
set_option maxRecDepth 100000 in
theorem namesDiffer_any (ao : Option Addr) (ln cn : Nat) (ns : List By) (B : Nat) (w : World) (h : NSee w B ao ln ns) (hB : B ≤ w.heap.size) (hns : ∀ n ∈ ns, ∀ c ∈ n, c < 256) (hnz : ∀ n ∈ ns, n.length ≤ 4611686018427387904) (hnl : ns.length ≤ 4611686018427387904) (hT : Tabs w) :
    Calls Tryz.prog 72 #[.slice ao ln cn] w fun e w' => e = .returned (.bool (namesOk ns)) ∧ Below w.heap.size w w' := by
  have HS := hide (had_size _ ns rfl hns)
  have HN := hide h
  have HLN := hide h.1
  have HNS := hide hns
  have HNZ := hide hnz
  have HBw := hide hB
  have HT := hide hT
  obtain ⟨M, hM⟩ : ∃ M, M = w.heap.size := ⟨_, rfl⟩
  have HH : Hid (HadIs (w.alloc (.map #[] 0)) M []) := by rw [hM]; exact World.ownsMap_made (H := Unit) w Tryz.prog 9 unitElem
  have HU := hide (below_new w (.map #[] 0))
  have hmm := @run_makeMap Tryz.prog
  have HMW := hide hM
  clear h hns hnz hB hT
  go_enter Tryz.func72, Tryz.ntmps72
  go_wp2_with fail
  rw [← hM]
  clear hM
  generalize w.alloc (.map #[] 0) = u at *
  go_loopw [9] (fun v9 wr => ∃ i : Nat, i ≤ ns.length ∧ v9 = .int .i64 (i : Int) ∧ Hid (Below w.heap.size w wr) ∧ Hid (HadIs wr M (ns.take i)) ∧ Hid ((ns.take i).all clean = true)) (fun v9 _ => ns.length - (intOf v9).toNat)
  case atStart => exact ⟨0, Nat.zero_le _, rfl, HU, HH, rfl⟩
  case round =>
    clear HU HH
    obtain ⟨i, hi, rfl, HB, HH, HA⟩ := hrel
    by_cases hin : i < ns.length
    · obtain ⟨g1, o1, e1, hg1, hc1⟩ : ∃ g off, ao = some ⟨g, off, none⟩ ∧ g < B ∧ ∀ i nm, ns[i]? = some nm → w.cell? ⟨g, off + i, none⟩ = some (.string (bstr nm)) := by
        rcases HN.out.2 with e | e
        · rw [e] at hin; simp at hin
        · exact e
      subst e1
      have c1 := cell_kept (hc1 i _ (List.getElem?_eq_getElem hin)) HB.out
      have hil : (i : Int) < (ln : Int) := by have := HLN.out; omega
      have HKEY : Hid (keyOf Tryz.prog 9 (.string (bstr ns[i])) = some (keyL ns[i])) := Go.WideMaps.keyOf_string_mk Tryz.underlying9 (by rw [bstr_size]; have := HNZ.out _ (List.getElem_mem hin); unfold maxLen; omega)
      have HSB := hide (sbytes_bstr (HNS.out _ (List.getElem_mem hin)))
      have HSZ : Hid ((bstr ns[i]).size ≤ 9223372036854775807) := by show _ ≤ _; rw [bstr_size]; have := HNZ.out _ (List.getElem_mem hin); omega
      have htl : (ns.take i).length < maxLen := by rw [List.length_take]; unfold maxLen; omega
      have HTK : Hid (ns.take i ++ [ns[i]] = ns.take (i + 1)) := by show _ = _; rw [List.take_add_one, List.getElem?_eq_getElem hin]; rfl
      have HMEM : Hid (ns[i] ∈ ns) := List.getElem_mem hin
      generalize ns[i] = nm at *
      clear hc1
      go_wp2_with (first | (at_mapUpdate; refine wpList_mapUpdate_own (H := Unit) _ rfl _ _ _ 132 rfl 9 133 lawS Tryz.underlying132 (unitElem (H := Unit)) M (ns.take i).length _ rfl HH.out htl _ _ _ rfl rfl HKEY.out _ [] unitElem_mk ?_; intro w2 hown2 hgrow2))
      have HM2 : Hid (HadIs w2 M (ns.take (i + 1))) := by
        show World.ownsMap _ _ _ _ _ _ _
        rw [← HTK.out, List.length_append, List.map_append, List.map_singleton, setOf_snoc]
        exact hown2
      have HB2 : Hid (Below w.heap.size w w2) := HB.out.trans ⟨hgrow2.os, hgrow2.tape, hgrow2.output, hgrow2.size, fun k hk => hgrow2.block k (by have := HB.out.size; omega) (fun e => by injection e with e; have := HMW.out; omega)⟩
      clear hown2 hgrow2 HH HKEY
      refine (valid_ok (bstr nm) w2 HSZ.out (HT.out.keep HB2.out)).mono ?_
      rintro e w3 ⟨rfl, hb3⟩
      rw [HSB.out]
      have HB3 : Hid (Below w.heap.size w w3) := HB2.out.trans ⟨hb3.os, hb3.tape, hb3.output, hb3.size, fun k hk => hb3.block k (by have := HB2.out.size; omega)⟩
      have HM3 : Hid (HadIs w3 M (ns.take (i + 1))) := had_stay HM2.out (hb3.block M (HadIs.lt HM2.out))
      clear hb3
      cases hcl : clean nm with
      | true =>
        have HA3 : Hid ((ns.take (i + 1)).all clean = true) := by show _ = _; rw [← HTK.out, List.all_append, HA.out]; simp [hcl]
        clear hcl
        go_wp2_with fail
        go_roundw
        case rel => exact ⟨i + 1, by omega, by simp, HB3, HM3, HA3⟩
        case measure => simp [intOf]; omega
      | false =>
        have HR : Hid (namesOk ns = false) := by
          show _ = _
          unfold namesOk
          have : ns.all clean = false := by
            rw [List.all_eq_false]
            exact ⟨nm, HMEM.out, by rw [hcl]; decide⟩
          rw [this]; rfl
        clear hcl
        go_wp2_with fail
        go_ret
        rw [HR.out]
        exact ⟨rfl, HB3.out⟩
    · have hie : i = ns.length := by omega
      rw [hie, List.take_length] at HH HA
      have hil : ¬ (i : Int) < (ln : Int) := by have := HLN.out; omega
      have HR : Hid (namesOk ns = decide (Maps.size (setOf (H := Unit) (.agg []) (ns.map keyL)) = ns.length)) := by
        show _ = _
        unfold namesOk
        rw [HA.out, Bool.true_and, Bool.eq_iff_iff, decide_eq_true_iff, decide_eq_true_iff]
        exact HS.out.2.symm
      clear hie
      go_wp2_with (first | (at_len; refine wpList_len_own _ rfl _ 132 rfl 9 133 Tryz.underlying132 _ M ns.length _ rfl HH.out ?_))
      go_ret
      rw [HR.out]
      have hfin : (((Maps.size (setOf (H := Unit) (.agg []) (ns.map keyL)) : Nat) : Int) == (ln : Int)) = decide (Maps.size (setOf (H := Unit) (.agg []) (ns.map keyL)) = ns.length) := by
        rw [Bool.eq_iff_iff, beq_iff_eq, decide_eq_true_iff, HLN.out]
        omega
      refine ⟨?_, HB.out⟩
      show Ending.returned (.bool (((Maps.size (setOf (H := Unit) (.agg []) (ns.map keyL)) : Nat) : Int) == (ln : Int))) = _
      rw [hfin]
/-- The shape's error, by a Json's parts. -/
def shJ (dep k : Int) (t : By) (nl il : Nat) : Nat := shErr dep ⟨k, bstr t, none, nl, 0, none, il, 0⟩
theorem shErr_J {dep k : Int} {x : JV} {t : By} {nl il : Nat} (h1 : x.k = k) (h2 : x.t = bstr t) (h3 : x.ln = nl) (h4 : x.li = il) : shErr dep x = shJ dep k t nl il := by
  unfold shJ shErr fieldsB soundB
  rw [h1, h2, h3, h4]
theorem shJ_deep {dep k : Int} {t : By} {nl il : Nat} (h : shJ dep k t nl il = 0) (hi : 0 < il) : dep < 32 := by
  unfold shJ shErr at h
  split at h
  · cases h
  · rename_i h1
    split at h
    · cases h
    · rename_i h2
      unfold deepB at h1
      unfold fieldsB at h2
      simp only [Bool.or_eq_true, Bool.and_eq_true, decide_eq_true_iff, Bool.not_eq_true', decide_eq_false_iff_not, not_or, not_and] at h1 h2
      have h3 : k = 5 ∨ k = 6 := by
        have h4 := h2.2 (by omega)
        by_cases h5 : k = 5
        · exact .inl h5
        · exact .inr (Classical.not_not.1 (h4 h5))
      by_cases hd : (32 : Int) ≤ dep
      · exact absurd h3 (by simpa using h1 hd)
      · omega
def vokJ (k : Int) (t : By) (ns : List By) (is : List J) (voks : Int → Prop) (dep : Int) : Prop := shJ dep k t ns.length is.length = 0 ∧ namesOk ns = true ∧ voks (dep + 1)
def vokC (_ : J) (_ : List J) (vok voks : Int → Prop) (dep : Int) : Prop := vok dep ∧ voks dep
/-- Is a Json a value, at a depth? -/
def VOk (j : J) : Int → Prop := @J.rec (motive_1 := fun _ => Int → Prop) (motive_2 := fun _ => Int → Prop) vokJ (fun _ => True) vokC j
def VOks (js : List J) : Int → Prop := @J.rec_1 (motive_1 := fun _ => Int → Prop) (motive_2 := fun _ => Int → Prop) vokJ (fun _ => True) vokC js
theorem VOk_mk (k : Int) (t : By) (ns : List By) (is : List J) (dep : Int) : VOk (.mk k t ns is) dep = (shJ dep k t ns.length is.length = 0 ∧ namesOk ns = true ∧ VOks is (dep + 1)) := rfl
theorem VOks_nil (dep : Int) : VOks [] dep = True := rfl
theorem VOks_cons (j : J) (js : List J) (dep : Int) : VOks (j :: js) dep = (VOk j dep ∧ VOks js dep) := rfl
theorem voks_iff (dep : Int) : ∀ js : List J, VOks js dep ↔ ∀ j ∈ js, VOk j dep
  | [] => by rw [VOks_nil]; simp
  | j :: js => by rw [VOks_cons, voks_iff dep js]; simp
/-- The contract of isValue at a Json. -/
def IvOk (j : J) : Prop := ∀ (x : JV) (B : Nat) (dep : Int) (w : World), JSee w B j x → JFit j → B ≤ w.heap.size → Tabs w → 0 ≤ dep → dep ≤ 32 →
  Calls Tryz.prog 44 #[x.val, .int .i64 dep] w fun e w' => ∃ q : Bool, e = .returned (.bool q) ∧ (q = true ↔ VOk j dep) ∧ Below w.heap.size w w'

set_option maxHeartbeats 4000000 in
set_option maxRecDepth 100000 in
theorem isValue_step (k : Int) (t : By) (ns : List By) (is : List J) (ih : ∀ j ∈ is, IvOk j) : IvOk (.mk k t ns is) := by
  intro x B dep w hx hf hB hT hd0 hd1
  rw [JSee_mk] at hx
  obtain ⟨a1, a2, a3, a4, an, vs, ai, ajs⟩ := hx
  rw [JFit_mk] at hf
  obtain ⟨f1, f2, f3, f4, f5⟩ := hf
  have hli : x.li = is.length := by rw [ai.1]; exact (JSees.get is vs ajs).1
  have hsz : x.t.size ≤ 9000000000000000000 := by rw [a2, bstr_size]; omega
  have HQ : Hid (VOk (.mk k t ns is) dep ↔ (shErr dep x = 0 ∧ namesOk ns = true ∧ ∀ j ∈ is, VOk j (dep + 1))) := by
    show _ ↔ _
    rw [VOk_mk, voks_iff, shErr_J a1 a2 an.1 hli]
  have HDP : Hid (shErr dep x = 0 → 0 < is.length → dep < 32) := fun h hi => by
    rw [shErr_J a1 a2 an.1 hli] at h
    exact shJ_deep h hi
  have HU := hide (below_new w (.cells #[.int .i64 x.k, .string x.t, .slice x.an x.ln x.cn, .slice x.ai x.li x.ci] 25))
  have HJ1 := hide (Jb.new w x.k x.t (.slice x.an x.ln x.cn) (.slice x.ai x.li x.ci))
  have HSH := hide (shapeOf_any valid_ok x dep (w.alloc (.cells #[.int .i64 x.k, .string x.t, .slice x.an x.ln x.cn, .slice x.ai x.li x.ci] 25)) (hT.keep HU.out) hsz)
  have HAN := hide an
  have HAI := hide ai
  have HAJ := hide ajs
  have HA4 := hide a4
  have HF2 := hide f2
  have HF5 := hide f5
  have HLI := hide hli
  have HIH := hide ih
  have HBw := hide hB
  have HT := hide hT
  generalize VOk (.mk k t ns is) dep = R at HQ ⊢
  obtain ⟨sv, hsv⟩ : ∃ v, v = shVal x := ⟨_, rfl⟩
  obtain ⟨e0, he0⟩ : ∃ e, e = shErr dep x := ⟨_, rfl⟩
  rw [← hsv, ← he0] at HSH
  rw [← he0] at HQ HDP
  suffices HSU : ∀ PP : Ending → World → Prop, (∀ q w', (q = true ↔ R) → Below w.heap.size w w' → PP (.returned (.bool q)) w') → Calls Tryz.prog 44 #[x.val, .int .i64 dep] w fun ε w' => True ∧ PP ε w' from (HSU _ (fun q w' h1 h2 => ⟨q, rfl, h1, h2⟩)).mono fun _ _ h => h.2
  intro PP hPP
  have HPP := hide hPP
  rw [show x.val = .agg #[.int .i64 x.k, .string x.t, .slice x.an x.ln x.cn, .slice x.ai x.li x.ci] from rfl] at HSH ⊢
  clear hPP an ai ajs a4 f2 f5 hli ih hB hT a1 a2 a3 f1 hsv he0 hsz
  go_enter Tryz.func44, Tryz.ntmps44
  go_wp2_with fail
  refine HSH.out.mono ?_
  rintro ε w2 ⟨rfl, hb2⟩
  have HB2 := hide (below_up HU.out hb2)
  have HJ2 := hide (HJ1.out.keep hb2)
  obtain ⟨N, hN⟩ : ∃ N, N = w.heap.size := ⟨_, rfl⟩
  rw [← hN] at HJ2 ⊢
  clear hb2 HJ1 HU HSH hN
  have p2 := HJ2.out.c2
  have p3 := HJ2.out.c3
  by_cases he : e0 = 0
  · subst he
    rw [if_pos rfl]
    have HND := hide (namesDiffer_any x.an x.ln x.cn ns B w2 (HAN.out.stay (fun k hk => HB2.out.block k (by have := HBw.out; omega))) (by have := HBw.out; have := HB2.out.size; omega) HA4.out HF2.out f3 (HT.out.keep HB2.out))
    go_wp2_with fail
    refine HND.out.mono ?_
    rintro ε w3 ⟨rfl, hb3⟩
    have HB3 := hide (below_up HB2.out hb3)
    have HJ3 := hide (HJ2.out.keep hb3)
    have p3b := cell_kept p3 hb3
    clear hb3 HND HJ2 p2 p3 HB2
    cases hno : namesOk ns with
    | false =>
      have HR : Hid (¬ R) := fun h => by have := (HQ.out.1 h).2.1; rw [hno] at this; cases this
      clear hno
      go_wp2_with fail
      first | (go_ret; exact ⟨trivial, HPP.out false _ (iff_no HR.out) HB3.out⟩) | exact HPP.out false _ (iff_no HR.out) HB3.out
    | true =>
      have HR1 : Hid (R ↔ ∀ j ∈ is, VOk j (dep + 1)) := ⟨fun h => (HQ.out.1 h).2.2, fun h => HQ.out.2 ⟨by first | exact rfl | trivial, hno, h⟩⟩
      clear hno HQ
      go_wp2_with fail
      go_loopw [26] (fun v26 wr => ∃ i : Nat, i ≤ is.length ∧ v26 = .int .i64 (i : Int) ∧ Hid (Below w.heap.size w wr) ∧ Hid (∀ j ∈ is.take i, VOk j (dep + 1))) (fun v26 _ => is.length - (intOf v26).toNat)
      case atStart => exact ⟨0, Nat.zero_le _, rfl, HB3, fun j hj => by rw [List.take_zero] at hj; cases hj⟩
      case round =>
        clear HB3 HJ3 p3b
        obtain ⟨i, hi, rfl, HB, HE⟩ := hrel
        by_cases hin : i < is.length
        · obtain ⟨v1, hv1, hw1⟩ := (JSees.get is vs HAJ.out).2 i is[i] (List.getElem?_eq_getElem hin)
          obtain ⟨g1, o1, e1, hg1, hc1⟩ : ∃ g off, x.ai = some ⟨g, off, none⟩ ∧ g < B ∧ ∀ i v, vs[i]? = some v → ∀ j u, v.cells[j]? = some u → w.cell? ⟨g, off + (4 * i + j), none⟩ = some u := by
            rcases HAI.out.2 with e | e
            · rw [e] at hv1; simp at hv1
            · exact e
          have k0 : wr.cell? ⟨g1, o1 + i * 4, none⟩ = some (.int .i64 v1.k) := by have := cell_kept (hc1 i v1 hv1 0 _ rfl) HB.out; rw [show o1 + (4 * i + 0) = o1 + i * 4 by omega] at this; exact this
          have k1 : wr.cell? ⟨g1, o1 + i * 4 + 1, none⟩ = some (.string v1.t) := by have := cell_kept (hc1 i v1 hv1 1 _ rfl) HB.out; rw [show o1 + (4 * i + 1) = o1 + i * 4 + 1 by omega] at this; exact this
          have k2 : wr.cell? ⟨g1, o1 + i * 4 + 2, none⟩ = some (.slice v1.an v1.ln v1.cn) := by have := cell_kept (hc1 i v1 hv1 2 _ rfl) HB.out; rw [show o1 + (4 * i + 2) = o1 + i * 4 + 2 by omega] at this; exact this
          have k3 : wr.cell? ⟨g1, o1 + i * 4 + 3, none⟩ = some (.slice v1.ai v1.li v1.ci) := by have := cell_kept (hc1 i v1 hv1 3 _ rfl) HB.out; rw [show o1 + (4 * i + 3) = o1 + i * 4 + 3 by omega] at this; exact this
          have hil : (i : Int) < (x.li : Int) := by have := HLI.out; omega
          have hdlt : dep < 32 := HDP.out (by first | exact rfl | trivial) (by omega)
          have hwr : IntKind.i64.wrap (dep + 1) = dep + 1 := by rw [IntKind.wrap_i64]; omega
          have HA := hide (HB.out.alloc HB.out.size (.cells #[.int .i64 v1.k, .string v1.t, .slice v1.an v1.ln v1.cn, .slice v1.ai v1.li v1.ci] 25))
          have HC := hide (HIH.out is[i] (List.getElem_mem hin) v1 B (dep + 1) (wr.alloc (.cells #[.int .i64 v1.k, .string v1.t, .slice v1.an v1.ln v1.cn, .slice v1.ai v1.li v1.ci] 25)) (JSee.stay _ _ hw1 (fun k hk => HA.out.block k (by have := HBw.out; omega))) (JFits.get is HF5.out i _ (List.getElem?_eq_getElem hin)) (by have := HBw.out; have := HA.out.size; omega) (HT.out.keep HA.out) (by omega) (by omega))
          rw [show v1.val = .agg #[.int .i64 v1.k, .string v1.t, .slice v1.an v1.ln v1.cn, .slice v1.ai v1.li v1.ci] from rfl] at HC
          have HMEM : Hid (is[i] ∈ is) := List.getElem_mem hin
          have HTK : Hid (is.take (i + 1) = is.take i ++ [is[i]]) := by show _ = _; rw [List.take_add_one, List.getElem?_eq_getElem hin]; rfl
          generalize is[i] = ji at *
          rw [e1]
          clear hv1 hw1 hc1 e1
          go_wp2_with fail
          refine HC.out.mono ?_
          rintro ε w4 ⟨q, rfl, hq, hb4⟩
          have HB4 := hide (below_up HA.out hb4)
          have HQQ := hide hq
          clear hb4 hq HA HC
          cases q with
          | true =>
            have HE2 : Hid (∀ j ∈ is.take (i + 1), VOk j (dep + 1)) := fun j hj => by
              rw [HTK.out] at hj
              rcases List.mem_append.1 hj with h | h
              · exact HE.out j h
              · rw [List.mem_singleton.1 h]; exact HQQ.out.1 rfl
            go_wp2_with fail
            go_roundw
            case rel => exact ⟨i + 1, by omega, by simp, HB4, HE2⟩
            case measure => simp [intOf]; omega
          | false =>
            have HR : Hid (¬ R) := fun h => by have := HQQ.out.2 (HR1.out.1 h ji HMEM.out); cases this
            go_wp2_with fail
            first | (go_ret; exact ⟨trivial, HPP.out false _ (iff_no HR.out) HB4.out⟩) | exact HPP.out false _ (iff_no HR.out) HB4.out
        · have hil : ¬ (i : Int) < (x.li : Int) := by have := HLI.out; omega
          have HR : Hid R := HR1.out.2 (by
            have h := HE.out
            rw [List.take_of_length_le (by omega)] at h
            exact h)
          go_wp2_with fail
          first | (go_ret; exact ⟨trivial, HPP.out true _ (iff_yes HR.out) HB.out⟩) | exact HPP.out true _ (iff_yes HR.out) HB.out
  · rw [if_neg he]
    have hne0 : ((e0 : Int) != 0) = true := by simp; omega
    have HR : Hid (¬ R) := fun h => he (HQ.out.1 h).1
    clear he
    go_wp2_with fail
    first | (go_ret; exact ⟨trivial, HPP.out false _ (iff_no HR.out) HB2.out⟩) | exact HPP.out false _ (iff_no HR.out) HB2.out
theorem isValue_any (j : J) : IvOk j := (J.both (M1 := IvOk) (M2 := fun js => ∀ j ∈ js, IvOk j) isValue_step (fun j h => by cases h) (fun j js h1 h2 j' h => by
    rcases List.mem_cons.1 h with e | e
    · rw [e]; exact h1
    · exact h2 j' e)).1 j
end Go.Proofs.YtiaedngnofablaaGreatDoor
