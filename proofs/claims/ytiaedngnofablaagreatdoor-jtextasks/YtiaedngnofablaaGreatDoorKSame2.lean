/- The contracts of alike, membersAlike and Same. -/
import Derived.Test.YtiaedngnofablaaGreatDoorKSame
namespace Go.Proofs.YtiaedngnofablaaGreatDoor
open Go.RowKit Go.Maps

def sayJ (k : Int) (t : By) (ns : List By) (is : List J) (says : List (J → Prop)) (j2 : J) : Prop := k = j2.kind ∧ t = j2.text ∧ is.length = j2.items.length ∧
  (if k = 6 then ∀ (i : Nat) (p : J → Prop), says[i]? = some p → ∃ m, j2.names[m]? = some (ns.getD i []) ∧ p (j2.items.getD m J.zero) else ∀ (i : Nat) (p : J → Prop), says[i]? = some p → p (j2.items.getD i J.zero))
def sayC (_ : J) (_ : List J) (p : J → Prop) (ps : List (J → Prop)) : List (J → Prop) := p :: ps
/-- Do two values say the same? -/
def Says (j : J) : J → Prop := @J.rec (motive_1 := fun _ => J → Prop) (motive_2 := fun _ => List (J → Prop)) sayJ [] sayC j
theorem says_list : ∀ js : List J, @J.rec_1 (motive_1 := fun _ => J → Prop) (motive_2 := fun _ => List (J → Prop)) sayJ [] sayC js = js.map Says
  | [] => rfl
  | j :: js => by
    show Says j :: @J.rec_1 (motive_1 := fun _ => J → Prop) (motive_2 := fun _ => List (J → Prop)) sayJ [] sayC js = _
    rw [says_list js]
    rfl
theorem Says_mk (k : Int) (t : By) (ns : List By) (is : List J) (j2 : J) : Says (.mk k t ns is) j2 ↔ (k = j2.kind ∧ t = j2.text ∧ is.length = j2.items.length ∧
    (if k = 6 then ∀ i j, is[i]? = some j → ∃ m, j2.names[m]? = some (ns.getD i []) ∧ Says j (j2.items.getD m J.zero) else ∀ i j, is[i]? = some j → Says j (j2.items.getD i J.zero))) := by
  have e : Says (.mk k t ns is) j2 = sayJ k t ns is (is.map Says) j2 := by
    show sayJ k t ns is (@J.rec_1 (motive_1 := fun _ => J → Prop) (motive_2 := fun _ => List (J → Prop)) sayJ [] sayC is) j2 = _
    rw [says_list]
  rw [e]
  unfold sayJ
  have a1 : (∀ (i : Nat) (p : J → Prop), (is.map Says)[i]? = some p → ∃ m, j2.names[m]? = some (ns.getD i []) ∧ p (j2.items.getD m J.zero)) ↔ (∀ i j, is[i]? = some j → ∃ m, j2.names[m]? = some (ns.getD i []) ∧ Says j (j2.items.getD m J.zero)) :=
    ⟨fun h i j hj => h i (Says j) (by rw [List.getElem?_map, hj]; rfl), fun h i p hp => by
      rw [List.getElem?_map] at hp
      cases hj : is[i]? with
      | none => rw [hj] at hp; cases hp
      | some j =>
        rw [hj] at hp
        injection hp with hp
        rw [← hp]
        exact h i j hj⟩
  have a2 : (∀ (i : Nat) (p : J → Prop), (is.map Says)[i]? = some p → p (j2.items.getD i J.zero)) ↔ (∀ i j, is[i]? = some j → Says j (j2.items.getD i J.zero)) :=
    ⟨fun h i j hj => h i (Says j) (by rw [List.getElem?_map, hj]; rfl), fun h i p hp => by
      rw [List.getElem?_map] at hp
      cases hj : is[i]? with
      | none => rw [hj] at hp; cases hp
      | some j =>
        rw [hj] at hp
        injection hp with hp
        rw [← hp]
        exact h i j hj⟩
  by_cases h6 : k = 6
  · rw [if_pos h6, if_pos h6, a1]
  · rw [if_neg h6, if_neg h6, a2]
/-- The numbers of names, as the program keeps them. -/
def plD (ns : List By) : Nat → DataW Unit
  | 0 => .map []
  | n + 1 => (plD ns n).put (keyL (ns.getD n [])) (.lit (.int .i64 (n : Int)))
theorem isMap_plD (ns : List By) : ∀ n, IsMap (plD ns n)
  | 0 => isMap_empty
  | n + 1 => (isMap_plD ns n).put _ _
theorem keyL_inj {a b : By} (ha : ∀ c ∈ a, c < 256) (hb : ∀ c ∈ b, c < 256) (h : keyL a = keyL b) : a = b := by
  unfold keyL at h
  injection h with h
  rw [← sbytes_bstr ha, ← sbytes_bstr hb]
  unfold sbytes
  rw [h]
theorem plD_has {ns : List By} (hb : ∀ x ∈ ns, ∀ c ∈ x, c < 256) {nm : By} (hn : ∀ c ∈ nm, c < 256) : ∀ n, n ≤ ns.length → (Maps.has (plD ns n) (keyL nm) = true ↔ nm ∈ ns.take n)
  | 0, _ => by simp [plD, Maps.has]
  | n + 1, h => by
    have hl : n < ns.length := by omega
    have e : ns.getD n [] = ns[n] := by simp [List.getD, hl]
    have ht : ns.take (n + 1) = ns.take n ++ [ns[n]] := by rw [List.take_add_one, List.getElem?_eq_getElem hl]; rfl
    show Maps.has ((plD ns n).put (keyL (ns.getD n [])) _) (keyL nm) = true ↔ _
    rw [e, ht, List.mem_append, List.mem_singleton]
    by_cases hk : keyL nm = keyL ns[n]
    · rw [hk, has_put_same (isMap_plD ns n) (keyL_key _)]
      exact ⟨fun _ => .inr (keyL_inj hn (hb _ (List.getElem_mem hl)) hk), fun _ => rfl⟩
    · rw [has_put_other hk, plD_has hb hn n (by omega)]
      exact ⟨.inl, fun h => h.elim id (fun e => absurd (by rw [e]) hk)⟩
theorem plD_at {ns : List By} (hb : ∀ x ∈ ns, ∀ c ∈ x, c < 256) (hd : ns.Nodup) {nm : By} {m : Nat} (hm : ns[m]? = some nm) (z : DataW Unit) : ∀ n, m < n → n ≤ ns.length → (plD ns n).atKey (keyL nm) z = .lit (.int .i64 (m : Int))
  | 0, h, _ => by omega
  | n + 1, h1, h2 => by
    have hl : n < ns.length := by omega
    have e : ns.getD n [] = ns[n] := by simp [List.getD, hl]
    obtain ⟨hml, hme⟩ := List.getElem?_eq_some_iff.1 hm
    show ((plD ns n).put (keyL (ns.getD n [])) _).atKey (keyL nm) z = _
    rw [e]
    by_cases hmn : m = n
    · subst hmn
      rw [← hme, atKey_put_same (isMap_plD ns m) (keyL_key _)]
    · have hne : keyL nm ≠ keyL ns[n] := fun hk => by
        have := keyL_inj (by rw [← hme]; exact hb _ (List.getElem_mem hml)) (hb _ (List.getElem_mem hl)) hk
        rw [← hme] at this
        rcases Nat.lt_or_gt_of_ne hmn with h | h
        · exact (List.pairwise_iff_getElem.1 hd) m n hml hl h this
        · exact (List.pairwise_iff_getElem.1 hd) n m hl hml h this.symm
      rw [atKey_put_other hne, plD_at hb hd hm z n (by omega) (by omega)]
theorem zeroI (w : World) : (zeroValue 3).run Tryz.prog w = .ok (.int .i64 0) w := by kernel_rfl
/-- The contract of alike at a value on the left. -/
def AlOk (j1 : J) : Prop := ∀ (j2 : J) (x y : JV) (B : Nat) (d : Int) (w : World), JSee w B j1 x → JSee w B j2 y → JFit j1 → JFit j2 → VOk j1 d → VOk j2 d → B ≤ w.heap.size →
  Calls Tryz.prog 45 #[x.val, y.val] w fun e w' => ∃ q : Bool, e = .returned (.bool q) ∧ (q = true ↔ Says j1 j2) ∧ Below w.heap.size w w'
theorem map_kept {w w' : World} {M n : Nat} {D : DataW Unit} (h : w.ownsMap Tryz.prog 9 (plainElem Tryz.prog 3) M n D) (hb : w'.heap[M]? = w.heap[M]?) : w'.ownsMap Tryz.prog 9 (plainElem Tryz.prog 3) M n D := by
  obtain ⟨es, clock, hm, r⟩ := h
  exact ⟨es, clock, hb.trans hm, r⟩

set_option maxHeartbeats 8000000 in
set_option maxRecDepth 100000 in
theorem membersAlike_any (ns ns' : List By) (is is' : List J) (ih : ∀ j ∈ is, AlOk j) (x y : JV) (vs vs' : List JV) (B : Nat) (d : Int) (w : World)
    (an : NSee w B x.an x.ln ns) (bn : NSee w B y.an y.ln ns') (ai : ISee w B x.ai x.li vs) (bi : ISee w B y.ai y.li vs') (ajs : JSees w B is vs) (bjs : JSees w B is' vs')
    (a4 : ∀ n ∈ ns, ∀ c ∈ n, c < 256) (b4 : ∀ n ∈ ns', ∀ c ∈ n, c < 256) (f2 : ∀ n ∈ ns, n.length ≤ 4611686018427387904) (f2' : ∀ n ∈ ns', n.length ≤ 4611686018427387904) (f3 : ns.length ≤ 4611686018427387904) (f3' : ns'.length ≤ 4611686018427387904) (f5 : JFits is) (f5' : JFits is')
    (hnl : ns.length = is.length) (hnl' : ns'.length = is'.length) (hnd : ns'.Nodup) (hv : ∀ j ∈ is, VOk j (d + 1)) (hv' : ∀ j ∈ is', VOk j (d + 1)) (hB : B ≤ w.heap.size) :
    Calls Tryz.prog 73 #[x.val, y.val] w fun e w' => ∃ q : Bool, e = .returned (.bool q) ∧ (q = true ↔ ∀ i j, is[i]? = some j → ∃ m, ns'[m]? = some (ns.getD i []) ∧ Says j (is'.getD m J.zero)) ∧ Below w.heap.size w w' := by
  obtain ⟨N, hN⟩ : ∃ N, N = w.heap.size := ⟨_, rfl⟩
  have HU : Hid (Below w.heap.size w (((w.alloc (.cells #[.int .i64 x.k, .string x.t, .slice x.an x.ln x.cn, .slice x.ai x.li x.ci] 25)).alloc (.cells #[.int .i64 y.k, .string y.t, .slice y.an y.ln y.cn, .slice y.ai y.li y.ci] 25)).alloc (.map #[] 0))) := (((Below.refl _ _).alloc (Nat.le_refl _) _).alloc (by simp) _).alloc (by simp; omega) _
  have HJ1 : Hid (Jb (((w.alloc (.cells #[.int .i64 x.k, .string x.t, .slice x.an x.ln x.cn, .slice x.ai x.li x.ci] 25)).alloc (.cells #[.int .i64 y.k, .string y.t, .slice y.an y.ln y.cn, .slice y.ai y.li y.ci] 25)).alloc (.map #[] 0)) N x.k x.t (.slice x.an x.ln x.cn) (.slice x.ai x.li x.ci)) := by
    rw [hN]; exact ((Jb.new w x.k x.t (.slice x.an x.ln x.cn) (.slice x.ai x.li x.ci)).alloc _).alloc _
  have HJ2 : Hid (Jb (((w.alloc (.cells #[.int .i64 x.k, .string x.t, .slice x.an x.ln x.cn, .slice x.ai x.li x.ci] 25)).alloc (.cells #[.int .i64 y.k, .string y.t, .slice y.an y.ln y.cn, .slice y.ai y.li y.ci] 25)).alloc (.map #[] 0)) (N + 1) y.k y.t (.slice y.an y.ln y.cn) (.slice y.ai y.li y.ci)) := by
    have := (Jb.new (w.alloc (.cells #[.int .i64 x.k, .string x.t, .slice x.an x.ln x.cn, .slice x.ai x.li x.ci] 25)) y.k y.t (.slice y.an y.ln y.cn) (.slice y.ai y.li y.ci)).alloc (.map #[] 0)
    rw [show (w.alloc (.cells #[.int .i64 x.k, .string x.t, .slice x.an x.ln x.cn, .slice x.ai x.li x.ci] 25)).heap.size = N + 1 by rw [hN]; simp] at this
    exact this
  have HM0 : Hid ((((w.alloc (.cells #[.int .i64 x.k, .string x.t, .slice x.an x.ln x.cn, .slice x.ai x.li x.ci] 25)).alloc (.cells #[.int .i64 y.k, .string y.t, .slice y.an y.ln y.cn, .slice y.ai y.li y.ci] 25)).alloc (.map #[] 0)).ownsMap (H := Unit) Tryz.prog 9 (plainElem Tryz.prog 3) (N + 2) 0 (plD ns' 0)) := by
    have := World.ownsMap_made (H := Unit) ((w.alloc (.cells #[.int .i64 x.k, .string x.t, .slice x.an x.ln x.cn, .slice x.ai x.li x.ci] 25)).alloc (.cells #[.int .i64 y.k, .string y.t, .slice y.an y.ln y.cn, .slice y.ai y.li y.ci] 25)) Tryz.prog 9 (plainElem Tryz.prog 3)
    rw [show ((w.alloc (.cells #[.int .i64 x.k, .string x.t, .slice x.an x.ln x.cn, .slice x.ai x.li x.ci] 25)).alloc (.cells #[.int .i64 y.k, .string y.t, .slice y.an y.ln y.cn, .slice y.ai y.li y.ci] 25)).heap.size = N + 2 by rw [hN]; simp] at this
    exact this
  have hmm := @run_makeMap Tryz.prog
  have HLN := hide an.1
  have HLN' := hide bn.1
  have HLI : Hid (x.li = is.length) := by show _ = _; rw [ai.1]; exact (JSees.get is vs ajs).1
  have HLI' : Hid (y.li = is'.length) := by show _ = _; rw [bi.1]; exact (JSees.get is' vs' bjs).1
  have HAN := hide an
  have HBN := hide bn
  have HAI := hide ai
  have HBI := hide bi
  have HAJ := hide ajs
  have HBJ := hide bjs
  have HA4 := hide a4
  have HB4 := hide b4
  have HF2 := hide f2
  have HF2' := hide f2'
  have HF5 := hide f5
  have HF5' := hide f5'
  have HIH := hide ih
  have HV := hide hv
  have HV' := hide hv'
  have HND := hide hnd
  have HBw := hide hB
  have HNL := hide hnl
  have HNL' := hide hnl'
  obtain ⟨R, hR⟩ : ∃ R : Prop, R = (∀ i j, is[i]? = some j → ∃ m, ns'[m]? = some (ns.getD i []) ∧ Says j (is'.getD m J.zero)) := ⟨_, rfl⟩
  rw [← hR]
  have HR := hide hR
  suffices HSU : ∀ PP : Ending → World → Prop, (∀ q w', (q = true ↔ R) → Below w.heap.size w w' → PP (.returned (.bool q)) w') → Calls Tryz.prog 73 #[x.val, y.val] w fun ε w' => True ∧ PP ε w' from (HSU _ (fun q w' h1 h2 => ⟨q, rfl, h1, h2⟩)).mono fun _ _ h => h.2
  intro PP hPP
  have HPP := hide hPP
  clear hPP an bn ai bi ajs bjs a4 b4 f2 f2' f5 f5' ih hv hv' hnd hB hR hnl hnl'
  rw [show x.val = .agg #[.int .i64 x.k, .string x.t, .slice x.an x.ln x.cn, .slice x.ai x.li x.ci] from rfl, show y.val = .agg #[.int .i64 y.k, .string y.t, .slice y.an y.ln y.cn, .slice y.ai y.li y.ci] from rfl]
  have HNW := hide hN
  go_enter Tryz.func73, Tryz.ntmps73
  go_upto_region 2 with fail
  rw [← hN]
  clear hN
  have ez : N + 1 + 1 = N + 2 := rfl
  rw [ez]
  clear ez
  generalize ((w.alloc (.cells #[.int .i64 x.k, .string x.t, .slice x.an x.ln x.cn, .slice x.ai x.li x.ci] 25)).alloc (.cells #[.int .i64 y.k, .string y.t, .slice y.an y.ln y.cn, .slice y.ai y.li y.ci] 25)).alloc (.map #[] 0) = u at *
  have p2 := HJ1.out.c2
  have p3 := HJ1.out.c3
  have q2 := HJ2.out.c2
  have q3 := HJ2.out.c3
  have hNu : N + 2 < u.heap.size := World.ownsMap.lt HM0.out
  go_wp2_with fail
  go_loopw [16] (fun v16 wr => ∃ i : Nat, i ≤ ns'.length ∧ v16 = .int .i64 (i : Int) ∧ Hid (Below (N + 2) u wr) ∧ Hid (wr.ownsMap (H := Unit) Tryz.prog 9 (plainElem Tryz.prog 3) (N + 2) i (plD ns' i))) (fun v16 _ => ns'.length - (intOf v16).toNat)
  case atStart => exact ⟨0, Nat.zero_le _, rfl, Below.refl _ _, HM0⟩
  case round =>
    clear HM0
    obtain ⟨i, hi, rfl, HB, HM⟩ := hrel
    have HBW : Hid (Below w.heap.size w wr) := HU.out.trans ⟨HB.out.os, HB.out.tape, HB.out.output, HB.out.size, fun k hk => HB.out.block k (by have := HNW.out; omega)⟩
    by_cases hin : i < ns'.length
    · obtain ⟨g2, o2, e2, hg2, hc2⟩ : ∃ g off, y.an = some ⟨g, off, none⟩ ∧ g < B ∧ ∀ i nm, ns'[i]? = some nm → w.cell? ⟨g, off + i, none⟩ = some (.string (bstr nm)) := by
        rcases HBN.out.2 with e | e
        · rw [e] at hin; simp at hin
        · exact e
      have c2 := cell_kept (hc2 i _ (List.getElem?_eq_getElem hin)) HBW.out
      have hil : (i : Int) < (y.ln : Int) := by have := HLN'.out; omega
      have hil2 : (i : Int) < (ns'.length : Int) := by omega
      have HKEY : Hid (keyOf Tryz.prog 9 (.string (bstr ns'[i])) = some (keyL ns'[i])) := Go.WideMaps.keyOf_string_mk Tryz.underlying9 (by rw [bstr_size]; have := HF2'.out _ (List.getElem_mem hin); unfold maxLen; omega)
      have htl : i < maxLen := by unfold maxLen; omega
      have HWF : Hid ((Lit.int .i64 (i : Int)).wf = true) := by show _ = _; simp [Lit.wf, IntKind.min, IntKind.max, IntKind.bits, IntKind.signed]; omega
      have HPL : Hid (plD ns' (i + 1) = (plD ns' i).put (keyL ns'[i]) (.lit (.int .i64 (i : Int)))) := by show (plD ns' i).put (keyL (ns'.getD i [])) _ = _; simp [List.getD, hin]
      generalize ns'[i] = nm at *
      rw [e2]
      clear hc2 e2
      go_wp2_with (first | (at_mapUpdate; refine wpList_mapUpdate_own (H := Unit) _ rfl _ _ _ 134 rfl 9 3 lawS Tryz.underlying134 (plainElem Tryz.prog 3) (N + 2) i _ rfl HM.out htl _ _ _ rfl rfl HKEY.out _ [] (plainElem_int Tryz.underlying3 HWF.out) ?_; intro w2 hown2 hgrow2))
      have HM2 : Hid (w2.ownsMap (H := Unit) Tryz.prog 9 (plainElem Tryz.prog 3) (N + 2) (i + 1) (plD ns' (i + 1))) := by
        show World.ownsMap _ _ _ _ _ _ _
        rw [HPL.out]
        exact hown2
      have HB2 : Hid (Below (N + 2) u w2) := HB.out.trans ⟨hgrow2.os, hgrow2.tape, hgrow2.output, hgrow2.size, fun k hk => hgrow2.block k (by have := HB.out.size; omega) (fun e => by injection e with e; omega)⟩
      clear hown2 hgrow2
      go_roundw
      case rel => exact ⟨i + 1, by omega, by simp, HB2, HM2⟩
      case measure => simp [intOf]; omega
    · have hie : i = ns'.length := by omega
      rw [hie] at HM
      have hil : ¬ (i : Int) < (y.ln : Int) := by have := HLN'.out; omega
      have hlow : ∀ a v, u.cell? a = some v → a.block < N + 2 → wr.cell? a = some v := fun a v ha hb => by rw [World.cell?_of_block (HB.out.block a.block hb)]; exact ha
      have p2a := hlow _ _ p2 (by show N < N + 2; omega)
      have p3a := hlow _ _ p3 (by show N < N + 2; omega)
      have q3a := hlow _ _ q3 (by show N + 1 < N + 2; omega)
      clear hlow p2 p3 q2 q3 hie HB HJ1 HJ2 HU hNu
      go_wp2_with fail
      obtain ⟨w1, hw1⟩ : ∃ w1, w1 = wr := ⟨_, rfl⟩
      rw [← hw1] at HM HBW p2a p3a q3a ⊢
      clear hw1
      go_loopw [28] (fun v28 wr => ∃ i : Nat, i ≤ ns.length ∧ v28 = .int .i64 (i : Int) ∧ Hid (Below w1.heap.size w1 wr) ∧ Hid (∀ k j, k < i → is[k]? = some j → ∃ m, ns'[m]? = some (ns.getD k []) ∧ Says j (is'.getD m J.zero))) (fun v28 _ => ns.length - (intOf v28).toNat)
      case atStart => exact ⟨0, Nat.zero_le _, rfl, Below.refl _ _, fun k j hk => by omega⟩
      case round =>
        obtain ⟨i, hi, rfl, HB, HE⟩ := hrel
        have HBX := hide (below_up HBW.out HB.out)
        have HMX : Hid (wr.ownsMap (H := Unit) Tryz.prog 9 (plainElem Tryz.prog 3) (N + 2) ns'.length (plD ns' ns'.length)) := map_kept HM.out (HB.out.block _ (World.ownsMap.lt HM.out))
        by_cases hin : i < ns.length
        · have hin2 : i < is.length := by have := HNL.out; omega
          obtain ⟨g1, o1, e1, hg1, hc1⟩ : ∃ g off, x.an = some ⟨g, off, none⟩ ∧ g < B ∧ ∀ i nm, ns[i]? = some nm → w.cell? ⟨g, off + i, none⟩ = some (.string (bstr nm)) := by
            rcases HAN.out.2 with e | e
            · rw [e] at hin; simp at hin
            · exact e
          have c1 := cell_kept (hc1 i _ (List.getElem?_eq_getElem hin)) HBX.out
          have hil : (i : Int) < (x.ln : Int) := by have := HLN.out; omega
          have HKEY : Hid (keyOf Tryz.prog 9 (.string (bstr ns[i])) = some (keyL ns[i])) := Go.WideMaps.keyOf_string_mk Tryz.underlying9 (by rw [bstr_size]; have := HF2.out _ (List.getElem_mem hin); unfold maxLen; omega)
          have HHAS := hide (plD_has HB4.out (HA4.out _ (List.getElem_mem hin)) ns'.length (Nat.le_refl _))
          rw [List.take_length] at HHAS
          have HGD : Hid (ns.getD i [] = ns[i]) := by show _ = _; simp [List.getD, hin]
          rw [e1]
          by_cases hmem : ns[i] ∈ ns'
          · obtain ⟨m, hm⟩ := List.getElem?_of_mem hmem
            have hml := (List.getElem?_eq_some_iff.1 hm).1
            have hhas : Maps.has (plD ns' ns'.length) (keyL ns[i]) = true := HHAS.out.2 hmem
            have HAT := hide (plD_at HB4.out HND.out hm (.lit (.int .i64 0)) ns'.length hml (Nat.le_refl _))
            have hml2 : m < is'.length := by have := HNL'.out; omega
            obtain ⟨v1, hv1, hw1⟩ := (JSees.get is vs HAJ.out).2 i is[i] (List.getElem?_eq_getElem hin2)
            obtain ⟨v2, hv2, hw2⟩ := (JSees.get is' vs' HBJ.out).2 m is'[m] (List.getElem?_eq_getElem hml2)
            obtain ⟨g3, o3, e3, hg3, hc3⟩ : ∃ g off, x.ai = some ⟨g, off, none⟩ ∧ g < B ∧ ∀ i v, vs[i]? = some v → ∀ j u, v.cells[j]? = some u → w.cell? ⟨g, off + (4 * i + j), none⟩ = some u := by
              rcases HAI.out.2 with e | e
              · rw [e] at hv1; simp at hv1
              · exact e
            obtain ⟨g4, o4, e4, hg4, hc4⟩ : ∃ g off, y.ai = some ⟨g, off, none⟩ ∧ g < B ∧ ∀ i v, vs'[i]? = some v → ∀ j u, v.cells[j]? = some u → w.cell? ⟨g, off + (4 * i + j), none⟩ = some u := by
              rcases HBI.out.2 with e | e
              · rw [e] at hv2; simp at hv2
              · exact e
            have s3 := cell_kept p3a HB.out
            have r3 := cell_kept q3a HB.out
            rw [e3] at s3
            rw [e4] at r3
            have k0 : wr.cell? ⟨g3, o3 + i * 4, none⟩ = some (.int .i64 v1.k) := by have := cell_kept (hc3 i v1 hv1 0 _ rfl) HBX.out; rw [show o3 + (4 * i + 0) = o3 + i * 4 by omega] at this; exact this
            have k1 : wr.cell? ⟨g3, o3 + i * 4 + 1, none⟩ = some (.string v1.t) := by have := cell_kept (hc3 i v1 hv1 1 _ rfl) HBX.out; rw [show o3 + (4 * i + 1) = o3 + i * 4 + 1 by omega] at this; exact this
            have k2 : wr.cell? ⟨g3, o3 + i * 4 + 2, none⟩ = some (.slice v1.an v1.ln v1.cn) := by have := cell_kept (hc3 i v1 hv1 2 _ rfl) HBX.out; rw [show o3 + (4 * i + 2) = o3 + i * 4 + 2 by omega] at this; exact this
            have k3 : wr.cell? ⟨g3, o3 + i * 4 + 3, none⟩ = some (.slice v1.ai v1.li v1.ci) := by have := cell_kept (hc3 i v1 hv1 3 _ rfl) HBX.out; rw [show o3 + (4 * i + 3) = o3 + i * 4 + 3 by omega] at this; exact this
            have l0 : wr.cell? ⟨g4, o4 + m * 4, none⟩ = some (.int .i64 v2.k) := by have := cell_kept (hc4 m v2 hv2 0 _ rfl) HBX.out; rw [show o4 + (4 * m + 0) = o4 + m * 4 by omega] at this; exact this
            have l1 : wr.cell? ⟨g4, o4 + m * 4 + 1, none⟩ = some (.string v2.t) := by have := cell_kept (hc4 m v2 hv2 1 _ rfl) HBX.out; rw [show o4 + (4 * m + 1) = o4 + m * 4 + 1 by omega] at this; exact this
            have l2 : wr.cell? ⟨g4, o4 + m * 4 + 2, none⟩ = some (.slice v2.an v2.ln v2.cn) := by have := cell_kept (hc4 m v2 hv2 2 _ rfl) HBX.out; rw [show o4 + (4 * m + 2) = o4 + m * 4 + 2 by omega] at this; exact this
            have l3 : wr.cell? ⟨g4, o4 + m * 4 + 3, none⟩ = some (.slice v2.ai v2.li v2.ci) := by have := cell_kept (hc4 m v2 hv2 3 _ rfl) HBX.out; rw [show o4 + (4 * m + 3) = o4 + m * 4 + 3 by omega] at this; exact this
            have hil3 : (i : Int) < (x.li : Int) := by have := HLI.out; omega
            have hil4 : (m : Int) < (y.li : Int) := by have := HLI'.out; omega
            have HLOW : Hid (∀ k, k < B → wr.drew.heap[k]? = w.heap[k]?) := fun k hk => HBX.out.block k (by have := HBw.out; omega)
            have HC := hide (HIH.out is[i] (List.getElem_mem hin2) is'[m] v1 v2 B (d + 1) wr.drew (JSee.stay _ _ hw1 HLOW.out) (JSee.stay _ _ hw2 HLOW.out) (JFits.get is HF5.out i _ (List.getElem?_eq_getElem hin2)) (JFits.get is' HF5'.out m _ (List.getElem?_eq_getElem hml2)) (HV.out _ (List.getElem_mem hin2)) (HV'.out _ (List.getElem_mem hml2)) (by have := HBw.out; have := HBX.out.size; show B ≤ wr.heap.size; omega))
            rw [show v1.val = .agg #[.int .i64 v1.k, .string v1.t, .slice v1.an v1.ln v1.cn, .slice v1.ai v1.li v1.ci] from rfl, show v2.val = .agg #[.int .i64 v2.k, .string v2.t, .slice v2.an v2.ln v2.cn, .slice v2.ai v2.li v2.ci] from rfl] at HC
            have HYES : Hid (Says is[i] is'[m] → ∀ k j, k < i + 1 → is[k]? = some j → ∃ m, ns'[m]? = some (ns.getD k []) ∧ Says j (is'.getD m J.zero)) := fun h k j hk hj => by
              by_cases hki : k = i
              · subst hki
                rw [List.getElem?_eq_getElem hin2] at hj
                injection hj with hj
                subst hj
                exact ⟨m, by rw [HGD.out]; exact hm, by simpa [List.getD, hml2] using h⟩
              · exact HE.out k j (by omega) hj
            have HNO : Hid (¬ Says is[i] is'[m] → ¬ R) := fun h hr => by
              rw [HR.out] at hr
              obtain ⟨m', hm', hs'⟩ := hr i _ (List.getElem?_eq_getElem hin2)
              rw [HGD.out] at hm'
              have hmm' : m' = m := by
                obtain ⟨x1, y1⟩ := List.getElem?_eq_some_iff.1 hm'
                obtain ⟨x2, y2⟩ := List.getElem?_eq_some_iff.1 hm
                rcases Nat.lt_trichotomy m' m with h | h | h
                · exact absurd (y1.trans y2.symm) ((List.pairwise_iff_getElem.1 HND.out) m' m x1 x2 h)
                · exact h
                · exact absurd (y2.trans y1.symm) ((List.pairwise_iff_getElem.1 HND.out) m m' x2 x1 h)
              subst hmm'
              exact h (by simpa [List.getD, hml2] using hs')
            generalize Says is[i] is'[m] = SS at HC HYES HNO
            generalize ns[i] = nm at *
            clear hc1 e1 hmem HHAS hc3 hc4 e3 e4 hv1 hv2 hw1 hw2 HLOW hm HE HGD
            go_wp2_with (first | (at_lookup; refine wpList_lookup_own_ok_int (H := Unit) _ rfl _ _ 134 rfl 9 3 .i64 lawS Tryz.underlying134 Tryz.underlying3 (zeroI _) (N + 2) ns'.length _ rfl HMX.out _ _ rfl HKEY.out ?_; intro cL hat hwc; rw [hhas]; have hcl : cL = (m : Int) := (by have h := HAT.out.symm.trans hat; injection h with h; injection h with _ h; exact h.symm); subst hcl; clear hat hwc))
            go_region_held (fun W => W.cell? ⟨N, 3, none⟩ = some (.slice (some ⟨g3, o3, none⟩) x.li x.ci) ∧ W.cell? ⟨N + 1, 3, none⟩ = some (.slice (some ⟨g4, o4, none⟩) y.li y.ci) ∧ W.cell? ⟨g3, o3 + i * 4, none⟩ = some (.int .i64 v1.k) ∧ W.cell? ⟨g3, o3 + i * 4 + 1, none⟩ = some (.string v1.t) ∧ W.cell? ⟨g3, o3 + i * 4 + 2, none⟩ = some (.slice v1.an v1.ln v1.cn) ∧ W.cell? ⟨g3, o3 + i * 4 + 3, none⟩ = some (.slice v1.ai v1.li v1.ci) ∧ W.cell? ⟨g4, o4 + m * 4, none⟩ = some (.int .i64 v2.k) ∧ W.cell? ⟨g4, o4 + m * 4 + 1, none⟩ = some (.string v2.t) ∧ W.cell? ⟨g4, o4 + m * 4 + 2, none⟩ = some (.slice v2.an v2.ln v2.cn) ∧ W.cell? ⟨g4, o4 + m * 4 + 3, none⟩ = some (.slice v2.ai v2.li v2.ci)) (go_keep) (first | (go_at_call 45; refine HC.out.mono ?_; rintro ε w2 ⟨q, rfl, hq, h5⟩; have HQQ := hide hq; have hb5 := below_undrewN1 h5; have HB5 := hide hb5; have t0 := cell_kept s3 hb5; have t1 := cell_kept r3 hb5; have t2 := cell_kept k0 hb5; have t3 := cell_kept k1 hb5; have t4 := cell_kept k2 hb5; have t5 := cell_kept k3 hb5; have t6 := cell_kept l0 hb5; have t7 := cell_kept l1 hb5; have t8 := cell_kept l2 hb5; have t9 := cell_kept l3 hb5; clear h5 hb5 hq))
            clear s3 r3 k0 k1 k2 k3 l0 l1 l2 l3
            cases q with
            | true =>
              have HD3 := hide (HYES.out (HQQ.out.1 rfl))
              go_wp2_with fail
              go_roundw
              case rel => exact ⟨i + 1, by omega, by simp, below_up HB.out HB5.out, HD3⟩
              case measure => simp [intOf]; omega
            | false =>
              have HD3 := hide (HNO.out (fun e => by have h := HQQ.out.2 e; cases h))
              go_wp2_with fail
              first | (go_ret; exact ⟨trivial, HPP.out false _ (iff_no HD3.out) (below_up HBX.out HB5.out)⟩) | exact HPP.out false _ (iff_no HD3.out) (below_up HBX.out HB5.out)
          · have hhas : Maps.has (plD ns' ns'.length) (keyL ns[i]) = false := by
              cases h : Maps.has (plD ns' ns'.length) (keyL ns[i]) with
              | false => rfl
              | true => exact absurd (HHAS.out.1 h) hmem
            have HNR : Hid (¬ R) := fun h => by
              rw [HR.out] at h
              obtain ⟨m, hm, _⟩ := h i _ (List.getElem?_eq_getElem hin2)
              rw [HGD.out] at hm
              exact hmem (List.mem_of_getElem? hm)
            generalize ns[i] = nm at *
            clear hc1 e1 hmem HHAS
            go_wp2_with (first | (at_lookup; refine wpList_lookup_own_ok_int (H := Unit) _ rfl _ _ 134 rfl 9 3 .i64 lawS Tryz.underlying134 Tryz.underlying3 (zeroI _) (N + 2) ns'.length _ rfl HMX.out _ _ rfl HKEY.out ?_; intro cL hat hwc; rw [hhas]))
            go_quiet (fail)
            go_wp2_with fail
            first | (go_ret; exact ⟨trivial, HPP.out false _ (iff_no HNR.out) (below_drewN HBX.out _)⟩) | exact HPP.out false _ (iff_no HNR.out) (below_drewN HBX.out _)
        · have hil : ¬ (i : Int) < (x.ln : Int) := by have := HLN.out; omega
          have HYR : Hid R := by
            show R
            rw [HR.out]
            intro k j hk
            exact HE.out k j (by have := (List.getElem?_eq_some_iff.1 hk).1; have := HNL.out; omega) hk
          go_wp2_with fail
          first | (go_ret; exact ⟨trivial, HPP.out true _ (iff_yes HYR.out) HBX.out⟩) | exact HPP.out true _ (iff_yes HYR.out) HBX.out
theorem sh_object {dep : Int} {t : By} {nl il : Nat} (h : shJ dep 6 t nl il = 0) : nl = il := by
  unfold shJ shErr at h
  split at h
  · cases h
  · split at h
    · cases h
    · split at h
      · rename_i hs
        unfold soundB at hs
        simpa using hs
      · cases h

set_option maxHeartbeats 8000000 in
set_option maxRecDepth 100000 in
theorem alike_step (k : Int) (t : By) (ns : List By) (is : List J) (ih : ∀ j ∈ is, AlOk j) : AlOk (.mk k t ns is) := by
  rintro ⟨k', t', ns', is'⟩ x y B d w hx hy hf hf' ho ho' hB
  rw [JSee_mk] at hx hy
  obtain ⟨a1, a2, a3, a4, an, vs, ai, ajs⟩ := hx
  obtain ⟨b1, b2, b3, b4, bn, vs', bi, bjs⟩ := hy
  rw [JFit_mk] at hf hf'
  obtain ⟨f1, f2, f3, f4, f5⟩ := hf
  obtain ⟨f1', f2', f3', f4', f5'⟩ := hf'
  rw [VOk_mk] at ho ho'
  obtain ⟨c1, c2, c3⟩ := ho
  obtain ⟨d1, d2, d3⟩ := ho'
  rw [voks_iff] at c3 d3
  have hnd : ns'.Nodup := by
    unfold namesOk at d2
    rw [Bool.and_eq_true, decide_eq_true_iff] at d2
    exact d2.2
  have HSM : Hid (Says (.mk k t ns is) (.mk k' t' ns' is') ↔ (k = k' ∧ t = t' ∧ is.length = is'.length ∧ (if k = 6 then ∀ i j, is[i]? = some j → ∃ m, ns'[m]? = some (ns.getD i []) ∧ Says j (is'.getD m J.zero) else ∀ i j, is[i]? = some j → Says j (is'.getD i J.zero)))) := Says_mk k t ns is (.mk k' t' ns' is')
  obtain ⟨N, hN⟩ : ∃ N, N = w.heap.size := ⟨_, rfl⟩
  have HU : Hid (Below w.heap.size w ((w.alloc (.cells #[.int .i64 x.k, .string x.t, .slice x.an x.ln x.cn, .slice x.ai x.li x.ci] 25)).alloc (.cells #[.int .i64 y.k, .string y.t, .slice y.an y.ln y.cn, .slice y.ai y.li y.ci] 25))) := ((Below.refl _ _).alloc (Nat.le_refl _) _).alloc (by simp) _
  have HJ1 : Hid (Jb ((w.alloc (.cells #[.int .i64 x.k, .string x.t, .slice x.an x.ln x.cn, .slice x.ai x.li x.ci] 25)).alloc (.cells #[.int .i64 y.k, .string y.t, .slice y.an y.ln y.cn, .slice y.ai y.li y.ci] 25)) N x.k x.t (.slice x.an x.ln x.cn) (.slice x.ai x.li x.ci)) := by
    rw [hN]; exact (Jb.new w x.k x.t (.slice x.an x.ln x.cn) (.slice x.ai x.li x.ci)).alloc _
  have HJ2 : Hid (Jb ((w.alloc (.cells #[.int .i64 x.k, .string x.t, .slice x.an x.ln x.cn, .slice x.ai x.li x.ci] 25)).alloc (.cells #[.int .i64 y.k, .string y.t, .slice y.an y.ln y.cn, .slice y.ai y.li y.ci] 25)) (N + 1) y.k y.t (.slice y.an y.ln y.cn) (.slice y.ai y.li y.ci)) := by
    have := Jb.new (w.alloc (.cells #[.int .i64 x.k, .string x.t, .slice x.an x.ln x.cn, .slice x.ai x.li x.ci] 25)) y.k y.t (.slice y.an y.ln y.cn) (.slice y.ai y.li y.ci)
    rw [show (w.alloc (.cells #[.int .i64 x.k, .string x.t, .slice x.an x.ln x.cn, .slice x.ai x.li x.ci] 25)).heap.size = N + 1 by rw [hN]; simp] at this
    exact this
  have HLI : Hid (x.li = is.length) := by show _ = _; rw [ai.1]; exact (JSees.get is vs ajs).1
  have HLI' : Hid (y.li = is'.length) := by show _ = _; rw [bi.1]; exact (JSees.get is' vs' bjs).1
  have HTE : Hid ((x.t.toList == y.t.toList) = decide (t = t')) := by show _ = _; rw [a2, b2, bstr_beq a3 b3]
  have HUB : Hid (∀ k, k < B → ((w.alloc (.cells #[.int .i64 x.k, .string x.t, .slice x.an x.ln x.cn, .slice x.ai x.li x.ci] 25)).alloc (.cells #[.int .i64 y.k, .string y.t, .slice y.an y.ln y.cn, .slice y.ai y.li y.ci] 25)).heap[k]? = w.heap[k]?) := fun k hk => HU.out.block k (by omega)
  have HMA : Hid (k = 6 → k' = 6 → Calls Tryz.prog 73 #[x.val, y.val] ((w.alloc (.cells #[.int .i64 x.k, .string x.t, .slice x.an x.ln x.cn, .slice x.ai x.li x.ci] 25)).alloc (.cells #[.int .i64 y.k, .string y.t, .slice y.an y.ln y.cn, .slice y.ai y.li y.ci] 25)) fun e w' => ∃ q : Bool, e = .returned (.bool q) ∧ (q = true ↔ ∀ i j, is[i]? = some j → ∃ m, ns'[m]? = some (ns.getD i []) ∧ Says j (is'.getD m J.zero)) ∧ Below ((w.alloc (.cells #[.int .i64 x.k, .string x.t, .slice x.an x.ln x.cn, .slice x.ai x.li x.ci] 25)).alloc (.cells #[.int .i64 y.k, .string y.t, .slice y.an y.ln y.cn, .slice y.ai y.li y.ci] 25)).heap.size ((w.alloc (.cells #[.int .i64 x.k, .string x.t, .slice x.an x.ln x.cn, .slice x.ai x.li x.ci] 25)).alloc (.cells #[.int .i64 y.k, .string y.t, .slice y.an y.ln y.cn, .slice y.ai y.li y.ci] 25)) w') := fun h6 h6' => by
    rw [h6] at c1
    rw [h6'] at d1
    exact membersAlike_any ns ns' is is' ih x y vs vs' B d _ (an.stay HUB.out) (bn.stay HUB.out) (ai.stay HUB.out) (bi.stay HUB.out) (JSees.stay _ _ ajs HUB.out) (JSees.stay _ _ bjs HUB.out) a4 b4 f2 f2' f3 f3' f5 f5' (sh_object c1) (sh_object d1) hnd c3 d3 (by have := HU.out.size; omega)
  have HA1 := hide a1
  have HB1 := hide b1
  have HAI := hide ai
  have HBI := hide bi
  have HAJ := hide ajs
  have HBJ := hide bjs
  have HIH := hide ih
  have HF5 := hide f5
  have HF5' := hide f5'
  have HC3 := hide c3
  have HD3 := hide d3
  have HBw := hide hB
  generalize Says (.mk k t ns is) (.mk k' t' ns' is') = R at HSM ⊢
  suffices HSU : ∀ PP : Ending → World → Prop, (∀ q w', (q = true ↔ R) → Below w.heap.size w w' → PP (.returned (.bool q)) w') → Calls Tryz.prog 45 #[x.val, y.val] w fun ε w' => True ∧ PP ε w' from (HSU _ (fun q w' h1 h2 => ⟨q, rfl, h1, h2⟩)).mono fun _ _ h => h.2
  intro PP hPP
  have HPP := hide hPP
  rw [show x.val = .agg #[.int .i64 x.k, .string x.t, .slice x.an x.ln x.cn, .slice x.ai x.li x.ci] from rfl, show y.val = .agg #[.int .i64 y.k, .string y.t, .slice y.an y.ln y.cn, .slice y.ai y.li y.ci] from rfl] at HMA ⊢
  clear hPP a1 a2 a3 a4 b1 b2 b3 b4 an bn ai bi ajs bjs ih f1 f2 f5 f1' f2' f5' c1 c2 c3 d1 d2 d3 hB hnd HUB
  go_enter Tryz.func45, Tryz.ntmps45
  go_upto_region 1 with fail
  rw [← hN]
  clear hN
  generalize (w.alloc (.cells #[.int .i64 x.k, .string x.t, .slice x.an x.ln x.cn, .slice x.ai x.li x.ci] 25)).alloc (.cells #[.int .i64 y.k, .string y.t, .slice y.an y.ln y.cn, .slice y.ai y.li y.ci] 25) = u at *
  have p0 := HJ1.out.c0
  have p1 := HJ1.out.c1
  have p2 := HJ1.out.c2
  have p3 := HJ1.out.c3
  have q0 := HJ2.out.c0
  have q1 := HJ2.out.c1
  have q2 := HJ2.out.c2
  have q3 := HJ2.out.c3
  by_cases hk : x.k = y.k
  · have hkb : (x.k != y.k) = false := by simp [hk]
    by_cases ht : t = t'
    · have htb : (x.t.toList == y.t.toList) = true := by rw [HTE.out, decide_eq_true ht]
      by_cases hi : x.li = y.li
      · have hib : ((x.li : Int) != (y.li : Int)) = false := by simp [hi]
        have HRT : Hid (R ↔ (if k = 6 then ∀ i j, is[i]? = some j → ∃ m, ns'[m]? = some (ns.getD i []) ∧ Says j (is'.getD m J.zero) else ∀ i j, is[i]? = some j → Says j (is'.getD i J.zero))) := ⟨fun h => (HSM.out.1 h).2.2.2, fun h => HSM.out.2 ⟨by rw [← HA1.out, ← HB1.out, hk], ht, by rw [← HLI.out, ← HLI'.out, hi], h⟩⟩
        have hlei : is.length = is'.length := by rw [← HLI.out, ← HLI'.out, hi]
        have HKK : Hid (x.k = y.k) := hk
        clear hk hi ht HSM HTE
        by_cases h6 : x.k = 6
        · have h6b : (x.k == 6) = true := by simp [h6]
          have HC := hide (HMA.out (by rw [← HA1.out]; exact h6) (by rw [← HB1.out, ← HKK.out]; exact h6))
          have HRM : Hid (R ↔ ∀ i j, is[i]? = some j → ∃ m, ns'[m]? = some (ns.getD i []) ∧ Says j (is'.getD m J.zero)) := by
            have := HRT.out
            rw [if_pos (by rw [← HA1.out]; exact h6)] at this
            exact this
          clear h6 HRT HMA HKK
          go_wp2_with fail
          refine HC.out.mono ?_
          rintro ε w2 ⟨q, rfl, hq, h5⟩
          have HE := hide (HPP.out q w2 (hq.trans HRM.out.symm) (below_up HU.out h5))
          clear hq h5
          go_wp2_with fail
          first | (go_ret; exact ⟨trivial, HE.out⟩) | exact HE.out
        · have h6b : (x.k == 6) = false := by simp [h6]
          have HRM : Hid (R ↔ ∀ i j, is[i]? = some j → Says j (is'.getD i J.zero)) := by
            have := HRT.out
            rw [if_neg (by rw [← HA1.out]; exact h6)] at this
            exact this
          clear h6 HRT HMA HKK
          go_wp2_with fail
          go_loopw [36] (fun v36 wr => ∃ i : Nat, i ≤ is.length ∧ v36 = .int .i64 (i : Int) ∧ Hid (Below u.heap.size u wr) ∧ Hid (∀ k j, k < i → is[k]? = some j → Says j (is'.getD k J.zero))) (fun v36 _ => is.length - (intOf v36).toNat)
          case atStart => exact ⟨0, Nat.zero_le _, rfl, Below.refl _ _, fun k j hk => by omega⟩
          case round =>
            obtain ⟨i, hi, rfl, HB, HE⟩ := hrel
            have s3 := cell_kept p3 HB.out
            have r3 := cell_kept q3 HB.out
            by_cases hin : i < is.length
            · obtain ⟨v1, hv1, hw1⟩ := (JSees.get is vs HAJ.out).2 i is[i] (List.getElem?_eq_getElem hin)
              have hin' : i < is'.length := by omega
              obtain ⟨v2, hv2, hw2⟩ := (JSees.get is' vs' HBJ.out).2 i is'[i] (List.getElem?_eq_getElem hin')
              obtain ⟨g1, o1, e1, hg1, hc1⟩ : ∃ g off, x.ai = some ⟨g, off, none⟩ ∧ g < B ∧ ∀ i v, vs[i]? = some v → ∀ j u, v.cells[j]? = some u → w.cell? ⟨g, off + (4 * i + j), none⟩ = some u := by
                rcases HAI.out.2 with e | e
                · rw [e] at hv1; simp at hv1
                · exact e
              obtain ⟨g2, o2, e2, hg2, hc2⟩ : ∃ g off, y.ai = some ⟨g, off, none⟩ ∧ g < B ∧ ∀ i v, vs'[i]? = some v → ∀ j u, v.cells[j]? = some u → w.cell? ⟨g, off + (4 * i + j), none⟩ = some u := by
                rcases HBI.out.2 with e | e
                · rw [e] at hv2; simp at hv2
                · exact e
              have k0 : wr.cell? ⟨g1, o1 + i * 4, none⟩ = some (.int .i64 v1.k) := by have := cell_kept (cell_kept (hc1 i v1 hv1 0 _ rfl) HU.out) HB.out; rw [show o1 + (4 * i + 0) = o1 + i * 4 by omega] at this; exact this
              have k1 : wr.cell? ⟨g1, o1 + i * 4 + 1, none⟩ = some (.string v1.t) := by have := cell_kept (cell_kept (hc1 i v1 hv1 1 _ rfl) HU.out) HB.out; rw [show o1 + (4 * i + 1) = o1 + i * 4 + 1 by omega] at this; exact this
              have k2 : wr.cell? ⟨g1, o1 + i * 4 + 2, none⟩ = some (.slice v1.an v1.ln v1.cn) := by have := cell_kept (cell_kept (hc1 i v1 hv1 2 _ rfl) HU.out) HB.out; rw [show o1 + (4 * i + 2) = o1 + i * 4 + 2 by omega] at this; exact this
              have k3 : wr.cell? ⟨g1, o1 + i * 4 + 3, none⟩ = some (.slice v1.ai v1.li v1.ci) := by have := cell_kept (cell_kept (hc1 i v1 hv1 3 _ rfl) HU.out) HB.out; rw [show o1 + (4 * i + 3) = o1 + i * 4 + 3 by omega] at this; exact this
              have l0 : wr.cell? ⟨g2, o2 + i * 4, none⟩ = some (.int .i64 v2.k) := by have := cell_kept (cell_kept (hc2 i v2 hv2 0 _ rfl) HU.out) HB.out; rw [show o2 + (4 * i + 0) = o2 + i * 4 by omega] at this; exact this
              have l1 : wr.cell? ⟨g2, o2 + i * 4 + 1, none⟩ = some (.string v2.t) := by have := cell_kept (cell_kept (hc2 i v2 hv2 1 _ rfl) HU.out) HB.out; rw [show o2 + (4 * i + 1) = o2 + i * 4 + 1 by omega] at this; exact this
              have l2 : wr.cell? ⟨g2, o2 + i * 4 + 2, none⟩ = some (.slice v2.an v2.ln v2.cn) := by have := cell_kept (cell_kept (hc2 i v2 hv2 2 _ rfl) HU.out) HB.out; rw [show o2 + (4 * i + 2) = o2 + i * 4 + 2 by omega] at this; exact this
              have l3 : wr.cell? ⟨g2, o2 + i * 4 + 3, none⟩ = some (.slice v2.ai v2.li v2.ci) := by have := cell_kept (cell_kept (hc2 i v2 hv2 3 _ rfl) HU.out) HB.out; rw [show o2 + (4 * i + 3) = o2 + i * 4 + 3 by omega] at this; exact this
              rw [e1] at s3
              rw [e2] at r3
              have hil : (i : Int) < (x.li : Int) := by have := HLI.out; omega
              have hil' : (i : Int) < (y.li : Int) := by have := HLI'.out; omega
              have HLOW : Hid (∀ k, k < B → wr.drew.heap[k]? = w.heap[k]?) := fun k hk => (HB.out.block k (by have := HBw.out; have := HU.out.size; omega)).trans (HU.out.block k (by have := HBw.out; omega))
              have HC := hide (HIH.out is[i] (List.getElem_mem hin) is'[i] v1 v2 B (d + 1) wr.drew (JSee.stay _ _ hw1 HLOW.out) (JSee.stay _ _ hw2 HLOW.out) (JFits.get is HF5.out i _ (List.getElem?_eq_getElem hin)) (JFits.get is' HF5'.out i _ (List.getElem?_eq_getElem hin')) (HC3.out _ (List.getElem_mem hin)) (HD3.out _ (List.getElem_mem hin')) (by have := HBw.out; have := HU.out.size; have := HB.out.size; show B ≤ wr.heap.size; omega))
              rw [show v1.val = .agg #[.int .i64 v1.k, .string v1.t, .slice v1.an v1.ln v1.cn, .slice v1.ai v1.li v1.ci] from rfl, show v2.val = .agg #[.int .i64 v2.k, .string v2.t, .slice v2.an v2.ln v2.cn, .slice v2.ai v2.li v2.ci] from rfl] at HC
              have HYES : Hid (Says is[i] is'[i] → ∀ k j, k < i + 1 → is[k]? = some j → Says j (is'.getD k J.zero)) := fun h k j hk hj => by
                by_cases hki : k = i
                · subst hki
                  rw [List.getElem?_eq_getElem hin] at hj
                  injection hj with hj
                  subst hj
                  simpa [List.getD, hin'] using h
                · exact HE.out k j (by omega) hj
              have HNO : Hid (¬ Says is[i] is'[i] → ¬ R) := fun h hr => h (by have := HRM.out.1 hr i _ (List.getElem?_eq_getElem hin); simpa [List.getD, hin'] using this)
              generalize Says is[i] is'[i] = SS at HC HYES HNO
              clear hv1 hv2 hw1 hw2 hc1 hc2 e1 e2 HE HLOW
              go_wp2_with fail
              go_region_held (fun W => W.cell? ⟨N, 3, none⟩ = some (.slice (some ⟨g1, o1, none⟩) x.li x.ci) ∧ W.cell? ⟨N + 1, 3, none⟩ = some (.slice (some ⟨g2, o2, none⟩) y.li y.ci) ∧ W.cell? ⟨g1, o1 + i * 4, none⟩ = some (.int .i64 v1.k) ∧ W.cell? ⟨g1, o1 + i * 4 + 1, none⟩ = some (.string v1.t) ∧ W.cell? ⟨g1, o1 + i * 4 + 2, none⟩ = some (.slice v1.an v1.ln v1.cn) ∧ W.cell? ⟨g1, o1 + i * 4 + 3, none⟩ = some (.slice v1.ai v1.li v1.ci) ∧ W.cell? ⟨g2, o2 + i * 4, none⟩ = some (.int .i64 v2.k) ∧ W.cell? ⟨g2, o2 + i * 4 + 1, none⟩ = some (.string v2.t) ∧ W.cell? ⟨g2, o2 + i * 4 + 2, none⟩ = some (.slice v2.an v2.ln v2.cn) ∧ W.cell? ⟨g2, o2 + i * 4 + 3, none⟩ = some (.slice v2.ai v2.li v2.ci)) (go_keep) (first | (go_at_call 45; refine HC.out.mono ?_; rintro ε w2 ⟨q, rfl, hq, h5⟩; have HQQ := hide hq; have hb5 := below_undrewN1 h5; have HB5 := hide hb5; have t0 := cell_kept s3 hb5; have t1 := cell_kept r3 hb5; have t2 := cell_kept k0 hb5; have t3 := cell_kept k1 hb5; have t4 := cell_kept k2 hb5; have t5 := cell_kept k3 hb5; have t6 := cell_kept l0 hb5; have t7 := cell_kept l1 hb5; have t8 := cell_kept l2 hb5; have t9 := cell_kept l3 hb5; clear h5 hb5 hq))
              clear s3 r3 k0 k1 k2 k3 l0 l1 l2 l3
              cases q with
              | true =>
                have HX3 := hide (HYES.out (HQQ.out.1 rfl))
                go_wp2_with fail
                go_roundw
                case rel => exact ⟨i + 1, by omega, by simp, below_up HB.out HB5.out, HX3⟩
                case measure => simp [intOf]; omega
              | false =>
                have HX3 := hide (HNO.out (fun e => by have h := HQQ.out.2 e; cases h))
                go_wp2_with fail
                first | (go_ret; exact ⟨trivial, HPP.out false _ (iff_no HX3.out) (below_up HU.out (below_up HB.out HB5.out))⟩) | exact HPP.out false _ (iff_no HX3.out) (below_up HU.out (below_up HB.out HB5.out))
            · have hil : ¬ (i : Int) < (x.li : Int) := by have := HLI.out; omega
              have HYR : Hid R := HRM.out.2 (fun k j hk => HE.out k j (by have := (List.getElem?_eq_some_iff.1 hk).1; omega) hk)
              go_wp2_with fail
              first | (go_ret; exact ⟨trivial, HPP.out true _ (iff_yes HYR.out) (below_up HU.out HB.out)⟩) | exact HPP.out true _ (iff_yes HYR.out) (below_up HU.out HB.out)
      · have hib : ((x.li : Int) != (y.li : Int)) = true := by simp; omega
        have HNR : Hid (¬ R) := fun h => hi (by rw [HLI.out, HLI'.out, (HSM.out.1 h).2.2.1])
        clear hk hi ht
        go_wp2_with fail
        first | (go_ret; exact ⟨trivial, HPP.out false _ (iff_no HNR.out) HU.out⟩) | exact HPP.out false _ (iff_no HNR.out) HU.out
    · have htb : (x.t.toList == y.t.toList) = false := by rw [HTE.out, decide_eq_false ht]
      have HNR : Hid (¬ R) := fun h => ht (HSM.out.1 h).2.1
      clear hk ht
      go_wp2_with fail
      first | (go_ret; exact ⟨trivial, HPP.out false _ (iff_no HNR.out) HU.out⟩) | exact HPP.out false _ (iff_no HNR.out) HU.out
  · have hkb : (x.k != y.k) = true := by simp [hk]
    have HNR : Hid (¬ R) := fun h => hk (by rw [HA1.out, HB1.out, (HSM.out.1 h).1])
    clear hk
    go_wp2_with fail
    first | (go_ret; exact ⟨trivial, HPP.out false _ (iff_no HNR.out) HU.out⟩) | exact HPP.out false _ (iff_no HNR.out) HU.out
theorem alike_any (j : J) : AlOk j := (J.both (M1 := AlOk) (M2 := fun js => ∀ j ∈ js, AlOk j) alike_step (fun j h => by cases h) (fun j js h1 h2 j' h => by
    rcases List.mem_cons.1 h with e | e
    · rw [e]; exact h1
    · exact h2 j' e)).1 j
end Go.Proofs.YtiaedngnofablaaGreatDoor
