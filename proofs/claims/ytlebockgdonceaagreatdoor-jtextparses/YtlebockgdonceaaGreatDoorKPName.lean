/- The contract of the writer's between: elements with commas between, whatever writes one. The contract of the writer's name. A Json as it is read: rows of names and of items, in blocks below a bound; they may be shared. -/
import Derived.Test.YtlebockgdonceaaGreatDoorKPEsc
import Derived.Test.YtlebockgdonceaaGreatDoorJBetw
import Derived.Test.YtlebockgdonceaaGreatDoorKShape
import Derived.Test.YtlebockgdonceaaGreatDoorJName
namespace Go.Proofs.YtlebockgdonceaaGreatDoor
open Go.RowKit

def wSeq (f : Nat → By → Pr) : Nat → Nat → By → Pr
  | 0, _, xs => .ok xs
  | m + 1, i, xs => ((if 0 < i then putAt xs [44] else .ok xs).then (f i)).then (wSeq f m (i + 1))
def betwAt (o c : By) (n : Nat) (f : Nat → By → Pr) (xs : By) : Pr := (putAt xs o).then fun ys => (wSeq f n 0 ys).then fun zs => putAt zs c
/-- What a call answers that writes elements by a closure. -/
def WA (b : Nat) (so : Bool) (Inv : World → Prop) (Fin : World → Prop) : Pr → Ending → World → Prop
  | .ok ys, ε, w' => ε = .returned (.int .i64 0) ∧ WB b so ys w' ∧ ys.length ≤ 16384 ∧ Inv w'
  | .error e, ε, w' => ε = .returned (.int .i64 (e : Int)) ∧ e ≠ 0 ∧ Fin w'
def SI (b : Nat) (so : Bool) (Inv : World → Prop) (Fin : World → Prop) (e : Nat) (w : World) : Pr → Prop
  | .ok ys => e = 0 ∧ WB b so ys w ∧ ys.length ≤ 16384 ∧ Inv w
  | .error e' => e = e' ∧ e' ≠ 0 ∧ Fin w
theorem wa_si {b : Nat} {so : Bool} {Inv Fin : World → Prop} {r : Pr} {ε : Ending} {w : World} (h : WA b so Inv Fin r ε w) : ∃ e : Nat, ε = .returned (.int .i64 (e : Int)) ∧ SI b so Inv Fin e w r := by
  cases r with
  | ok ys => obtain ⟨rfl, h⟩ := h; exact ⟨0, rfl, rfl, h⟩
  | error e => obtain ⟨rfl, h⟩ := h; exact ⟨e, rfl, rfl, h⟩
theorem wr_wa {b : Nat} {so : Bool} {Inv Fin : World → Prop} {r : Pr} {ε : Ending} {w w' : World} (h : Wr b so w r ε w') (hI : WK b w w' → Inv w') (hF : WK b w w' → Fin w') : WA b so Inv Fin r ε w' := by
  cases r with
  | ok ys => obtain ⟨h1, h2, h3, h4⟩ := h; exact ⟨h1, h2, h4, hI h3⟩
  | error e => obtain ⟨h1, h2, h3⟩ := h; exact ⟨h1, h3, hF h2⟩
theorem bad_then (e : Nat) (f : By → Pr) : Pr.then (.error e) f = .error e := rfl

set_option maxHeartbeats 4000000 in
set_option maxRecDepth 100000 in
theorem wbetw_any (b : Nat) (so : Bool) (xs o c : By) (n : Nat) (fn : FuncId) (cap : Array Value) (Inv : Nat → World → Prop) (Fin : World → Prop) (f : Nat → By → Pr) (w : World)
    (hent : ∀ args w, (callFunc fn args).run Tryz.prog w = .ok (.enter fn args) w)
    (hel : ∀ i w ys, i < n → Inv i w → WB b so ys w → ys.length ≤ 16384 → Calls Tryz.prog fn (#[.int .i64 (i : Int)] ++ cap) w fun ε w' => WA b so (Inv (i + 1)) Fin (f i ys) ε w')
    (hmove : ∀ i w w', Inv i w → WK b w w' → Inv i w') (hfin : ∀ i w, Inv i w → Fin w)
    (hI : Inv 0 w) (h : WB b so xs w) (hx : xs.length ≤ 16384) (ho : ∀ x ∈ o, x < 256) (hc : ∀ x ∈ c, x < 256) (ho1 : o.length ≤ 1) (hc1 : c.length ≤ 1) (hn : n ≤ 4611686018427387904) :
    Calls Tryz.prog 54 #[.pointer (some ⟨b, 0, none⟩), .string (bstr o), .string (bstr c), .int .i64 (n : Int), .func (.func fn) #[] cap] w fun ε w' => WA b so (Inv n) Fin (betwAt o c n f xs) ε w' := by
  have HEL := hide hel
  have HMV := hide hmove
  have HFI := hide hfin
  have H := hide h
  have HI := hide hI
  have HSC := hide (sbytes_bstr hc)
  have HZC : Hid ((bstr c).size ≤ 900000) := by show _ ≤ _; rw [bstr_size]; omega
  obtain ⟨R0, hR0⟩ : ∃ r, r = (putAt xs o).then (wSeq f n 0) := ⟨_, rfl⟩
  have HQ : Hid (betwAt o c n f xs = R0.then fun zs => putAt zs c) := by
    show _ = _
    rw [hR0]
    unfold betwAt
    cases putAt xs o <;> rfl
  have HR0 := hide hR0
  have HPO : Hid (Calls Tryz.prog 52 #[.pointer (some ⟨b, 0, none⟩), .string (bstr o)] w fun e w' => Wr b so w (putAt xs o) e w') := by
    have := put_any b so xs (bstr o) w h hx (by rw [bstr_size]; omega)
    rw [sbytes_bstr ho] at this
    exact this
  clear hel hmove hfin h hI hR0 ho hc ho1 hc1
  generalize bstr o = so1 at *
  generalize bstr c = sc1 at *
  go_enter Tryz.func54, Tryz.ntmps54
  go_wp2_with fail
  refine HPO.out.mono ?_
  intro ε w1 h1
  obtain ⟨e1, rfl, hst⟩ := wa_si (wr_wa (Inv := Inv 0) (Fin := Fin) h1 (fun hk => HMV.out 0 _ _ HI.out hk) (fun hk => HFI.out 0 _ (HMV.out 0 _ _ HI.out hk)))
  have HST := hide hst
  clear h1 hst
  go_wp2_with fail
  go_loopw [11, 12] (fun v11 v12 wr => ∃ (i e : Nat) (P : Pr), i ≤ n ∧ v11 = .int .i64 (e : Int) ∧ v12 = .int .i64 (i : Int) ∧ Hid (SI b so (Inv i) Fin e wr P) ∧ Hid (P.then (wSeq f (n - i) i) = R0)) (fun _ v12 _ => n - (intOf v12).toNat)
  case atStart => exact ⟨0, e1, putAt xs o, Nat.zero_le _, rfl, rfl, HST, by show _ = _; rw [HR0.out]; rfl⟩
  case round =>
    obtain ⟨i, e, P, hi, rfl, rfl, HS, HR⟩ := hrel
    clear HST
    cases P with
    | error e' =>
      have HR2 : Hid (R0 = .error e') := HR.out.symm
      obtain ⟨he1, he2, he3⟩ := HS.out
      subst he1
      have hne0 : ((e : Int) != 0) = true := by simp; omega
      have heq0 : ((e : Int) == 0) = false := by simp; omega
      have HE2 := hide he2
      have HE3 := hide he3
      clear he2 he3 HS
      by_cases hin : (i : Int) < (n : Int)
      · go_wp2_with fail
        go_ret
        rw [HQ.out, HR2.out]
        exact ⟨rfl, HE2.out, HE3.out⟩
      · go_wp2_with fail
        go_ret
        rw [HQ.out, HR2.out]
        exact ⟨rfl, HE2.out, HE3.out⟩
    | ok ys =>
      obtain ⟨he1, h2, h3, h4⟩ := HS.out
      subst he1
      have H2 := hide h2
      have HI2 := hide h4
      clear h2 h4 HS
      by_cases hin : i < n
      · have HW : Hid (((if 0 < i then putAt ys [44] else .ok ys).then (f i)).then (wSeq f (n - (i + 1)) (i + 1)) = R0) := by
          show _ = _
          have hm : n - i = (n - (i + 1)) + 1 := by omega
          rw [← HR.out, hm]
          rfl
        have hin2 : (i : Int) < (n : Int) := by omega
        clear HR
        by_cases hi0 : i = 0
        · subst hi0
          have HW2 : Hid ((f 0 ys).then (wSeq f (n - 1) 1) = R0) := HW.out
          clear HW
          go_wp2_with fail
          refine (HEL.out 0 wr ys hin HI2.out H2.out h3).mono ?_
          intro ε w4 h5
          obtain ⟨e5, rfl, hst⟩ := wa_si h5
          have HST := hide hst
          clear h5 hst
          go_wp2_with fail
          go_roundw
          case rel => exact ⟨1, e5, f 0 ys, by omega, rfl, rfl, HST, HW2⟩
          case measure => simp [intOf]; omega
        · have hpos : (0 : Int) < (i : Int) := by omega
          have HW2 : Hid (((putAt ys [44]).then (f i)).then (wSeq f (n - (i + 1)) (i + 1)) = R0) := by
            have := HW.out
            rw [if_pos (by omega)] at this
            exact this
          clear HW hi0
          go_wp2_with fail
          refine (put_any b so ys ⟨#[44]⟩ wr H2.out h3 (by decide)).mono ?_
          intro ε w3 h5
          rw [show sbytes ⟨#[44]⟩ = [44] from rfl] at h5
          cases hp : putAt ys [44] with
          | error e3 =>
            rw [hp] at h5 HW2
            obtain ⟨rfl, h6, h7⟩ := h5
            have heq0 : ((e3 : Int) == 0) = false := by simp; omega
            have HST : Hid (SI b so (Inv (i + 1)) Fin e3 w3 (.error e3)) := ⟨rfl, h7, HFI.out i _ (HMV.out i _ _ HI2.out h6)⟩
            clear h6 h7 hp
            go_wp2_with fail
            go_roundw
            case rel => exact ⟨i + 1, e3, .error e3, by omega, rfl, by simp, HST, HW2⟩
            case measure => simp [intOf]; omega
          | ok zs =>
            rw [hp] at h5 HW2
            obtain ⟨rfl, h6, h7, h8⟩ := h5
            have H6 := hide h6
            have HI6 := hide (HMV.out i _ _ HI2.out h7)
            have HW3 : Hid ((f i zs).then (wSeq f (n - (i + 1)) (i + 1)) = R0) := HW2.out
            clear h6 h7 hp HW2
            go_wp2_with fail
            refine (HEL.out i w3 zs hin HI6.out H6.out h8).mono ?_
            intro ε w4 h5
            obtain ⟨e5, rfl, hst⟩ := wa_si h5
            have HST := hide hst
            clear h5 hst
            go_wp2_with fail
            go_roundw
            case rel => exact ⟨i + 1, e5, f i zs, by omega, rfl, by simp, HST, HW3⟩
            case measure => simp [intOf]; omega
      · have hie : i = n := by omega
        have HR2 : Hid (R0 = .ok ys) := by
          show _ = _
          rw [← HR.out, hie, Nat.sub_self]
          rfl
        rw [hie] at HI2
        have hin2 : ¬ (i : Int) < (n : Int) := by omega
        clear hie HR
        go_wp2_with fail
        refine (put_any b so ys sc1 wr H2.out h3 HZC.out).mono ?_
        intro ε w5 h5
        rw [HSC.out] at h5
        have FIN : Hid (∀ e5 : Nat, ε = .returned (.int .i64 (e5 : Int)) → WA b so (Inv n) Fin (betwAt o c n f xs) (.returned (.int .i64 (e5 : Int))) w5) := by
          intro e5 he
          rw [← he, HQ.out, HR2.out]
          exact wr_wa h5 (fun hk => HMV.out n _ _ HI2.out hk) (fun hk => HFI.out n _ (HMV.out n _ _ HI2.out hk))
        obtain ⟨e5, rfl, _⟩ := wa_si (wr_wa (Inv := fun _ => True) (Fin := fun _ => True) h5 (fun _ => trivial) (fun _ => trivial))
        have FIN2 := hide (FIN.out e5 rfl)
        clear h5 FIN
        go_wp2_with fail
        go_ret
        exact FIN2.out
end Go.Proofs.YtlebockgdonceaaGreatDoor
namespace Go.Proofs.YtlebockgdonceaaGreatDoor
open Go.RowKit Go.Maps

/-- What a write of a name leaves as it was: the map of names is written too. -/
structure WM (b M : Nat) (w w' : World) : Prop where
  os : w'.os = w.os
  tape : w'.tape = w.tape
  output : w'.output = w.output
  size : w.heap.size ≤ w'.heap.size
  low : ∀ k, k < b → w'.heap[k]? = w.heap[k]?
  oth : ∀ k o, w.heap[k]? = some o → k ≠ b → k ≠ M → (∀ c fz, o ≠ .cells c 5 fz) → w'.heap[k]? = some o
theorem WM.of {b M : Nat} {w w' : World} (h : WK b w w') : WM b M w w' := ⟨h.os, h.tape, h.output, h.size, h.low, fun k o hk h1 _ h3 => h.oth k o hk (fun e => h1 (by injection e)) h3⟩
theorem WM.trans {b M : Nat} {u v w : World} (h : WM b M u v) (k : WM b M v w) : WM b M u w := ⟨k.os.trans h.os, k.tape.trans h.tape, k.output.trans h.output, Nat.le_trans h.size k.size, fun i hi => (k.low i hi).trans (h.low i hi), fun i o hi h1 h2 h3 => k.oth i o (h.oth i o hi h1 h2 h3) h1 h2 h3⟩
theorem WM.grown {b M : Nat} {w w' : World} (h : w.grownBy w' (some M)) (hb : b < M) (hs : b ≤ w.heap.size) : WM b M w w' := ⟨h.os, h.tape, h.output, h.size, fun k hk => h.block k (by omega) (fun e => by injection e; omega), fun k o hk _ h2 _ => (h.block k (Array.getElem?_eq_some_iff.1 hk).1 (fun e => h2 (by injection e))).trans hk⟩
theorem HadIs.wk {b M : Nat} {w w' : World} {ns : List By} (h : HadIs w M ns) (hk : WK b w w') (hM : M ≠ b) : HadIs w' M ns := by
  obtain ⟨es, clock, hm, r⟩ := h
  exact ⟨es, clock, hk.oth M _ hm (fun e => hM (by injection e)) (fun c fz e => by cases e), r⟩
theorem WB.grown {b M : Nat} {so : Bool} {xs : By} {w w' : World} {ns : List By} (h : WB b so xs w) (hm : HadIs w M ns) (hg : w.grownBy w' (some M)) (hM : M ≠ b) : WB b so xs w' := by
  obtain ⟨q, v, hp, hbl, ho⟩ := h.ok
  obtain ⟨es, clock, hmm, r⟩ := hm
  refine ⟨q, v, hp, (hg.block b (Bl.lt hbl) (fun e => hM (by injection e with e; exact e.symm))).trans hbl, ownsRow_stay ho (fun g hgg => hg.block g (own_base ho hgg).2 (fun e => ?_))⟩
  injection e with e
  subst e
  obtain ⟨c, fz, hc⟩ := own_kind ho g hgg
  rw [hmm] at hc
  cases hc
theorem ZT.wm {b M : Nat} {w w' : World} (h : ZT w) (hk : WM b M w w') (hb : 6 ≤ b) : ZT w' := by
  unfold ZT at *
  rw [World.cell?_of_block (show w'.heap[(⟨5, 15, none⟩ : Addr).block]? = w.heap[(⟨5, 15, none⟩ : Addr).block]? from hk.low 5 (by omega))]
  exact h
def wNameAt (ns : List By) (nm xs : By) : Pr := if clean nm = true then if ns.contains nm = true then .error 45 else (quoteAt nm xs).then fun ys => putAt ys [58] else .error 47

set_option maxHeartbeats 4000000 in
set_option maxRecDepth 100000 in
theorem wname_any (hv : ValidOk) (b M : Nat) (so : Bool) (xs nm : By) (ns : List By) (w : World) (h : WB b so xs w) (hx : xs.length ≤ 16384) (hT : Tabs w) (hZ : ZT w) (hb7 : 6 ≤ b) (hM : HadIs w M ns) (hbM : b < M) (hns : ∀ x ∈ ns, ∀ c ∈ x, c < 256) (hnm : ∀ c ∈ nm, c < 256) (hnz : nm.length ≤ 4611686018427387904) (hl : ns.length ≤ 4611686018427387904) :
    Calls Tryz.prog 76 #[.pointer (some ⟨b, 0, none⟩), .string (bstr nm), .map (some M)] w fun ε w' => WA b so (fun w' => WM b M w w' ∧ HadIs w' M (ns ++ [nm])) (fun w' => WM b M w w') (wNameAt ns nm xs) ε w' := by
  have HV := hide (hv (bstr nm) w (by rw [bstr_size]; omega) hT)
  have H := hide h
  have hlt := h.lt
  have HZ := hide hZ
  have HM := hide hM
  have HNM := hide hnm
  have HSB := hide (sbytes_bstr hnm)
  have HKEY : Hid (keyOf Tryz.prog 9 (.string (bstr nm)) = some (keyL nm)) := Go.WideMaps.keyOf_string_mk Tryz.underlying9 (by rw [bstr_size]; unfold maxLen; omega)
  have HHAS := hide (had_has hns hnm)
  have hMb : M ≠ b := by omega
  clear h hT hZ hM hns hnm hv
  go_enter Tryz.func76, Tryz.ntmps76
  go_wp2_with fail
  refine HV.out.mono ?_
  rintro ε w1 ⟨rfl, hb1⟩
  rw [HSB.out]
  have HK1 := hide (WK.of hb1 (Nat.le_refl _) hlt)
  have H1 := hide (H.out.keep hb1)
  have HM1 := hide (HM.out.wk HK1.out hMb)
  clear hb1
  cases hcl : clean nm with
  | false =>
    have HN : Hid (wNameAt ns nm xs = .error 47) := by show _ = _; unfold wNameAt; rw [if_neg (by rw [hcl]; decide)]
    clear hcl
    go_wp2_with fail
    go_ret
    rw [HN.out]
    exact ⟨rfl, by decide, WM.of HK1.out⟩
  | true =>
    have HCL := hide hcl
    cases hc : ns.contains nm with
    | true =>
      have HN : Hid (wNameAt ns nm xs = .error 45) := by show _ = _; unfold wNameAt; rw [if_pos hcl, if_pos hc]
      have hh : Maps.has (setOf (H := Unit) (.agg []) (ns.map keyL)) (keyL nm) = true := HHAS.out.trans hc
      have HK2 := hide (HK1.out.alloc hlt (.cells #[] 111))
      clear hcl hc
      go_wp2_with (first | (at_lookup; refine wpList_lookup_own_unit (H := Unit) _ rfl _ _ 87 rfl 9 111 lawS Tryz.underlying87 (zeroU _) M ns.length _ rfl HM1.out _ _ rfl HKEY.out ?_))
      go_ret
      rw [HN.out]
      exact ⟨rfl, by decide, WM.of HK2.out⟩
    | false =>
      have HN : Hid (wNameAt ns nm xs = (quoteAt nm xs).then fun ys => putAt ys [58]) := by show _ = _; unfold wNameAt; rw [if_pos hcl, if_neg (by rw [hc]; decide)]
      have hh : Maps.has (setOf (H := Unit) (.agg []) (ns.map keyL)) (keyL nm) = false := HHAS.out.trans hc
      have HK2 := hide (HK1.out.alloc hlt (.cells #[] 111))
      have H2 := hide (H1.out.keep (below_new w1 (.cells #[] 111)))
      have hnl2 : ns.length < maxLen := by unfold maxLen; omega
      clear hcl hc
      go_wp2_with (first | (at_lookup; refine wpList_lookup_own_unit (H := Unit) _ rfl _ _ 87 rfl 9 111 lawS Tryz.underlying87 (zeroU _) M ns.length _ rfl HM1.out _ _ rfl HKEY.out ?_) | (at_mapUpdate; refine wpList_mapUpdate_own (H := Unit) _ rfl _ _ _ 87 rfl 9 111 lawS Tryz.underlying87 (unitElem (H := Unit)) M ns.length _ rfl (HM1.out.alloc _) hnl2 _ _ _ rfl rfl HKEY.out _ [] unitElem_mk ?_; intro w2 hown2 hgrow2))
      have HM2 : Hid (HadIs w2 M (ns ++ [nm])) := by
        show World.ownsMap _ _ _ _ _ _ _
        rw [List.length_append, List.map_append, List.map_singleton, setOf_snoc]
        exact hown2
      have HMA : Hid (HadIs (w1.alloc (.cells #[] 111)) M ns) := HM1.out.alloc _
      have HW2 : Hid (WM b M w w2) := (WM.of HK2.out).trans (WM.grown hgrow2 hbM (by have := HK2.out.size; omega))
      have H3 := hide (H2.out.grown HMA.out hgrow2 hMb)
      clear hown2 hgrow2 hh HHAS HM1 HMA H2 HK2 H1 HK1
      refine (quote_any b so xs (bstr nm) w2 H3.out hx (by rw [HSB.out]; exact HCL.out) (HZ.out.wm HW2.out hb7) hb7).mono ?_
      intro ε w3 h3
      rw [HSB.out] at h3
      cases hq : quoteAt nm xs with
      | error e3 =>
        rw [hq] at h3 HN
        obtain ⟨rfl, h4, h5⟩ := h3
        have hne0 : ((e3 : Int) != 0) = true := by simp; omega
        have HW3 := hide (HW2.out.trans (WM.of h4))
        have H5 := hide h5
        clear h4 h5 hq
        go_wp2_with fail
        go_ret
        rw [HN.out]
        exact ⟨rfl, H5.out, HW3.out⟩
      | ok ys =>
        rw [hq] at h3 HN
        obtain ⟨rfl, h4, h5, h6⟩ := h3
        have H4 := hide h4
        have HW3 := hide (HW2.out.trans (WM.of h5))
        have HM3 := hide (HM2.out.wk h5 hMb)
        clear h4 h5 hq
        go_wp2_with fail
        refine (put_any b so ys ⟨#[58]⟩ w3 H4.out h6 (by decide)).mono ?_
        intro ε w4 h7
        rw [show sbytes ⟨#[58]⟩ = [58] from rfl] at h7
        have FIN : Hid (∀ e5 : Nat, ε = .returned (.int .i64 (e5 : Int)) → WA b so (fun w' => WM b M w w' ∧ HadIs w' M (ns ++ [nm])) (fun w' => WM b M w w') (wNameAt ns nm xs) (.returned (.int .i64 (e5 : Int))) w4) := by
          intro e5 he
          rw [← he, HN.out]
          exact wr_wa h7 (fun hk => ⟨HW3.out.trans (WM.of hk), HM3.out.wk hk hMb⟩) (fun hk => HW3.out.trans (WM.of hk))
        obtain ⟨e5, rfl, _⟩ := wa_si (wr_wa (Inv := fun _ => True) (Fin := fun _ => True) h7 (fun _ => trivial) (fun _ => trivial))
        have FIN2 := hide (FIN.out e5 rfl)
        clear h7 FIN
        go_wp2_with fail
        go_ret
        exact FIN2.out
end Go.Proofs.YtlebockgdonceaaGreatDoor
namespace Go.Proofs.YtlebockgdonceaaGreatDoor
open Go.RowKit

/-- A row of texts. -/
def NSee (w : World) (B : Nat) (ao : Option Addr) (n : Nat) (ns : List By) : Prop :=
  n = ns.length ∧ (ns = [] ∨ ∃ g off, ao = some ⟨g, off, none⟩ ∧ g < B ∧ ∀ i nm, ns[i]? = some nm → w.cell? ⟨g, off + i, none⟩ = some (.string (bstr nm)))
/-- A row of Jsons. -/
def ISee (w : World) (B : Nat) (ao : Option Addr) (n : Nat) (vs : List JV) : Prop :=
  n = vs.length ∧ (vs = [] ∨ ∃ g off, ao = some ⟨g, off, none⟩ ∧ g < B ∧ ∀ i v, vs[i]? = some v → ∀ j u, v.cells[j]? = some u → w.cell? ⟨g, off + (4 * i + j), none⟩ = some u)
theorem NSee.stay {w w' : World} {B : Nat} {ao : Option Addr} {n : Nat} {ns : List By} (h : NSee w B ao n ns) (hb : ∀ k, k < B → w'.heap[k]? = w.heap[k]?) : NSee w' B ao n ns := by
  refine ⟨h.1, ?_⟩
  rcases h.2 with h | ⟨g, off, h1, h2, h3⟩
  · exact .inl h
  · refine .inr ⟨g, off, h1, h2, fun i nm hi => ?_⟩
    rw [World.cell?_of_block (show w'.heap[(⟨g, off + i, none⟩ : Addr).block]? = w.heap[(⟨g, off + i, none⟩ : Addr).block]? from hb g h2)]
    exact h3 i nm hi
theorem ISee.stay {w w' : World} {B : Nat} {ao : Option Addr} {n : Nat} {vs : List JV} (h : ISee w B ao n vs) (hb : ∀ k, k < B → w'.heap[k]? = w.heap[k]?) : ISee w' B ao n vs := by
  refine ⟨h.1, ?_⟩
  rcases h.2 with h | ⟨g, off, h1, h2, h3⟩
  · exact .inl h
  · refine .inr ⟨g, off, h1, h2, fun i v hi j u hu => ?_⟩
    rw [World.cell?_of_block (show w'.heap[(⟨g, off + (4 * i + j), none⟩ : Addr).block]? = w.heap[(⟨g, off + (4 * i + j), none⟩ : Addr).block]? from hb g h2)]
    exact h3 i v hi j u hu
def seeJ (w : World) (B : Nat) (k : Int) (t : By) (ns : List By) (_ : List J) (sees : List JV → Prop) (v : JV) : Prop := v.k = k ∧ v.t = bstr t ∧ (∀ x ∈ t, x < 256) ∧ (∀ n ∈ ns, ∀ x ∈ n, x < 256) ∧ NSee w B v.an v.ln ns ∧ ∃ vs : List JV, ISee w B v.ai v.li vs ∧ sees vs
def seeN (vs : List JV) : Prop := vs = []
def seeC (_ : J) (_ : List J) (see : JV → Prop) (sees : List JV → Prop) (vs : List JV) : Prop := ∃ (v : JV) (vs' : List JV), vs = v :: vs' ∧ see v ∧ sees vs'
def JSee (w : World) (B : Nat) (j : J) : JV → Prop := @J.rec (motive_1 := fun _ => JV → Prop) (motive_2 := fun _ => List JV → Prop) (seeJ w B) seeN seeC j
def JSees (w : World) (B : Nat) (js : List J) : List JV → Prop := @J.rec_1 (motive_1 := fun _ => JV → Prop) (motive_2 := fun _ => List JV → Prop) (seeJ w B) seeN seeC js
theorem JSee_mk (w : World) (B : Nat) (k : Int) (t : By) (ns : List By) (is : List J) (v : JV) : JSee w B (.mk k t ns is) v = (v.k = k ∧ v.t = bstr t ∧ (∀ x ∈ t, x < 256) ∧ (∀ n ∈ ns, ∀ x ∈ n, x < 256) ∧ NSee w B v.an v.ln ns ∧ ∃ vs : List JV, ISee w B v.ai v.li vs ∧ JSees w B is vs) := rfl
theorem JSees_nil (w : World) (B : Nat) (vs : List JV) : JSees w B [] vs = (vs = []) := rfl
theorem JSees_cons (w : World) (B : Nat) (j : J) (js : List J) (vs : List JV) : JSees w B (j :: js) vs = ∃ (v : JV) (vs' : List JV), vs = v :: vs' ∧ JSee w B j v ∧ JSees w B js vs' := rfl
theorem jsee_stay {w w' : World} {B : Nat} (hb : ∀ k, k < B → w'.heap[k]? = w.heap[k]?) : (∀ (j : J) (v : JV), JSee w B j v → JSee w' B j v) ∧ (∀ (js : List J) (vs : List JV), JSees w B js vs → JSees w' B js vs) := by
  refine J.both ?_ ?_ ?_
  · intro k t ns is ih v h
    rw [JSee_mk] at h ⊢
    obtain ⟨h1, h2, h3, h4, h5, vs, h6, h7⟩ := h
    exact ⟨h1, h2, h3, h4, h5.stay hb, vs, h6.stay hb, ih vs h7⟩
  · intro vs h
    rw [JSees_nil] at h ⊢
    exact h
  · intro j js i1 i2 vs h
    rw [JSees_cons] at h ⊢
    obtain ⟨v, vs', h1, h2, h3⟩ := h
    exact ⟨v, vs', h1, i1 v h2, i2 vs' h3⟩
theorem JSee.stay {w w' : World} {B : Nat} (j : J) (v : JV) (h : JSee w B j v) (hb : ∀ k, k < B → w'.heap[k]? = w.heap[k]?) : JSee w' B j v := (jsee_stay hb).1 j v h
theorem JSees.stay {w w' : World} {B : Nat} (js : List J) (vs : List JV) (h : JSees w B js vs) (hb : ∀ k, k < B → w'.heap[k]? = w.heap[k]?) : JSees w' B js vs := (jsee_stay hb).2 js vs h
theorem nown_see {w : World} {B L : Nat} {ao : Option Addr} {n cap : Nat} {ns : List By} (h : NOwn w L (.slice ao n cap) ns) (hB : ∀ b, Value.ownBlock (.slice ao n cap) = some b → b < B) : NSee w B ao n ns := by
  rcases h.2 with ⟨hv, h0⟩ | ⟨g, cap', cur, hv, r⟩
  · injection hv with h1 h2 h3
    have : ns = [] := List.length_eq_zero_iff.1 h0
    subst this
    exact ⟨h2, .inl rfl⟩
  · injection hv with h1 h2 h3
    subst h1
    refine ⟨h2, .inr ⟨g, 0, rfl, hB g rfl, fun i nm hi => ?_⟩⟩
    have := World.ownsRow.cells h (g := g) rfl i (tv nm) (by rw [List.getElem?_map, hi]; rfl)
    rw [add_none] at this
    exact this
theorem jown_see {w : World} {B L : Nat} {ao : Option Addr} {n cap : Nat} {vs : List JV} (h : JOwn w L (.slice ao n cap) vs) (hB : ∀ b, Value.ownBlock (.slice ao n cap) = some b → b < B) : ISee w B ao n vs := by
  rcases h.2 with ⟨hv, h0⟩ | ⟨g, cap', cur, hv, r⟩
  · injection hv with h1 h2 h3
    have : vs = [] := List.length_eq_zero_iff.1 h0
    subst this
    exact ⟨h2, .inl rfl⟩
  · injection hv with h1 h2 h3
    subst h1
    refine ⟨h2, .inr ⟨g, 0, rfl, hB g rfl, fun i v hi j u hu => ?_⟩⟩
    have := World.ownsRow.cells h (g := g) rfl (4 * i + j) u (flat4_get vs i v hi j u hu)
    rw [add_none] at this
    exact this
theorem jrep_see {w : World} {B : Nat} : (∀ (j : J) (v : JV) (F : Nat → Prop), JRep w j v F → (∀ b, F b → b < B) → JSee w B j v) ∧ (∀ (js : List J) (vs : List JV) (F : Nat → Prop), JReps w js vs F → (∀ b, F b → b < B) → JSees w B js vs) := by
  refine J.both ?_ ?_ ?_
  · intro k t ns is ih v F h hb
    rw [JRep_mk] at h
    rw [JSee_mk]
    obtain ⟨h1, h2, h3, h4, vs, G, h5, h6, h7, h8, h9, h10, _⟩ := h
    exact ⟨h1, h2, h3, h4, nown_see h5 (fun b hbb => hb b (h9 b hbb).1), vs, jown_see h6 (fun b hbb => hb b (h10 b hbb).1), ih vs G h7 (fun b hG => hb b (h8 b hG))⟩
  · intro vs F h _
    rw [JReps_nil] at h
    rw [JSees_nil]
    exact h
  · intro j js i1 i2 vs F h hb
    rw [JReps_cons] at h
    rw [JSees_cons]
    obtain ⟨v, vs', F1, F2, h1, h2, h3, h4, h5, _⟩ := h
    exact ⟨v, vs', h1, i1 v F1 h2 (fun b hF => hb b (h4 b hF)), i2 vs' F2 h3 (fun b hF => hb b (h5 b hF))⟩
theorem JRep.see {w : World} {B : Nat} (j : J) (v : JV) (F : Nat → Prop) (h : JRep w j v F) (hb : ∀ b, F b → b < B) : JSee w B j v := jrep_see.1 j v F h hb
theorem JSees.get {w : World} {B : Nat} : ∀ (js : List J) (vs : List JV), JSees w B js vs → vs.length = js.length ∧ ∀ (i : Nat) (j : J), js[i]? = some j → ∃ v, vs[i]? = some v ∧ JSee w B j v
  | [], vs, h => by
    rw [JSees_nil] at h
    subst h
    exact ⟨rfl, fun i j hi => by simp at hi⟩
  | j :: js, vs, h => by
    rw [JSees_cons] at h
    obtain ⟨v, vs', rfl, h2, h3⟩ := h
    obtain ⟨a1, a2⟩ := JSees.get js vs' h3
    refine ⟨by simp [a1], fun i j' hi => ?_⟩
    cases i with
    | zero =>
      simp only [List.getElem?_cons_zero, Option.some.injEq] at hi
      subst hi
      exact ⟨v, rfl, h2⟩
    | succ i => exact a2 i j' hi
end Go.Proofs.YtlebockgdonceaaGreatDoor
