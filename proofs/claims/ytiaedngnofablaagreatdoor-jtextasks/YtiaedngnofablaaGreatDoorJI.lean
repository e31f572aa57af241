/- The contract of the program's Uint. -/
import Derived.Test.YtiaedngnofablaaGreatDoorJUintM
import Derived.Test.YtiaedngnofablaaGreatDoorShelfN
import Derived.Shelf.Pu.ParseUintPublic10
import Derived.Test.YtiaedngnofablaaGreatDoorRUint
import Derived.Shelf.Strconv.ParseIntPublic10
namespace Go.Proofs.YtiaedngnofablaaGreatDoor
open Go.RowKit

theorem whole_iff (t : By) : wholeB t = true ↔ t ≠ [] ∧ ¬ (t.getD 0 0 = 48 ∧ 1 < t.length) ∧ t.all isDigit = true := by
  unfold wholeB
  rw [Bool.or_eq_true, Bool.and_eq_true, Bool.and_eq_true, decide_eq_true_iff, decide_eq_true_iff, decide_eq_true_iff]
  constructor
  · rintro (h | ⟨⟨h1, h2⟩, h3⟩)
    · subst h; exact ⟨by simp, by simp, by decide⟩
    · exact ⟨h1, fun h => h2 h.1, h3⟩
  · rintro ⟨h1, h2, h3⟩
    by_cases h0 : t.getD 0 0 = 48
    · left
      match t, h1, h2, h0 with
      | [c], _, _, h0 => simp at h0; rw [h0]
      | _ :: _ :: _, _, h2, h0 => exact absurd ⟨h0, by simp⟩ h2
    · exact .inr ⟨⟨h1, h0⟩, h3⟩
theorem uOf_whole {k : Int} {t : By} (hk : k = 3) (h : wholeB t = true) : uOf k t = if tenN t < 18446744073709551616 then some (tenN t) else none := by
  rw [whole_iff] at h
  unfold uOf
  by_cases h1 : tenN t < 18446744073709551616
  · rw [if_pos ⟨hk, h.1, h.2.1, h.2.2, h1⟩, if_pos h1]
  · rw [if_neg (fun h => h1 h.2.2.2.2), if_neg h1]
theorem uOf_part {k : Int} {t : By} (h : wholeB t = false) : uOf k t = none := uOf_none (fun h2 => by
  have := (whole_iff t).2 ⟨h2.2.1, h2.2.2.1, h2.2.2.2.1⟩
  rw [h] at this; cases this)
theorem parseUint_any (s : ByteArray) (w : World) (hs : s.size ≤ 281474976710656) (ev : Value) (hv : w.cell? ⟨laysPu14_ren.g 1, 0, none⟩ = some ev) (hev : ev = .nilIface ∨ ∃ te pe, ev = .iface te pe) (hn : sbytes s ≠ []) (hd : (sbytes s).all isDigit = true) :
    Calls Tryz.prog 53 #[.string s, .int .i64 10, .int .i64 64] w fun e w' => (∃ v er, e = .returned (.tuple #[.int .u64 v, er]) ∧ if tenN (sbytes s) < 18446744073709551616 then v = ((tenN (sbytes s) : Nat) : Int) ∧ er = .nilIface else ∃ ty p, er = .iface ty p) ∧ Below w.heap.size w w' := by
  have hp := parseB_digits s hn hd
  by_cases h : tenN (sbytes s) < 18446744073709551616
  · unfold numEnd at hp
    rw [if_pos h] at hp
    have c : Calls Tryz.prog 53 #[.string s, .int .i64 10, .int .i64 64] w _ := Any.strconv_ParseUint_10_at64_ok laysPu14 s (by omega) _ hp w
    refine c.mono ?_
    rintro e w' ⟨rfl, hw⟩
    refine ⟨⟨_, _, rfl, by rw [if_pos h]; exact ⟨rfl, rfl⟩⟩, ?_⟩
    rcases hw with rfl | rfl
    · exact Below.refl _ _
    · exact Lib.bytesWorld_below _ _ _
  · unfold numEnd at hp
    rw [if_neg h] at hp
    have c : Calls Tryz.prog 53 #[.string s, .int .i64 10, .int .i64 64] w _ := Any.strconv_ParseUint_10_at64_range laysPu14 s hs hp ev w hv hev
    refine c.mono ?_
    rintro e w' ⟨N, rfl, _, _, hb⟩
    exact ⟨⟨_, _, rfl, by rw [if_neg h]; exact ⟨_, _, rfl⟩⟩, hb⟩
set_option maxHeartbeats 4000000 in
set_option maxRecDepth 100000 in
theorem juint_any (x : JV) (w : World) (hs : x.t.size ≤ 281474976710656) (ev : Value) (hv : w.cell? ⟨laysPu14_ren.g 1, 0, none⟩ = some ev) (hev : ev = .nilIface ∨ ∃ te pe, ev = .iface te pe) :
    Calls Tryz.prog 27 #[x.val] w fun e w' => e = .returned (uVal (uOf x.k (sbytes x.t))) ∧ Below w.heap.size w w' := by
  have HB := hide (below_new w (.cells #[.int .i64 x.k, .string x.t, .slice x.an x.ln x.cn, .slice x.ai x.li x.ci] 25))
  have HJ := hide (Jb.new w x.k x.t (.slice x.an x.ln x.cn) (.slice x.ai x.li x.ci))
  have hv1 := cell_kept hv HB.out
  rw [show x.val = .agg #[.int .i64 x.k, .string x.t, .slice x.an x.ln x.cn, .slice x.ai x.li x.ci] from rfl]
  have HW := hide (isWhole_any x.t (w.alloc (.cells #[.int .i64 x.k, .string x.t, .slice x.an x.ln x.cn, .slice x.ai x.li x.ci] 25)) (by omega))
  obtain ⟨N, hN⟩ : ∃ N, N = w.heap.size := ⟨_, rfl⟩
  go_enter Tryz.func27, Tryz.ntmps27
  go_upto_region 1 with fail
  have HB2 := hide HB.out
  rw [← hN] at HJ ⊢
  clear hN HB
  generalize w.alloc (.cells #[.int .i64 x.k, .string x.t, .slice x.an x.ln x.cn, .slice x.ai x.li x.ci] 25) = u at *
  have j0 := HJ.out.c0
  have j1 := HJ.out.c1
  by_cases hk : x.k = 3
  · have hkb : (x.k != 3) = false := by simp [hk]
    cases hwb : wholeB (sbytes x.t) with
    | false =>
      have HU : Hid (uOf x.k (sbytes x.t) = none) := uOf_part hwb
      rw [hwb] at HW
      clear hwb hv hv1 hev hk
      go_wp2_with fail
      refine HW.out.mono ?_
      rintro e w' ⟨rfl, rfl⟩
      go_wp2_with fail
      go_ret2
      exact ⟨by rw [HU.out]; rfl, HB2.out⟩
    | true =>
      have HU : Hid (uOf x.k (sbytes x.t) = if tenN (sbytes x.t) < 18446744073709551616 then some (tenN (sbytes x.t)) else none) := uOf_whole hk hwb
      have hwi := (whole_iff (sbytes x.t)).1 hwb
      have HP := hide (parseUint_any x.t u hs ev hv1 hev hwi.1 hwi.2.2)
      rw [hwb] at HW
      clear hwb hv hv1 hev hwi hk
      go_wp2_with fail
      refine HW.out.mono ?_
      rintro e w' ⟨rfl, rfl⟩
      go_wp2_with fail
      refine HP.out.mono ?_
      rintro e w2 ⟨⟨v, er, rfl, hcase⟩, hb⟩
      have HBF := hide (below_up HB2.out hb)
      by_cases h : tenN (sbytes x.t) < 18446744073709551616
      · rw [if_pos h] at hcase
        obtain ⟨rfl, rfl⟩ := hcase
        have HU2 : Hid (uOf x.k (sbytes x.t) = some (tenN (sbytes x.t))) := by show _ = _; rw [HU.out, if_pos h]
        clear HU hb h
        go_wp2_with fail
        go_ret2
        exact ⟨by rw [HU2.out]; rfl, HBF.out⟩
      · rw [if_neg h] at hcase
        obtain ⟨ty, pp, rfl⟩ := hcase
        have HU2 : Hid (uOf x.k (sbytes x.t) = none) := by show _ = _; rw [HU.out, if_neg h]
        clear HU hb h
        go_wp2_with fail
        go_ret2
        exact ⟨by rw [HU2.out]; rfl, HBF.out⟩
  · have hkb : (x.k != 3) = true := by simp [hk]
    have HU : Hid (uOf x.k (sbytes x.t) = none) := uOf_none (fun h => hk h.1)
    clear HW hv hv1 hev
    go_wp2_with fail
    go_ret2
    exact ⟨by rw [HU.out]; rfl, HB2.out⟩
end Go.Proofs.YtiaedngnofablaaGreatDoor
/- The contract of the document's Int. -/
namespace Go.Proofs.YtiaedngnofablaaGreatDoor
open Go.RowKit

/-- The number with a sign that a Json of kind k and text t tells. -/
def iPos (o : Option Nat) : Option Int := match o with
  | some n => if n ≤ 9223372036854775807 then some (n : Int) else none
  | none => none
def iNeg (o : Option Nat) : Option Int := match o with
  | some n => if n ≠ 0 ∧ n ≤ 9223372036854775808 then some (-(n : Int)) else none
  | none => none
def iOf (k : Int) (t : By) : Option Int := if t = [] ∨ t.getD 0 0 ≠ 45 then iPos (uOf k t) else iNeg (uOf k (t.drop 1))
def iVal (o : Option Int) : Value := .tuple #[.int .i64 (o.getD 0), .bool o.isSome]
theorem uOf_lt {k : Int} {t : By} {n : Nat} (h : uOf k t = some n) : n < 18446744073709551616 := by
  unfold uOf at h
  split at h
  · rename_i h1
    injection h with h
    rw [← h]; exact h1.2.2.2.2
  · cases h

set_option maxHeartbeats 4000000 in
set_option maxRecDepth 100000 in
theorem rint_any (x : JV) (w : World) (hs : x.t.size ≤ 4611686018427387904) :
    Calls Tryz.prog 26 #[x.val] w fun e w' => e = .returned (iVal (iOf x.k (sbytes x.t))) ∧ Below w.heap.size w w' := by
  obtain ⟨U, hU⟩ : ∃ U, U = iOf x.k (sbytes x.t) := ⟨_, rfl⟩
  rw [← hU]
  have ev : ∀ v : JV, v.val = .agg #[.int .i64 v.k, .string v.t, .slice v.an v.ln v.cn, .slice v.ai v.li v.ci] := fun _ => rfl
  have HB := hide (below_new w (.cells #[.int .i64 x.k, .string x.t, .slice x.an x.ln x.cn, .slice x.ai x.li x.ci] 25))
  have HJ := hide (Jb.new w x.k x.t (.slice x.an x.ln x.cn) (.slice x.ai x.li x.ci))
  have HCU := hide (fun W => ruint_any x W hs)
  rw [ev x] at HCU ⊢
  obtain ⟨k, s, an, ln, cn, ai, li, ci⟩ := x
  simp only at HB HJ hs hU HCU ⊢
  obtain ⟨n, hn⟩ : ∃ n, n = s.size := ⟨_, rfl⟩
  obtain ⟨xs, HX⟩ : ∃ xs, Hid (xs = sbytes s) := ⟨_, rfl⟩
  have HN : Hid (n = xs.length) := by show _ = _; rw [hn, HX.out, sbytes_length]
  have HLT : Hid (∀ c ∈ xs, c < 256) := by rw [HX.out]; exact sbytes_lt s
  rw [← HX.out] at hU HCU
  have HCD := hide (fun W => ruint_any ⟨k, bstr (xs.drop 1), none, 0, 0, none, 0, 0⟩ W (by
    show (bstr (xs.drop 1)).size ≤ _
    rw [bstr_size, List.length_drop, ← HN.out]; omega))
  rw [ev] at HCD
  simp only [sbytes_bstr (fun c hc => HLT.out c (List.mem_of_mem_drop hc))] at HCD
  rw [← hn] at hs
  have HS : Hid (n = s.size) := hn
  have hlen : (s.size : Int) = (n : Int) := by rw [hn]
  have HUU := hide hU
  clear hn hU ev
  go_enter Tryz.func26, Tryz.ntmps26
  go_upto_region 1 with fail
  have HB2 := hide HB.out
  obtain ⟨N, hN⟩ : ∃ N, N = w.heap.size := ⟨_, rfl⟩
  rw [← hN] at HB HJ ⊢
  clear hN
  generalize w.alloc (.cells #[.int .i64 k, .string s, .slice an ln cn, .slice ai li ci] 25) = w1 at *
  have j0 := HJ.out.c0
  have j1 := HJ.out.c1
  have j2 := HJ.out.c2
  have j3 := HJ.out.c3
  clear HJ HB
  go_cut [16] (fun c wx => (c = .bool (decide (xs = [] ∨ xs.getD 0 0 ≠ 45))) ∧ wx = w1)
  case first =>
    by_cases hn0 : n = 0
    · have he : s.toList.isEmpty = true := by rw [str_empty, ← HS.out, hn0]; rfl
      have hx : decide (xs = [] ∨ xs.getD 0 0 ≠ 45) = true := by
        rw [decide_eq_true_iff]
        exact .inl (List.length_eq_zero_iff.1 (by have := HN.out; omega))
      go_wp2_with fail
      go_meet
      case rel => exact ⟨by rw [hx], rfl⟩
    · have he : s.toList.isEmpty = false := by rw [str_empty, ← HS.out, decide_eq_false hn0]
      have hix0 : ∀ w : World, (Instr.index 9 (.string s) (.int .i64 0)).run Tryz.prog w = .ok (.int .u8 ((xs.getD 0 0 : Nat) : Int)) w := by
        have := str_index s 0 (by rw [← HS.out]; omega)
        rw [← HX.out] at this
        exact this
      have HE : Hid (decide (xs = [] ∨ xs.getD 0 0 ≠ 45) = ((xs.getD 0 0 : Int) != 45)) := by
        show _ = _
        have hne : xs ≠ [] := fun e => hn0 (by rw [HN.out, e]; rfl)
        rw [Bool.eq_iff_iff, decide_eq_true_iff, bne_iff_ne]
        constructor
        · rintro (h | h)
          · exact absurd h hne
          · omega
        · intro h
          exact .inr (by omega)
      generalize xs.getD 0 0 = c0 at *
      go_wp2_with fail
      go_meet
      case rel => exact ⟨by rw [HE.out], rfl⟩
  case rest =>
    obtain ⟨rfl, hw⟩ := hcut
    have hw' := hw.symm
    subst hw'
    by_cases hpos : xs = [] ∨ xs.getD 0 0 ≠ 45
    · rw [decide_eq_true hpos]
      have HV : Hid (U = iPos (uOf k xs)) := by show _ = _; rw [HUU.out]; unfold iOf; rw [if_pos hpos]
      clear hpos HUU
      go_wp2_with fail
      refine (HCU.out _).mono ?_
      rintro ε w2 ⟨rfl, hb2⟩
      have HB3 := hide (below_up HB2.out hb2)
      clear hb2
      cases hq : uOf k xs with
      | none =>
        have HZ : Hid (iVal U = .tuple #[.int .i64 0, .bool false]) := by show _ = _; rw [HV.out, hq]; rfl
        rw [show uVal none = .tuple #[.int .u64 0, .bool false] from rfl]
        clear hq HV
        go_wp2_with fail
        go_ret2
        exact ⟨by rw [HZ.out]; rfl, HB3.out⟩
      | some v =>
        have hv := uOf_lt hq
        rw [show uVal (some v) = .tuple #[.int .u64 (v : Int), .bool true] from rfl]
        by_cases hm : v ≤ 9223372036854775807
        · have HZ : Hid (iVal U = .tuple #[.int .i64 (v : Int), .bool true]) := by show _ = _; rw [HV.out, hq]; unfold iPos; simp only [if_pos hm]; rfl
          have g1 : ¬ ((9223372036854775807 : Int) < (v : Int)) := by omega
          have g2 : IntKind.i64.wrap (v : Int) = (v : Int) := by rw [IntKind.wrap_i64]; omega
          clear hq HV
          go_wp2_with fail
          go_ret2
          exact ⟨by rw [HZ.out]; rfl, HB3.out⟩
        · have HZ : Hid (iVal U = .tuple #[.int .i64 0, .bool false]) := by show _ = _; rw [HV.out, hq]; unfold iPos; simp only [if_neg hm]; rfl
          have g1 : (9223372036854775807 : Int) < (v : Int) := by omega
          clear hq HV
          go_wp2_with fail
          go_ret2
          exact ⟨by rw [HZ.out]; rfl, HB3.out⟩
    · rw [decide_eq_false hpos]
      have HV : Hid (U = iNeg (uOf k (xs.drop 1))) := by show _ = _; rw [HUU.out]; unfold iOf; rw [if_neg hpos]
      have hn1 : 1 ≤ n := by
        rcases Nat.eq_zero_or_pos n with h | h
        · exact absurd (.inl (List.length_eq_zero_iff.1 (by have := HN.out; omega))) hpos
        · exact h
      have hsl := str_from s 1 1 (by rfl) (by rw [← HS.out]; exact hn1)
      rw [← HX.out] at hsl
      clear hpos HUU
      have HCE := hide (HCD.out w1.drew)
      clear HCD HCU j2 j3
      cases hq : uOf k (xs.drop 1) with
      | none =>
        have HZ : Hid (iVal U = .tuple #[.int .i64 0, .bool false]) := by show _ = _; rw [HV.out, hq]; rfl
        rw [hq, show uVal none = .tuple #[.int .u64 0, .bool false] from rfl] at HCE
        clear hq HV
        generalize bstr (xs.drop 1) = s1 at *
        go_wp2_with fail
        go_region_held (fun W => W.cell? ⟨N, 0, none⟩ = some (.int .i64 k) ∧ W.cell? ⟨N, 1, none⟩ = some (.string s)) (go_keep) (first | (go_at_call 28; refine HCE.out.mono ?_; rintro ε w5 ⟨rfl, h5⟩; have hb5 := below_undrewN1 h5; have HB5 := hide hb5; have y0 := cell_kept j0 hb5; have y1 := cell_kept j1 hb5; clear h5 hb5))
        go_wp2_with fail
        go_ret2
        exact ⟨by rw [HZ.out]; rfl, below_up HB2.out HB5.out⟩
      | some v =>
        have hv := uOf_lt hq
        rw [hq, show uVal (some v) = .tuple #[.int .u64 (v : Int), .bool true] from rfl] at HCE
        by_cases hm : v ≠ 0 ∧ v ≤ 9223372036854775808
        · have HZ : Hid (iVal U = .tuple #[.int .i64 (-(v : Int)), .bool true]) := by show _ = _; rw [HV.out, hq]; unfold iNeg; simp only [if_pos hm]; rfl
          have g1 : ((v : Int) == 0) = false := by rw [beq_eq_false_iff_ne]; omega
          have g2 : ¬ ((9223372036854775808 : Int) < (v : Int)) := by omega
          have g3 : IntKind.u64.wrap ((v : Int) - 1) = (v : Int) - 1 := by rw [IntKind.wrap_u64]; omega
          have g4 : IntKind.i64.wrap ((v : Int) - 1) = (v : Int) - 1 := by rw [IntKind.wrap_i64]; omega
          have g5 : IntKind.i64.wrap (-((v : Int) - 1)) = -((v : Int) - 1) := by rw [IntKind.wrap_i64]; omega
          have g6 : IntKind.i64.wrap (-((v : Int) - 1) - 1) = -(v : Int) := by rw [IntKind.wrap_i64]; omega
          clear hm
          clear hq HV
          generalize bstr (xs.drop 1) = s1 at *
          go_wp2_with fail
          go_region_held (fun W => W.cell? ⟨N, 0, none⟩ = some (.int .i64 k) ∧ W.cell? ⟨N, 1, none⟩ = some (.string s)) (go_keep) (first | (go_at_call 28; refine HCE.out.mono ?_; rintro ε w5 ⟨rfl, h5⟩; have hb5 := below_undrewN1 h5; have HB5 := hide hb5; have y0 := cell_kept j0 hb5; have y1 := cell_kept j1 hb5; clear h5 hb5))
          go_wp2_with fail
          go_ret2
          exact ⟨by rw [HZ.out]; rfl, below_up HB2.out HB5.out⟩
        · have HZ : Hid (iVal U = .tuple #[.int .i64 0, .bool false]) := by show _ = _; rw [HV.out, hq]; unfold iNeg; simp only [if_neg hm]; rfl
          by_cases hv0 : v = 0
          · have g1 : ((v : Int) == 0) = true := by rw [beq_iff_eq]; omega
            clear hm
            subst hv0
            clear hq HV
            generalize bstr (xs.drop 1) = s1 at *
            go_wp2_with fail
            go_region_held (fun W => W.cell? ⟨N, 0, none⟩ = some (.int .i64 k) ∧ W.cell? ⟨N, 1, none⟩ = some (.string s)) (go_keep) (first | (go_at_call 28; refine HCE.out.mono ?_; rintro ε w5 ⟨rfl, h5⟩; have hb5 := below_undrewN1 h5; have HB5 := hide hb5; have y0 := cell_kept j0 hb5; have y1 := cell_kept j1 hb5; clear h5 hb5))
            go_wp2_with fail
            go_ret2
            exact ⟨by rw [HZ.out]; rfl, below_up HB2.out HB5.out⟩
          · have g1 : ((v : Int) == 0) = false := by rw [beq_eq_false_iff_ne]; omega
            have g2 : (9223372036854775808 : Int) < (v : Int) := by omega
            clear hm
            clear hq HV
            generalize bstr (xs.drop 1) = s1 at *
            go_wp2_with fail
            go_region_held (fun W => W.cell? ⟨N, 0, none⟩ = some (.int .i64 k) ∧ W.cell? ⟨N, 1, none⟩ = some (.string s)) (go_keep) (first | (go_at_call 28; refine HCE.out.mono ?_; rintro ε w5 ⟨rfl, h5⟩; have hb5 := below_undrewN1 h5; have HB5 := hide hb5; have y0 := cell_kept j0 hb5; have y1 := cell_kept j1 hb5; clear h5 hb5))
            go_wp2_with fail
            go_ret2
            exact ⟨by rw [HZ.out]; rfl, below_up HB2.out HB5.out⟩
end Go.Proofs.YtiaedngnofablaaGreatDoor
/- The contract of the program's Int. -/
namespace Go.Proofs.YtiaedngnofablaaGreatDoor
open Go.RowKit

def dashB (t : By) : Bool := decide (t.getD 0 0 = 45)
theorem dash_take {t : By} (h : t ≠ []) : decide (t.take 1 = [45]) = dashB t := by
  match t, h with
  | c :: r, _ => unfold dashB; simp
set_option maxHeartbeats 4000000 in
set_option maxRecDepth 100000 in
theorem hasDash_any (s : ByteArray) (w : World) (hs : s.size ≤ 4611686018427387904) :
    Calls Tryz.prog 107 #[.string s, .string ⟨#[45]⟩] w fun e w' => e = .returned (.bool (dashB (sbytes s))) ∧ w' = w := by
  have hl := sbytes_length s
  have h45 : (ByteArray.size ⟨#[45]⟩ : Nat) = 1 := rfl
  by_cases hn : sbytes s = []
  · have h0 : s.size = 0 := by rw [← hl, hn]; rfl
    have hlt : ¬ ((1 : Int) ≤ (s.size : Int)) := by omega
    have HR : Hid (dashB (sbytes s) = false) := by show _ = _; rw [hn]; rfl
    clear hn hl
    go_enter Tryz.func107, Tryz.ntmps107
    go_wp2_with fail
    go_ret
    exact ⟨by rw [HR.out]; rfl, rfl⟩
  · have hpos : 1 ≤ s.size := by rw [← hl]; exact List.length_pos_iff.2 hn
    have hle : (1 : Int) ≤ (s.size : Int) := by omega
    have hsl : ∀ w : World, (Instr.slice 9 (.string s) none (some (.int .i64 1)) none).run Tryz.prog w = .ok (.string (bstr ((sbytes s).take 1))) w := fun w => by
      rw [run_slice_string_h w 9 s Tryz.underlying9 .i64 1 (by omega) (by omega), extract_bstr]
      rfl
    have hq : ((bstr ((sbytes s).take 1)).toList == [45]) = dashB (sbytes s) := by
      have h := bstr_beq (xs := (sbytes s).take 1) (fun c hc => sbytes_lt s c (List.mem_of_mem_take hc)) (ys := [45]) (by decide)
      rw [bstr_toList [45], dash_take hn] at h
      exact h
    have HQ := hide hq
    obtain ⟨b, hb⟩ : ∃ b, b = bstr ((sbytes s).take 1) := ⟨_, rfl⟩
    rw [← hb] at hsl hq HQ
    clear hb hn hl
    cases hd : dashB (sbytes s) with
    | true =>
      rw [hd] at hq
      have hq2 : b.toList = [45] := by rw [beq_iff_eq] at hq; exact hq
      clear HQ
      go_enter Tryz.func107, Tryz.ntmps107
      go_wp2_with fail
      go_ret
      exact ⟨rfl, rfl⟩
    | false =>
      rw [hd] at hq
      have hq2 : ¬ b.toList = [45] := by rw [beq_eq_false_iff_ne] at hq; exact hq
      clear HQ
      go_enter Tryz.func107, Tryz.ntmps107
      go_wp2_with fail
      go_ret
      exact ⟨rfl, rfl⟩
/-- What is left of a text behind a dash. -/
def sizeT (s : ByteArray) : ByteArray := if dashB (sbytes s) = true then bstr ((sbytes s).drop 1) else s
set_option maxHeartbeats 4000000 in
set_option maxRecDepth 100000 in
theorem cutDash_any (s : ByteArray) (w : World) (hs : s.size ≤ 4611686018427387904) :
    Calls Tryz.prog 50 #[.string s, .string ⟨#[45]⟩] w fun e w' => e = .returned (.tuple #[.string (sizeT s), .bool (dashB (sbytes s))]) ∧ w' = w := by
  have c : Calls Tryz.prog 76 #[.string s, .string ⟨#[45]⟩] w fun e w' => e = .returned (.tuple #[.string (sizeT s), .bool (dashB (sbytes s))]) ∧ w' = w := by
    have HC := hide (hasDash_any s w hs)
    have h45 : (ByteArray.size ⟨#[45]⟩ : Nat) = 1 := rfl
    cases hd : dashB (sbytes s) with
    | false =>
      have HZ : Hid (sizeT s = s) := by show _ = _; unfold sizeT; rw [if_neg (by rw [hd]; decide)]
      rw [hd] at HC
      clear hd
      go_enter Tryz.func76, Tryz.ntmps76
      go_wp2_with fail
      refine HC.out.mono ?_
      rintro e w' ⟨rfl, rfl⟩
      go_wp2_with fail
      go_ret2
      exact ⟨by rw [HZ.out]; rfl, rfl⟩
    | true =>
      have hpos : 1 ≤ s.size := by
        rw [← sbytes_length s]
        refine List.length_pos_iff.2 (fun h => ?_)
        rw [h] at hd
        cases hd
      have hsl : ∀ w : World, (Instr.slice 9 (.string s) (some (.int .i64 1)) none none).run Tryz.prog w = .ok (.string (bstr ((sbytes s).drop 1))) w := fun w => str_from s 1 1 rfl hpos w
      have HZ : Hid (sizeT s = bstr ((sbytes s).drop 1)) := by show _ = _; unfold sizeT; rw [if_pos hd]
      rw [hd] at HC
      clear hd
      go_enter Tryz.func76, Tryz.ntmps76
      go_wp2_with fail
      refine HC.out.mono ?_
      rintro e w' ⟨rfl, rfl⟩
      go_wp2_with fail
      go_ret2
      exact ⟨by rw [HZ.out, List.drop_one]; rfl, rfl⟩
  go_enter Tryz.func50, Tryz.ntmps50
  go_wp2_with fail
  refine c.mono ?_
  rintro e w' ⟨rfl, rfl⟩
  go_wp2_with fail
  go_ret2
  exact ⟨rfl, rfl⟩
theorem parseL_digits (l : By) (hn : l ≠ []) (h : l.all isDigit = true) : Lib.parseUintB 64 (l.map fun n => UInt8.ofNat n) = numEnd (tenN l) := by
  unfold Lib.parseUintB
  rw [if_neg (fun h0 => hn (List.map_eq_nil_iff.1 h0)), tenN_F]
  exact parseM_digits l 0 h (by decide)
/-- strconv's reading of a number with a sign. -/
def intEnd (neg : Bool) (n : Nat) : Lib.NumEnd Int := if neg = true then (if n ≤ 9223372036854775808 then .ok (-(n : Int)) else .range) else (if n < 9223372036854775808 then .ok (n : Int) else .range)
theorem data_list (s : ByteArray) : s.data.toList = (sbytes s).map fun n => UInt8.ofNat n := by
  have e2 : ∀ l : List Nat, (bstr l).data.toList = l.map fun n => UInt8.ofNat n := fun l => by simp [bstr]
  have e3 := e2 (sbytes s)
  rw [bstr_sbytes] at e3
  exact e3
theorem size_bytes (s : ByteArray) : sbytes (sizeT s) = if dashB (sbytes s) = true then (sbytes s).drop 1 else sbytes s := by
  unfold sizeT
  split
  · exact sbytes_bstr (fun c hc => sbytes_lt s c (List.mem_of_mem_drop hc))
  · rfl
theorem parseI_list : ∀ (t : By), (∀ c ∈ t, c < 256) → wholeB (if dashB t = true then t.drop 1 else t) = true → Lib.parseIntB 64 (t.map fun n => UInt8.ofNat n) = intEnd (dashB t) (tenN (if dashB t = true then t.drop 1 else t))
  | [], _, h => by
    rw [show dashB [] = false from rfl, if_neg (by decide)] at h
    cases h
  | c :: r, hlt, h => by
    have e : (UInt8.ofNat c).toNat = c := by have := hlt c (List.mem_cons_self ..); simp; omega
    cases hd : dashB (c :: r) with
    | true =>
      have hc : c = 45 := by unfold dashB at hd; simpa using hd
      rw [hd, if_pos rfl, List.drop_one, List.tail_cons] at h
      rw [if_pos rfl, List.drop_one, List.tail_cons]
      rw [whole_iff] at h
      have hp := parseL_digits r h.1 h.2.2
      rw [List.map_cons]
      unfold Lib.parseIntB
      simp only [e]
      rw [if_pos (.inr hc), hp]
      unfold numEnd intEnd
      by_cases h1 : tenN r < 18446744073709551616
      · rw [if_pos h1]
        by_cases h2 : tenN r ≤ 9223372036854775808
        · simp [hc, h2]
        · simp [hc, h2]
      · rw [if_neg h1, if_pos rfl, if_neg (by omega)]
    | false =>
      have hc : c ≠ 45 := by unfold dashB at hd; simpa using hd
      rw [hd, if_neg (by decide)] at h
      rw [if_neg (by decide)]
      rw [whole_iff] at h
      have hp := parseL_digits (c :: r) h.1 h.2.2
      have hdc : isDigit c = true := by have := h.2.2; rw [List.all_cons, Bool.and_eq_true] at this; exact this.1
      rw [isDigit_span] at hdc
      rw [List.map_cons] at hp ⊢
      unfold Lib.parseIntB
      simp only [e]
      rw [if_neg (by omega), hp]
      unfold numEnd intEnd
      by_cases h1 : tenN (c :: r) < 18446744073709551616
      · rw [if_pos h1]
        by_cases h2 : tenN (c :: r) < 9223372036854775808
        · simp [hc, h2]
        · simp [hc, h2]
      · rw [if_neg h1, if_neg (by decide), if_neg (by omega)]
theorem parseI_any (s : ByteArray) (h : wholeB (sbytes (sizeT s)) = true) : Lib.parseIntB 64 s.data.toList = intEnd (dashB (sbytes s)) (tenN (sbytes (sizeT s))) := by
  rw [size_bytes] at h ⊢
  rw [data_list]
  exact parseI_list (sbytes s) (sbytes_lt s) h
theorem iOf_dash (k : Int) (s : ByteArray) : iOf k (sbytes s) = if dashB (sbytes s) = true then iNeg (uOf k (sbytes (sizeT s))) else iPos (uOf k (sbytes (sizeT s))) := by
  rw [size_bytes]
  unfold iOf
  cases hd : dashB (sbytes s) with
  | true =>
    have hc : (sbytes s).getD 0 0 = 45 := by unfold dashB at hd; simpa using hd
    rw [if_neg (fun h => h.elim (fun h => by rw [h] at hc; cases hc) (fun h => h hc)), if_pos rfl, if_pos rfl]
  | false =>
    have hc : (sbytes s).getD 0 0 ≠ 45 := by unfold dashB at hd; simpa using hd
    rw [if_pos (.inr hc), if_neg (by decide), if_neg (by decide)]
theorem ten_pos {t : By} (h : wholeB t = true) (h0 : t ≠ [48]) : 0 < tenN t := by
  unfold wholeB at h
  rw [Bool.or_eq_true, Bool.and_eq_true, Bool.and_eq_true, decide_eq_true_iff, decide_eq_true_iff, decide_eq_true_iff] at h
  rcases h with h | ⟨⟨h1, h2⟩, h3⟩
  · exact absurd h h0
  · match t, h1, h2, h3 with
    | c :: r, _, h2, h3 =>
      rw [List.all_cons, Bool.and_eq_true, isDigit_span] at h3
      have h4 : c ≠ 48 := h2
      rw [tenN_F, tenF_cons]
      have := tenF_ge r (10 * 0 + (c - 48))
      omega
end Go.Proofs.YtiaedngnofablaaGreatDoor
/- The contract of the program's Int: its walk. -/
namespace Go.Proofs.YtiaedngnofablaaGreatDoor
open Go.RowKit

theorem parseInt_any (s : ByteArray) (w : World) (hs : s.size ≤ 281474976710656) (ev : Value) (hv : w.cell? ⟨laysC174_ren.g 16, 0, none⟩ = some ev) (hev : ev = .nilIface ∨ ∃ te pe, ev = .iface te pe) (hw : wholeB (sbytes (sizeT s)) = true) :
    Calls Tryz.prog 52 #[.string s, .int .i64 10, .int .i64 64] w fun e w' => (∃ v er, e = .returned (.tuple #[.int .i64 v, er]) ∧ ((intEnd (dashB (sbytes s)) (tenN (sbytes (sizeT s))) = .ok v ∧ er = .nilIface) ∨ (intEnd (dashB (sbytes s)) (tenN (sbytes (sizeT s))) = .range ∧ ∃ ty p, er = .iface ty p))) ∧ Below w.heap.size w w' := by
  have hp := parseI_any s hw
  have hcase : (∃ v, intEnd (dashB (sbytes s)) (tenN (sbytes (sizeT s))) = .ok v) ∨ intEnd (dashB (sbytes s)) (tenN (sbytes (sizeT s))) = .range := by
    unfold intEnd
    split <;> split <;> first | exact .inl ⟨_, rfl⟩ | exact .inr rfl
  rcases hcase with ⟨v, hI⟩ | hI
  · rw [hI] at hp ⊢
    have c : Calls Tryz.prog 52 #[.string s, .int .i64 10, .int .i64 64] w _ := Any.strconv_ParseInt_10_at64_ok laysC174 s (by omega) _ hp w
    refine c.mono ?_
    rintro e w' ⟨rfl, hw⟩
    refine ⟨⟨_, _, rfl, .inl ⟨rfl, rfl⟩⟩, ?_⟩
    rcases hw with rfl | ⟨t, rfl⟩
    · exact Below.refl _ _
    · exact Lib.bytesWorld_below _ _ _
  · rw [hI] at hp ⊢
    have c : Calls Tryz.prog 52 #[.string s, .int .i64 10, .int .i64 64] w _ := Any.strconv_ParseInt_10_at64_range laysC174 s hs hp ev w hv hev
    refine c.mono ?_
    rintro e w' ⟨N, rfl, _, _, hb⟩
    exact ⟨⟨_, _, rfl, .inr ⟨rfl, _, _, rfl⟩⟩, hb⟩
theorem iOf_end {k : Int} {s : ByteArray} (hk : k = 3) (hw : wholeB (sbytes (sizeT s)) = true) (hz : dashB (sbytes s) = true → sbytes (sizeT s) ≠ [48]) : iOf k (sbytes s) = match intEnd (dashB (sbytes s)) (tenN (sbytes (sizeT s))) with | .ok v => some v | _ => none := by
  rw [iOf_dash, uOf_whole hk hw]
  unfold intEnd
  cases hd : dashB (sbytes s) with
  | true =>
    have hp := ten_pos hw (hz hd)
    simp only [if_true]
    by_cases h1 : tenN (sbytes (sizeT s)) ≤ 9223372036854775808
    · rw [if_pos h1, if_pos (by omega)]
      unfold iNeg
      simp only
      rw [if_pos ⟨by omega, h1⟩]
    · rw [if_neg h1]
      by_cases h2 : tenN (sbytes (sizeT s)) < 18446744073709551616
      · rw [if_pos h2]
        unfold iNeg
        simp only
        rw [if_neg (fun h => h1 h.2)]
      · rw [if_neg h2]; rfl
  | false =>
    simp only [Bool.false_eq_true, if_false]
    by_cases h1 : tenN (sbytes (sizeT s)) < 9223372036854775808
    · rw [if_pos h1, if_pos (by omega)]
      unfold iPos
      simp only
      rw [if_pos (by omega)]
    · rw [if_neg h1]
      by_cases h2 : tenN (sbytes (sizeT s)) < 18446744073709551616
      · rw [if_pos h2]
        unfold iPos
        simp only
        rw [if_neg (by omega)]
      · rw [if_neg h2]; rfl
theorem iOf_no {k : Int} {s : ByteArray} (h : uOf k (sbytes (sizeT s)) = none) : iOf k (sbytes s) = none := by
  rw [iOf_dash, h]
  split <;> rfl
theorem iOf_zero {k : Int} {s : ByteArray} (hd : dashB (sbytes s) = true) (h : sbytes (sizeT s) = [48]) : iOf k (sbytes s) = none := by
  rw [iOf_dash, if_pos hd, h]
  by_cases hk : k = 3
  · rw [uOf_whole hk (by rfl)]
    rfl
  · rw [uOf_none (fun h => hk h.1)]
    rfl
theorem size_le (s : ByteArray) : (sizeT s).size ≤ s.size := by
  rw [← sbytes_length, ← sbytes_length, size_bytes]
  split
  · rw [List.length_drop]; omega
  · exact Nat.le_refl _
set_option maxHeartbeats 4000000 in
set_option maxRecDepth 100000 in
theorem jint_any (x : JV) (w : World) (hs : x.t.size ≤ 281474976710656) (ev : Value) (hv : w.cell? ⟨laysC174_ren.g 16, 0, none⟩ = some ev) (hev : ev = .nilIface ∨ ∃ te pe, ev = .iface te pe) :
    Calls Tryz.prog 25 #[x.val] w fun e w' => e = .returned (iVal (iOf x.k (sbytes x.t))) ∧ Below w.heap.size w w' := by
  have HB := hide (below_new w (.cells #[.int .i64 x.k, .string x.t, .slice x.an x.ln x.cn, .slice x.ai x.li x.ci] 25))
  have HJ := hide (Jb.new w x.k x.t (.slice x.an x.ln x.cn) (.slice x.ai x.li x.ci))
  have hv1 := cell_kept hv HB.out
  rw [show x.val = .agg #[.int .i64 x.k, .string x.t, .slice x.an x.ln x.cn, .slice x.ai x.li x.ci] from rfl]
  have HC := hide (cutDash_any x.t (w.alloc (.cells #[.int .i64 x.k, .string x.t, .slice x.an x.ln x.cn, .slice x.ai x.li x.ci] 25)) (by omega))
  have HW := hide (isWhole_any (sizeT x.t) (w.alloc (.cells #[.int .i64 x.k, .string x.t, .slice x.an x.ln x.cn, .slice x.ai x.li x.ci] 25)) (by have := size_le x.t; omega))
  obtain ⟨N, hN⟩ : ∃ N, N = w.heap.size := ⟨_, rfl⟩
  have hz48 := text_zero (sizeT x.t)
  have HEND : Hid (x.k = 3 → wholeB (sbytes (sizeT x.t)) = true → (dashB (sbytes x.t) = true → sbytes (sizeT x.t) ≠ [48]) → iOf x.k (sbytes x.t) = match intEnd (dashB (sbytes x.t)) (tenN (sbytes (sizeT x.t))) with | .ok v => some v | _ => none) := iOf_end
  have HNO : Hid (uOf x.k (sbytes (sizeT x.t)) = none → iOf x.k (sbytes x.t) = none) := iOf_no
  have HZE : Hid (dashB (sbytes x.t) = true → sbytes (sizeT x.t) = [48] → iOf x.k (sbytes x.t) = none) := iOf_zero
  have HPI : Hid (wholeB (sbytes (sizeT x.t)) = true → Calls Tryz.prog 52 #[.string x.t, .int .i64 10, .int .i64 64] (w.alloc (.cells #[.int .i64 x.k, .string x.t, .slice x.an x.ln x.cn, .slice x.ai x.li x.ci] 25)) fun e w' => (∃ v er, e = .returned (.tuple #[.int .i64 v, er]) ∧ ((intEnd (dashB (sbytes x.t)) (tenN (sbytes (sizeT x.t))) = .ok v ∧ er = .nilIface) ∨ (intEnd (dashB (sbytes x.t)) (tenN (sbytes (sizeT x.t))) = .range ∧ ∃ ty p, er = .iface ty p))) ∧ Below (w.alloc (.cells #[.int .i64 x.k, .string x.t, .slice x.an x.ln x.cn, .slice x.ai x.li x.ci] 25)).heap.size (w.alloc (.cells #[.int .i64 x.k, .string x.t, .slice x.an x.ln x.cn, .slice x.ai x.li x.ci] 25)) w') := fun h => parseInt_any x.t _ hs ev hv1 hev h
  obtain ⟨sz, HSZ⟩ : ∃ sz : ByteArray, Hid (sz = sizeT x.t) := ⟨sizeT x.t, hide rfl⟩
  rw [← HSZ.out] at HC HW hz48 HEND HNO HZE HPI
  clear hv hv1 hev
  go_enter Tryz.func25, Tryz.ntmps25
  go_upto_region 1 with fail
  have HB2 := hide HB.out
  rw [← hN] at HJ ⊢
  clear hN HB
  generalize w.alloc (.cells #[.int .i64 x.k, .string x.t, .slice x.an x.ln x.cn, .slice x.ai x.li x.ci] 25) = u at *
  have j0 := HJ.out.c0
  have j1 := HJ.out.c1
  go_wp2_with fail
  refine HC.out.mono ?_
  rintro e w' ⟨rfl, rfl⟩
  by_cases hk : x.k = 3
  · have hkb : (x.k != 3) = false := by simp [hk]
    cases hwb : wholeB (sbytes sz) with
    | false =>
      have HU : Hid (iOf x.k (sbytes x.t) = none) := HNO.out (uOf_part hwb)
      rw [hwb] at HW
      clear hwb hk HEND HNO HZE HPI
      cases hd : dashB (sbytes x.t) with
      | true =>
        clear hd hz48
        go_wp2_with fail
        refine HW.out.mono ?_
        rintro e w'' ⟨rfl, rfl⟩
        go_wp2_with fail
        go_ret2
        exact ⟨by rw [HU.out]; rfl, HB2.out⟩
      | false =>
        clear hd hz48
        go_wp2_with fail
        refine HW.out.mono ?_
        rintro e w'' ⟨rfl, rfl⟩
        go_wp2_with fail
        go_ret2
        exact ⟨by rw [HU.out]; rfl, HB2.out⟩
    | true =>
      rw [hwb] at HW
      cases hd : dashB (sbytes x.t) with
      | true =>
        by_cases h0 : sbytes sz = [48]
        · have HU : Hid (iOf x.k (sbytes x.t) = none) := HZE.out hd h0
          have q0 : (sz.toList == [48]) = true := by rw [hz48, decide_eq_true h0]
          have q1 : sz.toList = [48] := by rw [beq_iff_eq] at q0; exact q0
          clear hwb hk HEND HNO HZE HPI hz48 hd h0
          go_wp2_with fail
          refine HW.out.mono ?_
          rintro e w'' ⟨rfl, rfl⟩
          go_wp2_with fail
          go_ret2
          exact ⟨by rw [HU.out]; rfl, HB2.out⟩
        · have HE := hide (HEND.out hk hwb (fun _ => h0))
          have q0 : (sz.toList == [48]) = false := by rw [hz48, decide_eq_false h0]
          have q1 : ¬ sz.toList = [48] := by rw [beq_eq_false_iff_ne] at q0; exact q0
          clear hd h0 hz48
          have HP := hide (HPI.out hwb)
          clear hwb hk HNO HZE HPI HEND
          go_wp2_with fail
          refine HW.out.mono ?_
          rintro e w3 ⟨rfl, hw3⟩
          have hw4 := hw3.symm
          subst hw4
          go_wp2_with fail
          refine HP.out.mono ?_
          rintro e w2 ⟨⟨v, er, rfl, hcase⟩, hb⟩
          have HBF := hide (below_up HB2.out hb)
          rcases hcase with ⟨hi, rfl⟩ | ⟨hi, ty, pp, rfl⟩
          · have HU2 : Hid (iOf x.k (sbytes x.t) = some v) := by show _ = _; rw [HE.out, hi]
            clear HE hb hi
            go_wp2_with fail
            go_ret2
            exact ⟨by rw [HU2.out]; rfl, HBF.out⟩
          · have HU2 : Hid (iOf x.k (sbytes x.t) = none) := by show _ = _; rw [HE.out, hi]
            clear HE hb hi
            go_wp2_with fail
            go_ret2
            exact ⟨by rw [HU2.out]; rfl, HBF.out⟩
      | false =>
        have HE := hide (HEND.out hk hwb (fun h => by rw [hd] at h; cases h))
        clear hd hz48
        have HP := hide (HPI.out hwb)
        clear hwb hk HNO HZE HPI HEND
        go_wp2_with fail
        refine HW.out.mono ?_
        rintro e w3 ⟨rfl, hw3⟩
        have hw4 := hw3.symm
        subst hw4
        go_wp2_with fail
        refine HP.out.mono ?_
        rintro e w2 ⟨⟨v, er, rfl, hcase⟩, hb⟩
        have HBF := hide (below_up HB2.out hb)
        rcases hcase with ⟨hi, rfl⟩ | ⟨hi, ty, pp, rfl⟩
        · have HU2 : Hid (iOf x.k (sbytes x.t) = some v) := by show _ = _; rw [HE.out, hi]
          clear HE hb hi
          go_wp2_with fail
          go_ret2
          exact ⟨by rw [HU2.out]; rfl, HBF.out⟩
        · have HU2 : Hid (iOf x.k (sbytes x.t) = none) := by show _ = _; rw [HE.out, hi]
          clear HE hb hi
          go_wp2_with fail
          go_ret2
          exact ⟨by rw [HU2.out]; rfl, HBF.out⟩
  · have hkb : (x.k != 3) = true := by simp [hk]
    have HU : Hid (iOf x.k (sbytes x.t) = none) := HNO.out (uOf_none (fun h => hk h.1))
    clear HW HEND HNO HZE HPI hz48
    go_wp2_with fail
    go_ret2
    exact ⟨by rw [HU.out]; rfl, HB2.out⟩
end Go.Proofs.YtiaedngnofablaaGreatDoor
