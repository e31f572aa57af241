/- CodesAll, walked: every user code comes, by any of the twelve bytes of each letter. -/
import Derived.Test.YtonnnolnkjahgaaDoorCRefA
import Derived.Test.YtonnnolnkjahgaaDoorCLive
namespace Go.Proofs.YtonnnolnkjahgaaDoor
open Go.RowKit Go.Shelf

def letOf (x : Nat) : Nat := lets.getD (x % 20) 0
theorem userR_all : ∀ (p code : List Nat), (∀ x ∈ p, x < 240) → code.length + p.length = 8 → userR code p = (code ++ p.map letOf, 0, [])
  | [], code, _, hl => by rw [userR_done (by simp at hl; omega)]; simp
  | x :: p, code, h, hl => by
    rw [userR_next (by simp at hl; omega)]
    have e : userS code x = code ++ [letOf x] := by unfold userS letOf; rw [if_pos (h x (by simp))]
    rw [e, userR_all p (code ++ [letOf x]) (fun y hy => h y (by simp [hy])) (by simp at hl ⊢; omega)]
    simp
theorem isLet_ex {c : Nat} (h : isLet c = true) : ∃ j, j < 20 ∧ lets.getD j 0 = c := by
  unfold isLet at h
  rw [List.contains_iff_mem] at h
  obtain ⟨j, hj, e⟩ := List.mem_iff_getElem.1 h
  exact ⟨j, hj, by simp [List.getD, hj, e]⟩
theorem letOf_made {k t : Nat} (hk : k < 20) : letOf (k + 20 * t) = lets.getD k 0 := by
  unfold letOf
  rw [Nat.add_mul_mod_self_left, Nat.mod_eq_of_lt hk]
theorem isCode_parts {l : List Nat} (h : isCode l = true) : l.length = 8 ∧ ∀ j, j < 8 → isLet (l.getD j 0) = true := by
  unfold isCode at h
  rw [Bool.and_eq_true] at h
  have h8 : l.length = 8 := beq_iff_eq.1 h.1
  exact ⟨h8, fun j hj => List.all_eq_true.1 h.2 _ (by simp [List.getD, show j < l.length by omega])⟩
set_option maxHeartbeats 1000000 in
set_option maxRecDepth 100000 in
theorem codesAll_walk (s : ByteArray) (n c : Nat) (ao : Option Addr) (ts : List Nat) (w : World) (hT : Lets w) (hs : s.size ≤ maxLen) (hn : n = ts.length) (hn2 : n ≤ 140737488355328) (hr : Row w ao ts) (hb : ∀ x ∈ ts, x < 256) :
    Calls Tryd.prog 8 #[.string s, .slice ao n c] w fun e w' => e = .returned (.bool true) ∧ Below w.heap.size w w' := by
  have HL : Hid (∀ W, Below w.heap.size w W → Calls Tryd.prog 10 #[] W fun e w' => e = .returned (.bool true) ∧ Below W.heap.size W w') := hide fun W h => live_true W (hT.keep h)
  have HC := hide (rcode_any s w hs)
  have HS := hide (show_any s w hT)
  have hsl := sbytes_length s
  cases hc : isCode (sbytes s) with
  | false =>
    rw [hc] at HC
    have e : showT (sbytes s) = [] := by unfold showT; rw [hc]; rfl
    rw [e, bstr_nil] at HS
    clear hc hT hs hsl e hn hn2 hr hb
    go_enter Tryd.func8, Tryd.ntmps8
    go_wp2_with (first
      | (go_at_call 25; refine HC.out.mono ?_; rintro e wx ⟨rfl, hwx⟩; have hwy := hwx.symm; subst hwy; clear hwx)
      | (go_at_call 17; refine HS.out.mono ?_; rintro e w1 ⟨rfl, h1⟩; have H1 := hide h1; clear h1)
      | (go_at_call 10; refine (HL.out _ H1.out).mono ?_; rintro e w2 ⟨rfl, h2⟩; have H2 := hide (H1.out.trans (h2.mono H1.out.size)); clear h2))
    go_ret
    exact ⟨rfl, H2.out⟩
  | true =>
    rw [hc] at HC
    obtain ⟨h8, hlet⟩ := isCode_parts hc
    have HLT := hide hlet
    have HL8 := hide h8
    have hz : (s.size : Int) = 8 := by omega
    have hix := str_index s
    rw [show s.size = 8 by omega] at hix
    have HLX := hide lets_index
    have HLS := hide letters_any
    have HBS := hide (bstr_sbytes s)
    have HT := hide hT
    have HN := hide hn
    have HR := hide hr
    have HB := hide hb
    have HN2 := hide hn2
    generalize sbytes s = l at *
    generalize letsS = LS at *
    clear hc hT hs hsl hn hr hb hlet h8 HS hn2
    go_enter Tryd.func8, Tryd.ntmps8
    go_wp2_with (first
      | (go_at_call 25; refine HC.out.mono ?_; rintro e wx ⟨rfl, hwx⟩; have hwy := hwx.symm; subst hwy; clear hwx)
      | (go_at_call 26; refine (HLS.out _).mono ?_; rintro e wx ⟨rfl, hwx⟩; have hwy := hwx.symm; subst hwy; clear hwx))
    go_loopw [6, 7] (fun v a wr => ∃ i : Nat, i ≤ 8 ∧ a = .int .i64 (i : Int) ∧ Hid (∃ ps, Own wr w.heap.size v ps ∧ ps.length = i ∧ (∀ x ∈ ps, x < 240) ∧ ps.map letOf = l.take i) ∧ Hid (Below w.heap.size w wr)) (fun _ a _ => 8 - (intOf a).toNat)
    case atStart => exact ⟨0, by omega, rfl, hide ⟨[], own_nil _ _, rfl, (fun x hx => by cases hx), rfl⟩, hide (Below.refl _ _)⟩
    case round =>
      obtain ⟨i, hi, rfl, hr0, HBW⟩ := hrel
      obtain ⟨ps, ho, hpl, hpx, hpm⟩ := hr0.out
      have HO := hide ho
      have HPL := hide hpl
      have HPX := hide hpx
      have HPM := hide hpm
      clear hr0 ho hpl hpx hpm
      have hsw := HBW.out.size
      by_cases hin : i < 8
      · have hin' : (i : Int) < 8 := by omega
        obtain ⟨j, hj, hje⟩ := isLet_ex (HLT.out i hin)
        have HJ := hide hj
        have HJE := hide hje
        have HIN := hide hin
        have hx := hix i hin
        have hwri : IntKind.i64.wrap ((i : Int) + 1) = ((i + 1 : Nat) : Int) := by rw [IntKind.wrap_i64]; omega
        have HPM1 : Hid (l.take (i + 1) = l.take i ++ [l.getD i 0]) := hide (take_getD (by rw [HL8.out]; exact hin))
        generalize l.getD i 0 = c0 at *
        clear hi hin hj hje hix
        go_wp2_with fail
        clear hsw
        go_loopw [8] (fun a wx => ∃ k : Nat, a = .int .i64 (k : Int) ∧ Hid (k ≤ j) ∧ Hid (Own wx w.heap.size u6 ps) ∧ Hid (Below w.heap.size w wx)) (fun a _ => 20 - (intOf a).toNat)
        case atStart => exact ⟨0, rfl, hide (Nat.zero_le _), HO, HBW⟩
        case round =>
          clear HO HBW
          obtain ⟨k, rfl, HK, HO, HBW⟩ := hrel
          have HK20 : Hid (k < 20) := hide (by have := HJ.out; have := HK.out; omega)
          have hlx := HLX.out k HK20.out
          have hwk : IntKind.i64.wrap ((k : Int) + 1) = ((k + 1 : Nat) : Int) := by have := HK20.out; rw [IntKind.wrap_i64]; omega
          by_cases hke : lets.getD k 0 = c0
          · have HKE := hide hke
            rw [hke] at hlx
            clear hke
            go_wp2_with fail
            go_quiet (fail)
            have HOZ' : Hid (Own (wr.drewN nq) w.heap.size u6 ps) := HO
            have HBZ' : Hid (Below w.heap.size w (wr.drewN nq)) := hide (below_drewN HBW.out nq)
            generalize wr.drewN nq = wz at *
            have HOZ := HOZ'
            have HBZ := HBZ'
            clear HOZ' HBZ' hlx hx hwk
            by_cases hnt : n = 0
            · have hnt' : ¬ (0 : Int) < (n : Int) := by omega
              have HLS2 : Hid (letOf k = c0 ∧ k < 240) := hide (by have := letOf_made (k := k) (t := 0) HK20.out; rw [Nat.mul_zero, Nat.add_zero] at this; exact ⟨by rw [this]; exact HKE.out, by have := HK20.out; omega⟩)
              have hm2 : IntKind.i64.wrap (k : Int) = (k : Int) := by have := HLS2.out.2; rw [IntKind.wrap_i64]; omega
              have hm3 : IntKind.u8.wrap (k : Int) = (k : Int) := by have := HLS2.out.2; rw [IntKind.wrap_u8]; omega
              clear hnt
              go_wp2_with (first
                | (at_builtin; refine wpList_append_bytes rfl _ _ rfl w.heap.size _ ps rfl (HOZ.out.alloc _) (some ⟨wz.heap.size, 0, none⟩) 1 1 [k] rfl rfl (row_one _ _) (by have := HPL.out; have := HIN.out; simp; omega) (by have := HBZ.out.size; simp; omega) ?_))
              rintro v1 w4 hown1 hgr1
              have HB4 : Hid (Below w.heap.size w w4) := (HBZ.out.alloc HBZ.out.size _).grown hgr1 (by have := HBZ.out.size; simp; omega) HOZ.out.ge
              have HO4 : Hid (Own w4 w.heap.size v1 (ps ++ [k])) := hown1
              clear hown1 hgr1
              go_wp2
              go_roundw
              case rel => exact ⟨i + 1, HIN.out, by first | rfl | simp, hide ⟨ps ++ [k], HO4.out, by rw [List.length_append, HPL.out]; rfl, (fun y hy => (List.mem_append.1 hy).elim (HPX.out y) (fun h => by rw [List.mem_singleton.1 h]; exact HLS2.out.2)), by rw [List.map_append, HPM.out, HPM1.out]; simp [HLS2.out.1]⟩, HB4⟩
              case measure => have := HIN.out; simp [intOf]; omega
            · have hnt' : (0 : Int) < (n : Int) := by omega
              obtain ⟨b1, o1, hao⟩ := HR.out.form (by rw [← HN.out]; omega)
              subst hao
              have hmi : i % n < n := Nat.mod_lt _ (by omega)
              have hcell : wz.cell? ⟨b1, o1 + i % n, none⟩ = some (.int .u8 ((ts.getD (i % n) 0 : Nat) : Int)) := (HR.out.keep HBZ.out).cell _ (by rw [← HN.out]; exact hmi)
              have hmod : Int.tmod (i : Int) (n : Int) = ((i % n : Nat) : Int) := by rw [← Int.ofNat_tmod]
              have hmi' : ((i % n : Nat) : Int) < (n : Int) := by omega
              have hx12 : Int.tmod ((ts.getD (i % n) 0 : Nat) : Int) 12 = ((ts.getD (i % n) 0 % 12 : Nat) : Int) := by rw [show (12 : Int) = ((12 : Nat) : Int) from rfl, ← Int.ofNat_tmod]
              have HT12 : Hid (ts.getD (i % n) 0 % 12 < 12) := hide (Nat.mod_lt _ (by decide))
              have hxb := lt_get HB.out (i % n)
              have hn0 : ((n : Int) == 0) = false := by simp; omega
              generalize ts.getD (i % n) 0 % 12 = t at *
              generalize ts.getD (i % n) 0 = x at *
              generalize i % n = im at *
              obtain ⟨m, hmk⟩ : ∃ m, m = k + 20 * t := ⟨_, rfl⟩
              have HMK := hide hmk
              clear hmk hnt hmi
              have HLS2 : Hid (letOf m = c0 ∧ m < 240) := hide (by rw [HMK.out]; exact ⟨by rw [letOf_made HK20.out]; exact HKE.out, by have := HK20.out; have := HT12.out; omega⟩)
              have hm0 : IntKind.i64.wrap (20 * (t : Int)) = 20 * (t : Int) := by have := HT12.out; rw [IntKind.wrap_i64]; omega
              have hm1 : (k : Int) + 20 * (t : Int) = (m : Int) := by have := HMK.out; omega
              have hm2 : IntKind.i64.wrap (m : Int) = (m : Int) := by have := HLS2.out.2; rw [IntKind.wrap_i64]; omega
              have hm3 : IntKind.u8.wrap (m : Int) = (m : Int) := by have := HLS2.out.2; rw [IntKind.wrap_u8]; omega
              go_wp2_with (first
                | (at_builtin; refine wpList_append_bytes rfl _ _ rfl w.heap.size _ ps rfl (HOZ.out.alloc _) (some ⟨wz.heap.size, 0, none⟩) 1 1 [m] rfl rfl (row_one _ _) (by have := HPL.out; have := HIN.out; simp; omega) (by have := HBZ.out.size; simp; omega) ?_))
              rintro v1 w4 hown1 hgr1
              have HB4 : Hid (Below w.heap.size w w4) := (HBZ.out.alloc HBZ.out.size _).grown hgr1 (by have := HBZ.out.size; simp; omega) HOZ.out.ge
              have HO4 : Hid (Own w4 w.heap.size v1 (ps ++ [m])) := hown1
              clear hown1 hgr1
              go_wp2
              go_roundw
              case rel => exact ⟨i + 1, HIN.out, by first | rfl | simp, hide ⟨ps ++ [m], HO4.out, by rw [List.length_append, HPL.out]; rfl, (fun y hy => (List.mem_append.1 hy).elim (HPX.out y) (fun h => by rw [List.mem_singleton.1 h]; exact HLS2.out.2)), by rw [List.map_append, HPM.out, HPM1.out]; simp [HLS2.out.1]⟩, HB4⟩
              case measure => have := HIN.out; simp [intOf]; omega
          · have hke' : (((lets.getD k 0 : Nat) : Int) == (c0 : Int)) = false := by simpa using (fun e => hke (by exact_mod_cast e))
            have HKN : Hid (k + 1 ≤ j) := hide (by
              rcases Nat.lt_or_ge k j with h | h
              · exact h
              · exact absurd (by rw [show k = j by have := HK.out; omega]; exact HJE.out) hke)
            generalize lets.getD k 0 = d0 at *
            clear hke
            go_wp2_with fail
            go_quiet (fail)
            have HOZ' : Hid (Own (wr.drewN nq) w.heap.size u6 ps) := HO
            have HBZ' : Hid (Below w.heap.size w (wr.drewN nq)) := hide (below_drewN HBW.out nq)
            generalize wr.drewN nq = wz at *
            go_wp2
            go_roundw
            case rel => exact ⟨k + 1, by first | rfl | simp, HKN, HOZ', HBZ'⟩
            case measure => have := HK20.out; simp [intOf]; omega
      · have hin' : ¬ (i : Int) < 8 := by omega
        obtain rfl : i = 8 := by omega
        obtain ⟨vo, vc, rfl, hvc, hro⟩ := HO.out.read
        rw [HPL.out] at hvc ⊢
        have HTK : Hid (ps.take 4096 = ps) := hide (by rw [List.take_of_length_le]; rw [HPL.out]; omega)
        have HUR : Hid (userR [] ps = (l, 0, [])) := hide (by rw [userR_all ps [] HPX.out (by rw [HPL.out]; rfl), HPM.out, List.nil_append, List.take_of_length_le (by rw [HL8.out]; omega)])
        have HNS := hide (new_y 8 vc ps vo w wr HBW.out hro (fun y hy => by have := HPX.out y hy; omega) HPL.out.symm hvc)
        rw [HTK.out] at HNS
        have HUS : Hid (∀ W sp, Young w W sp ps → Calls Tryd.prog 23 #[pf sp] W fun e w' => e = .returned (.tuple #[.string s, .int .i64 0]) ∧ Young w w' sp []) := hide fun W sp h => by
          have := user_y h HT.out
          rw [HUR.out] at this
          simp only at this
          rw [HBS.out] at this
          exact this
        have HLE : Hid (∀ W sp, Young w W sp [] → Calls Tryd.prog 14 #[pf sp] W fun e w' => e = .returned (.int .i64 0) ∧ w' = W) := hide fun W sp h => left_y h
        clear hi hin hro hvc HO hix
        unfold pf at *
        go_wp2_with (first
          | (go_at_call 11; refine HNS.out.mono ?_; rintro e w1 ⟨sp, rfl, h1⟩; have H1 := hide h1; clear h1)
          | (go_at_call 23; refine (HUS.out _ _ H1.out).mono ?_; rintro e w3 ⟨rfl, h3⟩; have H3 := hide h3; clear h3)
          | (go_at_call 9; refine (num_any _ _).mono ?_; rintro e wx ⟨rfl, hwx⟩; have hwy := hwx.symm; subst hwy; clear hwx)
          | (go_at_call 14; refine (HLE.out _ _ H3.out).mono ?_; rintro e wx ⟨rfl, hwx⟩; have hwy := hwx.symm; subst hwy; clear hwx)
          | (go_at_call 10; refine (HL.out _ H3.out.bel).mono ?_; rintro e w4 ⟨rfl, h4⟩; have H4 := hide (H3.out.bel.trans (h4.mono H3.out.bel.size)); clear h4))
        go_ret
        exact ⟨rfl, H4.out⟩
end Go.Proofs.YtonnnolnkjahgaaDoor
