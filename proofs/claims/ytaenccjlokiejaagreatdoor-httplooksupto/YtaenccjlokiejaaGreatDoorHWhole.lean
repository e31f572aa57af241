/- The law HttpWhole. -/
import Derived.Test.YtaenccjlokiejaaGreatDoorHUse
namespace Go.Proofs.YtaenccjlokiejaaGreatDoor
open Go.RowKit Go.Shelf

theorem writtenR_ne {first : U} {fs : List Fl} {b : U} {x : Nat} (h : writtenR first fs b = .error x) : x ≠ 0 := by
  unfold writtenR at h
  split at h
  · cases h; decide
  · split at h
    · split at h
      · cases h; decide
      · cases h
    · cases h; decide
theorem printReq_ne {q : Rq} {x : Nat} (h : printReqR q = .error x) : x ≠ 0 := by
  unfold printReqR at h
  split at h
  · split at h
    · exact writtenR_ne h
    · cases h; decide
  · cases h; decide
theorem printResp_ne {n : Int} {fs : List Fl} {b : U} {x : Nat} (h : printRespR n fs b = .error x) : x ≠ 0 := by
  unfold printRespR at h
  split at h
  · exact writtenR_ne h
  · cases h; decide
structure Two (w w0 W : World) : Prop where
  a : Below w.heap.size w W
  b : Below w0.heap.size w0 W
theorem Two.trans {w w0 W W' : World} (h : Two w w0 W) (hb : Below W.heap.size W W') : Two w w0 W' := ⟨h.a.trans (hb.mono h.a.size), h.b.trans (hb.mono h.b.size)⟩
theorem Two.alloc {w w0 W : World} (h : Two w w0 W) (b : Obj) : Two w w0 (W.alloc b) := ⟨h.a.alloc h.a.size b, h.b.alloc h.b.size b⟩
theorem wAns_cases (r : Except Nat U) : ∃ s : ByteArray, ∃ x : Nat, wAns r = .tuple #[.string s, .int .i64 (x : Int)] ∧ ((∃ T, r = .ok T ∧ s = str T ∧ x = 0) ∨ (∃ e, r = .error e ∧ x = e)) := by
  cases r with
  | ok T => exact ⟨str T, 0, rfl, .inl ⟨T, rfl, rfl, rfl⟩⟩
  | error e => exact ⟨{ data := #[] }, e, rfl, .inr ⟨e, rfl, rfl⟩⟩
theorem num_go (n : Int) (w : World) (Q : Ending → World → Prop) (h : Q (.returned (.int .i64 n)) w) : Calls Tryz.prog 12 #[.int .i64 n] w Q := (num_any n w).mono (by rintro e w' ⟨rfl, rfl⟩; exact h)
set_option maxHeartbeats 2000000 in
set_option maxRecDepth 100000 in
theorem httpWhole_walk (q : Rq) (ao : Option Addr) (k c1 : Nat) (n2 : Int) (fs2 : List Fl) (b2 : U) (ao2 : Option Addr) (k2 c2 : Nat) (cut : Int) (bh : U) (w : World)
    (hk : k = q.fs.length) (hr : FRow w ao q.fs) (hm : q.m.length ≤ 9223372036854775807) (ht : q.t.length ≤ 9223372036854775807) (hb : q.b.length ≤ 4611686018427387904) (hz : FZ q.fs) (hkk : k ≤ 4611686018427387904)
    (hk2 : k2 = fs2.length) (hr2 : FRow w ao2 fs2) (hn0 : -9223372036854775808 ≤ n2) (hn1 : n2 ≤ 9223372036854775807) (hbb2 : b2.length ≤ 4611686018427387904) (hz2 : FZ fs2) (hkk2 : k2 ≤ 4611686018427387904)
    (hc0 : -9223372036854775808 ≤ cut) (hc1 : cut ≤ 9223372036854775807) (hbh : bh.length ≤ 4611686018427387904) (E : Env w) :
    Calls Tryz.prog 10 #[qAgg q ao k c1, sAgg n2 b2 ao2 k2 c2, .int .i64 cut, .string (str bh)] w fun e w' => e = .returned (.bool true) ∧ Below w.heap.size w w' := by
  have HP := hide (fun W hrr EE => printRequest_any q ao k c1 W hk hrr hm ht hb hz hkk EE)
  have HL := hide (fun W EE => live_any W EE)
  have HR := hide hr
  have HR2 := hide hr2
  have HE := hide E
  unfold qAgg at HP
  unfold qAgg sAgg
  have HK2 := hide hk2
  have HNN := hide (And.intro hn0 (And.intro hn1 (And.intro hbb2 (And.intro hz2 hkk2))))
  clear hk hr hm ht hb hz hkk hr2 hk2 hn0 hn1 hz2 hkk2 E
  have HX : Hid (RqB ((w.alloc (.cells #[.string (str q.m), .string (str q.t), .slice ao k c1, .string (str q.b)] 27)).alloc (.cells #[.int .i64 n2, .slice ao2 k2 c2, .string (str b2)] 39)) w.heap.size (.string (str q.m)) (.string (str q.t)) (.slice ao k c1) (.string (str q.b))) := up_at _ (new_at _ _ _ rfl)
  have HY : Hid (RsB ((w.alloc (.cells #[.string (str q.m), .string (str q.t), .slice ao k c1, .string (str q.b)] 27)).alloc (.cells #[.int .i64 n2, .slice ao2 k2 c2, .string (str b2)] 39)) (w.heap.size + 1) (.int .i64 n2) (.slice ao2 k2 c2) (.string (str b2))) := new_at _ _ _ (by simp)
  have HB0 : Hid (Two w ((w.alloc (.cells #[.string (str q.m), .string (str q.t), .slice ao k c1, .string (str q.b)] 27)).alloc (.cells #[.int .i64 n2, .slice ao2 k2 c2, .string (str b2)] 39)) ((w.alloc (.cells #[.string (str q.m), .string (str q.t), .slice ao k c1, .string (str q.b)] 27)).alloc (.cells #[.int .i64 n2, .slice ao2 k2 c2, .string (str b2)] 39))) := ⟨(below_new _ _).alloc (by simp) _, Below.refl _ _⟩
  go_enter Tryz.func10, Tryz.ntmps10
  go_upto_region 1 with fail
  generalize (w.alloc (.cells #[.string (str q.m), .string (str q.t), .slice ao k c1, .string (str q.b)] 27)).alloc (.cells #[.int .i64 n2, .slice ao2 k2 c2, .string (str b2)] 39) = w0 at *
  have HL2 := hide (HL.out w0 (HE.out.keep HB0.out.a))
  go_wp2_with fail
  refine HL2.out.mono ?_
  rintro e w1 ⟨rfl, hb1⟩
  have HB1 := hide (HB0.out.trans hb1)
  have HX1 := hide (HX.out.keep hb1)
  clear hb1 HL2 HX HL
  go_upto_if 28 with fail
  go_cut [2] from 25 (fun s2 w' => w' = w1 ∧ ∃ c : Nat, (c : Int) ≤ 9223372036854775807 ∧ s2 = .int .i64 c)
  case first =>
    by_cases hneg : cut < 0
    · obtain ⟨c, hc⟩ : ∃ c : Nat, -(cut + 1) = (c : Int) := ⟨(-(cut + 1)).toNat, by omega⟩
      have hw1 : IntKind.i64.wrap (cut + 1) = cut + 1 := by rw [IntKind.wrap_i64]; omega
      have hw2 : IntKind.i64.wrap (-(cut + 1)) = (c : Int) := by rw [hc, IntKind.wrap_i64]; omega
      have hcb : (c : Int) ≤ 9223372036854775807 := by omega
      go_wp2_with fail
      go_meet
      case rel => exact ⟨rfl, c, hcb, rfl⟩
    · obtain ⟨c, rfl⟩ : ∃ c : Nat, cut = (c : Int) := ⟨cut.toNat, by omega⟩
      go_wp2_with fail
      go_meet
      case rel => exact ⟨rfl, c, hc1, rfl⟩
  case rest =>
  obtain ⟨rfl, c, hcb, rfl⟩ := hcut
  obtain ⟨x0, x1, x2, x3⟩ := HX1.out.cells
  have HP1 := hide (HP.out wc (HR.out.keep HB1.out.a) (HE.out.keep HB1.out.a))
  obtain ⟨s1, e1, hs1, hcase⟩ := wAns_cases (printReqR q)
  rw [hs1] at HP1
  have HC1 := hide hcase
  clear hs1 hcase HP hc0 hc1
  go_wp2_with fail
  refine HP1.out.mono ?_
  rintro e w2 ⟨rfl, hb2⟩
  have HB2 := hide (HB1.out.trans hb2)
  clear hb2 HP1 HX1 x0 x1 x2 x3 HB1
  go_upto_if 39 with (first | (go_at_call 12; refine num_go _ _ _ ?_) | fail)
  go_cut [8] from 9 (fun s8 w' => s8 = .bool false ∧ Two w w0 w')
  case first =>
    obtain ⟨S, hr, rfl, rfl⟩ | ⟨x, hr, hxe⟩ := HC1.out
    · clear HC1
      obtain ⟨hpp, hSl, hSn⟩ := print_parse hr
      have hS0 : 0 < S.length := List.length_pos_iff.2 hSn
      obtain ⟨eb, hbe⟩ := parseReq_begin hpp (Nat.mod_lt c hS0)
      have hsl := cut_to S (c % S.length) ((c : Int) % (S.length : Int)) (Int.natCast_emod c S.length).symm (Nat.le_of_lt (Nat.mod_lt c hS0))
      have HQ1 := hide (fun W EE => pReqE hbe W (by have := Nat.mod_lt c hS0; rw [List.length_take]; omega) EE)
      have hzS := str_size S
      have hadd := add_strH (x := S) (y := bh) (by omega)
      obtain ⟨kt, hkt⟩ : ∃ kt, kt = S.length := ⟨_, rfl⟩
      rw [← hkt] at hsl hzS HQ1 hS0
      have HSL := hide hSl
      have hktn : ((kt : Int) == 0) = false := by rw [beq_eq_false_iff_ne]; omega
      have hkti : ¬ (kt : Int) = 0 := by omega
      generalize str (S.take (c % kt)) = sc at *
      have HPP := hide hpp
      have HBH := hide hbh
      clear hr hbe hkt hSl hSn hpp hbh
      go_wp2_with fail
      have HQa := hide (HQ1.out w2 (HE.out.keep HB2.out.a))
      refine HQa.out.mono ?_
      rintro e wb ⟨rfl, hne1, hbb⟩
      have HBb := hide (HB2.out.trans hbb)
      have HBb2 := hide (HBb.out.alloc (.cells #[.string { data := #[] }, .string { data := #[] }, .slice none 0 0, .string { data := #[] }] 27))
      have hni : ((eb.1 : Int) == 0) = false := by rw [beq_eq_false_iff_ne]; omega
      clear hbb HQ1 HQa hne1
      go_upto_region 8 with fail
      generalize wb.alloc (.cells #[.string { data := #[] }, .string { data := #[] }, .slice none 0 0, .string { data := #[] }] 27) = wb2 at *
      by_cases hbe : bh = []
      · have hT2 : S ++ bh = S := by rw [hbe, List.append_nil]
        have hee : ((str bh).toList == ([] : List UInt8)) = true := by rw [toList_str, hbe]; rfl
        rw [hT2] at hadd
        have HQc := hide (pReqO HPP.out wb2 (by have := HSL.out; omega) (HE.out.keep HBb2.out.a))
        clear hT2 hbe
        go_wp2_with fail
        refine HQc.out.mono ?_
        rintro e wc ⟨ao, cap, rfl, -, -, hbc⟩
        have HBc := hide (HBb2.out.trans hbc)
        clear hbc HQc
        go_wp2_with (first | (go_at_call 12; refine num_go _ _ _ ?_) | fail)
        go_meet
        case rel => exact ⟨rfl, HBc.out.alloc _⟩
      · have hee : ((str bh).toList == ([] : List UInt8)) = false := by rw [toList_str]; simpa using hbe
        obtain ⟨e2, he2⟩ := parseReq_ext hbe HPP.out
        have HQc := hide (pReqE he2 wb2 (by rw [List.length_append]; have := HSL.out; have := HBH.out; omega) (HE.out.keep HBb2.out.a))
        clear hbe he2
        go_wp2_with fail
        refine HQc.out.mono ?_
        rintro e wc ⟨rfl, hne2, hbc⟩
        have HBc := hide (HBb2.out.trans hbc)
        have hn2 : ((e2.1 : Int) == 0) = false := by rw [beq_eq_false_iff_ne]; omega
        clear hbc HQc hne2
        go_wp2_with (first | (go_at_call 12; refine num_go _ _ _ ?_) | fail)
        go_meet
        case rel => exact ⟨rfl, HBc.out.alloc _⟩
    · clear HC1
      have hx0 : x ≠ 0 := printReq_ne hr
      rw [← hxe] at hx0
      have hxn : ((e1 : Int) == 0) = false := by rw [beq_eq_false_iff_ne]; omega
      clear hr hx0 hxe
      go_wp2_with fail
      go_meet
      case rel => exact ⟨rfl, HB2.out⟩
  case rest =>
  obtain ⟨rfl, hb3⟩ := hcut
  have HB3 := hide hb3
  have HY2 := hide (HY.out.keep HB3.out.b)
  obtain ⟨y0, y1, y2⟩ := HY2.out.cells
  have HP2 := hide (printResponse_any n2 fs2 b2 ao2 k2 c2 wc HK2.out (HR2.out.keep HB3.out.a) HNN.out.1 HNN.out.2.1 hbb2 HNN.out.2.2.2.1 HNN.out.2.2.2.2 (HE.out.keep HB3.out.a))
  unfold sAgg at HP2
  obtain ⟨s2, e2, hs2, hcase2⟩ := wAns_cases (printRespR n2 fs2 b2)
  rw [hs2] at HP2
  have HC2 := hide hcase2
  clear hs2 hcase2 hb3 HB2 HC1
  go_wp2_with fail
  refine HP2.out.mono ?_
  rintro e w4 ⟨rfl, hb4⟩
  have HB4 := hide (HB3.out.trans hb4)
  clear hb4 HP2 HY2 y0 y1 y2 HY HR HR2
  go_upto_if 77 with (first | (go_at_call 12; refine num_go _ _ _ ?_) | fail)
  go_cut [8] from 17 (fun s8 w' => s8 = .bool false ∧ Two w w0 w')
  case first =>
    obtain ⟨T, hr, rfl, rfl⟩ | ⟨x, hr, hxe⟩ := HC2.out
    · clear HC2
      obtain ⟨hpp, hSl, hSn, _, _⟩ := print_parseS hr
      have hS0 : 0 < T.length := List.length_pos_iff.2 hSn
      obtain ⟨eb, hbe⟩ := parseResp_begin hpp (Nat.mod_lt c hS0)
      have hsl := cut_to T (c % T.length) ((c : Int) % (T.length : Int)) (Int.natCast_emod c T.length).symm (Nat.le_of_lt (Nat.mod_lt c hS0))
      have HQ1 := hide (fun W EE => parseResponseE hbe W (by have := Nat.mod_lt c hS0; rw [List.length_take]; omega) EE)
      have hzS := str_size T
      have hadd := add_strH (x := T) (y := bh) (by omega)
      obtain ⟨kt, hkt⟩ : ∃ kt, kt = T.length := ⟨_, rfl⟩
      rw [← hkt] at hsl hzS HQ1 hS0
      have HSL := hide hSl
      have hktn : ((kt : Int) == 0) = false := by rw [beq_eq_false_iff_ne]; omega
      have hkti : ¬ (kt : Int) = 0 := by omega
      generalize str (T.take (c % kt)) = sc at *
      have HPP := hide hpp
      have HBH := hide hbh
      clear hr hbe hkt hSl hSn hpp hbh
      go_wp2_with fail
      have HQa := hide (HQ1.out w4 (HE.out.keep HB4.out.a))
      refine HQa.out.mono ?_
      rintro e wb ⟨rfl, hne1, hbb⟩
      have HBb := hide (HB4.out.trans hbb)
      have HBb2 := hide (HBb.out.alloc (.cells #[.int .i64 0, .slice none 0 0, .string { data := #[] }] 39))
      have hni : ((eb.1 : Int) == 0) = false := by rw [beq_eq_false_iff_ne]; omega
      clear hbb HQ1 HQa hne1
      go_upto_region 14 with fail
      generalize wb.alloc (.cells #[.int .i64 0, .slice none 0 0, .string { data := #[] }] 39) = wb2 at *
      by_cases hbe : bh = []
      · have hT2 : T ++ bh = T := by rw [hbe, List.append_nil]
        have hee : ((str bh).toList == ([] : List UInt8)) = true := by rw [toList_str, hbe]; rfl
        rw [hT2] at hadd
        have HQc := hide (parseResponseO HPP.out wb2 (by have := HSL.out; omega) (HE.out.keep HBb2.out.a))
        clear hT2 hbe
        go_wp2_with fail
        refine HQc.out.mono ?_
        rintro e wc ⟨ao, cap, rfl, -, -, hbc⟩
        have HBc := hide (HBb2.out.trans hbc)
        clear hbc HQc
        go_wp2_with (first | (go_at_call 12; refine num_go _ _ _ ?_) | fail)
        go_meet
        case rel => exact ⟨rfl, HBc.out.alloc _⟩
      · have hee : ((str bh).toList == ([] : List UInt8)) = false := by rw [toList_str]; simpa using hbe
        obtain ⟨e2, he2⟩ := parseResp_ext hbe HPP.out
        have HQc := hide (parseResponseE he2 wb2 (by rw [List.length_append]; have := HSL.out; have := HBH.out; omega) (HE.out.keep HBb2.out.a))
        clear hbe he2
        go_wp2_with fail
        refine HQc.out.mono ?_
        rintro e wc ⟨rfl, hne2, hbc⟩
        have HBc := hide (HBb2.out.trans hbc)
        have hn2 : ((e2.1 : Int) == 0) = false := by rw [beq_eq_false_iff_ne]; omega
        clear hbc HQc hne2
        go_wp2_with (first | (go_at_call 12; refine num_go _ _ _ ?_) | fail)
        go_meet
        case rel => exact ⟨rfl, HBc.out.alloc _⟩
    · clear HC2
      have hx0 : x ≠ 0 := printResp_ne hr
      rw [← hxe] at hx0
      have hxn : ((e2 : Int) == 0) = false := by rw [beq_eq_false_iff_ne]; omega
      clear hr hx0 hxe
      go_wp2_with fail
      go_meet
      case rel => exact ⟨rfl, HB4.out⟩
  case rest =>
  obtain ⟨rfl, hb5⟩ := hcut
  go_wp2_with fail
  go_ret
  exact ⟨rfl, hb5.a⟩
end Go.Proofs.YtaenccjlokiejaaGreatDoor
