/- The document's Parse: every registry's text; it says what the program's says. -/
import Derived.Test.YtjehbdekipmllaaGreatDoorLDLine
import Derived.Test.YtjehbdekipmllaaGreatDoorLDParM
namespace Go.Proofs.YtjehbdekipmllaaGreatDoor
open Go.RowKit

def RPEnd (w : World) (R : List Cl × Nat × Nat) (e : Ending) (w' : World) : Prop := ∃ v, e = .returned (.tuple #[v, .int .i64 (R.2.1 : Int), .int .i64 (R.2.2 : Int)]) ∧ DOwnF w' w.heap.size v R.1 ∧ Below w.heap.size w w'
set_option linter.unusedSimpArgs false in
set_option maxHeartbeats 8000000 in
set_option maxRecDepth 100000 in
theorem rclParse_any (s : ByteArray) (w : World) (hs : s.size ≤ 9223372036854775807) :
    Calls Tryz.prog 7 #[.string s] w fun e w' => True ∧ RPEnd w (parR s.data.toList) e w' := by
  obtain ⟨i0, hi, hz0, hz1, hz2⟩ := info_parts infoR
  obtain ⟨R, HR⟩ : ∃ R, Hid (R = parR s.data.toList) := ⟨_, hide rfl⟩
  rw [← HR.out]
  by_cases hsz : s.size ≤ 65536
  rotate_left
  · have hszi : (65536 : Int) < (s.size : Int) := by omega
    have HR2 : Hid (R = ([], 1, 0)) := by show _ = _; rw [HR.out]; unfold parR; rw [if_pos (by simp; omega)]
    clear HR
    go_enter Tryz.func7, Tryz.ntmps7
    go_wp2
    go_ret3
    refine (fun h => by first | exact ⟨trivial, h⟩ | exact h) (?_ : RPEnd w R _ _)
    rw [HR2.out]
    exact ⟨.slice none 0 0, rfl, downf_nil _ _, Below.refl _ _⟩
  have hszi : (s.size : Int) ≤ 65536 := by omega
  have hszn : ¬ (65536 : Int) < (s.size : Int) := by omega
  have HRE : Hid (LpIn s.data.toList R [] 0 0 0) := lp_start (by rw [HR.out]; unfold parR; rw [if_neg (by simp; omega)])
  clear HR hs
  go_enter Tryz.func7, Tryz.ntmps7
  go_wp2
  go_loopw [5, 6, 7, 8] (fun v kn fr i wr => ∃ (a : List Cl) (ao : Option Addr) (n cap k f j : Nat), (n ≤ 256 ∧ k ≤ j ∧ j ≤ s.size + 1 ∧ f ≤ j) ∧ v = .slice ao n cap ∧ kn = .int .i64 (k : Int) ∧ fr = .int .i64 (f : Int) ∧ i = .int .i64 (j : Int) ∧ Hid (n = a.length) ∧ Hid (LpIn s.data.toList R a k f j) ∧ Hid (DOwnF wr w.heap.size (.slice ao n cap) a) ∧ Hid (Below w.heap.size w wr)) (fun _ _ _ i _ => s.size + 1 - (intOf i).toNat)
  case atStart => exact ⟨[], none, 0, 0, 0, 0, 0, ⟨by omega, by omega, by omega, by omega⟩, rfl, rfl, rfl, rfl, rfl, HRE, downf_nil _ _, Below.refl _ _⟩
  case round =>
    obtain ⟨a, ao, n, cap, k, f, j, ⟨hn, hkj, hj, hfj⟩, rfl, rfl, rfl, rfl, HNA, HLP, HOW, HBW⟩ := hrel
    have hsr := HBW.out.size
    by_cases hje : j = s.size + 1
    · have hji : ¬ (j : Int) ≤ (s.size : Int) := by omega
      have HR2 : Hid (R = (a, 0, 0)) := HLP.out.2 (by simpa using hje)
      clear hje HLP
      go_wp2
      go_ret3
      refine (fun h => by first | exact ⟨trivial, h⟩ | exact h) (?_ : RPEnd w R _ _)
      rw [HR2.out]
      exact ⟨.slice ao n cap, rfl, HOW.out, HBW.out⟩
    have hjs : j ≤ s.size := by omega
    have hji : (j : Int) ≤ (s.size : Int) := by omega
    clear hje hj
    by_cases hA : ∃ h : j < s.size, s[j].toNat ≠ 10
    · obtain ⟨hlt, h10⟩ := hA
      have hlti : (j : Int) < (s.size : Int) := by omega
      have h10i : ¬ (s[j].toNat : Int) = 10 := by omega
      have h10b : (((s[j].toNat : Int)) == 10) = false := by simpa using h10i
      have h10n : (((s[j].toNat : Int)) != 10) = true := by rw [bne, h10b]; rfl
      have HLQ : Hid (LpIn s.data.toList R a k f (j + 1)) := lp_go HLP.out hfj (x := s[j]) (by rw [List.getElem?_eq_getElem (by simpa using hlt)]; rfl) (fun e => h10 (by rw [e]; rfl))
      clear h10 HLP
      go_wp2
      go_roundw
      case rel => exact ⟨a, ao, n, cap, k, f, j + 1, ⟨hn, by omega, by omega, by omega⟩, rfl, rfl, rfl, by go_num, HNA, HLQ, HOW, HBW⟩
      case measure => simp [intOf]; omega
    have h10 : j < s.data.toList.length → s.data.toList[j]? = some 10 := fun h => by
      have hlt : j < s.size := by simpa using h
      have h1 : s[j].toNat = 10 := by
        refine Classical.byContradiction fun h2 => hA ⟨hlt, h2⟩
      rw [List.getElem?_eq_getElem h]
      have : s[j] = 10 := UInt8.toNat_inj.1 h1
      exact congrArg some this
    obtain ⟨rest, hRr, hnx⟩ := lp_cut HLP.out (by simpa using hjs) hfj h10
    have hsl : (s.extract f j).size ≤ 65536 := by have := extract_le s f j; omega
    have HRS : Hid (R = if nothingB (s.extract f j) = true then pRun rest (k + 1) a else if nextErr a (s.extract f j) = 0 then pRun rest (k + 1) (a ++ [clOf (s.extract f j)]) else ([], nextErr a (s.extract f j), k + 1)) := by
      show _ = _
      rw [extract_list s f j]; exact hRr
    have HNX := hide hnx
    have hfi : (f : Int) ≤ (j : Int) := by omega
    have hk1 : (k : Int) + 1 ≤ 65538 := by omega
    clear hRr hnx HLP h10
    by_cases hlt : j < s.size
    case' pos =>
      have h10 : s[j].toNat = 10 := by
        refine Classical.byContradiction fun h2 => hA ⟨hlt, h2⟩
      have hlti : (j : Int) < (s.size : Int) := by omega
      have h10i : (s[j].toNat : Int) = 10 := by omega
      have h10b : (((s[j].toNat : Int)) == 10) = true := by simpa using h10i
      have h10n : (((s[j].toNat : Int)) != 10) = false := by rw [bne, h10b]; rfl
      clear hA
      go_upto_region 11 with fail
      clear h10 h10i h10b h10n
    case' neg =>
      have hlti : ¬ (j : Int) < (s.size : Int) := by omega
      clear hA
      go_upto_region 11 with fail
    all_goals
      clear hlti hlt hfi
      generalize s.extract f j = sb at *
      have HREL : ∀ (b : List Cl) (bo : Option Addr) (m c : Nat) (W : World), m ≤ 256 → m = b.length → R = pRun rest (k + 1) b → DOwnF W w.heap.size (.slice bo m c) b → Below w.heap.size w W → ∃ (a : List Cl) (ao : Option Addr) (n cap k2 f2 j2 : Nat), (n ≤ 256 ∧ k2 ≤ j2 ∧ j2 ≤ s.size + 1 ∧ f2 ≤ j2) ∧ Value.slice bo m c = .slice ao n cap ∧ Value.int .i64 ((k : Int) + 1) = .int .i64 (k2 : Int) ∧ Value.int .i64 ((j : Int) + 1) = .int .i64 (f2 : Int) ∧ Value.int .i64 ((j : Int) + 1) = .int .i64 (j2 : Int) ∧ Hid (n = a.length) ∧ Hid (LpIn s.data.toList R a k2 f2 j2) ∧ Hid (DOwnF W w.heap.size (.slice ao n cap) a) ∧ Hid (Below w.heap.size w W) := fun b bo m c W h1 h2 h3 h4 h5 => ⟨b, bo, m, c, k + 1, j + 1, j + 1, ⟨h1, by omega, by omega, by omega⟩, rfl, by push_cast; rfl, by push_cast; rfl, by push_cast; rfl, h2, HNX.out b h3, h4, h5⟩
      have HREL' := hide HREL
      clear HREL
      by_cases hno : nothingB sb = true
      · have HR2 : Hid (R = pRun rest (k + 1) a) := by show _ = _; rw [HRS.out, if_pos hno]
        clear HRS
        by_cases h0 : sb.size = 0
        · have he : sb = { data := #[] } := empty_of h0
          subst he
          clear h0 hno hsl
          go_wp2
          go_roundw
          case rel => exact HREL'.out a ao n cap _ hn HNA.out HR2.out HOW.out HBW.out
          case measure => simp [intOf]; omega
        · obtain ⟨hlt0, hne, h35⟩ := nothing_at h0
          rw [hno] at h35
          have hnn : (sb.toList != ([] : List UInt8)) = true := by rw [bne, hne]; rfl
          have h35b : (((sb[0].toNat : Int)) == 35) = true := h35
          have h35i : (sb[0].toNat : Int) = 35 := by simpa using h35b
          clear h0 hno
          go_wp2
          go_roundw
          case rel => exact HREL'.out a ao n cap _ hn HNA.out HR2.out HOW.out HBW.out
          case measure => simp [intOf]; omega
      · have h0 : ¬ sb.size = 0 := fun h => hno (by rw [empty_of h]; rfl)
        obtain ⟨hlt0, hne, h35⟩ := nothing_at h0
        have hnof : nothingB sb = false := by simpa using hno
        rw [hnof] at h35
        have hnn : (sb.toList != ([] : List UInt8)) = true := by rw [bne, hne]; rfl
        have h35b : (((sb[0].toNat : Int)) == 35) = false := h35
        have h35i : ¬ (sb[0].toNat : Int) = 35 := by simpa using h35b
        have HRT : Hid (R = if nextErr a sb = 0 then pRun rest (k + 1) (a ++ [clOf sb]) else ([], nextErr a sb, k + 1)) := by show _ = _; rw [HRS.out, if_neg hno]
        have HLC := hide (rline_any sb wr (by omega))
        obtain ⟨Q, hQ⟩ : ∃ Q, Q = lineR (sbytes sb) := ⟨_, rfl⟩
        have HER : Hid (nextErr a sb = nextE a Q) := by show _ = _; rw [hQ]; rfl
        have HCO : Hid (clOf sb = Q.getD zeroCl) := by show _ = _; rw [hQ]; rfl
        rw [← hQ] at HLC
        clear h0 hno hnof HRS hQ
        go_wp2_with fail
        refine HLC.out.mono ?_
        rintro e w4 ⟨-, q, so, m, cp, rfl, hq, hsat, hfar, hb4⟩
        have HSAT := hide hsat
        have HFAR : Hid (∀ a, so = some a → w.heap.size ≤ a.block) := fun a ha => by have := hfar a ha; omega
        have HB4 := hide (HBW.out.trans (hb4.mono hsr))
        have HO4 := hide (HOW.out.keep hb4)
        have HQ : Hid (Q.getD zeroCl = q) := hq
        clear hq hsat hfar hb4 HLC HOW HBW hsr h35 h35b h35i hne hnn hsl
        have hs4 := HB4.out.size
        have HBX : Hid (Below w4.heap.size w4 (w4.alloc (.cells #[.string q.id, .string q.secret, .int .i64 q.grants, .bool q.ping, .string q.url, .slice so m cp] 50))) := below_new w4 _
        have HD5 : Hid (D6 (w4.alloc (.cells #[.string q.id, .string q.secret, .int .i64 q.grants, .bool q.ping, .string q.url, .slice so m cp] 50)) w4.heap.size (.string q.id) (.string q.secret) (.int .i64 q.grants) (.bool q.ping) (.string q.url) (.slice so m cp)) := heap_alloc_new w4 _
        go_upto_region 15 with fail
        generalize (w4.alloc (.cells #[.string q.id, .string q.secret, .int .i64 q.grants, .bool q.ping, .string q.url, .slice so m cp] 50)) = w5 at *
        have HB5 := hide (HB4.out.trans (HBX.out.mono hs4))
        have HO5 := hide (HO4.out.keep HBX.out)
        have HS5 := hide (HSAT.out.keep HBX.out)
        have hN5 := HD5.out.lt
        generalize w4.heap.size = g4 at *
        clear HO4 HSAT HBX HB4
        cases Q with
        | none =>
          have HR2 : Hid (R = ([], 110, k + 1)) := by show _ = _; rw [HRT.out, HER.out, if_neg (show ¬ nextE a none = 0 from (by decide : ¬ (110 : Nat) = 0))]; rfl
          rw [show (none : Option Cl).isSome = false from rfl]
          clear HRT HER HCO
          go_wp2
          go_ret3
          refine (fun h => by first | exact ⟨trivial, h⟩ | exact h) (?_ : RPEnd w R _ _)
          rw [HR2.out]
          exact ⟨.slice none 0 0, by go_num, downf_nil _ _, HB5.out⟩
        | some c0 =>
          obtain rfl : c0 = q := HQ.out
          rw [show (some c0 : Option Cl).isSome = true from rfl]
          have HRW : Hid (CRow w5 ao a) := by
            obtain ⟨x, y, e, _, h, _⟩ := HO5.out.own.shape
            cases e; exact h
          have HFC := hide (rfind_any n cap ao a c0.id w5 HNA.out (by omega) HRW.out)
          obtain ⟨P, hP⟩ : ∃ P, P = findR a c0.id := ⟨_, rfl⟩
          have HER2 : Hid (nextErr a sb = if P.isSome = true then 8 else if a.length = 256 then 32 else 0) := by show _ = _; rw [HER.out, hP, find_pos]; rfl
          have HCO2 : Hid (clOf sb = c0) := HCO
          rw [← hP] at HFC
          obtain ⟨d0, d1, d2, d3, d4, d5⟩ := HD5.out.cells
          clear HER HCO HQ hP HRW
          go_wp2_with fail
          refine HFC.out.mono ?_
          rintro e w6 ⟨-, q2, so2, m2, cp2, rfl, -, -, hb6⟩
          have hs5 := HB5.out.size
          have hs6 := hb6.size
          have HBY : Hid (Below w6.heap.size w6 (w6.alloc (.cells #[.string q2.id, .string q2.secret, .int .i64 q2.grants, .bool q2.ping, .string q2.url, .slice so2 m2 cp2] 50))) := below_new w6 _
          have HB6 : Hid (Below w.heap.size w (w6.alloc (.cells #[.string q2.id, .string q2.secret, .int .i64 q2.grants, .bool q2.ping, .string q2.url, .slice so2 m2 cp2] 50))) := (HB5.out.trans (hb6.mono hs5)).trans (HBY.out.mono (by omega))
          have HO6 := hide ((HO5.out.keep hb6).keep HBY.out)
          have HS6 := hide ((HS5.out.keep hb6).keep HBY.out)
          have HD6 := hide ((HD5.out.keep hb6 hN5).keep HBY.out (by omega))
          clear d0 d1 d2 d3 d4 d5 hb6 HB5 HO5 HS5 HD5 HFC
          go_upto_region 18 with fail
          generalize (w6.alloc (.cells #[.string q2.id, .string q2.secret, .int .i64 q2.grants, .bool q2.ping, .string q2.url, .slice so2 m2 cp2] 50)) = w7 at *
          have hs7 := HB6.out.size
          clear HBY
          cases P with
          | some p =>
            have HR2 : Hid (R = ([], 8, k + 1)) := by show _ = _; rw [HRT.out, HER2.out]; rfl
            rw [show (some p : Option Cl).isSome = true from rfl]
            clear HRT HER2
            go_wp2
            go_ret3
            refine (fun h => by first | exact ⟨trivial, h⟩ | exact h) (?_ : RPEnd w R _ _)
            rw [HR2.out]
            exact ⟨.slice none 0 0, by go_num, downf_nil _ _, HB6.out⟩
          | none =>
            rw [show (none : Option Cl).isSome = false from rfl]
            by_cases h256 : n = 256
            · have HR2 : Hid (R = ([], 32, k + 1)) := by
                have h3 : nextErr a sb = 32 := by rw [HER2.out, if_neg (by decide), if_pos (by rw [← HNA.out]; exact h256)]
                show _ = _
                rw [HRT.out, h3]; rfl
              have h256b : ((n : Int) == 256) = true := by simp [h256]
              have h256i : (n : Int) = 256 := by omega
              clear HRT HER2 h256
              go_wp2
              go_ret3
              refine (fun h => by first | exact ⟨trivial, h⟩ | exact h) (?_ : RPEnd w R _ _)
              rw [HR2.out]
              exact ⟨.slice none 0 0, by go_num, downf_nil _ _, HB6.out⟩
            · have HR2 : Hid (R = pRun rest (k + 1) (a ++ [c0])) := by
                have h3 : nextErr a sb = 0 := by rw [HER2.out, if_neg (by decide), if_neg (by rw [← HNA.out]; exact h256)]
                show _ = _
                rw [HRT.out, if_pos h3, HCO2.out]
              have h256b : ((n : Int) == 256) = false := by simp; omega
              have h256i : ¬ (n : Int) = 256 := by omega
              have hn2 : n + 1 ≤ 256 := by omega
              clear HRT HER2 HCO2 h256
              obtain ⟨d0, d1, d2, d3, d4, d5⟩ := HD6.out.cells
              have HBZ : Hid (Below w7.heap.size w7 (w7.alloc (.cells #[.string c0.id, .string c0.secret, .int .i64 c0.grants, .bool c0.ping, .string c0.url, .slice so m cp] 50))) := below_new w7 _
              have HD8 : Hid (D6 (w7.alloc (.cells #[.string c0.id, .string c0.secret, .int .i64 c0.grants, .bool c0.ping, .string c0.url, .slice so m cp] 50)) w7.heap.size (.string c0.id) (.string c0.secret) (.int .i64 c0.grants) (.bool c0.ping) (.string c0.url) (.slice so m cp)) := heap_alloc_new w7 _
              have hsz7 := HBZ.out.size
              go_wp2_with (first | (at_builtin; refine wpList_append_rclientF (i0 := i0) rfl (.tmp 69) (.tmp 71) rfl hi hz0 hz1 hz2 w.heap.size _ a c0 so m cp rfl (HO6.out.keep HBZ.out) w7.heap.size rfl HD8.out (HS6.out.keep HBZ.out) HFAR.out (by rw [← HNA.out]; omega) (by omega) ?_))
              intro v' w9 hown9 hgr9
              obtain ⟨ao', cap', hv', _, _, _⟩ := hown9.own.shape
              have hlen : (a ++ [c0]).length = n + 1 := by rw [List.length_append, ← HNA.out]; rfl
              rw [hlen] at hv'
              subst hv'
              have HO9 := hide hown9
              have HB9 : Hid (Below w.heap.size w w9) := (HB6.out.trans (HBZ.out.mono (by omega))).grown hgr9 (by omega) (fun x hx => by
                obtain ⟨_, ho, _⟩ := HO6.out.own
                exact (World.ownsRow.lt ho x hx).1)
              have HLE := hide hlen.symm
              clear hown9 hgr9 hlen d0 d1 d2 d3 d4 d5
              go_wp2
              go_roundw
              case rel => exact HREL'.out (a ++ [c0]) ao' (n + 1) cap' _ hn2 HLE.out HR2.out HO9.out HB9.out
              case measure => simp [intOf]; omega
end Go.Proofs.YtjehbdekipmllaaGreatDoor
