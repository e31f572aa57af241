/- The document's said: the line of every client that Check takes. -/
import Derived.Test.YtjehbdekipmllaaGreatDoorLPrP
import Derived.Test.YtjehbdekipmllaaGreatDoorLJoin
import Derived.Test.YtjehbdekipmllaaGreatDoorLLaws
import Derived.Test.YtjehbdekipmllaaGreatDoorXRPr
import Derived.Deep.RegionHeldLaw
import Derived.Deep.RegionHeld3
namespace Go.Proofs.YtjehbdekipmllaaGreatDoor
open Go.RowKit

theorem infoRPr : (Tryz.prog.info? 92).map (fun i => (i.zero, i.size, i.bytes)) = some (some (.agg #[.string { data := #[] }, .string { data := #[] }]), 2, 32) := by kernel_rfl
theorem law_appR {w : World} {ops : Array Oper} {o : Oper} {a : Act} {K : Act → World → Prop} {Q : Exit → Act → World → Prop} {E : Prop} {i0 : TypeInfo} (hgd : o.guard = none) (s x : Operand)
    (ho : o.op = .call { callee := .builtin .append, args := #[s, x], argTypes := #[88, 88] }) (hi : Tryz.prog.info? 92 = some i0) (hz0 : i0.zero = some (.agg #[.string { data := #[] }, .string { data := #[] }])) (hz1 : i0.size = 2) (hz2 : i0.bytes = 32)
    (B : Nat) (v : Value) (l : List Two) (q : Two) (hs : a.eval s = v) (hown : POwn 92 w B v l)
    (ad : Addr) (hx : a.eval x = .slice (some ad) 1 1) (hr : PRow w (some ad) [q]) (hsz : (l.length + 1) * 32 ≤ 140737488355328) (hB : B ≤ w.heap.size)
    (h : ∀ fo fc w', POwn 92 w' B (.slice fo (l.length + 1) fc) (l ++ [q]) → w.grownBy w' v.ownBlock → K (a.put o.dst (.slice fo (l.length + 1) fc)) w') : if Region.wanted o (yielded ops a.tmps) = true then Oper.wp Tryz.prog o a w K Q else E := by
  rw [if_pos (by simp [Region.wanted, hgd])]
  obtain ⟨v', w', hrun, h1, h2⟩ := run_append_pairs (l := l) (r := [q]) Tryz.underlying88 hi hz0 hz1 hz2 hown (some ad) 1 hr (by simpa using hsz) hB o.type
  obtain ⟨fo, fc, e2, _⟩ := h1.shape
  rw [List.length_append] at e2
  subst e2
  have hrun2 : (Builtin.append_ #[88, 88] o.type #[v, .slice (some ad) 1 1]).run Tryz.prog w = .ok (.slice fo (l.length + [q].length) fc) w' := hrun
  unfold Oper.wp
  simp [execOp, ho, resolve, invoke, builtin, hs, hx, hrun2, Result.andThen]
  exact h fo fc w' h1 h2
theorem val_six (c : Cl) : valOf c (nmOf 0) = c.id ∧ valOf c (nmOf 1) = c.secret ∧ valOf c (nmOf 2) = gText c.grants ∧ valOf c (nmOf 3) = pText c.ping ∧ valOf c (nmOf 4) = c.url ∧ valOf c (nmOf 5) = ⟨(joinS c.scopes).toArray⟩ := ⟨rfl, rfl, rfl, rfl, rfl, rfl⟩
theorem prow_oneR (w : World) (a b : ByteArray) : PRow (w.alloc (.cells #[.string a, .string b] 92)) (some ⟨w.heap.size, 0, none⟩) [(sbytes a, sbytes b)] := by
  refine .inr ⟨_, _, rfl, fun i q hi => ?_⟩
  match i, hi with
  | 0, hi =>
    simp at hi
    subst hi
    have h := heap_alloc_new w (.cells #[.string a, .string b] 92)
    exact ⟨by rw [bstr_sbytes, cell_of_row _ _ _ _ _ _ h]; rfl, by rw [bstr_sbytes, cell_of_row _ _ _ _ _ _ h]; rfl⟩
/-- Six texts in a block. -/
theorem six_cells {w : World} {g : Nat} {U : Nat → ByteArray} (h : w.heap[g]? = some (.cells #[.string (U 0), .string (U 1), .string (U 2), .string (U 3), .string (U 4), .string (U 5)] 9 (0, 0))) : ∀ k, k < 6 → w.cell? ⟨g, k, none⟩ = some (.string (U k)) := by
  intro k hk
  rw [cell_of_row w g k _ _ _ h]
  rcases (show k = 0 ∨ k = 1 ∨ k = 2 ∨ k = 3 ∨ k = 4 ∨ k = 5 by omega) with rfl | rfl | rfl | rfl | rfl | rfl <;> rfl
set_option linter.unusedSimpArgs false in
set_option maxHeartbeats 4000000 in
set_option maxRecDepth 100000 in
theorem said_any (c : Cl) (hc : ClOk c) (so : Option Addr) (n cp : Nat) (w : World) (hs : SAt w so n cp c.scopes) :
    Calls Tryz.prog 34 #[.agg #[.string c.id, .string c.secret, .int .i64 c.grants, .bool c.ping, .string c.url, .slice so n cp]] w fun e w' => e = .returned (.string (bstr (lineT c))) ∧ Below w.heap.size w w' := by
  have HC := hide hc
  obtain ⟨i0, hi, hz0, hz1, hz2⟩ := info_parts infoRPr
  obtain ⟨kg, hkg, hgr⟩ : ∃ kg : Nat, kg < 4 ∧ c.grants = (kg : Int) := by
    rcases hc.gr with e | e | e
    · exact ⟨1, by omega, by rw [e]; rfl⟩
    · exact ⟨2, by omega, by rw [e]; rfl⟩
    · exact ⟨3, by omega, by rw [e]; rfl⟩
  have HGT : Hid (∀ (W : World) (g : Nat), W.heap[g]? = some (.cells #[.string { data := #[] }, .string { data := #[100, 101, 118, 105, 99, 101] }, .string { data := #[99, 105, 98, 97] }, .string { data := #[99, 105, 98, 97, 32, 100, 101, 118, 105, 99, 101] }] 9 (0, 0)) → W.cell? ⟨g, kg, none⟩ = some (.string (gText c.grants))) := fun W g h => by
    rw [cell_of_row W g kg _ _ _ h, hgr]
    rcases (show kg = 0 ∨ kg = 1 ∨ kg = 2 ∨ kg = 3 by omega) with rfl | rfl | rfl | rfl <;> rfl
  obtain ⟨U, hU⟩ : ∃ U : Nat → ByteArray, U = fun k => valOf c (nmOf k) := ⟨_, rfl⟩
  have HU := hide hU
  obtain ⟨u0, u1, u2, u3, u4, u5⟩ := val_six c
  have HUV : Hid (c.id = U 0 ∧ c.secret = U 1 ∧ gText c.grants = U 2 ∧ pText c.ping = U 3 ∧ c.url = U 4 ∧ (⟨(joinS c.scopes).toArray⟩ : ByteArray) = U 5) := by rw [hU]; exact ⟨u0.symm, u1.symm, u2.symm, u3.symm, u4.symm, u5.symm⟩
  have HB0 : Hid (Below w.heap.size w (w.alloc (.cells #[.string c.id, .string c.secret, .int .i64 c.grants, .bool c.ping, .string c.url, .slice so n cp] 50))) := below_new w _
  have HD0 : Hid (D6 (w.alloc (.cells #[.string c.id, .string c.secret, .int .i64 c.grants, .bool c.ping, .string c.url, .slice so n cp] 50)) w.heap.size (.string c.id) (.string c.secret) (.int .i64 c.grants) (.bool c.ping) (.string c.url) (.slice so n cp)) := heap_alloc_new w _
  have HS0 := hide (hs.keep HB0.out)
  clear hU u0 u1 u2 u3 u4 u5 hc hs
  rw [hgr] at HB0 HD0 HS0 ⊢
  go_enter Tryz.func34, Tryz.ntmps34
  go_upto_region 1 with fail
  generalize (w.alloc (.cells #[.string c.id, .string c.secret, .int .i64 (kg : Int), .bool c.ping, .string c.url, .slice so n cp] 50)) = w1 at *
  have hs1 := HB0.out.size
  have HA1 : Hid ((w1.alloc (.cells #[.string { data := #[] }, .string { data := #[100, 101, 118, 105, 99, 101] }, .string { data := #[99, 105, 98, 97] }, .string { data := #[99, 105, 98, 97, 32, 100, 101, 118, 105, 99, 101] }] 9)).heap[w1.heap.size]? = some (.cells #[.string { data := #[] }, .string { data := #[100, 101, 118, 105, 99, 101] }, .string { data := #[99, 105, 98, 97] }, .string { data := #[99, 105, 98, 97, 32, 100, 101, 118, 105, 99, 101] }] 9 (0, 0))) := heap_alloc_new w1 _
  have HB2 : Hid (Below w1.heap.size w1 (w1.alloc (.cells #[.string { data := #[] }, .string { data := #[100, 101, 118, 105, 99, 101] }, .string { data := #[99, 105, 98, 97] }, .string { data := #[99, 105, 98, 97, 32, 100, 101, 118, 105, 99, 101] }] 9))) := below_new w1 _
  go_upto_region 2 with fail
  generalize (w1.alloc (.cells #[.string { data := #[] }, .string { data := #[100, 101, 118, 105, 99, 101] }, .string { data := #[99, 105, 98, 97] }, .string { data := #[99, 105, 98, 97, 32, 100, 101, 118, 105, 99, 101] }] 9)) = w2 at *
  have hs2 := HB2.out.size
  have cg := HGT.out w2 _ HA1.out
  have HD2 := hide (HD0.out.keep HB2.out HD0.out.lt)
  have HS2 := hide (HS0.out.keep HB2.out)
  obtain ⟨d0, d1, d2, d3, d4, d5⟩ := HD2.out.cells
  obtain ⟨e0, e1, e2, e3, e4, e5⟩ := HUV.out
  rw [e0] at d0
  rw [e1] at d1
  rw [e2] at cg
  rw [e4] at d4
  obtain ⟨pg, hpg⟩ : ∃ pg, pg = c.ping := ⟨_, rfl⟩
  rw [← hpg] at d3 e3
  have HJ : Hid (∀ W, Below w2.heap.size w2 W → Calls Tryz.prog 65 #[.slice so n cp] W fun e w' => e = .returned (.string (U 5)) ∧ w' = W) := fun W hW => by
    have h := joined_any n cp so c.scopes W HS2.out.1 (by have := HC.out.few; have := HS2.out.1; omega) (by have := HC.out.sco; omega) (HS2.out.keep hW).2.2.1
    rw [e5] at h
    exact h
  have HE3 := hide e3
  have HBW2 : Hid (Below w.heap.size w w2) := HB0.out.trans (HB2.out.mono hs1)
  have hNw := HD0.out.lt
  have HN5 : Hid ((w2.alloc (.cells #[.string { data := #[105, 100] }, .string { data := #[115, 101, 99, 114, 101, 116] }, .string { data := #[103, 114, 97, 110, 116, 115] }, .string { data := #[112, 105, 110, 103] }, .string { data := #[117, 114, 108] }, .string { data := #[115, 99, 111, 112, 101] }] 9)).heap[w2.heap.size]? = some (.cells #[.string { data := #[105, 100] }, .string { data := #[115, 101, 99, 114, 101, 116] }, .string { data := #[103, 114, 97, 110, 116, 115] }, .string { data := #[112, 105, 110, 103] }, .string { data := #[117, 114, 108] }, .string { data := #[115, 99, 111, 112, 101] }] 9 (0, 0))) := heap_alloc_new w2 _
  have HB5 : Hid (Below w2.heap.size w2 (w2.alloc (.cells #[.string { data := #[105, 100] }, .string { data := #[115, 101, 99, 114, 101, 116] }, .string { data := #[103, 114, 97, 110, 116, 115] }, .string { data := #[112, 105, 110, 103] }, .string { data := #[117, 114, 108] }, .string { data := #[115, 99, 111, 112, 101] }] 9))) := below_new w2 _
  clear e0 e1 e2 e3 e4 e5 hpg HUV
  obtain ⟨U3, hU3⟩ : ∃ x, x = U 3 := ⟨_, rfl⟩
  have HP3 : Hid (pText pg = U3) := by show _ = _; rw [hU3]; exact HE3.out
  clear HE3
  cases pg
  case' false =>
    have HP4 : Hid (({ data := #[] } : ByteArray) = U3) := HP3.out
    go_upto_region 5 with fail
  case' true =>
    have HP4 : Hid (({ data := #[121, 101, 115] } : ByteArray) = U3) := HP3.out
    go_upto_region 5 with fail
  all_goals
    have hp4 := HP4.out
    rw [hp4]
    clear HP4 HP3 hp4
    go_upto_region 6 with fail
    generalize (w2.alloc (.cells #[.string { data := #[105, 100] }, .string { data := #[115, 101, 99, 114, 101, 116] }, .string { data := #[103, 114, 97, 110, 116, 115] }, .string { data := #[112, 105, 110, 103] }, .string { data := #[117, 114, 108] }, .string { data := #[115, 99, 111, 112, 101] }] 9)) = w5 at *
    have hs5 := HB5.out.size
    have cg5 := cell_kept cg HB5.out
    have b0 := cell_kept d0 HB5.out
    have b1 := cell_kept d1 HB5.out
    have b4 := cell_kept d4 HB5.out
    have b5 := cell_kept d5 HB5.out
    have b2 := cell_kept d2 HB5.out
    have hgi : (0 : Int) ≤ (kg : Int) := by omega
    have hg4 : (kg : Int) < 4 := by omega
    clear d0 d1 d2 d3 d4 d5 cg
    have HJ5 : ∀ W, Below w5.heap.size w5 W → Calls Tryz.prog 65 #[.slice so n cp] W fun e w' => e = .returned (.string (U 5)) ∧ w' = W := fun W hW => HJ.out W (HB5.out.trans (hW.mono hs5))
    have HJ6 := hide HJ5
    clear HJ5
    go_region_held3 (fun W => W.cell? ⟨w.heap.size, 0, none⟩ = some (.string (U 0)) ∧ W.cell? ⟨w.heap.size, 1, none⟩ = some (.string (U 1)) ∧ W.cell? ⟨w.heap.size, 2, none⟩ = some (.int .i64 (kg : Int)) ∧ W.cell? ⟨w.heap.size, 4, none⟩ = some (.string (U 4)) ∧ W.cell? ⟨w.heap.size, 5, none⟩ = some (.slice so n cp) ∧ W.cell? ⟨w1.heap.size, kg, none⟩ = some (.string (U 2))) (go_keep) (first | (go_at_call 65; refine (HJ6.out _ (below_drewN (Below.refl _ _) 1)).mono ?_; rintro e wx ⟨rfl, hwx⟩; have hwy := hwx.symm; subst hwy; clear hwx))
    clear b0 b1 b2 b4 b5 cg5
    have HB6 : Hid (Below w5.heap.size w5 ((w5.drewN 1).alloc (.cells #[.string (U 0), .string (U 1), .string (U 2), .string (U 3), .string (U 4), .string (U 5)] 9))) := Below.alloc (below_drewN (Below.refl _ _) 1) (Nat.le_refl _) _
    have HV6 : Hid (((w5.drewN 1).alloc (.cells #[.string (U 0), .string (U 1), .string (U 2), .string (U 3), .string (U 4), .string (U 5)] 9)).heap[w5.heap.size]? = some (.cells #[.string (U 0), .string (U 1), .string (U 2), .string (U 3), .string (U 4), .string (U 5)] 9 (0, 0))) := heap_alloc_new (w5.drewN 1) _
    generalize ((w5.drewN 1).alloc (.cells #[.string (U 0), .string (U 1), .string (U 2), .string (U 3), .string (U 4), .string (U 5)] 9)) = w6 at *
    have hs6 := HB6.out.size
    have HBW6 : Hid (Below w.heap.size w w6) := (HBW2.out.trans (HB5.out.mono (by omega))).trans (HB6.out.mono (by omega))
    have HCV : Hid (∀ k, k < 6 → w6.cell? ⟨w5.heap.size, k, none⟩ = some (.string (U k))) := six_cells HV6.out
    have HCN : Hid (∀ k, k < 6 → w6.cell? ⟨w2.heap.size, k, none⟩ = some (.string (nmOf k))) := fun k hk => cell_kept (six_cells (U := nmOf) HN5.out k hk) HB6.out
    have HLP : Hid (∀ k, k < 6 → lnPre c (k + 1) = lnPre c k ++ (if (U k).size = 0 then [] else [(sbytes (nmOf k), sbytes (U k))])) := fun k _ => by rw [HU.out]; rfl
    have HUS : Hid (∀ k, (U k).size ≤ 16384) := fun k => by rw [HU.out]; exact val_size HC.out _
    generalize w5.heap.size = g6 at *
    generalize w2.heap.size = g5 at *
    clear HN5 HV6 HJ HJ6 HB6 HB5 HA1 HB2 HD2 HS2 HB0 HD0 HS0 hgi hg4
    go_wp2
    go_loopw [7, 8] (fun v i wr => ∃ (k m cap : Nat) (ao : Option Addr), k ≤ 6 ∧ v = .slice ao m cap ∧ i = .int .i64 (k : Int) ∧ Hid (m = (lnPre c k).length) ∧ Hid (POwn 92 wr w6.heap.size (.slice ao m cap) (lnPre c k)) ∧ Hid (Below w6.heap.size w6 wr)) (fun _ i _ => 6 - (intOf i).toNat)
    case atStart => exact ⟨0, 0, 0, none, by omega, rfl, rfl, rfl, pown_nil _ _ _, Below.refl _ _⟩
    case round =>
      obtain ⟨k, m, cap, ao, hk, rfl, rfl, HM, HO, HB⟩ := hrel
      have hsr := HB.out.size
      by_cases hlt : k < 6
      · have cv := cell_kept (HCV.out k hlt) HB.out
        have cn := cell_kept (HCN.out k hlt) HB.out
        have HPN := hide (HLP.out k hlt)
        have HLN : Hid (m ≤ 6) := by show _ ≤ _; rw [HM.out]; have := lnPre_len c k; omega
        have hki : (k : Int) < 6 := by omega
        have hkd : decide ((k : Int) < 6) = true := decide_eq_true hki
        obtain ⟨nm, hnm⟩ : ∃ x, x = nmOf k := ⟨_, rfl⟩
        obtain ⟨vl, hvl⟩ : ∃ x, x = U k := ⟨_, rfl⟩
        rw [← hnm, ← hvl] at HPN
        rw [← hvl] at cv
        rw [← hnm] at cn
        have HV1 : Hid (w6.cell? ⟨g6, k, none⟩ = some (.string vl)) := by show _ = _; rw [hvl]; exact HCV.out k hlt
        have HN1 : Hid (w6.cell? ⟨g5, k, none⟩ = some (.string nm)) := by show _ = _; rw [hnm]; exact HCN.out k hlt
        clear hnm hvl
        by_cases h0 : vl.size = 0
        · have he := empty_of h0
          subst he
          have HN2 : Hid (lnPre c (k + 1) = lnPre c k) := by show _ = _; rw [HPN.out, if_pos h0, List.append_nil]
          clear h0
          go_wp2
          go_roundw
          case rel => exact ⟨k + 1, m, cap, ao, by omega, rfl, by go_num, by rw [HN2.out]; exact HM.out, by rw [HN2.out]; exact HO.out, HB⟩
          case measure => simp [intOf]; omega
        · have hne : (vl.toList == ([] : List UInt8)) = false := ne_of_size h0
          have hnn : (vl.toList != ([] : List UInt8)) = true := by rw [bne, hne]; rfl
          have HN2 : Hid (lnPre c (k + 1) = lnPre c k ++ [(sbytes nm, sbytes vl)]) := by show _ = _; rw [HPN.out, if_neg h0]
          have HBX : Hid (Below wr.heap.size wr (wr.drew.alloc (.cells #[.string nm, .string vl] 92))) := Below.alloc (below_drewN (Below.refl _ _) 1) (Nat.le_refl _) _
          have HPR : Hid (PRow (wr.drew.alloc (.cells #[.string nm, .string vl] 92)) (some ⟨wr.heap.size, 0, none⟩) [(sbytes nm, sbytes vl)]) := prow_oneR wr.drew nm vl
          have hxs := HBX.out.size
          have HLE : Hid ((lnPre c k).length + 1 = m + 1) := by show _ = _; rw [← HM.out]
          clear h0
          go_wp2
          go_region_held_law (fun W => W.cell? ⟨g6, k, none⟩ = some (.string vl) ∧ W.cell? ⟨g5, k, none⟩ = some (.string nm)) (go_keep) (first | (refine law_appR rfl (.tmp 38) (.tmp 48) rfl hi hz0 hz1 hz2 w6.heap.size _ (lnPre c k) (sbytes nm, sbytes vl) rfl (HO.out.keep HBX.out) ⟨wr.heap.size, 0, none⟩ rfl HPR.out (by rw [HLE.out]; have := HLN.out; omega) (by first | omega | (simp; omega)) ?_; intro fo fc w5 hown5 hgr5; have HO5 := hide hown5; have HB5 : Hid (Below w6.heap.size w6 w5) := (HB.out.trans (HBX.out.mono hsr)).grown hgr5 (by omega) (fun x hx => (World.ownsRow.lt HO.out x hx).1); clear hown5 hgr5; have cv5 := cell_kept HV1.out HB5.out; have cn5 := cell_kept HN1.out HB5.out))
          have HL5 : Hid (m + 1 = (lnPre c k ++ [(sbytes nm, sbytes vl)]).length) := by show _ = _; rw [List.length_append, ← HM.out]; rfl
          have hle := HLE.out
          rw [hle] at HO5 ⊢
          clear hle
          go_wp2
          go_roundw
          case rel => exact ⟨k + 1, m + 1, fc, fo, by omega, rfl, by go_num, by rw [HN2.out]; exact HL5.out, by rw [HN2.out]; exact HO5.out, HB5⟩
          case measure => simp [intOf]; omega
      · obtain rfl : k = 6 := by omega
        have HRW : Hid (PRow wr ao (lnPairs c)) := by
          obtain ⟨a', c', e, _, hr, _⟩ := HO.out.shape
          cases e; exact hr
        have HPP := hide (refPrint_any m cap ao (lnPairs c) wr HM.out (by have := lnPairs_tot HC.out; omega) (fun q hq => (lnPre_mem HC.out 6 (by omega) q hq).1) HRW.out)
        obtain ⟨T, hT⟩ : ∃ T, T = bstr (prt (lnPairs c)) := ⟨_, rfl⟩
        obtain ⟨T2, hT2⟩ : ∃ T2, T2 = bstr (lineT c) := ⟨_, rfl⟩
        have hadd : ∀ w, (Op.stringOp .add T { data := #[10] }).run Tryz.prog w = .ok (.string T2) w := fun w => add_str T { data := #[10] } T2 (by
          rw [hT, hT2]
          unfold lineT
          simp [bstr]) (by
          rw [hT, bstr_size]
          have h1 := lineT_len HC.out
          unfold lineT at h1
          rw [List.length_append] at h1
          have h2 : (ByteArray.mk #[10]).size = 1 := rfl
          omega) w
        rw [← hT] at HPP
        have HT2 := hide hT2
        clear hT hT2
        go_wp2_with fail
        refine HPP.out.mono ?_
        rintro e w3 ⟨rfl, hb3⟩
        have HB3 := hide ((HBW6.out.trans (HB.out.mono (by omega))).trans (hb3.mono (by omega)))
        clear hb3 HPP
        go_wp2
        go_ret
        exact ⟨by rw [← HT2.out]; rfl, HB3.out⟩
end Go.Proofs.YtjehbdekipmllaaGreatDoor
