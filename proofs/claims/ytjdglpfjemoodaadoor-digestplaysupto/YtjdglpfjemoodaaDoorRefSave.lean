/- The contract of the reference's Save: for every Hash. -/
import Derived.Test.YtjdglpfjemoodaaDoorRefWrite
namespace Go.Proofs.YtjdglpfjemoodaaDoor
open Go.RowKit

set_option maxHeartbeats 4000000 in
set_option maxRecDepth 100000 in
theorem refSave_any (n cap past : Nat) (ao : Option Addr) (r xs : List Nat) (w : World) (hr : r.length = 8) (hn : n = xs.length) (hnc : n ≤ cap) (hl : n ≤ 70368744177664) (hp : past + n < 18446744073709551616) (hx : ∀ x ∈ xs, x < 256) (hrow : Row w ao xs) (hT : Roots w 1) :
    Calls Tryd.prog 47 #[.agg (rhash r past (.slice ao n cap)).toArray] w fun e w' => ∃ ao' c', e = .returned (.slice ao' 104 c') ∧ Hid (104 ≤ c' ∧ Own w' w.heap.size (.slice ao' 104 c') (saved r past xs) ∧ Below w.heap.size w w') := by
  have HN : Hid (n = xs.length) := hn
  have HX : Hid (∀ x ∈ xs, x < 256) := hx
  have HRW : Hid (Row w ao xs) := hrow
  have HT : Hid (Roots w 1) := hT
  have HRL : Hid (r.length = 8) := hr
  have HC1 : Hid ((Tryd.prog.info? 37).map (·.size) = some (r.map wv).length) := by show _ = _; rw [size37]; simp [hr]
  have HSV : Hid (saved r past xs = regBytes (absorb r xs) ++ (rest xs ++ List.replicate (64 - (rest xs).length) 0) ++ eight (past + n)) := by show _ = _; rw [hn]; rfl
  have HAL : Hid ((absorb r xs).length = 8) := absorb_length xs hr
  have HRB : Hid ((regBytes (absorb r xs)).length = 32) := regBytes32 r xs hr
  obtain ⟨d, hd⟩ : ∃ d, d = n % 64 := ⟨_, rfl⟩
  have HRR : Hid (xs.drop (n - d) = rest xs) := by show _ = _; unfold rest; rw [← hn]; congr 1; omega
  have HRD : Hid ((rest xs).length = d) := by show _ = _; rw [rest_length, ← hn, hd]
  have hdi : (n : Int) % 64 = (d : Int) := by omega
  have hd64 : d < 64 := by omega
  have hdn : d ≤ n := by omega
  obtain ⟨wa, hwa⟩ : ∃ x, x = w.alloc (Obj.cells (rhash r past (.slice ao n cap)).toArray 40) := ⟨_, rfl⟩
  have G0 : Hid (Bl wa w.heap.size (rhash r past (.slice ao n cap)) 40) := by rw [hwa]; exact Bl.new w _ _
  have HBA : Hid (Below w.heap.size w wa) := by rw [hwa]; exact below_new w _
  have hsa : wa.heap.size = w.heap.size + 1 := by rw [hwa]; simp
  have c9 : wa.cell? ⟨w.heap.size, 9, none⟩ = some (.slice ao n cap) := rhash9 G0.out hr
  obtain ⟨ao3, hsl3, hrow3⟩ := slice_from_any ao n cap (n - d) ((n : Int) - (d : Int)) (by omega) (by omega) hnc
  rw [show n - (n - d) = d by omega] at hsl3
  have HR3 : Hid (∀ W, Below w.heap.size w W → Row W ao3 (rest xs)) := fun W h => by rw [← HRR.out]; exact hrow3 W xs hn (hrow.keep h)
  clear hr hn hx hrow hT hd hrow3
  go_enter Tryd.func47, Tryd.ntmps47
  go_upto_region 1 with fail
  rw [← hwa]
  clear hwa
  go_wp2_with (first | (refine wpList_load_mid rfl 37 _ rfl w.heap.size 0 rfl (r.map wv) _ (rhashR G0.out) Tryd.underlying37 rfl HC1.out ?_) | fail)
  refine (refBlocks_any n cap ao r xs wa HRL.out HN.out (by omega) HX.out (HRW.out.keep HBA.out) (HT.out.keep HBA.out)).mono ?_
  rintro e w1 ⟨rfl, h1⟩
  have HB1 : Hid (Below (w.heap.size + 1) wa w1) := h1.mono (by omega)
  have hs1 := HB1.out.size
  clear h1 c9
  go_wp2_with fail
  refine (refWords_any (absorb r xs) w1 HAL.out).mono ?_
  rintro e w2 ⟨v2, rfl, h2⟩
  have HO2 : Hid (Own w2 (w.heap.size + 1) v2 (regBytes (absorb r xs))) := h2.out.1.lower (by omega)
  have HB2 : Hid (Below (w.heap.size + 1) wa w2) := HB1.out.trans (h2.out.2.mono (by omega))
  have hs2 := HB2.out.size
  clear h2 HB1
  generalize regBytes (absorb r xs) = rb at *
  have c2 : w2.cell? ⟨w.heap.size, 9, none⟩ = some (.slice ao n cap) := rhash9 (G0.out.below HB2.out (by omega)) HRL.out
  have HW : Hid (∀ W, Below (w.heap.size + 1) wa W → Below w.heap.size w W) := fun W h => HBA.out.trans (h.mono (by omega))
  go_wp2_with (first | (at_builtin; refine wpList_append_bytes rfl _ _ rfl (w.heap.size + 1) _ rb rfl HO2.out ao3 d _ (rest xs) HRD.out.symm rfl (HR3.out _ (HW.out _ HB2.out)) (by rw [HRB.out, HRD.out]; omega) (by omega) ?_) | fail)
  rintro v3 w3 hown3 hgr3
  have HB3 : Hid (Below (w.heap.size + 1) wa w3) := HB2.out.grown hgr3 (by omega) HO2.out.ge
  have HO3 : Hid (Own w3 (w.heap.size + 1) v3 (rb ++ rest xs ++ List.replicate 0 0)) := by rw [List.replicate_zero, List.append_nil]; exact hown3
  clear hown3 hgr3 HO2 HB2 c2 hsl3
  go_wp2
  go_loopw [3, 5] (fun v i wr => ∃ k : Nat, k ≤ 64 - d ∧ i = .int .i64 ((d + k : Nat) : Int) ∧ Hid (Own wr (w.heap.size + 1) v (rb ++ rest xs ++ List.replicate k 0)) ∧ Hid (Below (w.heap.size + 1) wa wr)) (fun _ i _ => 64 - (intOf i).toNat)
  case atStart => exact ⟨0, Nat.zero_le _, rfl, HO3, HB3⟩
  case round =>
    clear HO3 HB3
    obtain ⟨k, hk, rfl, HO, HB⟩ := hrel
    have hs := HB.out.size
    obtain ⟨q, hq⟩ : ∃ q, q = d + k := ⟨_, rfl⟩
    have HQ : Hid (q = d + k) := hq
    rw [← hq]
    have hq64 : q ≤ 64 := by omega
    clear hq
    have HLn : Hid ((rb ++ rest xs ++ List.replicate k 0).length = 32 + q) := by show _ = _; rw [List.length_append, List.length_append, HRB.out, HRD.out, List.length_replicate]; have := HQ.out; omega
    by_cases hlt : q < 64
    · have hdt : decide ((q : Int) < 64) = true := decide_eq_true (by omega)
      go_wp2_with (first | (at_builtin; refine wpList_append_bytes rfl _ _ rfl (w.heap.size + 1) _ (rb ++ rest xs ++ List.replicate k 0) rfl (HO.out.alloc _) (some ⟨wr.heap.size, 0, none⟩) 1 1 [0] rfl rfl (row_one _ 0) (by rw [HLn.out]; simp; omega) (by simp; omega) ?_) | fail)
      rintro v5 w5 hown5 hgr5
      have HB5 : Hid (Below (w.heap.size + 1) wa w5) := (HB.out.alloc (by omega) _).grown hgr5 (by simp; omega) HO.out.ge
      have HO5 : Hid (Own w5 (w.heap.size + 1) v5 (rb ++ rest xs ++ List.replicate (k + 1) 0)) := by rw [List.replicate_succ', List.append_assoc]; exact hown5
      clear hown5 hgr5
      go_wp2
      go_roundw
      case rel => exact ⟨k + 1, by have := HQ.out; omega, by have := HQ.out; simp only [Value.int.injEq, true_and]; omega, HO5, HB5⟩
      case measure => simp [intOf]; omega
    · have hqi : (q : Int) = 64 := by omega
      rw [hqi]
      have HK : Hid (k = 64 - (rest xs).length) := by show _ = _; rw [HRD.out]; have := HQ.out; omega
      have c8 : wr.cell? ⟨w.heap.size, 8, none⟩ = some (.int .u64 (past : Int)) := rhash8 (G0.out.below HB.out (by omega)) HRL.out
      have c9 : wr.cell? ⟨w.heap.size, 9, none⟩ = some (.slice ao n cap) := rhash9 (G0.out.below HB.out (by omega)) HRL.out
      have hpn : ((past : Int) + (n : Int)) % 18446744073709551616 = ((past + n : Nat) : Int) := by omega
      have hpw : IntKind.u64.wrap ((past : Int) + (n : Int)) = ((past + n : Nat) : Int) := by rw [IntKind.wrap_u64]; exact hpn
      have hq0 : q = 64 := by omega
      clear hqi hlt
      generalize past + n = N at *
      go_wp2_with fail
      refine (refEight_any N wr).mono ?_
      rintro e w6 ⟨v6, rfl, h6⟩
      have HO6 : Hid (Own w6 (w.heap.size + 1) u3 (rb ++ rest xs ++ List.replicate k 0)) := HO.out.keep h6.out.2
      have HB6 : Hid (Below (w.heap.size + 1) wa w6) := HB.out.trans (h6.out.2.mono (by omega))
      obtain ⟨a6, c6, hv6, hc6, hr6⟩ := h6.out.1.read
      rw [eight_length] at hv6
      subst hv6
      have HR6 : Hid (Row w6 a6 (eight N)) := hr6
      have hs6 := HB6.out.size
      clear h6 hr6 hc6
      go_wp2_with (first | (at_builtin; refine wpList_append_bytes rfl _ _ rfl (w.heap.size + 1) _ (rb ++ rest xs ++ List.replicate k 0) rfl HO6.out a6 8 c6 (eight N) (eight_length _).symm rfl HR6.out (by rw [HLn.out, eight_length]; omega) (by omega) ?_) | fail)
      rintro v7 w7 hown7 hgr7
      have HB7 : Hid (Below (w.heap.size + 1) wa w7) := HB6.out.grown hgr7 (by omega) HO6.out.ge
      have HO7 : Hid (Own w7 w.heap.size v7 (saved r past xs)) := by
        rw [HSV.out, ← HK.out]
        have h7 : Own w7 (w.heap.size + 1) v7 ((rb ++ rest xs ++ List.replicate k 0) ++ eight N) := by first | exact hown7 | simpa using hown7
        rw [List.append_assoc rb] at h7
        exact h7.lower (by omega)
      have HL7 : Hid ((saved r past xs).length = 104) := saved_length r xs past HRL.out
      obtain ⟨a7, c7, hv7, hc7, _⟩ := HO7.out.read
      rw [HL7.out] at hv7 hc7
      subst hv7
      clear hown7 hgr7
      go_wp2
      go_ret
      exact ⟨a7, c7, rfl, hc7, HO7.out, HW.out _ HB7.out⟩
end Go.Proofs.YtjdglpfjemoodaaDoor
