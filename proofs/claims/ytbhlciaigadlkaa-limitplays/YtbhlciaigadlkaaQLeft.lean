/- left: how many attempts a subject has at a time, or why none. -/
import Derived.Test.YtbhlciaigadlkaaQOpenAt
namespace Go.Proofs.Ytbhlciaigadlkaa
open Go.RowKit Go.Maps

def two (x : Nat × Nat) : Value := .tuple #[.int .i64 (x.1 : Int), .int .i64 (x.2 : Int)]
theorem ret_two {a b c d : Int} (h : a = c) (k : b = d) : Ending.returned (.tuple #[.int .i64 a, .int .i64 b]) = .returned (.tuple #[.int .i64 c, .int .i64 d]) := by rw [h, k]
theorem len_str (nm : Nm) (w : World) (ty t : TypeId) : (Builtin.len_ #[t] ty #[.string (str nm)]).run Try.prog w = (Builtin.len_ #[t] ty #[.string (str nm)]).run Try.prog w := rfl
set_option maxHeartbeats 4000000 in
set_option maxRecDepth 100000 in
theorem left_any (lp t : Nat) (nm : Nm) (S : LS) (Y : Lay) (w : World) (h : Rep w lp S Y) (hc : S.clock ≤ t) (ht : t < 18446744073709551616) :
    Calls Try.prog 30 #[pf lp, .string (str nm), .int .u64 (t : Int)] w fun e w' => e = .returned (two (S.left nm t)) ∧ Below w.heap.size w w' := by
  have hsz := str_size nm
  have c0 := h.c0
  have c2 := h.c2
  have c4 := h.c4
  unfold two LS.left
  by_cases hl : 256 < nm.length
  · rw [if_pos hl]
    have hl' : (256 : Int) < (nm.length : Int) := by omega
    generalize nm.length = k at *
    clear h hc
    unfold pf
    go_enter Try.func30, Try.ntmps30
    go_wp2
    go_ret2
    exact ⟨rfl, Below.refl _ _⟩
  · rw [if_neg hl]
    have hl' : ¬ (256 : Int) < (nm.length : Int) := by omega
    have hlk := h.map.look (nm := nm) (by unfold maxLen; omega)
    have HH := hide h
    have HC := hide hc
    have HT := hide ht
    have HCO : Hid (∀ W, Rep W lp S Y → Calls Try.prog 41 #[pf lp, .int .u64 (t : Int)] W fun e w' => e = .returned (.int .i64 (S.openAt t : Int)) ∧ Below W.heap.size W w') := hide fun W hW => openAt_any lp t S Y W hW hc ht
    have HT6 := hide h.ok.tries2
    generalize hk : nm.length = k at *
    clear hk
    -- the last part: no open window
    cases hg : tget nm S.tab with
    | none =>
      rw [hg, show ptrOf Y.bl nm none = .pointer none from rfl] at hlk
      simp only [LS.leftN]
      generalize S.openAt t = oa at *
      generalize S.subs = sb at *
      clear h hc ht hg
      unfold pf at *
      by_cases hf : sb ≤ oa
      · have hf' : (sb : Int) ≤ (oa : Int) := by omega
        rw [if_pos hf]
        clear hf
        go_enter Try.func30, Try.ntmps30
        go_upto_region 8 with fail
        go_region_held (fun W => W.cell? ⟨lp, 2, none⟩ = some (.int .i64 (sb : Int))) (go_keep) (first | (go_at_call 41; refine (HCO.out _ (by exact HH.out.drewN 1)).mono ?_; rintro e w2 ⟨rfl, hb⟩; have hb2 := below_undrewN1 hb; have HB2 := hide hb2; have e2 := cell_kept c2 hb2; have e0 := cell_kept c0 hb2; clear hb hb2))
        go_wp2
        go_ret2
        exact ⟨rfl, HB2.out⟩
      · have hf' : ¬ (sb : Int) ≤ (oa : Int) := by omega
        rw [if_neg hf]
        clear hf
        go_enter Try.func30, Try.ntmps30
        go_upto_region 8 with fail
        go_region_held (fun W => W.cell? ⟨lp, 2, none⟩ = some (.int .i64 (sb : Int))) (go_keep) (first | (go_at_call 41; refine (HCO.out _ (by exact HH.out.drewN 1)).mono ?_; rintro e w2 ⟨rfl, hb⟩; have hb2 := below_undrewN1 hb; have HB2 := hide hb2; have e2 := cell_kept c2 hb2; have e0 := cell_kept c0 hb2; clear hb hb2))
        go_wp2
        go_ret2
        exact ⟨rfl, HB2.out⟩
    | some v =>
      obtain ⟨since, c⟩ := v
      have hmem := tget_some hg
      have he := h.ok.each _ hmem
      rw [hg, show ptrOf Y.bl nm (some (since, c)) = pf (Y.bl nm) from rfl] at hlk
      have d1 : w.cell? ⟨Y.bl nm, 1, none⟩ = some (.int .i64 (c : Int)) := (h.att _ hmem).cell 1
      have HC1 := hide (rest_any lp (Y.bl nm) S.win since t w h.c1 ((h.att _ hmem).cell 0) (by have := he.1; simp only at this; omega) ht h.ok.win2)
      simp only [LS.leftN]
      have HOP := hide (rest_open S.win since t nm c)
      have HCT : Hid (c ≤ S.tries) := hide he.2.2.2.1
      unfold opens at HOP
      simp only at HOP
      generalize restN S.win since t = rs at *
      by_cases ho : t - since < S.win
      · rw [if_pos ho]
        have hz : 0 < ((rs : Nat) : Int) := by
          rcases HOP.out with h | h
          · omega
          · have := h.1; simp at this; omega
        clear h hc ht hg hmem he ho HOP
        unfold pf at *
        by_cases hs : c = S.tries
        · rw [if_pos hs]
          have hs' : (c : Int) = (S.tries : Int) := by omega
          clear hs HCT
          generalize S.tries = tr at *
          subst_vars
          go_enter Try.func30, Try.ntmps30
          go_wp2_with (go_at_call 32; refine HC1.out.mono ?_; rintro e w3 ⟨rfl, n3, hw3⟩; have f0 : w3.cell? ⟨lp, 0, none⟩ = some (.int .i64 (tr : Int)) := (by rw [hw3]; exact c0); have f1 : w3.cell? ⟨Y.bl nm, 1, none⟩ = some (.int .i64 (c : Int)) := (by rw [hw3]; exact d1); have HB3 : Hid (Below w.heap.size w w3) := hide (by rw [hw3]; exact below_drewN (Below.refl _ _) _); clear hw3)
          go_quiet (fail)
          go_wp2
          go_ret2
          exact ⟨rfl, below_drewN HB3.out _⟩
        · rw [if_neg hs]
          have hs' : ((c : Int) == (S.tries : Int)) = false := by simp; omega
          have hwr : IntKind.i64.wrap ((S.tries : Int) - (c : Int)) = ((S.tries - c : Nat) : Int) := by have := HCT.out; have := HT6.out; rw [IntKind.wrap_i64]; omega
          clear hs HCT
          generalize S.tries - c = dd at *
          generalize S.tries = tr at *
          go_enter Try.func30, Try.ntmps30
          go_wp2_with (go_at_call 32; refine HC1.out.mono ?_; rintro e w3 ⟨rfl, n3, hw3⟩; have f0 : w3.cell? ⟨lp, 0, none⟩ = some (.int .i64 (tr : Int)) := (by rw [hw3]; exact c0); have f1 : w3.cell? ⟨Y.bl nm, 1, none⟩ = some (.int .i64 (c : Int)) := (by rw [hw3]; exact d1); have HB3 : Hid (Below w.heap.size w w3) := hide (by rw [hw3]; exact below_drewN (Below.refl _ _) _); clear hw3)
          go_quiet (fail)
          go_wp2
          go_quiet (fail)
          go_wp2
          go_ret2
          exact ⟨rfl, below_drewN (below_drewN HB3.out _) _⟩
      · rw [if_neg ho]
        have hz : rs = 0 := by
          rcases HOP.out with h | h
          · have := h.1; simp at this; omega
          · exact h.2
        subst hz
        clear hc ht hg hmem he ho HOP
        generalize S.openAt t = oa at *
        have HH2 := HH
        generalize S.subs = sb at c2 ⊢
        unfold pf at *
        clear h
        by_cases hf : sb ≤ oa
        · have hf' : (sb : Int) ≤ (oa : Int) := by omega
          rw [if_pos hf]
          clear hf
          go_enter Try.func30, Try.ntmps30
          go_wp2_with (go_at_call 32; refine HC1.out.mono ?_; rintro e w3 ⟨rfl, n3, hw3⟩; have f2 : w3.cell? ⟨lp, 2, none⟩ = some (.int .i64 (sb : Int)) := (by rw [hw3]; exact c2); have HB3 : Hid (Below w.heap.size w w3) := hide (by rw [hw3]; exact below_drewN (Below.refl _ _) _); have HR3 : Hid (Rep w3 lp S Y) := hide (by rw [hw3]; exact HH.out.drewN _); clear hw3)
          go_region_held (fun W => W.cell? ⟨lp, 2, none⟩ = some (.int .i64 (sb : Int))) (go_keep) (first | (go_at_call 41; refine (HCO.out _ (by exact HR3.out.drewN 1)).mono ?_; rintro e w4 ⟨rfl, hb⟩; have hb2 := below_undrewN1 hb; have HB4 := hide (HB3.out.trans (hb2.mono HB3.out.size)); have e2 := cell_kept f2 hb2; clear hb hb2))
          go_wp2
          go_ret2
          exact ⟨rfl, HB4.out⟩
        · have hf' : ¬ (sb : Int) ≤ (oa : Int) := by omega
          rw [if_neg hf]
          clear hf
          go_enter Try.func30, Try.ntmps30
          go_wp2_with (go_at_call 32; refine HC1.out.mono ?_; rintro e w3 ⟨rfl, n3, hw3⟩; have f2 : w3.cell? ⟨lp, 2, none⟩ = some (.int .i64 (sb : Int)) := (by rw [hw3]; exact c2); have f0 : w3.cell? ⟨lp, 0, none⟩ = some (.int .i64 (S.tries : Int)) := (by rw [hw3]; exact c0); have HB3 : Hid (Below w.heap.size w w3) := hide (by rw [hw3]; exact below_drewN (Below.refl _ _) _); have HR3 : Hid (Rep w3 lp S Y) := hide (by rw [hw3]; exact HH.out.drewN _); clear hw3)
          go_region_held (fun W => W.cell? ⟨lp, 2, none⟩ = some (.int .i64 (sb : Int))) (go_keep) (first | (go_at_call 41; refine (HCO.out _ (by exact HR3.out.drewN 1)).mono ?_; rintro e w4 ⟨rfl, hb⟩; have hb2 := below_undrewN1 hb; have HB4 := hide (HB3.out.trans (hb2.mono HB3.out.size)); have e2 := cell_kept f2 hb2; have e0 := cell_kept f0 hb2; clear hb hb2))
          go_wp2
          go_ret2
          exact ⟨rfl, HB4.out⟩
end Go.Proofs.Ytbhlciaigadlkaa
