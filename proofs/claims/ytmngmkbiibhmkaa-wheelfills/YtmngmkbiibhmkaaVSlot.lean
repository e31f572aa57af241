/- The contracts of slotOf, place, Index, without. -/
import Derived.Test.YtmngmkbiibhmkaaVDig
namespace Go.Proofs.Ytmngmkbiibhmkaa
open Go.RowKit Go.Maps

theorem dig_lt (t d : Nat) : dig t d < 64 := by unfold dig; omega
def ps (wp k : Nat) : Value := .pointer (some ⟨wp, 2 + k, none⟩)
set_option maxHeartbeats 4000000 in
set_option maxRecDepth 100000 in
theorem slotOf_any (wp now a : Nat) (w : World) (hc : w.cell? ⟨wp, 0, none⟩ = some (.int .u64 (now : Int))) (hn : now < 18446744073709551616) (ha : a < 18446744073709551616) :
    Calls Try.prog 37 #[pw wp, .int .u64 (a : Int)] w fun e w' => e = .returned (ps wp (slotN now a)) ∧ ∃ n, w' = w.drewN n := by
  have HC := hide (ringOf_any wp now a w hc hn ha)
  have HS := hide (slotN_eq now a)
  have HR := hide (ringN_le now a)
  obtain ⟨s, hs⟩ : ∃ s, s = slotN now a := ⟨_, rfl⟩
  rw [← hs] at HS ⊢
  generalize ringN now a = r at *
  clear hs hc hn ha
  unfold pw at *
  by_cases h4 : r = 4
  · subst h4
    rw [if_pos rfl] at HS
    have h := HS.out
    subst h
    unfold ps
    go_enter Try.func37, Try.ntmps37
    go_wp2_with (go_at_call 41; refine HC.out.mono ?_; rintro e w2 ⟨rfl, hw2⟩; have HW2 := hide hw2; clear hw2)
    go_ret
    exact ⟨rfl, HW2.out⟩
  · rw [if_neg h4] at HS
    have hr4 : r < 4 := by have := HR.out; omega
    have hlt := dig_lt a r
    have HD : Hid (∀ (W : World) n, Calls Try.prog 42 #[.int .u64 (a : Int), .int .i64 (r : Int)] (W.drewN n) fun e w' => e = .returned (.int .i64 (dig a r : Int)) ∧ ∃ m, w' = W.drewN m) := fun W n => (digitOf_any a r _ (by omega)).mono fun e w' h => ⟨h.1, n, h.2⟩
    generalize dig a r = d at *
    go_enter Try.func37, Try.ntmps37
    go_wp2_with (go_at_call 41; refine HC.out.mono ?_; rintro e w2 ⟨rfl, hw2⟩; have HW2 := hide hw2; clear hw2)
    go_quiet ((go_at_call 42; exact HD.out _ _))
    go_wp2_with fail
    go_ret
    obtain ⟨n, hn⟩ := HW2.out
    exact ⟨by rw [HS.out]; unfold ps; rw [show 2 + (64 * r + d) = 2 + r * 64 + d by omega]; rfl, _, by rw [hn, World.drewN_drewN]⟩
theorem Own.drewN {w : World} {B : Nat} {v : Value} {xs : List Nat} (h : Own w B v xs) (n : Nat) : Own (w.drewN n) B v xs := h
theorem fr_grown {w w' : World} {v : Value} (h : w.grownBy w' v.ownBlock) : Fr (vb v) w w' := Fr.grown h fun _ e => mem_vb.2 e
theorem Rep.cellFr {w w1 : World} {wp now : Nat} {L : List Tm} {S : List (List Nat)} {Y : Lay} (h : Rep w wp now L S Y) {k : Nat} {v : Value} (hv : Y.vs[k]? = some v) (hf : Fr (vb v) w w1) : w1.cell? ⟨wp, 2 + k, none⟩ = some v ∧ w1.frozen? ⟨wp, 2 + k, none⟩ = false := by
  have hb := Fr.bl h.box hf fun e => (h.vne k v wp hv (mem_vb.1 e)).1 rfl
  refine ⟨?_, hb.frozen _⟩
  rw [hb.cell, wcells, Nat.add_comm 2 k]
  exact hv
theorem fr_new_grown {w w1 : World} {v : Value} (o : Obj) (h : (w.alloc o).grownBy w1 v.ownBlock) : Fr (vb v) w w1 := (Fr.alloc (vb v) w o).trans (fr_grown h) fun _ h => .inl h
theorem new_or {w : World} {v v' : Value} (o : Obj) (h : v'.ownBlock = v.ownBlock ∨ v'.ownBlock = some (w.alloc o).heap.size) : ∀ g, v'.ownBlock = some g → v.ownBlock = some g ∨ w.heap.size ≤ g := fun g e => by
  rcases h with h | h
  · exact .inl (h ▸ e)
  · rw [h] at e
    injection e with e
    right
    have : (w.alloc o).heap.size = w.heap.size + 1 := by simp
    omega
set_option maxHeartbeats 4000000 in
set_option maxRecDepth 100000 in
theorem place_any (wp now id a : Nat) (L : List Tm) (S : List (List Nat)) (Y : Lay) (xs : List Nat) (w : World) (h : Rep w wp now L S Y) (hn : now < 18446744073709551616) (ha : a < 18446744073709551616) (hx : S[slotN now a]? = some xs) (hl : xs.length ≤ 1000000) :
    Calls Try.prog 32 #[pw wp, .int .u64 (id : Int), .int .u64 (a : Int)] w fun e w' => e = .returned (.tuple #[]) ∧ ∃ Y', Rep w' wp now L (S.set (slotN now a) (xs ++ [id])) Y' ∧ Aft wp Y Y' w w' := by
  have HC := hide (slotOf_any wp now a w (h.box.cell 0) hn ha)
  have HK := hide (slotN_lt now a)
  generalize slotN now a = k at *
  obtain ⟨v, xs', hv, hx', ho, hcell, hfz⟩ := h.get HK.out
  rw [hx] at hx'
  cases hx'
  have HH := hide h
  have HO := hide ho
  have HV := hide hv
  have HL := hide hl
  clear h hn ha hx hl ho hv
  unfold pw ps at *
  go_enter Try.func32, Try.ntmps32
  go_upto_region 1 with (go_at_call 37; refine HC.out.mono ?_; rintro e w2 ⟨rfl, hw2⟩; have HW2 := hide hw2; clear hw2)
  obtain ⟨q, hq⟩ := HW2.out
  subst hq
  have hcell2 : (w.drewN q).cell? ⟨wp, 2 + k, none⟩ = some v := hcell
  have hfz2 : (w.drewN q).frozen? ⟨wp, 2 + k, none⟩ = false := hfz
  have HH2 := hide (HH.out.drewN q)
  have HO2 := hide (HO.out.drewN q)
  have HA2 := hide (Aft.of (wp := wp) (Y := Y) (w := w) (w' := w.drewN q) (below_drewN (Below.refl _ _) q))
  clear hcell hfz HC HH HO HW2
  generalize w.drewN q = w2 at *
  have HOA := hide (HO2.out.keep (below_new w2 (.cells #[.int .u64 (id : Int)] 22)))
  have HRA := hide (row_one w2 id 22)
  go_wp2_with (at_builtin; refine wpList_append_nums rfl _ _ 65 65 Try.underlying65 Try.underlying65 rfl 0 v xs rfl HOA.out (some ⟨w2.heap.size, 0, none⟩) 1 1 [id] rfl rfl HRA.out (by have := HL.out; simp; omega) (by simp) ?_; intro v' w3 h3 g3 l3; obtain ⟨vao3, vn3, vc3, rfl⟩ := own_shape h3; have H3 := hide h3; have HF := hide (fr_new_grown _ g3); have HN := hide (new_or _ l3); obtain ⟨hcell3, hfz3⟩ := HH2.out.cellFr HV.out HF.out; clear h3 g3 l3 hcell2 hfz2)
  go_end0
  obtain ⟨hr, hA⟩ := HH2.out.put HV.out HF.out H3.out HN.out
  exact ⟨rfl, _, hr, HA2.out.trans hA⟩
end Go.Proofs.Ytmngmkbiibhmkaa
