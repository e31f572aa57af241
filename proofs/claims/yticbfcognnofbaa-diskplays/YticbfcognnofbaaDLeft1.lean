/- The contracts of List, and of what a failure leaves of a file. -/
import Derived.Test.YticbfcognnofbaaDCallG
namespace Go.Proofs.Yticbfcognnofbaa
open Go.RowKit Go.Maps

/-- A row of numbers in memory. -/
def IRow (w : World) (ao : Option Addr) (ts : List Int) : Prop := ts = [] ∨ ∃ b off, ao = some ⟨b, off, none⟩ ∧ ∀ i, i < ts.length → w.cell? ⟨b, off + i, none⟩ = some (.int .i64 (ts.getD i 0))
theorem IRow.keep {w w' : World} {ao : Option Addr} {ts : List Int} (h : IRow w ao ts) (hb : Below w.heap.size w w') : IRow w' ao ts := by
  rcases h with h | ⟨b, off, rfl, hc⟩
  · exact .inl h
  · exact .inr ⟨b, off, rfl, fun i hi => cell_kept (hc i hi) hb⟩
theorem slice_to (g off n cap m : Nat) (i : Int) (hi : i = (m : Int)) (hm : m ≤ cap) : ∀ w, (Instr.slice 36 (.slice (some ⟨g, off, none⟩) n cap) none (some (.int .i64 i)) none).run Try.prog w = .ok (.slice (some ⟨g, off, none⟩) m cap) w := fun w => by
  subst hi
  rw [run_slice_h w 36 (some ⟨g, off, none⟩) n cap underBytes .i64 (m : Int) (by omega) (by omega), sizeRun]
  simp [Result.andThen, sliced, add_none]
theorem slice_to_nil : ∀ w, (Instr.slice 36 (.slice none 0 0) none (some (.int .i64 0)) none).run Try.prog w = .ok (.slice none 0 0) w := fun w => by
  rw [run_slice_h w 36 none 0 0 underBytes .i64 0 (by omega) (by omega), sizeRun]
  simp [Result.andThen, sliced]
theorem leftF_tail {f : Fl} {ts : List Int} {i : Nat} (h : ts.length ≤ i) : leftF f (tailOf ts i) = f.bys.take f.syn := by
  have e : tailOf ts i = 0 := by simp [tailOf, List.getD, List.getElem?_eq_none h]
  rw [e]
  unfold leftF part
  simp
theorem own_dec {w : World} {v : Value} {xs : List Nat} (h : Own w 0 v xs) : (v = .slice none 0 0 ∧ xs = []) ∨ ∃ g cap, v = .slice (some ⟨g, 0, none⟩) xs.length cap ∧ xs.length ≤ cap ∧ Row w (some ⟨g, 0, none⟩) xs := by
  rcases h.2 with ⟨rfl, hn⟩ | ⟨g, cap, cur, rfl, _, _, hle, _⟩
  · exact .inl ⟨rfl, List.length_eq_zero_iff.1 hn⟩
  · obtain ⟨ao, cap', hv, _, hr⟩ := h.read
    injection hv with h1 _ h3
    subst h1; subst h3
    exact .inr ⟨g, cap, rfl, hle, hr⟩
set_option maxHeartbeats 2000000 in
set_option maxRecDepth 100000 in
theorem left_any (b i : Nat) (f : Fl) (v : Value) (ao : Option Addr) (c : Nat) (ts : List Int) (w : World) (hb : Bl w b (fileCells i v f) 96) (hv : Own w 0 v f.bys) (hF : Fok f) (ht : IRow w ao ts) (htl : ts.length ≤ 4611686018427387904) :
    Calls Try.prog 59 #[pf b, .slice ao ts.length c] w fun e w' => ∃ u, e = .returned u ∧ Own w' 0 u (leftF f (tailOf ts i)) ∧ (∀ g, u.ownBlock = some g → w.heap.size ≤ g) ∧ Below w.heap.size w w' := by
  obtain ⟨b0, b1, b2⟩ := hb.three
  have hs := hF.syn
  have hfl := hF.len
  obtain ⟨xs, syn⟩ := f
  simp only at hs hfl b0 b1 b2 hv ⊢
  have HFIN : Hid (∀ m : Nat, m ≤ xs.length → ∃ ao' n' cap', (v = .slice ao' xs.length n' ∧ (∀ W, (Instr.slice 36 v none (some (.int .i64 (m : Int))) none).run Try.prog W = .ok (.slice ao' m cap') W) ∧ Row w ao' (xs.take m))) := fun m hm => by
    rcases own_dec hv with ⟨rfl, rfl⟩ | ⟨g, cap, rfl, hle, hr⟩
    · obtain rfl : m = 0 := by simpa using hm
      exact ⟨none, 0, 0, rfl, slice_to_nil, .inl (by simp)⟩
    · exact ⟨some ⟨g, 0, none⟩, cap, cap, rfl, slice_to g 0 _ cap m _ rfl (by omega), hr.takeN m⟩
  have HCL : Hid (∀ m ao' cap' W, m ≤ xs.length → Row w ao' (xs.take m) → Below w.heap.size w W → Calls Try.prog 60 #[.slice ao' m cap'] W fun e w' => ∃ u, e = .returned u ∧ Own w' 0 u (xs.take m) ∧ (∀ g, u.ownBlock = some g → w.heap.size ≤ g) ∧ Below w.heap.size w w') := fun m ao' cap' W hm hr hW => by
    refine (bytesClone_any ao' m cap' (xs.take m) W (by simp; omega) (hr.keep hW) (by simp; omega)).mono fun e w' ⟨u, h1, h2, h3, h4⟩ => ⟨u, h1, h2, fun g hg => Nat.le_trans hW.size (h3 g hg), hW.trans (h4.mono hW.size)⟩
  by_cases hlt : i < ts.length
  · obtain ⟨tb, toff, rfl, htc⟩ : ∃ b off, ao = some ⟨b, off, none⟩ ∧ ∀ i, i < ts.length → w.cell? ⟨b, off + i, none⟩ = some (.int .i64 (ts.getD i 0)) := by
      rcases ht with rfl | ht
      · simp at hlt
      · exact ht
    have t1 := htc i hlt
    unfold leftF tailOf
    simp only
    generalize ts.getD i 0 = t at *
    obtain ⟨d, hd⟩ : ∃ d, d = xs.length - syn := ⟨_, rfl⟩
    have HW := hide (within_any t d w.drew (by omega))
    rw [← hd]
    have hpd : part t d ≤ d := Nat.min_le_right _ _
    generalize part t d = pr at *
    obtain ⟨m, hm⟩ : ∃ m, m = syn + pr := ⟨_, rfl⟩
    rw [← hm]
    have hml : m ≤ xs.length := by omega
    obtain ⟨ao', n', cap', rfl, hsl, hrow⟩ := HFIN.out m hml
    have HC := hide (HCL.out m ao' cap' w.drew hml hrow (below_drewN (Below.refl _ _) 1))
    have hlt2 : (i : Int) < (ts.length : Int) := by omega
    have q1 : IntKind.i64.wrap ((xs.length : Int) - (syn : Int)) = (d : Int) := by rw [IntKind.wrap_i64]; omega
    have q2 : IntKind.i64.wrap ((syn : Int) + (pr : Int)) = (m : Int) := by rw [IntKind.wrap_i64]; omega
    obtain ⟨n, hn⟩ : ∃ n, n = ts.length := ⟨_, rfl⟩
    obtain ⟨xl, hxl⟩ : ∃ n, n = xs.length := ⟨_, rfl⟩
    rw [← hn] at hlt2 ⊢
    rw [← hxl] at q1 b1 hsl
    unfold pf
    clear hb hv hF ht htl hlt hn HFIN HCL hrow hs hfl htc hd hpd hm hml hxl
    go_enter Try.func59, Try.ntmps59
    go_wp2_with fail
    go_region_held (fun W => W.cell? ⟨b, 0, none⟩ = some (.int .i64 (i : Int)) ∧ W.cell? ⟨b, 1, none⟩ = some (.slice ao' xl n') ∧ W.cell? ⟨b, 2, none⟩ = some (.int .i64 (syn : Int)) ∧ W.cell? ⟨tb, toff + i, none⟩ = some (.int .i64 t)) (go_keep) (first | (go_at_call 58; refine HW.out.mono ?_; rintro e w2 ⟨rfl, hw2⟩; subst hw2))
    go_wp2_with (first | (go_at_call 60; refine HC.out.mono ?_; rintro e w3 ⟨u, rfl, h3⟩; have H3 := hide h3; clear h3))
    go_ret
    exact ⟨u, rfl, H3.out⟩
  · rw [leftF_tail (by omega)]
    simp only
    obtain ⟨ao', n', cap', rfl, hsl, hrow⟩ := HFIN.out syn hs
    have HC := hide (HCL.out syn ao' cap' w hs hrow (Below.refl _ _))
    have hlt2 : ¬ (i : Int) < (ts.length : Int) := by omega
    obtain ⟨n, hn⟩ : ∃ n, n = ts.length := ⟨_, rfl⟩
    rw [← hn] at hlt2 ⊢
    unfold pf
    clear hb hv hF ht htl hlt hn HFIN HCL hrow hs hfl
    go_enter Try.func59, Try.ntmps59
    go_wp2_with (first | (go_at_call 60; refine HC.out.mono ?_; rintro e w3 ⟨u, rfl, h3⟩; have H3 := hide h3; clear h3))
    go_ret
    exact ⟨u, rfl, H3.out⟩
end Go.Proofs.Yticbfcognnofbaa
