/- wheel.Spread on a live wheel. -/
import Derived.Deep.MidRow
import Derived.Test.YtmngmkbiibhmkaaVTimers
namespace Go.Proofs.Ytmngmkbiibhmkaa
open Go.RowKit Go.Shelf Go.Maps

abbrev iv (n : Nat) : Value := .int .i64 (n : Int)
/-- The lengths of the first k slots of ring i. -/
def sp (S : List (List Nat)) (i k : Nat) : Nat := (((S.drop (64 * i)).take k).map List.length).sum
theorem sp_zero (S : List (List Nat)) (i : Nat) : sp S i 0 = 0 := by simp [sp]
theorem sp_next {S : List (List Nat)} {i k : Nat} {xs : List Nat} (h : S[64 * i + k]? = some xs) : sp S i (k + 1) = sp S i k + xs.length := by
  unfold sp
  rw [List.take_add_one, List.getElem?_drop, h]
  simp
theorem sp_le {S : List (List Nat)} (h : ∀ (k : Nat) (xs : List Nat), S[k]? = some xs → xs.length ≤ 8192) (i : Nat) : ∀ k, 64 * i + k ≤ S.length → sp S i k ≤ k * 8192 := by
  intro k
  induction k with
  | zero => intro _; rw [sp_zero]; omega
  | succ k ih =>
    intro hk
    have hx : S[64 * i + k]? = some S[64 * i + k] := List.getElem?_eq_getElem (by omega)
    rw [sp_next hx]
    have h1 := ih (by omega)
    have h2 := h _ _ hx
    omega
/-- The lengths told so far: rings before i, of ring i the first k slots. -/
def spL (S : List (List Nat)) (i k : Nat) : List Nat := (List.range 5).map fun r => if r < i then sp S r 64 else if r = i then sp S i k else 0
theorem spL_len (S : List (List Nat)) (i k : Nat) : (spL S i k).length = 5 := by simp [spL]
theorem spL_start (S : List (List Nat)) : spL S 0 0 = [0, 0, 0, 0, 0] := by
  simp [spL, List.range, List.range.loop, sp_zero]
theorem spL_get {S : List (List Nat)} {i k : Nat} (hi : i < 5) : (spL S i k)[i]? = some (sp S i k) := by
  simp [spL, hi]
theorem spL_set {S : List (List Nat)} {i k : Nat} {xs : List Nat} (h : S[64 * i + k]? = some xs) : (spL S i k).set i (sp S i k + xs.length) = spL S i (k + 1) := by
  apply List.ext_getElem?
  intro r
  rw [List.getElem?_set]
  simp only [spL_len]
  by_cases hr : i = r
  · subst hr
    by_cases hi : i < 5
    · rw [if_pos rfl, if_pos hi, spL_get hi, sp_next h]
    · rw [if_pos rfl, if_neg hi, List.getElem?_eq_none (by rw [spL_len]; omega)]
  · rw [if_neg hr]
    by_cases h5 : r < 5
    · simp [spL, h5, Ne.symm hr]
    · rw [List.getElem?_eq_none (by rw [spL_len]; omega), List.getElem?_eq_none (by rw [spL_len]; omega)]
theorem spL_ring (S : List (List Nat)) (i : Nat) : spL S i 64 = spL S (i + 1) 0 := by
  unfold spL
  apply List.map_congr_left
  intro r _
  by_cases h1 : r < i
  · rw [if_pos h1, if_pos (by omega)]
  · rw [if_neg h1]
    by_cases h2 : r = i
    · rw [if_pos h2, if_pos (by omega), h2]
    · rw [if_neg h2, if_neg (by omega)]
      by_cases h3 : r = i + 1
      · rw [if_pos h3, sp_zero]
      · rw [if_neg h3]
def SPI (W2 wr : World) (N : Nat) (S : List (List Nat)) (i k : Nat) : Prop := Bl wr (N + 1) ((spL S i k).map iv) 46 ∧ But (N + 1) W2 wr
theorem ring_range {w : World} {wp now : Nat} {L : List Tm} {S : List (List Nat)} {Y : Lay} (h : Rep w wp now L S Y) {i : Nat} : w.rangeAt wp (2 + i * 64) ((Y.vs.drop (i * 64)).take 64) := by
  intro j u hu
  rw [List.getElem?_take] at hu
  split at hu
  · rw [List.getElem?_drop] at hu
    rw [h.box.cell, wcells]
    rw [show 2 + i * 64 + j = (i * 64 + j) + 1 + 1 by omega]
    exact hu
  · cases hu
theorem ring_len {w : World} {wp now : Nat} {L : List Tm} {S : List (List Nat)} {Y : Lay} (h : Rep w wp now L S Y) {i : Nat} (hi : i < 4) : ((Y.vs.drop (i * 64)).take 64).length = 64 := by
  rw [List.length_take, List.length_drop, h.vlen]; omega
theorem idx_any (cs : List Value) (k : Nat) (ao : Option Addr) (n cap : Nat) (hk : k < cs.length) (hv : cs[k] = .slice ao n cap) (hl : cs.length = 64) (W : World) : (Instr.index 67 (.agg cs.toArray) (.int .i64 (k : Int))).run Try.prog W = .ok (.slice ao n cap) W := by
  have hn : 0 ≤ (k : Int) ∧ (k : Int) < 64 := by omega
  simp [Instr.index, run_underlying Try.underlying67, asIntOf, hn, go_sem]
  rw [if_pos (by omega), List.getElem?_eq_getElem hk, hv]
  rfl
theorem info69 : (Try.prog.info? 67).map (·.size) = some 64 := by kernel_rfl
theorem spL_four (S : List (List Nat)) : spL S 4 0 = [sp S 0 64, sp S 1 64, sp S 2 64, sp S 3 64, 0] := by
  simp [spL, List.range, List.range.loop, sp_zero]
set_option maxHeartbeats 1000000 in
set_option maxRecDepth 100000 in
theorem spread_any (wp now : Nat) (L : List Tm) (Y : Lay) (S : List (List Nat)) (w : World) (h1 : Rep w wp now L S Y) (h2 : Ok now L S) : Calls Try.prog 17 #[pw wp] w fun e w' => e = .returned (.agg #[iv (sp S 0 64), iv (sp S 1 64), iv (sp S 2 64), iv (sp S 3 64), iv ((S.getD 256 []).length)]) ∧ Below w.heap.size w w' := by
  obtain ⟨N, hN⟩ : ∃ N, N = w.heap.size := ⟨_, rfl⟩
  obtain ⟨F, hF⟩ : ∃ F, F = (S.getD 256 []).length := ⟨_, rfl⟩
  obtain ⟨A0, hA0⟩ : ∃ A, A = sp S 0 64 := ⟨_, rfl⟩
  obtain ⟨A1, hA1⟩ : ∃ A, A = sp S 1 64 := ⟨_, rfl⟩
  obtain ⟨A2, hA2⟩ : ∃ A, A = sp S 2 64 := ⟨_, rfl⟩
  obtain ⟨A3, hA3⟩ : ∃ A, A = sp S 3 64 := ⟨_, rfl⟩
  rw [← hF, ← hA0, ← hA1, ← hA2, ← hA3]
  have HF : Hid (F = (S.getD 256 []).length) := hF
  have HAS : Hid (spL S 4 0 = [A0, A1, A2, A3, 0]) := by show _ = _; rw [spL_four, hA0, hA1, hA2, hA3]
  clear hF hA0 hA1 hA2 hA3
  have HR := hide h1
  have HOK := hide h2
  have HN := hide hN
  have hwp : wp < N := by rw [hN]; exact h1.box.lt
  clear h1 h2 hN
  unfold pw
  go_enter Try.func17, Try.ntmps17
  go_wp2
  rw [← HN.out]
  have hs2 : ((w.alloc (.cells #[.int .i64 0, .int .i64 0, .int .i64 0, .int .i64 0, .int .i64 0] 46)).alloc (.cells #[.int .i64 0, .int .i64 0, .int .i64 0, .int .i64 0, .int .i64 0] 46)).heap.size = N + 2 := by rw [HN.out]; simp
  have hb2 : Below N w ((w.alloc (.cells #[.int .i64 0, .int .i64 0, .int .i64 0, .int .i64 0, .int .i64 0] 46)).alloc (.cells #[.int .i64 0, .int .i64 0, .int .i64 0, .int .i64 0, .int .i64 0] 46)) := by rw [HN.out]; exact (below_new w _).trans ((below_new _ _).mono (by simp))
  have hA2 : Bl ((w.alloc (.cells #[.int .i64 0, .int .i64 0, .int .i64 0, .int .i64 0, .int .i64 0] 46)).alloc (.cells #[.int .i64 0, .int .i64 0, .int .i64 0, .int .i64 0, .int .i64 0] 46)) N [.int .i64 0, .int .i64 0, .int .i64 0, .int .i64 0, .int .i64 0] 46 := by rw [HN.out]; exact (Bl.new w _ _).alloc _
  have hC2 : Bl ((w.alloc (.cells #[.int .i64 0, .int .i64 0, .int .i64 0, .int .i64 0, .int .i64 0] 46)).alloc (.cells #[.int .i64 0, .int .i64 0, .int .i64 0, .int .i64 0, .int .i64 0] 46)) (N + 1) [.int .i64 0, .int .i64 0, .int .i64 0, .int .i64 0, .int .i64 0] 46 := by
    have := Bl.new (w.alloc (.cells #[.int .i64 0, .int .i64 0, .int .i64 0, .int .i64 0, .int .i64 0] 46)) #[.int .i64 0, .int .i64 0, .int .i64 0, .int .i64 0, .int .i64 0] 46
    rw [World.size_alloc, ← HN.out] at this
    exact this
  have hR2 : Rep ((w.alloc (.cells #[.int .i64 0, .int .i64 0, .int .i64 0, .int .i64 0, .int .i64 0] 46)).alloc (.cells #[.int .i64 0, .int .i64 0, .int .i64 0, .int .i64 0, .int .i64 0] 46)) wp now L S Y := HR.out.below (by rw [← HN.out]; exact hb2)
  have HLT : Hid (∀ b ∈ Y.blocks wp, b < N) := by intro b hb; rw [HN.out]; exact HR.out.lt b hb
  generalize (w.alloc (.cells #[.int .i64 0, .int .i64 0, .int .i64 0, .int .i64 0, .int .i64 0] 46)).alloc (.cells #[.int .i64 0, .int .i64 0, .int .i64 0, .int .i64 0, .int .i64 0] 46) = W2 at *
  have HAL : Hid (∀ wr, But (N + 1) W2 wr → Rep wr wp now L S Y) := fun wr hb => hR2.keep fun b hm => hb.block b (by have := HLT.out b hm; omega) (by have := HLT.out b hm; omega)
  have HA2 := hide hA2
  have HB2 := hide hb2
  have HS2 := hide hs2
  have HST : Hid (SPI W2 W2 N S 0 0) := ⟨by rw [spL_start]; exact hC2, But.refl _ _⟩
  clear hA2 hb2 hC2 hR2 HR hs2
  go_loopw [10] (fun v10 wr => ∃ i : Nat, i ≤ 4 ∧ v10 = .int .i64 (i : Int) ∧ Hid (SPI W2 wr N S i 0)) (fun v10 _ => 4 - (intOf v10).toNat)
  case atStart => exact ⟨0, by omega, rfl, HST⟩
  case round =>
    clear HST
    obtain ⟨i, hi, rfl, HI⟩ := hrel
    by_cases hi4 : i < 4
    · have hi4' : (i : Int) < 4 := by omega
      have hi4d : decide ((i : Int) < 4) = true := decide_eq_true hi4'
      have HRG := hide (ring_range (HAL.out wr HI.out.2) (i := i))
      have HRL := hide (ring_len (HAL.out wr HI.out.2) hi4)
      obtain ⟨cs, hcs⟩ : ∃ cs, cs = (Y.vs.drop (i * 64)).take 64 := ⟨_, rfl⟩
      have HCS := hide hcs
      rw [← hcs] at HRG HRL
      clear hcs
      go_wp2_with (first | (refine wpList_load_mid rfl 67 _ rfl wp (2 + i * 64) rfl cs _ HRG.out Try.underlying67 rfl (by rw [HRL.out]; exact info69) ?_) | fail)
      go_loopw [19] (fun v19 wr => ∃ k : Nat, k ≤ 64 ∧ v19 = .int .i64 (k : Int) ∧ Hid (SPI W2 wr N S i k)) (fun v19 _ => 64 - (intOf v19).toNat)
      case atStart => exact ⟨0, by omega, rfl, HI⟩
      case round =>
        clear HI HRG
        obtain ⟨k, hk, rfl, HI⟩ := hrel
        by_cases hk64 : k < 64
        · have hk64' : (k : Int) < 64 := by omega
          obtain ⟨b1, b2⟩ := HI.out
          have rr := HAL.out wr b2
          obtain ⟨v, xs, hv, hxs, ho, _, _⟩ := rr.get (k := 64 * i + k) (by omega)
          have hck : cs[k]? = some v := by
            rw [HCS.out, List.getElem?_take, if_pos hk64, List.getElem?_drop, show i * 64 + k = 64 * i + k by omega]; exact hv
          obtain ⟨ao, cap, e, _, _⟩ := ho.read
          subst e
          have hlen := HRL.out
          have hsl := HOK.out.short hxs
          have hsp := sp_le (S := S) (fun k xs hx => HOK.out.short hx) i k (by rw [rr.slen]; omega)
          have c0 : wr.cell? ⟨N + 1, i, none⟩ = some (.int .i64 (sp S i k : Int)) := by rw [b1.cell i, List.getElem?_map, spL_get (by omega)]; rfl
          have f0 := b1.frozen i
          have HNX : Hid (SPI W2 (wr.setCell ⟨N + 1, i, none⟩ (.int .i64 ((sp S i k : Int) + (xs.length : Int)))) N S i (k + 1)) := by
            refine ⟨?_, b2.trans (But.setCell _ _ _ _)⟩
            have := b1.set i (iv (sp S i k + xs.length))
            rw [← List.map_set, spL_set hxs] at this
            simpa [iv] using this
          generalize sp S i k = q at *
          generalize xs.length = n at *
          clear HI b1 b2 rr hv hxs ho
          have hcl : k < cs.length := by omega
          have hck2 : cs[k] = .slice ao n cap := by simpa [hcl] using hck
          have hix := idx_any cs k ao n cap hcl hck2 hlen wr
          clear hck hck2 hcl hlen
          go_wp2_with fail
          exact ⟨⟨k + 1, by omega, by simp, HNX⟩, by simp [intOf]; omega⟩
        · have hk64' : ¬ (k : Int) < 64 := by omega
          obtain rfl : k = 64 := by omega
          have HNX : Hid (SPI W2 wr N S (i + 1) 0) := by
            have := HI.out
            unfold SPI at this
            rw [spL_ring] at this
            exact this
          clear HI
          go_wp2_with fail
          go_roundw
          case rel => exact ⟨i + 1, by omega, by simp, HNX⟩
          case measure => simp [intOf]; omega
    · have hi4' : ¬ (i : Int) < 4 := by omega
      obtain rfl : i = 4 := by omega
      obtain ⟨b1, b2⟩ := HI.out
      have rr := HAL.out wr b2
      obtain ⟨v, xs, hv, hxs, ho, c9, f9⟩ := rr.get (k := 256) (by omega)
      obtain ⟨ao, cap, e, _, _⟩ := ho.read
      subst e
      have c0 : wr.cell? ⟨N + 1, 4, none⟩ = some (.int .i64 (sp S 4 0 : Int)) := by rw [b1.cell 4, List.getElem?_map, spL_get (by omega)]; rfl
      have f0 := b1.frozen 4
      have hxF : xs.length = F := by rw [HF.out]; simp [List.getD, hxs]
      rw [HAS.out] at b1
      have hsl := HOK.out.short hxs
      rw [hxF] at c9 hsl
      have HB : Hid (Bl (wr.setCell ⟨N + 1, 4, none⟩ (.int .i64 (F : Int))) (N + 1) [iv A0, iv A1, iv A2, iv A3, iv F] 46) := b1.set 4 (iv F)
      have HN2 : Hid (Bl (wr.setCell ⟨N + 1, 4, none⟩ (.int .i64 (F : Int))) N [.int .i64 0, .int .i64 0, .int .i64 0, .int .i64 0, .int .i64 0] 46) := (HA2.out.but b2 (by omega)).other (by omega) 4 _
      have HBW : Hid (Below N w (wr.setCell ⟨N + 1, 4, none⟩ (.int .i64 (F : Int)))) := by
        have hs := HS2.out
        exact HB2.out.trans ((b2.trans (But.setCell (N + 1) wr 4 _)).below (by omega) (by omega))
      clear HI b1 b2 rr hv hxs ho HAL HF HAS
      have HONE : Hid ((#[iv A0, iv A1, iv A2, iv A3, iv F] : Array Value).all (·.oneCell') = true) := by show _ = _; simp [Value.oneCell', iv]
      go_wp2_with (first
        | (refine wpList_load_row rfl 46 _ rfl (N + 1) rfl 46 _ (0, 0) _ HB.out Try.underlying46 rfl (by kernel_rfl) ?_)
        | (refine wpList_store_row rfl 46 _ _ rfl N #[iv A0, iv A1, iv A2, iv A3, iv F] rfl rfl 46 _ HN2.out (by kernel_rfl) rfl HONE.out ?_)
        | fail)
      have HN3 : Hid (((wr.setCell ⟨N + 1, 4, none⟩ (.int .i64 (F : Int))).setRow N #[iv A0, iv A1, iv A2, iv A3, iv F]).heap[N]? = some (.cells #[iv A0, iv A1, iv A2, iv A3, iv F] 46 (0, 0))) := setRow_heap _ N _ _ _ _ HN2.out
      (try simp only [Exit.inBlock, Exit.then])
      refine bodyPost_ret (results_cell_row rfl _ _ N 46 #[iv A0, iv A1, iv A2, iv A3, iv F] (0, 0) _ rfl HN3.out Try.underlying46 rfl (by kernel_rfl)) rfl ⟨rfl, ?_⟩
      rw [← HN.out]
      exact HBW.out.trans ⟨rfl, rfl, rfl, by simp, fun j hj => setRow_other _ N j _ (by omega)⟩
end Go.Proofs.Ytmngmkbiibhmkaa
