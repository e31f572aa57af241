/- The contract of digest.Mac: for every key and all parts. -/
import Derived.Test.YtjdglpfjemoodaaDoorMacFn
namespace Go.Proofs.YtjdglpfjemoodaaDoor
open Go.RowKit

/-- A slice of rows of bytes in memory. -/
def Parts (w : World) (po : Option Addr) (pl : List (List Nat)) : Prop :=
  pl = [] ∨ ∃ b off, po = some ⟨b, off, none⟩ ∧ ∀ i, i < pl.length → ∃ ao c, w.cell? ⟨b, off + i, none⟩ = some (.slice ao (pl.getD i []).length c) ∧ (pl.getD i []).length ≤ c ∧ Row w ao (pl.getD i []) ∧ (∀ x ∈ pl.getD i [], x < 256)
theorem Parts.keep {w w' : World} {po : Option Addr} {pl : List (List Nat)} (h : Parts w po pl) (hb : Below w.heap.size w w') : Parts w' po pl := by
  rcases h with h | ⟨b, off, rfl, hc⟩
  · exact .inl h
  · refine .inr ⟨b, off, rfl, fun i hi => ?_⟩
    obtain ⟨ao, c, h1, h2, h3, h4⟩ := hc i hi
    exact ⟨ao, c, cell_kept h1 hb, h2, h3.keep hb, h4⟩
def macOf (key : List Nat) (pl : List (List Nat)) : List Nat := sha (padOf (kblk key) 92 ++ sha (padOf (kblk key) 54 ++ pl.flatten))
theorem take_flat {pl : List (List Nat)} {k : Nat} (h : k < pl.length) : (pl.take (k + 1)).flatten = (pl.take k).flatten ++ pl.getD k [] := by
  rw [List.take_succ_eq_append_getElem h, List.flatten_append]
  simp [List.getD, h]

set_option maxHeartbeats 2000000 in
set_option maxRecDepth 100000 in
theorem mac_any (n cap pn pc : Nat) (ao po : Option Addr) (xs : List Nat) (pl : List (List Nat)) (w : World) (hn : n = xs.length) (hnc : n ≤ cap) (hl : n ≤ 281474976710656) (hx : ∀ x ∈ xs, x < 256) (hr : Row w ao xs) (hpn : pn = pl.length) (hpl : pn ≤ 281474976710656) (hpf : pl.flatten.length ≤ 281474976710656) (hp : Parts w po pl) (hT : Roots w 0) :
    Calls Tryd.prog 12 #[.slice ao n cap, .slice po pn pc] w fun e w' => e = .returned (.agg ((macOf xs pl).map bv).toArray) ∧ Below w.heap.size w w' := by
  have HN : Hid (n = xs.length) := hn
  have HX : Hid (∀ x ∈ xs, x < 256) := hx
  have HR : Hid (Row w ao xs) := hr
  have HT : Hid (Roots w 0) := hT
  have HP : Hid (Parts w po pl) := hp
  have HPN : Hid (pn = pl.length) := hpn
  have HPF : Hid (pl.flatten.length ≤ 281474976710656) := hpf
  have HKL : Hid ((kblk xs).length = 64) := kblk_length xs
  have HKX : Hid (∀ x ∈ kblk xs, x < 256) := kblk_lt hx
  have HME : Hid (macOf xs pl = sha (padOf (kblk xs) 92 ++ sha (padOf (kblk xs) 54 ++ pl.flatten))) := rfl
  have HML : Hid ((macOf xs pl).length = 32) := sha_length _
  have h00 := hT.lt
  clear hn hx hr hT hp hpn hpf
  generalize macOf xs pl = out at *
  have HKB : Hid (∀ W, Below w.heap.size w W → Calls Tryd.prog 41 #[.slice ao n cap] W fun e w' => e = .returned (.agg ((kblk xs).map bv).toArray) ∧ Below W.heap.size W w') := fun W hb => keyBlock_any n cap ao xs W HN.out hnc hl HX.out (HR.out.keep hb) (HT.out.keep hb)
  generalize kblk xs = K at *
  go_enter Tryd.func12, Tryd.ntmps12
  go_wp2_with fail
  refine (HKB.out _ (below_new w _)).mono ?_
  rintro e w1 ⟨rfl, h1⟩
  have GR1 : Hid (Bl w1 w.heap.size ((List.replicate 32 0).map bv) 24) := (Bl.new w _ _).keep h1
  have HB1 : Hid (Below w.heap.size w w1) := (below_new w _).trans (h1.mono (by simp))
  have hs1 := HB1.out.size
  have hl1 := GR1.out.lt
  clear h1 HKB
  have HCK : Hid ((Tryd.prog.info? 70).map (·.size) = some (K.map bv).toArray.size) := by show _ = _; rw [size70]; simp [HKL.out]
  have HW2 : Hid (∀ C, Bl ((w1.alloc (Obj.cells C 70)).setRow w1.heap.size (K.map bv).toArray) w1.heap.size (K.map bv) 70) := fun C => (Bl.new w1 C _).setRow _
  have HB2' : Hid (∀ C, Below w1.heap.size w1 ((w1.alloc (Obj.cells C 70)).setRow w1.heap.size (K.map bv).toArray)) := fun C => below_setRow (below_new w1 _) (Nat.le_refl _) _
  go_wp2_with (first
    | (refine wpList_store_row rfl 70 _ _ rfl w1.heap.size (K.map bv).toArray rfl rfl 70 _ (Bl.new w1 _ _) HCK.out (by simp [HKL.out]) (all_oneCell_toArray (bv_one _)) ?_)
    | (refine wpList_load_row rfl 70 _ rfl w1.heap.size rfl 70 (K.map bv).toArray (0, 0) _ (HW2.out _) Tryd.underlying70 rfl HCK.out ?_)
    | fail)
  refine (padded_any K 54 _ HKL.out HKX.out (by decide) (by exact (HT.out.keep HB1.out).keep (HB2'.out _))).mono ?_
  rintro e w3 ⟨g3, rfl, h3⟩
  have hg3 : w1.heap.size < g3 := by have := h3.out.1; simp at this; omega
  have H13 : Hid (Below w1.heap.size w1 w3) := (HB2'.out _).trans (h3.out.2.2.mono (by simp))
  have GK3 : Hid (Bl w3 w1.heap.size (K.map bv) 70) := (HW2.out _).keep h3.out.2.2
  have GR3 : Hid (Bl w3 w.heap.size ((List.replicate 32 0).map bv) 24) := GR1.out.keep H13.out
  have HB3 : Hid (Below w.heap.size w w3) := HB1.out.trans (H13.out.mono hs1)
  have HS3 : Hid (HState w3 g3 first8 0 (padOf K 54 ++ (pl.take 0).flatten)) := by rw [List.take_zero, List.flatten_nil, List.append_nil]; exact h3.out.2.1
  have HPO : Hid ((padOf K 54).length = 64) := by show _ = _; rw [padOf_length, HKL.out]
  clear h3 H13 HW2 HB2' GR1 HB1
  go_wp2
  go_loopw [17] (fun i wr => ∃ k : Nat, k ≤ pn ∧ i = .int .i64 k ∧ Hid (HState wr g3 first8 0 (padOf K 54 ++ (pl.take k).flatten)) ∧ Hid (Bl wr w1.heap.size (K.map bv) 70) ∧ Hid (Bl wr w.heap.size ((List.replicate 32 0).map bv) 24) ∧ Hid (Below w.heap.size w wr)) (fun i _ => pn - (intOf i).toNat)
  case atStart => exact ⟨0, Nat.zero_le _, rfl, HS3, GK3, GR3, HB3⟩
  case round =>
    clear HS3 GK3 GR3 HB3
    obtain ⟨k, hk, rfl, HS, GK, GR, HB⟩ := hrel
    have hs := HB.out.size
    by_cases hlt : k < pn
    · obtain ⟨b, off, hpo, hcells⟩ : ∃ b off, po = some ⟨b, off, none⟩ ∧ ∀ i, i < pl.length → ∃ ao c, w.cell? ⟨b, off + i, none⟩ = some (.slice ao (pl.getD i []).length c) ∧ (pl.getD i []).length ≤ c ∧ Row w ao (pl.getD i []) ∧ (∀ x ∈ pl.getD i [], x < 256) := by
        rcases HP.out with h | h
        · rw [HPN.out, h] at hlt; simp at hlt
        · exact h
      obtain ⟨ak, ck, hck, hlk, hrk, hxk⟩ := hcells k (by rw [← HPN.out]; exact hlt)
      subst hpo
      have ckr : wr.cell? ⟨b, off + k, none⟩ = some (.slice ak (pl.getD k []).length ck) := cell_kept hck HB.out
      have HTF : Hid ((pl.take (k + 1)).flatten = (pl.take k).flatten ++ pl.getD k []) := take_flat (by rw [← HPN.out]; exact hlt)
      have HLN : Hid ((pl.take k).flatten.length + (pl.getD k []).length ≤ 281474976710656) := by
        have e : pl.flatten = (pl.take (k + 1)).flatten ++ (pl.drop (k + 1)).flatten := by rw [← List.flatten_append, List.take_append_drop]
        have := HPF.out
        rw [e, HTF.out] at this
        simp only [List.length_append] at this
        show _ ≤ _
        omega
      have HRK : Hid (Row w ak (pl.getD k [])) := hrk
      have HXK : Hid (∀ x ∈ pl.getD k [], x < 256) := hxk
      clear hcells hck hrk hxk
      generalize pl.getD k [] = yk at *
      obtain ⟨m, hm⟩ : ∃ m, m = yk.length := ⟨_, rfl⟩
      have HM : Hid (m = yk.length) := hm
      rw [← hm] at ckr hlk
      clear hm
      have HAO : Hid (0 < m → ∀ a, ak = some a → a.block ≠ g3) := fun h0 a ha => by
        subst ha
        rcases HRK.out with h | ⟨b', off', he, hc⟩
        · rw [HM.out, h] at h0; simp at h0
        · cases he
          have := World.block_lt_of_cell? w _ (hc 0 (by rw [← HM.out]; exact h0))
          simp at this ⊢; omega
      go_wp2_with fail
      refine (writeState_any g3 m ck 0 ak yk first8 _ wr HS.out (by have := HLN.out; rw [List.length_append, HPO.out]; omega) HXK.out (HRK.out.keep HB.out) HAO.out HM.out hlk (HT.out.keep HB.out) (by omega)).mono ?_
      rintro e w4 ⟨rfl, h4⟩
      have HS4 : Hid (HState w4 g3 first8 0 (padOf K 54 ++ (pl.take (k + 1)).flatten)) := by rw [HTF.out, ← List.append_assoc]; exact h4.out.1
      have GK4 : Hid (Bl w4 w1.heap.size (K.map bv) 70) := GK.out.but h4.out.2 (by omega)
      have GR4 : Hid (Bl w4 w.heap.size ((List.replicate 32 0).map bv) 24) := GR.out.but h4.out.2 (by omega)
      have HB4 : Hid (Below w.heap.size w w4) := HB.out.trans (h4.out.2.below (by omega) hs)
      clear h4
      go_wp2
      go_roundw
      case rel => exact ⟨k + 1, by omega, by go_num, HS4, GK4, GR4, HB4⟩
      case measure => simp [intOf]; omega
    · have HTK : Hid (pl.take k = pl) := by show _ = _; rw [List.take_of_length_le (by rw [← HPN.out]; omega)]
      rw [HTK.out] at HS
      have HIE : Hid (total first8 0 (padOf K 54 ++ pl.flatten) = sha (padOf K 54 ++ pl.flatten)) := rfl
      have HIL : Hid ((sha (padOf K 54 ++ pl.flatten)).length = 32) := sha_length _
      have HIX : Hid (∀ x ∈ sha (padOf K 54 ++ pl.flatten), x < 256) := sha_lt _
      go_wp2_with fail
      refine (sumState_any g3 0 first8 _ wr HS.out (HT.out.keep HB.out)).mono ?_
      rintro e w5 ⟨rfl, h5⟩
      rw [HIE.out]
      have GK5 : Hid (Bl w5 w1.heap.size (K.map bv) 70) := GK.out.keep h5
      have GR5 : Hid (Bl w5 w.heap.size ((List.replicate 32 0).map bv) 24) := GR.out.keep h5
      have HB5 : Hid (Below w.heap.size w w5) := HB.out.trans (h5.mono hs)
      have hs5 := HB5.out.size
      clear h5 HS GK GR HB HIE
      generalize sha (padOf K 54 ++ pl.flatten) = I at *
      have HCI : Hid ((Tryd.prog.info? 24).map (·.size) = some (I.map bv).toArray.size) := by show _ = _; rw [size24]; simp [HIL.out]
      have HW6 : Hid (∀ C, Bl ((w5.alloc (Obj.cells C 24)).setRow w5.heap.size (I.map bv).toArray) w5.heap.size (I.map bv) 24) := fun C => (Bl.new w5 C _).setRow _
      have HO6 : Hid (∀ C, Below w5.heap.size w5 ((w5.alloc (Obj.cells C 24)).setRow w5.heap.size (I.map bv).toArray)) := fun C => below_setRow (below_new w5 _) (Nat.le_refl _) _
      have hk5 := GK5.out.lt
      go_wp2_with (first
        | (refine wpList_store_row rfl 24 _ _ rfl w5.heap.size (I.map bv).toArray rfl rfl 24 _ (Bl.new w5 _ _) HCI.out (by simp [HIL.out]) (all_oneCell_toArray (bv_one _)) ?_)
        | (refine wpList_load_row rfl 70 _ rfl w1.heap.size rfl 70 (K.map bv).toArray (0, 0) _ (GK5.out.keep (HO6.out _)) Tryd.underlying70 rfl HCK.out ?_)
        | fail)
      refine (padded_any K 92 _ HKL.out HKX.out (by decide) (by exact (HT.out.keep HB5.out).keep (HO6.out _))).mono ?_
      rintro e w7 ⟨g7, rfl, h7⟩
      have hg7 : w5.heap.size < g7 := by have := h7.out.1; simp at this; omega
      have H57 : Hid (Below w5.heap.size w5 w7) := (HO6.out _).trans (h7.out.2.2.mono (by simp))
      have GI7 : Hid (Bl w7 w5.heap.size (I.map bv) 24) := (HW6.out _).keep h7.out.2.2
      have GR7 : Hid (Bl w7 w.heap.size ((List.replicate 32 0).map bv) 24) := GR5.out.keep H57.out
      have HB7 : Hid (Below w.heap.size w w7) := HB5.out.trans (H57.out.mono hs5)
      have HS7 : Hid (HState w7 g7 first8 0 (padOf K 92)) := h7.out.2.1
      have hs7 := HB7.out.size
      have HPO2 : Hid ((padOf K 92).length = 64) := by show _ = _; rw [padOf_length, HKL.out]
      clear h7 H57 HW6 HO6 GK5 GR5 HB5
      have hsa : ∀ W, (Instr.sliceAt 24 (.pointer (some ⟨w5.heap.size, 0, none⟩)) none none none).run Tryd.prog W = .ok (.slice (some ⟨w5.heap.size, 0, none⟩) 32 32) W := fun W => arr_all 24 32 Tryd.underlying24 w5.heap.size 0 (by decide) W
      go_wp2_with fail
      refine (writeState_any g7 32 32 0 (some ⟨w5.heap.size, 0, none⟩) I first8 (padOf K 92) w7 HS7.out (by rw [HPO2.out, HIL.out]; decide) HIX.out GI7.out.row (fun _ a ha => by cases ha; simp; omega) HIL.out.symm (by decide) (HT.out.keep HB7.out) (by omega)).mono ?_
      rintro e w8 ⟨rfl, h8⟩
      have HS8 : Hid (HState w8 g7 first8 0 (padOf K 92 ++ I)) := h8.out.1
      have GR8 : Hid (Bl w8 w.heap.size ((List.replicate 32 0).map bv) 24) := GR7.out.but h8.out.2 (by omega)
      have HB8 : Hid (Below w.heap.size w w8) := HB7.out.trans (h8.out.2.below (by omega) hs7)
      have hs8 := HB8.out.size
      have HOE : Hid (total first8 0 (padOf K 92 ++ I) = out) := HME.out.symm
      clear h8 HS7 GR7 GI7
      go_wp2_with fail
      refine (sumState_any g7 0 first8 _ w8 HS8.out (HT.out.keep HB8.out)).mono ?_
      rintro e w9 ⟨rfl, h9⟩
      rw [HOE.out]
      have GR9 : Hid (Bl w9 w.heap.size ((List.replicate 32 0).map bv) 24) := GR8.out.keep h9
      have HB9 : Hid (Below w.heap.size w w9) := HB8.out.trans (h9.mono hs8)
      have HCO : Hid ((Tryd.prog.info? 24).map (·.size) = some (out.map bv).toArray.size) := by show _ = _; rw [size24]; simp [HML.out]
      clear h9
      go_wp2_with (first | (refine wpList_store_row rfl 24 _ _ rfl w.heap.size (out.map bv).toArray rfl rfl 24 ((List.replicate 32 0).map bv).toArray GR9.out HCO.out (by simp [HML.out]) (all_oneCell_toArray (bv_one _)) ?_) | fail)
      refine bodyPost_ret (results_cell_row rfl _ _ w.heap.size 24 (out.map bv).toArray (0, 0) _ rfl (GR9.out.setRow _) Tryd.underlying24 rfl HCO.out) rfl ⟨rfl, below_setRow HB9.out (Nat.le_refl _) _⟩
end Go.Proofs.YtjdglpfjemoodaaDoor
