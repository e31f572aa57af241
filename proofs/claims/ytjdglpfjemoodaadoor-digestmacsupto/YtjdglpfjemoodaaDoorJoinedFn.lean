/- The contract of digest.Joined: for all parts. -/
import Derived.Test.YtjdglpfjemoodaaDoorMacTop
namespace Go.Proofs.YtjdglpfjemoodaaDoor
open Go.RowKit

def joinBytes (pl : List (List Nat)) : List Nat := pl.flatMap fun p => eight p.length ++ p
theorem take_join {pl : List (List Nat)} {k : Nat} (h : k < pl.length) : joinBytes (pl.take (k + 1)) = joinBytes (pl.take k) ++ eight (pl.getD k []).length ++ pl.getD k [] := by
  unfold joinBytes
  rw [List.take_succ_eq_append_getElem h, List.flatMap_append, List.append_assoc]
  congr 1
  simp [List.getD, h]
theorem join_le (pl : List (List Nat)) (k : Nat) : (joinBytes (pl.take k)).length ≤ (joinBytes pl).length := by
  have e : joinBytes pl = joinBytes (pl.take k) ++ joinBytes (pl.drop k) := by
    unfold joinBytes
    rw [← List.flatMap_append, List.take_append_drop]
  rw [e, List.length_append]
  omega

set_option maxHeartbeats 2000000 in
set_option maxRecDepth 100000 in
theorem joined_any (pn pc : Nat) (po : Option Addr) (pl : List (List Nat)) (w : World) (hpn : pn = pl.length) (hpl : pn ≤ 281474976710656) (hpf : (joinBytes pl).length ≤ 281474976710656) (hp : Parts w po pl) (hT : Roots w 0) :
    Calls Tryd.prog 24 #[.slice po pn pc] w fun e w' => e = .returned (.agg ((sha (joinBytes pl)).map bv).toArray) ∧ Below w.heap.size w w' := by
  have HT : Hid (Roots w 0) := hT
  have HP : Hid (Parts w po pl) := hp
  have HPN : Hid (pn = pl.length) := hpn
  have HPF : Hid ((joinBytes pl).length ≤ 281474976710656) := hpf
  have HME : Hid (total first8 0 (joinBytes pl) = sha (joinBytes pl)) := rfl
  have HML : Hid ((sha (joinBytes pl)).length = 32) := sha_length _
  have h00 := hT.lt
  clear hT hp hpn hpf
  generalize sha (joinBytes pl) = out at *
  go_enter Tryd.func24, Tryd.ntmps24
  go_wp2_with fail
  refine (newState_any _).mono ?_
  rintro e w1 ⟨g, rfl, h1⟩
  have GR1 : Hid (Bl w1 w.heap.size ((List.replicate 32 0).map bv) 24) := (Bl.new w _ _).keep h1.out.2.2.2
  have HB1 : Hid (Below w.heap.size w w1) := (below_new w _).trans (h1.out.2.2.2.mono (by simp))
  have HS1 : Hid (HState w1 g first8 0 (joinBytes (pl.take 0))) := h1.out.2.2.1
  have hg : w.heap.size < g := by have := h1.out.1; simp at this; omega
  clear h1
  go_wp2
  go_loopw [10] (fun i wr => ∃ k : Nat, k ≤ pn ∧ i = .int .i64 k ∧ Hid (HState wr g first8 0 (joinBytes (pl.take k))) ∧ Hid (Bl wr w.heap.size ((List.replicate 32 0).map bv) 24) ∧ Hid (Below w.heap.size w wr)) (fun i _ => pn - (intOf i).toNat)
  case atStart => exact ⟨0, Nat.zero_le _, rfl, HS1, GR1, HB1⟩
  case round =>
    clear HS1 GR1 HB1
    obtain ⟨k, hk, rfl, HS, GR, HB⟩ := hrel
    have hs := HB.out.size
    have hgl := HS.out.lt
    by_cases hlt : k < pn
    · obtain ⟨b, off, hpo, hcells⟩ : ∃ b off, po = some ⟨b, off, none⟩ ∧ ∀ i, i < pl.length → ∃ ao c, w.cell? ⟨b, off + i, none⟩ = some (.slice ao (pl.getD i []).length c) ∧ (pl.getD i []).length ≤ c ∧ Row w ao (pl.getD i []) ∧ (∀ x ∈ pl.getD i [], x < 256) := by
        rcases HP.out with h | h
        · rw [HPN.out, h] at hlt; simp at hlt
        · exact h
      obtain ⟨ak, ck, hck, hlk, hrk, hxk⟩ := hcells k (by rw [← HPN.out]; exact hlt)
      subst hpo
      have ckr : wr.cell? ⟨b, off + k, none⟩ = some (.slice ak (pl.getD k []).length ck) := cell_kept hck HB.out
      have HTF : Hid (joinBytes (pl.take (k + 1)) = joinBytes (pl.take k) ++ eight (pl.getD k []).length ++ pl.getD k []) := take_join (by rw [← HPN.out]; exact hlt)
      have HLN : Hid ((joinBytes (pl.take k)).length + 8 + (pl.getD k []).length ≤ 281474976710656) := by
        have h1 := join_le pl (k + 1)
        have h2 := HPF.out
        rw [HTF.out] at h1
        simp only [List.length_append, eight_length] at h1
        show _ ≤ _
        omega
      have HRK : Hid (Row w ak (pl.getD k [])) := hrk
      have HXK : Hid (∀ x ∈ pl.getD k [], x < 256) := hxk
      clear hcells hck hrk hxk
      generalize pl.getD k [] = yk at *
      obtain ⟨m, hm⟩ : ∃ m, m = yk.length := ⟨_, rfl⟩
      have HM : Hid (m = yk.length) := hm
      rw [← hm] at ckr hlk HTF HLN
      clear hm
      have HAO : Hid (0 < m → ∀ a, ak = some a → a.block ≠ g) := fun h0 a ha => by
        subst ha
        rcases HRK.out with h | ⟨b', off', he, hc⟩
        · rw [HM.out, h] at h0; simp at h0
        · cases he
          have := World.block_lt_of_cell? w _ (hc 0 (by rw [← HM.out]; exact h0))
          simp at this ⊢; omega
      have hml : m ≤ 281474976710656 := by have := HLN.out; omega
      have hsa : ∀ W, (Instr.sliceAt 88 (.pointer (some ⟨wr.heap.size, 0, none⟩)) none none none).run Tryd.prog W = .ok (.slice (some ⟨wr.heap.size, 0, none⟩) 8 8) W := fun W => arr_all 88 8 Tryd.underlying88 wr.heap.size 0 (by decide) W
      go_wp2_with fail
      refine (putNumber_any wr.heap.size 0 8 8 m [] [] (List.replicate 8 0) 88 _ rfl (by simp) (by decide) (by decide) (by exact Bl.new wr _ _)).mono ?_
      rintro e w4 ⟨rfl, h4⟩
      have G4 : Hid (Bl w4 wr.heap.size ((eight m).map bv) 88) := by have := h4.out.1; rw [List.nil_append, List.append_nil] at this; exact this
      have H4 : Hid (Below wr.heap.size wr w4) := (below_new wr _).trans (h4.out.2.below (Nat.le_refl _) (by simp))
      have HB4 : Hid (Below w.heap.size w w4) := HB.out.trans (H4.out.mono hs)
      have hs4 := HB4.out.size
      have HS4 : Hid (HState w4 g first8 0 (joinBytes (pl.take k))) := HS.out.keep H4.out
      have GR4 : Hid (Bl w4 w.heap.size ((List.replicate 32 0).map bv) 24) := GR.out.keep H4.out
      clear h4 H4 HS GR
      go_wp2_with fail
      refine (writeState_any g 8 8 0 (some ⟨wr.heap.size, 0, none⟩) (eight m) first8 _ w4 HS4.out (by have := HLN.out; rw [eight_length]; omega) (eight_lt _) G4.out.row (fun _ a ha => by cases ha; simp; omega) (eight_length _).symm (by decide) (HT.out.keep HB4.out) (by omega)).mono ?_
      rintro e w5 ⟨rfl, h5⟩
      have HB5 : Hid (Below w.heap.size w w5) := HB4.out.trans (h5.out.2.below (by omega) hs4)
      have hs5 := HB5.out.size
      have HS5 : Hid (HState w5 g first8 0 (joinBytes (pl.take k) ++ eight m)) := h5.out.1
      have GR5 : Hid (Bl w5 w.heap.size ((List.replicate 32 0).map bv) 24) := GR4.out.but h5.out.2 (by omega)
      clear h5 HS4 GR4 G4
      go_wp2_with fail
      refine (writeState_any g m ck 0 ak yk first8 _ w5 HS5.out (by have := HLN.out; rw [List.length_append, eight_length, ← HM.out]; omega) HXK.out (HRK.out.keep HB5.out) HAO.out HM.out hlk (HT.out.keep HB5.out) (by omega)).mono ?_
      rintro e w6 ⟨rfl, h6⟩
      have HB6 : Hid (Below w.heap.size w w6) := HB5.out.trans (h6.out.2.below (by omega) hs5)
      have HS6 : Hid (HState w6 g first8 0 (joinBytes (pl.take (k + 1)))) := by rw [HTF.out]; exact h6.out.1
      have GR6 : Hid (Bl w6 w.heap.size ((List.replicate 32 0).map bv) 24) := GR5.out.but h6.out.2 (by omega)
      clear h6
      go_wp2
      go_roundw
      case rel => exact ⟨k + 1, by omega, by go_num, HS6, GR6, HB6⟩
      case measure => simp [intOf]; omega
    · have HTK : Hid (pl.take k = pl) := by show _ = _; rw [List.take_of_length_le (by rw [← HPN.out]; omega)]
      rw [HTK.out] at HS
      go_wp2_with fail
      refine (sumState_any g 0 first8 _ wr HS.out (HT.out.keep HB.out)).mono ?_
      rintro e w9 ⟨rfl, h9⟩
      rw [HME.out]
      have GR9 : Hid (Bl w9 w.heap.size ((List.replicate 32 0).map bv) 24) := GR.out.keep h9
      have HB9 : Hid (Below w.heap.size w w9) := HB.out.trans (h9.mono hs)
      have HCO : Hid ((Tryd.prog.info? 24).map (·.size) = some (out.map bv).toArray.size) := by show _ = _; rw [size24]; simp [HML.out]
      clear h9
      go_wp2_with (first | (refine wpList_store_row rfl 24 _ _ rfl w.heap.size (out.map bv).toArray rfl rfl 24 ((List.replicate 32 0).map bv).toArray GR9.out HCO.out (by simp [HML.out]) (all_oneCell_toArray (bv_one _)) ?_) | fail)
      refine bodyPost_ret (results_cell_row rfl _ _ w.heap.size 24 (out.map bv).toArray (0, 0) _ rfl (GR9.out.setRow _) Tryd.underlying24 rfl HCO.out) rfl ⟨rfl, below_setRow HB9.out (Nat.le_refl _) _⟩
end Go.Proofs.YtjdglpfjemoodaaDoor
