/- The contract of the reference's Joined: for all parts. -/
import Derived.Test.YtjdglpfjemoodaaDoorRefTotal
import Derived.Test.YtjdglpfjemoodaaDoorJoinedFn
import Derived.Test.YtjdglpfjemoodaaDoorPartsMath
namespace Go.Proofs.YtjdglpfjemoodaaDoor
open Go.RowKit

set_option maxHeartbeats 2000000 in
set_option maxRecDepth 100000 in
theorem refJoined_any (pn pc : Nat) (po : Option Addr) (pl : List (List Nat)) (w : World) (hpn : pn = pl.length) (hpl : pn ≤ 1048576) (hpf : pl.flatten.length ≤ 1048576) (hp : Parts w po pl) (hT : Roots w 1) :
    Calls Tryd.prog 28 #[.slice po pn pc] w fun e w' => e = .returned (.agg ((sha (joinBytes pl)).map bv).toArray) ∧ Below w.heap.size w w' := by
  have HT : Hid (Roots w 1) := hT
  have HP : Hid (Parts w po pl) := hp
  have HPN : Hid (pn = pl.length) := hpn
  have HPF : Hid (pl.flatten.length ≤ 1048576) := hpf
  have HML : Hid ((sha (joinBytes pl)).length = 32) := sha_length _
  clear hT hp hpn hpf
  generalize hso : sha (joinBytes pl) = out at *
  replace hso := hide hso
  go_enter Tryd.func28, Tryd.ntmps28
  go_wp2
  have GR1 : Hid (Bl (w.alloc (.cells ((List.replicate 32 0).map bv).toArray 24)) w.heap.size ((List.replicate 32 0).map bv) 24) := Bl.new w _ _
  have HB1 : Hid (Below w.heap.size w (w.alloc (.cells ((List.replicate 32 0).map bv).toArray 24))) := below_new w _
  go_loopw [3, 4] (fun v i wr => ∃ k : Nat, k ≤ pn ∧ i = .int .i64 k ∧ Hid (Own wr (w.heap.size + 1) v (joinBytes (pl.take k))) ∧ Hid (Bl wr w.heap.size ((List.replicate 32 0).map bv) 24) ∧ Hid (Below w.heap.size w wr)) (fun _ i _ => pn - (intOf i).toNat)
  case atStart => exact ⟨0, Nat.zero_le _, rfl, own_nil _ _, GR1, HB1⟩
  case round =>
    clear GR1 HB1
    obtain ⟨k, hk, rfl, HO, GR, HB⟩ := hrel
    have hs : w.heap.size < wr.heap.size := GR.out.lt
    by_cases hlt : k < pn
    · obtain ⟨b, off, rfl, ak, ck, hck, hlk, hrk, hxk⟩ := HP.out.at k (by rw [← HPN.out]; exact hlt)
      have HCK : Hid (∀ W, Below w.heap.size w W → W.cell? ⟨b, off + k, none⟩ = some (.slice ak (pl.getD k []).length ck)) := fun W h => cell_kept hck h
      have HRK : Hid (∀ W, Below w.heap.size w W → Row W ak (pl.getD k [])) := fun W h => hrk.keep h
      have HTJ : Hid (joinBytes (pl.take (k + 1)) = joinBytes (pl.take k) ++ eight (pl.getD k []).length ++ pl.getD k []) := take_join (by rw [← HPN.out]; exact hlt)
      have HL2 : Hid ((joinBytes (pl.take k)).length + 8 + (pl.getD k []).length ≤ 9437184 + 64) := join_fit pl k (by rw [← HPN.out]; exact hlt) (by rw [← HPN.out]; exact hpl) HPF.out
      clear hck hrk hxk
      generalize pl.getD k [] = yk at *
      obtain ⟨m, hm⟩ : ∃ m, m = yk.length := ⟨_, rfl⟩
      have HM : Hid (m = yk.length) := hm
      rw [← hm] at HCK hlk HTJ HL2
      have hml : m ≤ 9437248 := by have := HL2.out; omega
      clear hm
      have ckr := HCK.out wr HB.out
      go_wp2_with fail
      refine (refEight_any m wr).mono ?_
      rintro e w2 ⟨v2, rfl, h2⟩
      have HB2 : Hid (Below w.heap.size w w2) := HB.out.trans (h2.out.2.mono (by omega))
      have HO2 : Hid (Own w2 (w.heap.size + 1) u3 (joinBytes (pl.take k))) := HO.out.keep h2.out.2
      have GR2 : Hid (Bl w2 w.heap.size ((List.replicate 32 0).map bv) 24) := GR.out.keep h2.out.2
      obtain ⟨a2, c2, hv2, hc2, hr2⟩ := h2.out.1.read
      rw [eight_length] at hv2
      subst hv2
      have HR2 : Hid (Row w2 a2 (eight m)) := hr2
      have hs2 : w.heap.size < w2.heap.size := GR2.out.lt
      clear h2 hr2 hc2 ckr
      go_wp2_with (first | (at_builtin; refine wpList_append_bytes rfl _ _ rfl (w.heap.size + 1) _ (joinBytes (pl.take k)) rfl HO2.out a2 8 c2 (eight m) (eight_length _).symm rfl HR2.out (by rw [eight_length]; have := HL2.out; omega) (by omega) ?_) | fail)
      rintro v3 w3 hown3 hgr3
      have HB3 : Hid (Below w.heap.size w w3) := HB2.out.grown hgr3 (by omega) (fun j hj => by have := HO2.out.ge j hj; omega)
      have GR3 : Hid (Bl w3 w.heap.size ((List.replicate 32 0).map bv) 24) := (hgr3.block w.heap.size hs2 (fun e => by have := HO2.out.ge w.heap.size e.symm; omega)).trans GR2.out
      have HO3 : Hid (Own w3 (w.heap.size + 1) v3 (joinBytes (pl.take k) ++ eight m)) := hown3
      have ck3 := HCK.out w3 HB3.out
      have hs3 : w.heap.size < w3.heap.size := GR3.out.lt
      clear hown3 hgr3
      go_wp2_with (first | (at_builtin; refine wpList_append_bytes rfl _ _ rfl (w.heap.size + 1) _ (joinBytes (pl.take k) ++ eight m) rfl HO3.out ak m ck yk HM.out rfl (HRK.out _ HB3.out) (by rw [List.length_append, eight_length, ← HM.out]; have := HL2.out; omega) (by omega) ?_) | fail)
      rintro v4 w4 hown4 hgr4
      have HB4 : Hid (Below w.heap.size w w4) := HB3.out.grown hgr4 (by omega) (fun j hj => by have := HO3.out.ge j hj; omega)
      have GR4 : Hid (Bl w4 w.heap.size ((List.replicate 32 0).map bv) 24) := (hgr4.block w.heap.size hs3 (fun e => by have := HO3.out.ge w.heap.size e.symm; omega)).trans GR3.out
      have HO4 : Hid (Own w4 (w.heap.size + 1) v4 (joinBytes (pl.take (k + 1)))) := by rw [HTJ.out]; first | exact hown4 | (rw [List.append_assoc]; exact hown4)
      clear hown4 hgr4
      go_wp2
      go_roundw
      case rel => exact ⟨k + 1, by omega, by go_num, HO4, GR4, HB4⟩
      case measure => simp [intOf]; omega
    · have HTK : Hid (pl.take k = pl) := by show _ = _; rw [List.take_of_length_le (by rw [← HPN.out]; omega)]
      rw [HTK.out] at HO
      obtain ⟨mj, hmj⟩ : ∃ m, m = (joinBytes pl).length := ⟨_, rfl⟩
      have HMJ : Hid (mj = (joinBytes pl).length) := hmj
      have hmj3 : mj ≤ 9437184 := by rw [hmj, join_length, ← HPN.out]; have := HPF.out; omega
      obtain ⟨a5, c5, hv5, hc5, hr5⟩ := HO.out.read
      rw [← hmj] at hv5 hc5
      subst hv5
      have HR5 : Hid (Row wr a5 (joinBytes pl)) := hr5
      clear hr5 hmj
      go_wp2_with fail
      refine (refSum_any mj c5 a5 (joinBytes pl) wr HMJ.out (by omega) (join_lt (parts_lt HP.out)) HR5.out (HT.out.keep HB.out)).mono ?_
      rintro e w9 ⟨rfl, h9⟩
      rw [hso.out]
      have GR9 : Hid (Bl w9 w.heap.size ((List.replicate 32 0).map bv) 24) := GR.out.keep h9
      have HB9 : Hid (Below w.heap.size w w9) := HB.out.trans (h9.mono (by omega))
      have HCO : Hid ((Tryd.prog.info? 24).map (·.size) = some (out.map bv).toArray.size) := by show _ = _; rw [size24]; simp [HML.out]
      clear h9
      go_wp2_with (first | (refine wpList_store_row rfl 24 _ _ rfl w.heap.size (out.map bv).toArray rfl rfl 24 ((List.replicate 32 0).map bv).toArray GR9.out HCO.out (by simp [HML.out]) (all_oneCell_toArray (bv_one _)) ?_) | fail)
      refine bodyPost_ret (results_cell_row rfl _ _ w.heap.size 24 (out.map bv).toArray (0, 0) _ rfl (GR9.out.setRow _) Tryd.underlying24 rfl HCO.out) rfl ⟨rfl, below_setRow HB9.out (Nat.le_refl _) _⟩
end Go.Proofs.YtjdglpfjemoodaaDoor
