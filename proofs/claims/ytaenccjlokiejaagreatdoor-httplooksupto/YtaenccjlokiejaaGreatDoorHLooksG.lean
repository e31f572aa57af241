/- A field of a list: by the program and by the document's own hand. -/
import Derived.Test.YtaenccjlokiejaaGreatDoorHLooksF
import Derived.Test.YtaenccjlokiejaaGreatDoorHSmallF
namespace Go.Proofs.YtaenccjlokiejaaGreatDoor
open Go.RowKit Go.Shelf

def hits (nm : U) (fs : List Fl) : List Fl := fs.filter fun f => decide (lows f.1 = lows nm)
def lastv (h : List Fl) : U := match h.getLast? with
  | none => []
  | some f => f.2
def findR (nm : U) (fs : List Fl) : U × Bool × Int := if 1 < (hits nm fs).length then ([], false, 34) else (lastv (hits nm fs), decide ((hits nm fs).length = 1), 0)
theorem hits_yes {nm : U} {fs : List Fl} {k : Nat} {f : Fl} (hf : fs[k]? = some f) (h : lows f.1 = lows nm) : hits nm (fs.take (k + 1)) = hits nm (fs.take k) ++ [f] := by
  rw [take_snoc fs k f hf]
  unfold hits
  rw [List.filter_append]
  simp [h]
theorem hits_no {nm : U} {fs : List Fl} {k : Nat} {f : Fl} (hf : fs[k]? = some f) (h : ¬ lows f.1 = lows nm) : hits nm (fs.take (k + 1)) = hits nm (fs.take k) := by
  rw [take_snoc fs k f hf]
  unfold hits
  rw [List.filter_append]
  simp [h]
theorem lastv_snoc (h : List Fl) (f : Fl) : lastv (h ++ [f]) = f.2 := by simp [lastv]
theorem hits_le (nm : U) (fs : List Fl) (k : Nat) : (hits nm (fs.take k)).length ≤ (hits nm fs).length := by
  conv => rhs; rw [← List.take_append_drop k fs]
  unfold hits
  rw [List.filter_append, List.length_append]
  omega
theorem hits_len (nm : U) (fs : List Fl) : (hits nm fs).length ≤ fs.length := List.length_filter_le _ _
set_option maxHeartbeats 2000000 in
set_option maxRecDepth 100000 in
theorem refFind_any (nm : U) (so : Option Addr) (fs : List Fl) (n c : Nat) (w : World) (hn : n = fs.length) (hnl : n ≤ 4611686018427387904) (hs : FRow w so fs) (hz : ∀ q ∈ fs, q.1.length ≤ 140737488355328) (hzn : nm.length ≤ 140737488355328) :
    Calls Tryz.prog 30 #[.slice so n c, .string (str nm)] w fun e w' => e = .returned (.tuple #[.string (str (findR nm fs).1), .bool (findR nm fs).2.1, .int .i64 (findR nm fs).2.2]) ∧ Below w.heap.size w w' := by
  have HN := hide hn
  have HS := hide hs
  have HZ := hide hz
  have HNL := hide hnl
  have HM := hide (fun W => refSmall_any nm W hzn)
  generalize hsn : str nm = sn at *
  clear hs hn hnl hz hsn hzn
  go_enter Tryz.func30, Tryz.ntmps30
  go_wp2_with fail
  go_loopw [7, 8, 9] (fun x v i wr => ∃ k m : Nat, k ≤ n ∧ i = .int .i64 (k : Int) ∧ x = .int .i64 (m : Int) ∧ m = (hits nm (fs.take k)).length ∧ v = .string (str (lastv (hits nm (fs.take k)))) ∧ Hid (Below w.heap.size w wr)) (fun _ _ i _ => n - (intOf i).toNat)
  case atStart => exact ⟨0, 0, Nat.zero_le _, rfl, rfl, rfl, rfl, Below.refl _ _⟩
  case round =>
    obtain ⟨k, m, hk, rfl, rfl, hm, rfl, HBF⟩ := hrel
    have HMM := hide hm
    clear hm
    have HMK : Hid (m ≤ k) := by
      have h1 := hits_len nm (fs.take k)
      rw [← HMM.out, List.length_take] at h1
      show _ ≤ _
      omega
    by_cases hkn : k < n
    · obtain ⟨f, hf⟩ : ∃ f, fs[k]? = some f := ⟨_, List.getElem?_eq_getElem (by rw [← HN.out]; exact hkn)⟩
      obtain ⟨b, off, rfl⟩ := HS.out.form (by have := HN.out; omega)
      obtain ⟨y1, y2⟩ := (HS.out.keep HBF.out).cell hf
      rw [Nat.mul_comm] at y1 y2
      have HSM := hide (refSmall_any f.1 wr (HZ.out f (List.mem_of_getElem? hf)))
      have hbq := str_beq (lows f.1) (lows nm)
      have HY := hide (@hits_yes nm fs k f hf)
      have HO := hide (@hits_no nm fs k f hf)
      have hmb : (m : Int) + 1 ≤ 4611686018427387904 := by have := HMK.out; have := HNL.out; omega
      have hkb : (k : Int) + 1 ≤ 4611686018427387904 := by have := HNL.out; omega
      generalize str f.1 = s1 at *
      clear hf
      go_wp2_with fail
      refine HSM.out.mono ?_
      rintro e w1 ⟨rfl, hb1⟩
      have HB1 := hide (HBF.out.trans (hb1.mono HBF.out.size))
      have z2 := cell_kept y2 hb1
      clear hb1 HSM y1 y2 HBF
      go_wp2_with fail
      refine (HM.out w1).mono ?_
      rintro e w2 ⟨rfl, hb2⟩
      have HB2 := hide (HB1.out.trans (hb2.mono HB1.out.size))
      have v2 := cell_kept z2 hb2
      clear hb2 z2 HB1
      by_cases he : lows f.1 = lows nm
      · rw [decide_eq_true he] at hbq
        have HE := hide (HY.out he)
        clear he
        go_wp2_with fail
        go_roundw
        case rel => exact ⟨k + 1, m + 1, by omega, by go_num, by go_num, by rw [HE.out, List.length_append, ← HMM.out]; rfl, by rw [HE.out, lastv_snoc], HB2⟩
        case measure => simp [intOf]; omega
      · rw [decide_eq_false he] at hbq
        have HE := hide (HO.out he)
        clear he
        go_wp2_with fail
        go_roundw
        case rel => exact ⟨k + 1, m, by omega, by go_num, rfl, by rw [HE.out, ← HMM.out], by rw [HE.out], HB2⟩
        case measure => simp [intOf]; omega
    · obtain rfl : k = n := by omega
      have HTE : Hid (fs.take k = fs) := List.take_of_length_le (by have := HN.out; omega)
      rw [HTE.out] at HMM ⊢
      by_cases h1 : 1 < m
      · have HR : Hid (findR nm fs = ([], false, 34)) := by show _ = _; unfold findR; rw [if_pos (by rw [← HMM.out]; exact h1)]
        have hi : (m : Int) > 1 := by omega
        clear h1
        go_wp2_with fail
        go_ret3
        exact ⟨by rw [HR.out]; rfl, HBF.out⟩
      · have HR : Hid (findR nm fs = (lastv (hits nm fs), decide (m = 1), 0)) := by show _ = _; unfold findR; rw [if_neg (by rw [← HMM.out]; exact h1), ← HMM.out]
        have hi : ¬ (m : Int) > 1 := by omega
        have hd : ((m : Int) == 1) = decide (m = 1) := by rw [Bool.eq_iff_iff]; simp; omega
        clear h1
        go_wp2_with fail
        go_ret3
        exact ⟨by rw [HR.out]; first | rfl | (simp only [← hd]; rfl), HBF.out⟩
set_option maxHeartbeats 2000000 in
set_option maxRecDepth 100000 in
theorem httpField_any (nm : U) (so : Option Addr) (fs : List Fl) (n c : Nat) (w : World) (hn : n = fs.length) (hnl : n ≤ 4611686018427387904) (hs : FRow w so fs) (hz : ∀ q ∈ fs, q.1.length ≤ 140737488355328 ∧ q.2.length ≤ 140737488355328) (hzn : nm.length ≤ 140737488355328) :
    Calls Tryz.prog 29 #[.slice so n c, .string (str nm)] w fun e w' => e = .returned (.tuple #[.string (str (findR nm fs).1), .bool (findR nm fs).2.1, .int .i64 (findR nm fs).2.2]) ∧ Below w.heap.size w w' := by
  have HN := hide hn
  have HS := hide hs
  have HZ := hide hz
  have HNL := hide hnl
  have HM := hide (fun f (hf : f ∈ fs) W => sameName_any f.1 nm W (by have := (hz f hf).1; omega) (by omega))
  have HNI : Hid (∀ k, (lastv (hits nm (fs.take k))).length ≤ 281474976710656) := by
    intro k
    unfold lastv
    split
    · simp
    · rename_i f hf
      have := (hz f (List.mem_of_mem_take (List.mem_filter.1 (List.mem_of_getLast? hf)).1)).2
      omega
  generalize hsn : str nm = sn at *
  clear hs hn hnl hz hsn hzn
  go_enter Tryz.func29, Tryz.ntmps29
  go_wp2_with fail
  go_loopw [7, 8, 13] (fun v x i wr => ∃ k m : Nat, k ≤ n ∧ m ≤ 1 ∧ i = .int .i64 (k : Int) ∧ x = .bool (decide (m = 1)) ∧ m = (hits nm (fs.take k)).length ∧ v = .string (str (lastv (hits nm (fs.take k)))) ∧ Hid (Below w.heap.size w wr)) (fun _ _ i _ => n - (intOf i).toNat)
  case atStart => exact ⟨0, 0, Nat.zero_le _, by omega, rfl, rfl, rfl, rfl, Below.refl _ _⟩
  case round =>
    obtain ⟨k, m, hk, hm1, rfl, rfl, hm, rfl, HBF⟩ := hrel
    have HMM := hide hm
    clear hm
    by_cases hkn : k < n
    · obtain ⟨f, hf⟩ : ∃ f, fs[k]? = some f := ⟨_, List.getElem?_eq_getElem (by rw [← HN.out]; exact hkn)⟩
      obtain ⟨b, off, rfl⟩ := HS.out.form (by have := HN.out; omega)
      obtain ⟨y1, y2⟩ := (HS.out.keep HBF.out).cell hf
      rw [Nat.mul_comm] at y1 y2
      have HSM := hide (HM.out f (List.mem_of_getElem? hf))
      have HY := hide (@hits_yes nm fs k f hf)
      have HO := hide (@hits_no nm fs k f hf)
      have HLE := hide (hits_le nm fs (k + 1))
      have hkb : (k : Int) + 1 ≤ 4611686018427387904 := by have := HNL.out; omega
      have HP : Hid (PBk (wr.alloc (.cells #[.string (str f.1), .string (str f.2)] 78)) wr.heap.size f) := heap_alloc_new wr _
      have HB1 := hide (HBF.out.alloc HBF.out.size (.cells #[.string (str f.1), .string (str f.2)] 78))
      clear hf
      go_upto_region 5 with fail
      have p0 := HP.out.cell0
      generalize wr.heap.size = bp at *
      generalize wr.alloc (.cells #[.string (str f.1), .string (str f.2)] 78) = wa at *
      clear y1 y2 HBF
      go_wp2_with fail
      refine (HSM.out wa).mono ?_
      rintro e w1 ⟨rfl, hb1⟩
      have HB2 := hide (HB1.out.trans (hb1.mono HB1.out.size))
      have q1 := (HP.out.keep hb1).cell1
      clear hb1 HSM p0 HB1 HP
      by_cases he : lows f.1 = lows nm
      · rw [decide_eq_true he]
        have HE := hide (HY.out he)
        clear he
        by_cases hm0 : m = 1
        · have HR : Hid (findR nm fs = ([], false, 34)) := by
            show _ = _
            unfold findR
            rw [if_pos]
            have := HLE.out
            rw [HE.out, List.length_append, ← HMM.out, hm0] at this
            exact Nat.lt_of_lt_of_le (by simp) this
          rw [decide_eq_true hm0]
          go_wp2_with fail
          go_ret3
          exact ⟨by rw [HR.out]; rfl, HB2.out⟩
        · rw [decide_eq_false hm0]
          go_wp2_with fail
          go_roundw
          case rel => exact ⟨k + 1, 1, by omega, by omega, by go_num, rfl, by rw [HE.out, List.length_append, ← HMM.out]; simp; omega, by rw [HE.out, lastv_snoc], HB2⟩
          case measure => simp [intOf]; omega
      · rw [decide_eq_false he]
        have HE := hide (HO.out he)
        clear he
        go_wp2_with fail
        go_roundw
        case rel => exact ⟨k + 1, m, by omega, hm1, by go_num, rfl, by rw [HE.out, ← HMM.out], by rw [HE.out], HB2⟩
        case measure => simp [intOf]; omega
    · obtain rfl : k = n := by omega
      have HTE : Hid (fs.take k = fs) := List.take_of_length_le (by have := HN.out; omega)
      have HCL := hide (clone_any (lastv (hits nm (fs.take k))) wr (HNI.out k))
      rw [HTE.out] at HMM HCL ⊢
      have HR : Hid (findR nm fs = (lastv (hits nm fs), decide (m = 1), 0)) := by show _ = _; unfold findR; rw [if_neg (by rw [← HMM.out]; omega), ← HMM.out]
      go_wp2_with fail
      refine HCL.out.mono ?_
      rintro e w1 ⟨rfl, hb1⟩
      have HB2 := hide (HBF.out.trans (hb1.mono HBF.out.size))
      clear hb1 HCL
      go_wp2_with fail
      go_ret3
      exact ⟨by rw [HR.out]; rfl, HB2.out⟩
end Go.Proofs.YtaenccjlokiejaaGreatDoor
