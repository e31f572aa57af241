/- The bytes that may be: the program's questions. -/
import Derived.Test.YtaenccjlokiejaaGreatDoorHBase
namespace Go.Proofs.YtaenccjlokiejaaGreatDoor
open Go.RowKit Go.Shelf

theorem May.ext {w : World} {v : Value} {p q : UInt8 → Bool} (h : May w v p) (e : ∀ c, p c = q c) : May w v q := by
  have : p = q := funext e
  rwa [this] at h
theorem May.form {w : World} {v : Value} {p : UInt8 → Bool} (h : May w v p) : ∃ F cap, v = .func (.func F) #[] cap := by
  obtain ⟨F, cap, e, _⟩ := h
  exact ⟨F, cap, e⟩
set_option maxHeartbeats 1000000 in
set_option maxRecDepth 100000 in
theorem capital_any (w : World) : Calls Tryz.prog 63 #[] w fun e w' => ∃ v, e = .returned v ∧ May w' v capB ∧ Below w.heap.size w w' := by
  have HC := hide (span_any 65 90 w)
  go_enter Tryz.func63, Tryz.ntmps63
  go_wp2_with fail
  refine HC.out.mono ?_
  rintro e w2 ⟨v, rfl, hm, hb⟩
  have HM := hide (hm.ext (q := capB) (fun c => rfl))
  have HB := hide hb
  clear hm hb HC
  go_wp2
  go_ret
  exact ⟨_, rfl, HM.out, HB.out⟩
set_option maxHeartbeats 1000000 in
set_option maxRecDepth 100000 in
theorem digit_any (w : World) : Calls Tryz.prog 72 #[] w fun e w' => ∃ v, e = .returned v ∧ May w' v digB ∧ Below w.heap.size w w' := by
  have HC := hide (span_any 48 57 w)
  go_enter Tryz.func72, Tryz.ntmps72
  go_wp2_with fail
  refine HC.out.mono ?_
  rintro e w2 ⟨v, rfl, hm, hb⟩
  have HM := hide (hm.ext (q := digB) (fun c => rfl))
  have HB := hide hb
  clear hm hb HC
  go_wp2
  go_ret
  exact ⟨_, rfl, HM.out, HB.out⟩
set_option maxHeartbeats 1000000 in
set_option maxRecDepth 100000 in
theorem visible_any (w : World) : Calls Tryz.prog 64 #[] w fun e w' => ∃ v, e = .returned v ∧ May w' v visB ∧ Below w.heap.size w w' := by
  have HC := hide (span_any 33 126 w)
  go_enter Tryz.func64, Tryz.ntmps64
  go_wp2_with fail
  refine HC.out.mono ?_
  rintro e w2 ⟨v, rfl, hm, hb⟩
  have HM := hide (hm.ext (q := visB) (fun c => rfl))
  have HB := hide hb
  clear hm hb HC
  go_wp2
  go_ret
  exact ⟨_, rfl, HM.out, HB.out⟩
set_option maxHeartbeats 1000000 in
set_option maxRecDepth 100000 in
theorem printable_any (w : World) : Calls Tryz.prog 121 #[] w fun e w' => ∃ v, e = .returned v ∧ May w' v priB ∧ Below w.heap.size w w' := by
  have HC := hide (span_any 32 126 w)
  go_enter Tryz.func121, Tryz.ntmps121
  go_wp2_with fail
  refine HC.out.mono ?_
  rintro e w2 ⟨v, rfl, hm, hb⟩
  have HM := hide (hm.ext (q := priB) (fun c => rfl))
  have HB := hide hb
  clear hm hb HC
  go_wp2
  go_ret
  exact ⟨_, rfl, HM.out, HB.out⟩
set_option maxHeartbeats 1000000 in
set_option maxRecDepth 100000 in
theorem eithered_any (vs : List Value) (ps : List (UInt8 → Bool)) (bx b n c : Nat) (x : UInt8) (w : World) (hn : n = vs.length) (hp : ps.length = vs.length) (hsm : n ≤ 1000)
    (h0 : w.cell? ⟨bx, 0, none⟩ = some (.slice (some ⟨b, 0, none⟩) n c)) (hv : ∀ i v, vs[i]? = some v → w.cell? ⟨b, i, none⟩ = some v) (hm : ∀ (i : Nat) v p, vs[i]? = some v → ps[i]? = some p → May w v p) :
    Calls Tryz.prog 144 #[.int .u8 (x.toNat : Int), .pointer (some ⟨bx, 0, none⟩)] w fun e w' => e = .returned (.bool (ps.any (fun p => p x))) ∧ w' = w := by
  have HN := hide hn
  have HP := hide hp
  have HV := hide hv
  have HM := hide hm
  obtain ⟨R, hR⟩ : ∃ R, R = ps.any (fun p => p x) := ⟨_, rfl⟩
  rw [← hR]
  have HR : Hid (R = (ps.drop 0).any (fun p => p x)) := hR
  clear hn hp hv hm hR
  go_enter Tryz.func144, Tryz.ntmps144
  go_wp2
  go_loop [8] (fun i => ∃ k : Nat, k ≤ n ∧ i = .int .i64 k ∧ Hid (R = (ps.drop k).any (fun p => p x))) (fun i => n - (intOf i).toNat)
  case atStart => exact ⟨0, Nat.zero_le _, rfl, HR⟩
  case round =>
    obtain ⟨k, hk, rfl, HK⟩ := hrel
    by_cases hlt : k < n
    · obtain ⟨v, hx⟩ : ∃ v, vs[k]? = some v := ⟨_, List.getElem?_eq_getElem (by rw [← HN.out]; exact hlt)⟩
      have hkl : k < ps.length := by rw [HP.out, ← HN.out]; exact hlt
      obtain ⟨p, hq⟩ : ∃ p, ps[k]? = some p := ⟨_, List.getElem?_eq_getElem hkl⟩
      have k0 := HV.out k v hx
      obtain ⟨F, cap, hv, he, hc⟩ := HM.out k v p hx hq
      subst hv
      have HD : Hid (R = (p x || (ps.drop (k + 1)).any (fun p => p x))) := by
        show _ = _
        rw [HK.out, List.drop_eq_getElem_cons hkl, List.any_cons]
        rw [List.getElem?_eq_getElem hkl] at hq
        injection hq with hq
        rw [hq]
      have HCC := hide (hc w (Below.refl _ _) x)
      generalize p x = bb at *
      clear hc HK hx hq hkl
      go_wp2_with fail
      refine HCC.out.mono ?_
      rintro e w2 ⟨rfl, h2⟩
      have h3 := h2.symm
      subst h3
      clear h2 HCC he k0
      cases bb with
      | true =>
        go_wp2
        go_ret
        exact ⟨by rw [HD.out]; rfl, rfl⟩
      | false =>
        go_wp2
        go_round
        case rel => exact ⟨k + 1, by omega, by go_num, by rw [Bool.false_or] at HD; exact HD⟩
        case measure => simp [intOf]; omega
    · have HE : Hid (R = false) := by
        show _ = _
        rw [HK.out, List.drop_eq_nil_of_le (by rw [HP.out, ← HN.out]; omega)]
        rfl
      clear HK
      go_wp2
      go_ret
      exact ⟨by rw [HE.out]; rfl, rfl⟩
set_option maxHeartbeats 1000000 in
set_option maxRecDepth 100000 in
theorem either_any (vs : List Value) (ps : List (UInt8 → Bool)) (b n c : Nat) (w : World) (hn : n = vs.length) (hp : ps.length = vs.length) (hsm : n ≤ 1000)
    (hv : ∀ i v, vs[i]? = some v → w.cell? ⟨b, i, none⟩ = some v) (hm : ∀ (i : Nat) v p, vs[i]? = some v → ps[i]? = some p → May w v p) :
    Calls Tryz.prog 133 #[.slice (some ⟨b, 0, none⟩) n c] w fun e w' => ∃ v, e = .returned v ∧ May w' v (fun x => ps.any (fun p => p x)) ∧ Below w.heap.size w w' := by
  have hmf : ∀ (fn : Fn) (first cap : Array Value) (w : World), (Instr.makeFunc fn first cap).run Tryz.prog w = .ok (.func fn first cap) w := fun _ _ _ _ => rfl
  have HB : Hid (Below w.heap.size w (w.alloc (.cells #[.slice (some ⟨b, 0, none⟩) n c] 178))) := below_new w _
  have HM : Hid (May (w.alloc (.cells #[.slice (some ⟨b, 0, none⟩) n c] 178)) (.func (.func 144) #[] #[.pointer (some ⟨w.heap.size, 0, none⟩)]) (fun x => ps.any (fun p => p x))) := by
    refine ⟨_, _, rfl, enters_of Tryz.func144 (by kernel_rfl) rfl, fun W hW x => ?_⟩
    have hbb := HB.out.trans (hW.mono HB.out.size)
    refine eithered_any vs ps w.heap.size b n c x W hn hp hsm ?_ (fun i v h => cell_kept (hv i v h) hbb) (fun i v p h1 h2 => (hm i v p h1 h2).keep hbb)
    refine cell_kept ?_ hW
    simp
  clear hv hm hn hp
  go_enter Tryz.func133, Tryz.ntmps133
  go_wp2
  go_ret
  exact ⟨_, rfl, HM.out, HB.out⟩
set_option maxHeartbeats 1000000 in
set_option maxRecDepth 100000 in
theorem ofName_any (w : World) : Calls Tryz.prog 120 #[] w fun e w' => ∃ v, e = .returned v ∧ May w' v namB ∧ Below w.heap.size w w' := by
  go_enter Tryz.func120, Tryz.ntmps120
  go_wp2_with fail
  refine (span_any 97 122 w).mono ?_
  rintro e w1 ⟨v1, rfl, hm1, hb1⟩
  obtain ⟨F1, C1, hv1⟩ := hm1.form
  subst hv1
  have HM1 := hide hm1
  have HB1 := hide hb1
  clear hm1 hb1
  go_wp2_with fail
  refine (capital_any w1).mono ?_
  rintro e w2 ⟨v2, rfl, hm2, hb2⟩
  obtain ⟨F2, C2, hv2⟩ := hm2.form
  subst hv2
  have HM2 := hide hm2
  have HB2 := hide hb2
  clear hm2 hb2
  go_wp2_with fail
  refine (digit_any w2).mono ?_
  rintro e w3 ⟨v3, rfl, hm3, hb3⟩
  obtain ⟨F3, C3, hv3⟩ := hm3.form
  subst hv3
  have HM3 := hide hm3
  have HB3 := hide hb3
  clear hm3 hb3
  go_wp2_with fail
  refine (span_any 45 45 w3).mono ?_
  rintro e w4 ⟨v4, rfl, hm4, hb4⟩
  obtain ⟨F4, C4, hv4⟩ := hm4.form
  subst hv4
  have HM4 := hide hm4
  have HB4 := hide hb4
  clear hm4 hb4
  have HQ : Hid (Below w.heap.size w w4) := HB1.out.trans ((HB2.out.mono HB1.out.size).trans (((HB3.out.mono HB2.out.size).trans ((HB4.out.mono HB3.out.size).mono HB2.out.size)).mono HB1.out.size))
  have HK1 : Hid (May w4 (.func (.func F1) #[] C1) (spanP 97 122)) := ((HM1.out.keep HB2.out).keep HB3.out).keep HB4.out
  have HK2 : Hid (May w4 (.func (.func F2) #[] C2) capB) := (HM2.out.keep HB3.out).keep HB4.out
  have HK3 : Hid (May w4 (.func (.func F3) #[] C3) digB) := HM3.out.keep HB4.out
  clear HM1 HM2 HM3 HB1 HB2 HB3 HB4
  go_wp2_with fail
  refine (either_any [.func (.func F1) #[] C1, .func (.func F2) #[] C2, .func (.func F3) #[] C3, .func (.func F4) #[] C4] [spanP 97 122, capB, digB, spanP 45 45] _ 4 4 _ rfl rfl (by omega) ?_ ?_).mono ?_
  · intro i v h
    match i, h with
    | 0, h => simp at h; subst h; simp
    | 1, h => simp at h; subst h; simp
    | 2, h => simp at h; subst h; simp
    | 3, h => simp at h; subst h; simp
  · intro i v p h1 h2
    have hbn := below_new w4 (.cells #[.func (.func F1) #[] C1, .func (.func F2) #[] C2, .func (.func F3) #[] C3, .func (.func F4) #[] C4] 93)
    match i, h1, h2 with
    | 0, h1, h2 => simp at h1 h2; subst h1; subst h2; exact HK1.out.keep hbn
    | 1, h1, h2 => simp at h1 h2; subst h1; subst h2; exact HK2.out.keep hbn
    | 2, h1, h2 => simp at h1 h2; subst h1; subst h2; exact HK3.out.keep hbn
    | 3, h1, h2 => simp at h1 h2; subst h1; subst h2; exact HM4.out.keep hbn
  rintro e w5 ⟨v5, rfl, hm5, hb5⟩
  have HM5 := hide (hm5.ext (q := namB) (fun c => by
    simp only [List.any_cons, List.any_nil, Bool.or_false, spanP, namB, capB, digB]
    rw [Bool.eq_iff_iff]
    simp
    omega))
  have HB5 : Hid (Below w.heap.size w w5) := HQ.out.trans ((below_new w4 _).trans (hb5.mono (by simp)) |>.mono HQ.out.size)
  clear hm5 hb5
  go_wp2
  go_ret
  exact ⟨_, rfl, HM5.out, HB5.out⟩
end Go.Proofs.YtaenccjlokiejaaGreatDoor
