/- The contracts of the document's Read and List. -/
import Derived.Test.YticbfcognnofbaaEOp9
namespace Go.Proofs.Yticbfcognnofbaa
open Go.RowKit Go.Maps

set_option maxHeartbeats 2000000 in
set_option maxRecDepth 100000 in
theorem elist_any (rp : Nat) (S : DS) (L : RL) (w : World) (h : RRep w rp S L) (hO : Ok S) :
    Calls Try.prog 39 #[pf rp] w fun e w' => ∃ v, e = .returned v ∧ TOwn w' v (if S.dead then [] else S.dir.map (·.1)) ∧ (∀ g, v.ownBlock = some g → w.heap.size ≤ g) ∧ Below w.heap.size w w' := by
  obtain ⟨c0, c1, c2, c3, c4, c5, c6, c7⟩ := h.c
  obtain ⟨dao, dcap, hdv⟩ := ownsRow_slice h.dir
  rw [hdv] at c2
  have HD := hide h.dir
  rw [hdv] at HD
  obtain ⟨n, hn⟩ : ∃ n, n = S.dir.length := ⟨_, rfl⟩
  have HN := hide hn
  have HDL : Hid (n ≤ 64) := by rw [hn]; exact hO.dir.len
  rw [← hn] at c2 HD
  obtain ⟨W0, hW0⟩ : ∃ W0, W0 = w.heap.size := ⟨_, rfl⟩
  have HW := hide hW0
  rw [← hW0]
  unfold pf
  generalize S.dead = dd at *
  generalize S.dir = d at *
  obtain ⟨ns, hns⟩ : ∃ ns : List Nm, ns = (if dd = true then [] else d.map (·.1)) := ⟨_, rfl⟩
  have HNS := hide hns
  rw [← hns]
  clear h hO hdv hn c0 c1 c3 c4 c5 c6 hW0 hns
  go_enter Try.func39, Try.ntmps39
  go_wp2_with fail
  go_loopw [3, 4] (fun u i wr => ∃ k : Nat, k ≤ n ∧ i = .int .i64 (k : Int) ∧ Hid (wr.ownsRow W0 9 1 u k ((d.take k).map fun p => encStr p.1)) ∧ Hid (Below W0 w wr) ∧ (dd = true → k = 0)) (fun _ i _ => n - (intOf i).toNat)
  case atStart => exact ⟨0, Nat.zero_le _, rfl, World.ownsRow_nil _ _ _ _, Below.refl _ _, fun _ => rfl⟩
  case round =>
    obtain ⟨k, hk, rfl, HU, HB, hdk⟩ := hrel
    obtain ⟨uao, ucap, hu⟩ := ownsRow_slice HU.out
    subst hu
    have hbw : Below w.heap.size w wr := by rw [← HW.out]; exact HB.out
    have k2 := cell_kept c2 hbw
    have k7 := cell_kept c7 hbw
    have HFIN : Hid ((dd = true ∨ k = n) → TOwn wr (.slice uao k ucap) ns ∧ (∀ g, Value.ownBlock (.slice uao k ucap) = some g → W0 ≤ g)) := fun hc => by
      refine ⟨?_, owns_ge HU.out⟩
      rw [HNS.out]
      unfold TOwn
      rcases hc with hc | hc
      · have hk0 := hdk hc
        subst hk0
        rw [if_pos hc]
        exact owns_lower HU.out (Nat.zero_le _)
      · have hd' : dd = false ∨ n = 0 := by
          cases hdd : dd with
          | false => exact .inl rfl
          | true => exact .inr (by have := hdk hdd; omega)
        have hle : (d.take k) = d := List.take_of_length_le (by have := HN.out; omega)
        have hu2 := HU.out
        rw [hle] at hu2
        rcases hd' with e | e
        · rw [e]
          simp only [Bool.false_eq_true, if_false, List.length_map, List.map_map]
          rw [← HN.out, ← hc]
          exact owns_lower hu2 (Nat.zero_le _)
        · have : d = [] := List.length_eq_zero_iff.1 (by have := HN.out; omega)
          subst this
          subst e
          subst hc
          simp only [List.map_nil, ite_self]
          exact owns_lower hu2 (Nat.zero_le _)
    by_cases hlt : k < n
    · have hki : (k : Int) < (n : Int) := by omega
      cases dd with
      | true =>
        have HE := hide (HFIN.out (.inl rfl))
        clear HFIN hbw hdk
        go_wp2_with fail
        go_ret
        exact ⟨_, rfl, HE.out.1, HE.out.2, HB.out⟩
      | false =>
        obtain ⟨⟨pn, pi⟩, hp⟩ : ∃ p, d[k]? = some p := ⟨_, List.getElem?_eq_getElem (by rw [← HN.out]; exact hlt)⟩
        obtain ⟨g, rfl, x1, x2, -, hcap⟩ := HD.out.at hp
        have y1 := cell_kept x1 hbw
        have hWr : W0 ≤ wr.heap.size := by have := hbw.size; have := HW.out; omega
        have HWR := hide hWr
        have hkb : (k : Int) + 1 ≤ 4611686018427387904 := by have := HDL.out; omega
        have HTK : Hid ((d.take (k + 1)).map (fun p => encStr p.1) = (d.take k).map (fun p => encStr p.1) ++ [.string (str pn)]) := by show _ = _; rw [List.take_add_one, hp]; simp [encStr_str]
        have HR := hide (World.ownsRow.alloc HU.out (.cells #[.string (str pn)] 9))
        have HBN := hide (Bl.new wr #[.string (str pn)] 9)
        have HST : Hid (∀ ao9 cap9 w9, w9.ownsRow W0 9 1 (.slice ao9 (k + 1) cap9) (k + 1) ((d.take k).map (fun p => encStr p.1) ++ [.string (str pn)]) → (wr.alloc (.cells #[.string (str pn)] 9)).grownBy w9 (Value.ownBlock (.slice uao k ucap)) → w9.ownsRow W0 9 1 (.slice ao9 (k + 1) cap9) (k + 1) ((d.take (k + 1)).map fun p => encStr p.1) ∧ Below W0 w w9) := fun ao9 cap9 w9 g1 g2 => ⟨by rw [HTK.out]; exact g1, HB.out.trans (app_below HU.out hWr g2)⟩
        simp only at y1
        have HK64 : Hid (k ≤ 64) := by have := HDL.out; show _ ≤ _; omega
        clear HFIN hbw hdk hp x1 x2 hWr HTK
        generalize str pn = s at *
        go_wp2_with (first | (at_builtin; refine wpList_app1 appS rfl _ _ rfl W0 _ _ _ [.string s] rfl HR.out wr.heap.size rfl HBN.out rfl (by intro x hx; rw [List.mem_singleton.1 hx]; rfl) (by have := HK64.out; omega) (by have := HWR.out; simp; omega) ?_; intro ao9 cap9 w9 g1 g2 g3; have HS9 := hide (HST.out ao9 cap9 w9 g1 g2); clear g1 g2 g3) | fail)
        go_roundw
        case rel => exact ⟨k + 1, by omega, by simp, hide HS9.out.1, hide HS9.out.2, by intro h; cases h⟩
        case measure => simp [intOf]; omega
    · have hki : ¬ (k : Int) < (n : Int) := by omega
      have HE := hide (HFIN.out (.inr (by omega)))
      clear HFIN hbw hdk
      go_wp2_with fail
      go_ret
      exact ⟨_, rfl, HE.out.1, HE.out.2, HB.out⟩
set_option maxHeartbeats 2000000 in
set_option maxRecDepth 100000 in
theorem eread_any (rp : Nat) (S : DS) (L : RL) (nm : Nm) (w : World) (h : RRep w rp S L) (hO : Ok S) :
    Calls Try.prog 50 #[pf rp, .string (str nm)] w fun e w' => (match (if S.dead then none else dget nm S.dir) with
      | none => e = .returned (.tuple #[.slice none 0 0, .int .i64 (if S.dead then 51 else 7)])
      | some i => ∃ v, e = .returned (.tuple #[v, .int .i64 0]) ∧ Own w' 0 v (flAt S.files i).bys ∧ (∀ g, v.ownBlock = some g → w.heap.size ≤ g)) ∧ Below w.heap.size w w' := by
  obtain ⟨c0, c1, c2, c3, c4, c5, c6, c7⟩ := h.c
  cases hd : S.dead with
  | true =>
    rw [hd] at c7
    simp only [if_true]
    unfold pf
    clear h hO hd c0 c1 c2 c3 c4 c5 c6
    go_enter Try.func50, Try.ntmps50
    go_wp2
    go_ret2
    exact ⟨rfl, Below.refl _ _⟩
  | false =>
    rw [hd] at c7
    cases hg : dget nm S.dir with
    | none =>
      have HF := hide (efind_none h.dir (by have := hO.dir.len; omega) hg)
      simp only [Bool.false_eq_true, if_false]
      unfold pf
      clear h hO hd hg c0 c1 c3 c4 c5 c6
      go_enter Try.func50, Try.ntmps50
      go_wp2_with (go_at_call 65; refine HF.out.mono ?_; rintro e w2 ⟨rfl, hw⟩; have hw2 := hw.symm; subst hw2; clear hw)
      go_ret2
      exact ⟨rfl, Below.refl _ _⟩
    | some i =>
      have HF := hide (efind_some h.dir (by have := hO.dir.len; omega) hg)
      have hil : i < S.files.length := hO.dir.num _ (dget_some hg)
      obtain ⟨gf, cf, bo, bc, y1, y2, y3, y4, y5, y6, y7⟩ := h.file hil
      have hal : (flAt S.files i).bys.length ≤ 4194304 := (Fok.at hO.file i).len
      obtain ⟨dao, dcap, hdv⟩ := ownsRow_slice h.dir
      have HX : Hid (∀ k, S.dir[k]? = some (nm, i) → ∃ g, dao = some ⟨g, 0, none⟩ ∧ w.cell? ⟨g, k * 2 + 1, none⟩ = some (.int .i64 (i : Int)) ∧ k < S.dir.length ∧ S.dir.length ≤ dcap) := fun k hk => by
        obtain ⟨g, cap, x1, x2, x3, x4⟩ := h.dirAt hk
        rw [hdv] at x1
        injection x1 with x1 _ x5
        exact ⟨g, x1, x3, lt_of_get hk, by rw [x5]; exact x4⟩
      rw [hdv] at c2 HF
      rw [y1] at c1
      have hfi : (i : Int) < (S.files.length : Int) := by omega
      obtain ⟨bl, hbl⟩ : ∃ bl, bl = (flAt S.files i).bys.length := ⟨_, rfl⟩
      have HBL := hide hbl
      rw [← hbl] at y4 hal
      have HAL := hide hal
      have HY6 := hide y6
      have HK4 := hide (y6.keep (below_new w (.cells #[] 5)))
      have HE := hide (own_new w 0 [] (Nat.zero_le _) (Nat.zero_le _))
      have l1 := cell_kept c1 (below_new w (.cells #[] 5))
      have l2 := cell_kept c2 (below_new w (.cells #[] 5))
      have l4 := cell_kept y4 (below_new w (.cells #[] 5))
      have HXC : Hid (∀ g k, w.cell? ⟨g, k * 2 + 1, none⟩ = some (.int .i64 (i : Int)) → (w.alloc (.cells #[] 5)).cell? ⟨g, k * 2 + 1, none⟩ = some (.int .i64 (i : Int))) := fun g k hc => cell_kept hc (below_new w _)
      simp only [Bool.false_eq_true, if_false]
      suffices HSU : ∀ PP : Ending → World → Prop, (∀ v w', Own w' 0 v (flAt S.files i).bys → (∀ g, v.ownBlock = some g → w.heap.size ≤ g) → Below w.heap.size w w' → PP (.returned (.tuple #[v, .int .i64 0])) w') → Calls Try.prog 50 #[pf rp, .string (str nm)] w fun e w' => True ∧ PP e w' from (HSU (fun e w' => (∃ v, e = .returned (.tuple #[v, .int .i64 0]) ∧ Own w' 0 v (flAt S.files i).bys ∧ (∀ g, v.ownBlock = some g → w.heap.size ≤ g)) ∧ Below w.heap.size w w') (fun v w' h1 h2 h3 => ⟨⟨v, rfl, h1, h2⟩, h3⟩)).mono fun _ _ h => h.2
      intro PP hPP
      have HPP := hide hPP
      unfold pf
      generalize (flAt S.files i).bys = xs at *
      generalize S.files.length = fl at *
      generalize S.dir.length = dn at *
      clear h hO hd hg c0 c3 c4 c5 c6 y1 y3 y5 y6 y7 hdv hbl hal hPP
      go_enter Try.func50, Try.ntmps50
      go_upto_region 6 with (first | (go_at_call 65; refine HF.out.mono ?_; rintro e w2 ⟨k, hk, rfl, hw⟩; have hw2 := hw.symm; subst hw2; obtain ⟨g, rfl, x2, x3, x4⟩ := HX.out k hk; have x5 : (k : Int) < (dn : Int) := (by omega); have x6 := HXC.out g k x2; clear hk hw) | fail)
      go_region_law (refine law_appB rfl (.tmp 19) (.tmp 34) rfl (.slice (some ⟨w.heap.size, 0, none⟩) 0 0) [] rfl HE.out bo bl bc xs HBL.out rfl HK4.out (by have := HAL.out; have := HBL.out; simp; omega) ?_; intro uao un ucap w4 h2 g2 l2; have han := app_new (grown_undrew g2) l2; have HFI := hide (HPP.out (.slice uao un ucap) w4 (show Own w4 0 (.slice uao un ucap) xs from h2) han.2 han.1); clear h2 g2 l2 han)
      all_goals
        (try go_wp2_with fail)
        first | (go_ret2; exact ⟨trivial, HFI.out⟩) | exact HFI.out
end Go.Proofs.Yticbfcognnofbaa
