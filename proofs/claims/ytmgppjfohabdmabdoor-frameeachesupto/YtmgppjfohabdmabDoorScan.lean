/- The contract of frame.Scan: every row of bytes up to a size; the table's cells are a condition. -/
import Derived.Test.YtmgppjfohabdmabDoorScanMath
namespace Go.Proofs.YtmgppjfohabdmabDoor
open Go.RowKit

theorem infoFrame : (Tryd.prog.info? 43).map (fun i => (i.zero, i.size, i.bytes)) = some (some (.agg #[.int .u8 0, .slice none 0 0]), 2, 32) := by kernel_rfl
theorem two_new (W : World) (n : Nat) (hn : n = W.heap.size) (x y : Value) (t : TypeId) : ∀ j u, [x, y][j]? = some u → (W.alloc (.cells #[x, y] t)).cell? ((⟨n, 0, none⟩ : Addr).add j) = some u := by
  intro j u h
  subst hn
  rw [add_none, Nat.zero_add]
  match j, h with
  | 0, h => simpa using h
  | 1, h => simpa using h
theorem nat_of (n : Nat) (i : Int) (h : i = (n : Int)) : Value.int IntKind.i64 i = .int .i64 (n : Int) := by rw [h]

set_option maxHeartbeats 1600000 in
set_option maxRecDepth 100000 in
theorem scan_any (cap : Nat) (ao : Option Addr) (xs : List Nat) (w : World) (hl : xs.length ≤ 1073741824) (hnc : xs.length ≤ cap) (hx : ∀ x ∈ xs, x < 256) (hr : Row w ao xs) (hT : Tab w) :
    Calls Tryd.prog 10 #[.slice ao xs.length cap] w fun e w' => ∃ v ls, e = .returned (.tuple #[v, .int .i64 ((scanR xs.length xs).2.1 : Nat), .int .i64 ((scanR xs.length xs).2.2 : Nat)]) ∧ Hid (FInv w.heap.size w' v (scanR xs.length xs).1 ls ∧ Below w.heap.size w w') := by
  have HX : Hid (∀ x ∈ xs, x < 256) := hx
  have HR : Hid (Row w ao xs) := hr
  have HT : Hid (Tab w) := hT
  clear hx hr hT
  obtain ⟨i0, hi, hz0, hz1, hz2⟩ := info_parts infoFrame
  obtain ⟨n, hn⟩ : ∃ n, n = xs.length := ⟨_, rfl⟩
  have HN : Hid (n = xs.length) := hn
  obtain ⟨S, hS⟩ : ∃ S, S = scanR n xs := ⟨_, rfl⟩
  have HS : Hid (S = scanR n xs) := hS
  rw [← hn] at hl hnc ⊢
  rw [← hS]
  clear hn hS
  go_enter Tryd.func10, Tryd.ntmps10
  go_wp2
  go_loopw [5, 6] (fun v i wr => ∃ (p f : Nat) (acc : List (Nat × List Nat)) (ls : List Value), (p ≤ n ∧ n - p ≤ f ∧ 9 * acc.length ≤ p) ∧ i = .int .i64 (p : Int) ∧ Hid (FInv w.heap.size wr v acc ls ∧ Below w.heap.size w wr) ∧
      Hid (S = (acc ++ (scanR f (xs.drop p)).1, p + (scanR f (xs.drop p)).2.1, (scanR f (xs.drop p)).2.2))) (fun _ i _ => n - (intOf i).toNat)
  case atStart => exact ⟨0, n, [], [], ⟨by omega, by omega, by simp⟩, rfl, ⟨FInv.nil _ _, Below.refl _ _⟩, by show _ = _; rw [HS.out]; simp⟩
  case round =>
    obtain ⟨p, f, acc, ls, hp, rfl, HI, HD⟩ := hrel
    have hsz := HI.out.2.size
    by_cases hlt : p < n
    · obtain ⟨b, off, rfl⟩ := HR.out.form (by rw [← HN.out]; omega)
      obtain ⟨ys, HY⟩ : ∃ ys, Hid (ys = xs.drop p) := ⟨_, rfl⟩
      have hyl : ys.length = n - p := by rw [HY.out, List.length_drop, ← HN.out]
      have HYX : Hid (∀ x ∈ ys, x < 256) := by rw [HY.out]; exact lt_drop HX.out p
      have HYR : Hid (Row wr (some ⟨b, off + p, none⟩) ys) := by show Row wr _ ys; rw [HY.out]; exact (HR.out.keep HI.out.2).dropN p
      have HTR : Hid (Tab wr) := HT.out.keep HI.out.2
      obtain ⟨sa, hsl, hsa⟩ := slice_from b off n cap (n - p) (cap - p) p p rfl (by omega) rfl rfl
      rw [hsa (by omega)] at hsl
      clear hsa
      obtain ⟨er, HER⟩ : ∃ er, Hid (er = openErr ys) := ⟨_, rfl⟩
      obtain ⟨kd, HKD⟩ : ∃ kd, Hid (kd = openKind ys) := ⟨_, rfl⟩
      obtain ⟨en, HEN⟩ : ∃ en, Hid (en = openEnd ys) := ⟨_, rfl⟩
      obtain ⟨out, HOU⟩ : ∃ out, Hid (out = openOut ys) := ⟨_, rfl⟩
      go_wp2_with fail
      refine (open_all (n - p) (cap - p) (some ⟨b, off + p, none⟩) ys wr (by omega) (by omega) (by omega) HYX.out HYR.out HTR.out).mono ?_
      rintro e w2 ⟨lo, ln, lc, rfl, h2⟩
      rw [← HER.out, ← HKD.out, ← HEN.out]
      have HM : Hid (Made wr w2 lo ln lc out) := by show Made wr w2 lo ln lc out; rw [HOU.out]; exact h2.out
      have HB2 : Hid (Below wr.heap.size wr w2) := HM.out.2.2.2.2
      have HF2 : Hid (FInv w.heap.size w2 u5 acc ls) := HI.out.1.below HB2.out
      have HL2 : Hid (Below w.heap.size w w2) := HI.out.2.trans (HB2.out.mono hsz)
      have hs2 := HL2.out.size
      clear h2 HYR HTR HR HT hsl
      by_cases h0 : er = 0
      · subst h0
        have hok : openErr ys = 0 := HER.out.symm
        obtain ⟨f', rfl, hsc⟩ := scan_good (f := f) (by omega) (by omega) hok
        have hen : 9 ≤ en ∧ en ≤ n - p := by
          have h := openEnd_good hok
          rw [← HEN.out, hyl] at h
          omega
        have HSC : Hid (S = ((acc ++ [(kd, out)]) ++ (scanR f' (xs.drop (p + en))).1, (p + en) + (scanR f' (xs.drop (p + en))).2.1, (scanR f' (xs.drop (p + en))).2.2)) := by
          show S = _
          rw [HD.out, ← HY.out, hsc, ← HEN.out, ← HKD.out, ← HOU.out, HY.out, List.drop_drop]
          simp [Nat.add_assoc]
        clear hok hsc HD
        go_wp2_with (first | (at_builtin; refine wpList_append_own _ rfl (.tmp 27) (.tmp 29) 24 rfl w.heap.size 43 i0 (.agg #[.int .u8 0, .slice none 0 0]) 2 32 Tryd.underlying24 hi hz0 hz1 hz2 rfl (by decide) _ _ _ rfl ((HF2.out.row.alloc _).alloc _) ⟨w2.heap.size + 1, 0, none⟩ 1 1 [.int .u8 (kd : Int), .slice lo ln lc] rfl rfl (two_new _ _ (by simp) _ _ _) (by intro u hu; simp at hu; rcases hu with rfl | rfl <;> rfl) (by unfold maxLen; omega) (by omega) (by simp; omega) ?_; intro v3 w3 hown3 hgrow3 hnil3))
        go_roundw
        case rel =>
          refine ⟨p + en, f', acc ++ [(kd, out)], ls ++ [.slice lo ln lc], ⟨by omega, by omega, by simp; omega⟩, rfl, ⟨?_, ?_⟩, HSC⟩
          · refine FInv.step ((HF2.out.below (below_new _ _)).below (below_new _ _)) (((HM.out.2.2.2.1.lower hsz).alloc _).alloc _) (fun i li hi g hg he => ?_) hown3 hgrow3
            have h1 := (HI.out.1.lt i li hi g hg).2
            have h2 := HM.out.2.2.2.1.ge g he
            omega
          · exact ((HL2.out.alloc hs2 _).alloc (by simp; omega) _).grown hgrow3 (by simp; omega) (fun j hj => (World.ownsRow.lt HF2.out.row j hj).1)
        case measure => simp [intOf]; omega
      · have hne : ((er : Int) == 0) = false := by rw [beq_eq_false_iff_ne]; omega
        have HSC : Hid (S = (acc, p, er)) := by
          show S = _
          rw [HD.out, ← HY.out, scan_bad (by omega) (by omega) (by rw [← HER.out]; exact h0), ← HER.out]
          simp
        clear HD
        go_wp2
        rw [HSC.out]
        go_ret3
        exact ⟨u5, ls, rfl, HF2.out.below (below_new _ _), HL2.out.alloc hs2 _⟩
    · have HSC : Hid (S = (acc, p, 0)) := by
        show S = _
        rw [HD.out, scan_done (by rw [List.length_drop, ← HN.out]; omega)]
        simp
      clear HD
      go_wp2
      rw [HSC.out]
      go_ret3
      exact ⟨u5, ls, rfl, HI.out.1, HI.out.2⟩
end Go.Proofs.YtmgppjfohabdmabDoor
