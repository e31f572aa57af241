/- The contract of the law's loads: the loads of two lists of frames, in one list. -/
import Derived.Test.YtmgppjfohabdmabDoorScanMath
namespace Go.Proofs.YtmgppjfohabdmabDoor
open Go.RowKit

theorem infoSl : (Tryd.prog.info? 22).map (fun i => (i.zero, i.size, i.bytes)) = some (some (.slice none 0 0), 1, 24) := by kernel_rfl
theorem one_new (W : World) (n : Nat) (hn : n = W.heap.size) (x : Value) (t : TypeId) : ∀ j u, [x][j]? = some u → (W.alloc (.cells #[x] t)).cell? ((⟨n, 0, none⟩ : Addr).add j) = some u := by
  intro j u h
  subst hn
  rw [add_none, Nat.zero_add]
  match j, h with
  | 0, h => simpa using h
theorem take_snoc {α : Type} {l : List α} {p : Nat} {x : α} (h : l[p]? = some x) : l.take (p + 1) = l.take p ++ [x] := by
  obtain ⟨hlt, rfl⟩ := List.getElem?_eq_some_iff.1 h
  exact List.take_succ_eq_append_getElem hlt

set_option maxHeartbeats 1600000 in
set_option maxRecDepth 100000 in
theorem loads_any (n m fc gc B B' : Nat) (fo go : Option Addr) (acc ac2 : List (Nat × List Nat)) (ls l2 : List Value) (w : World) (hn : n = acc.length) (hm : m = ac2.length) (hl : n ≤ 1073741824) (hl2 : m ≤ 1073741824) (hF : FInv B w (.slice fo n fc) acc ls) (hG : FInv B' w (.slice go m gc) ac2 l2) :
    Calls Tryd.prog 16 #[.slice fo n fc, .slice go m gc] w fun e w' => ∃ v, e = .returned v ∧ Hid (w'.ownsRow w.heap.size 22 1 v (n + m) (ls ++ l2) ∧ Below w.heap.size w w') := by
  have HF : Hid (FInv B w (.slice fo n fc) acc ls) := hF
  have HG : Hid (FInv B' w (.slice go m gc) ac2 l2) := hG
  have HN : Hid (n = acc.length) := hn
  have HM : Hid (m = ac2.length) := hm
  clear hF hG hn hm
  obtain ⟨i0, hi, hz0, hz1, hz2⟩ := info_parts infoSl
  go_enter Tryd.func16, Tryd.ntmps16
  go_wp2
  go_loopw [5, 6] (fun v i wr => ∃ p : Nat, p ≤ n ∧ i = .int .i64 (p : Int) ∧ Hid (wr.ownsRow w.heap.size 22 1 v p (ls.take p) ∧ Below w.heap.size w wr)) (fun _ i _ => n - (intOf i).toNat)
  case atStart => exact ⟨0, by omega, rfl, World.ownsRow_nil _ _ _ _, Below.refl _ _⟩
  case round =>
    obtain ⟨p, hp, rfl, HI⟩ := hrel
    have hsz := HI.out.2.size
    by_cases hlt : p < n
    · have hpa : p < acc.length := by rw [← HN.out]; exact hlt
      obtain ⟨⟨k, bs⟩, hkb⟩ : ∃ x, acc[p]? = some x := ⟨_, List.getElem?_eq_getElem hpa⟩
      obtain ⟨l, hl1, hl2'⟩ := (HF.out.below HI.out.2).own p k bs hkb
      obtain ⟨gF, fc2, hv, _, _, c0, c1⟩ := (HF.out.below HI.out.2).cells hkb hl1
      simp only [Value.slice.injEq] at hv
      obtain ⟨rfl, hq1, rfl⟩ := hv
      clear hq1
      have HTK : Hid (ls.take (p + 1) = ls.take p ++ [l]) := take_snoc hl1
      obtain ⟨lo, lc, rfl, _, _⟩ := hl2'.read
      rw [Nat.mul_comm] at c1
      generalize bs.length = bn at *
      clear hl1 hl2' hkb c0
      have hpi : (p : Int) < (n : Int) := by omega
      go_wp2_with (first | (at_builtin; refine wpList_append_own _ rfl (.tmp 14) (.tmp 20) 35 rfl w.heap.size 22 i0 (.slice none 0 0) 1 24 Tryd.underlying35 hi hz0 hz1 hz2 rfl (by decide) _ _ _ rfl (HI.out.1.alloc _) ⟨wr.heap.size, 0, none⟩ 1 1 [.slice lo bn lc] rfl rfl (one_new _ _ rfl _ _) (by intro u hu; simp at hu; subst hu; rfl) (by unfold maxLen; omega) (by omega) (by simp; omega) ?_; intro v3 w3 hown3 hgrow3 hnil3))
      go_roundw
      case rel => exact ⟨p + 1, by omega, rfl, by rw [HTK.out]; exact hown3, (HI.out.2.alloc hsz _).grown hgrow3 (by simp; omega) (fun j hj => (World.ownsRow.lt HI.out.1 j hj).1)⟩
      case measure => simp [intOf]; omega
    · obtain rfl : p = n := by omega
      have HI0 : Hid (wr.ownsRow w.heap.size 22 1 u5 p ls) := by
        have h := HI.out.1
        rw [List.take_of_length_le (by rw [HF.out.len, ← HN.out]; exact Nat.le_refl _)] at h
        exact h
      have HL0 : Hid (Below w.heap.size w wr) := HI.out.2
      obtain ⟨w0, hw0⟩ : ∃ w0, w0 = wr := ⟨_, rfl⟩
      clear HI
      go_wp2
      go_loopw [5, 7] (fun v i wr => ∃ q : Nat, q ≤ m ∧ i = .int .i64 (q : Int) ∧ Hid (wr.ownsRow w.heap.size 22 1 v (p + q) (ls ++ l2.take q) ∧ Below w.heap.size w wr)) (fun _ i _ => m - (intOf i).toNat)
      case atStart => exact ⟨0, by omega, rfl, by simpa using HI0.out, HL0.out⟩
      case round =>
        clear HI0 HL0
        obtain ⟨q, hq, rfl, HI⟩ := hrel
        have hsz := HI.out.2.size
        by_cases hlt : q < m
        · have hpa : q < ac2.length := by rw [← HM.out]; exact hlt
          obtain ⟨⟨k, bs⟩, hkb⟩ : ∃ x, ac2[q]? = some x := ⟨_, List.getElem?_eq_getElem hpa⟩
          obtain ⟨l, hl1, hl2'⟩ := (HG.out.below HI.out.2).own q k bs hkb
          obtain ⟨gF, fc2, hv, _, _, c0, c1⟩ := (HG.out.below HI.out.2).cells hkb hl1
          simp only [Value.slice.injEq] at hv
          obtain ⟨rfl, hq1, rfl⟩ := hv
          clear hq1
          have HTK : Hid (l2.take (q + 1) = l2.take q ++ [l]) := take_snoc hl1
          obtain ⟨lo, lc, rfl, _, _⟩ := hl2'.read
          rw [Nat.mul_comm] at c1
          generalize bs.length = bn at *
          clear hl1 hl2' hkb c0
          have hpi : (q : Int) < (m : Int) := by omega
          go_wp2_with (first | (at_builtin; refine wpList_append_own _ rfl (.tmp 28) (.tmp 34) 35 rfl w.heap.size 22 i0 (.slice none 0 0) 1 24 Tryd.underlying35 hi hz0 hz1 hz2 rfl (by decide) _ _ _ rfl (HI.out.1.alloc _) ⟨wr.heap.size, 0, none⟩ 1 1 [.slice lo bn lc] rfl rfl (one_new _ _ rfl _ _) (by intro u hu; simp at hu; subst hu; rfl) (by unfold maxLen; omega) (by omega) (by simp; omega) ?_; intro v3 w3 hown3 hgrow3 hnil3))
          go_roundw
          case rel => exact ⟨q + 1, by omega, rfl, by rw [HTK.out, ← List.append_assoc]; exact hown3, (HI.out.2.alloc hsz _).grown hgrow3 (by simp; omega) (fun j hj => (World.ownsRow.lt HI.out.1 j hj).1)⟩
          case measure => simp [intOf]; omega
        · obtain rfl : q = m := by omega
          have HI1 : Hid (wr.ownsRow w.heap.size 22 1 u5 (p + q) (ls ++ l2)) := by
            have h := HI.out.1
            rw [List.take_of_length_le (l := l2) (by rw [HG.out.len, ← HM.out]; exact Nat.le_refl _)] at h
            exact h
          have HL1 : Hid (Below w.heap.size w wr) := HI.out.2
          clear HI
          go_wp2
          go_ret
          exact ⟨_, rfl, HI1.out, HL1.out⟩
end Go.Proofs.YtmgppjfohabdmabDoor
