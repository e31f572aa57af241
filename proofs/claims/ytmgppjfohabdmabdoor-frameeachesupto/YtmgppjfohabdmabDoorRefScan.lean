/- The contract of the reference's Scan: every row of bytes up to a size; three cells a frame: kind, load, place. -/
import Derived.Test.YtmgppjfohabdmabDoorScanMath
namespace Go.Proofs.YtmgppjfohabdmabDoor
open Go.RowKit

def endOf (acc : List (Nat × List Nat)) : Nat := (acc.map fun x => 9 + x.2.length).sum
theorem endOf_snoc (acc : List (Nat × List Nat)) (k : Nat) (bs : List Nat) : endOf (acc ++ [(k, bs)]) = endOf acc + (9 + bs.length) := by simp [endOf]
def flat3 : Nat → List (Nat × List Nat) → List Value → List Value
  | p, (k, bs) :: a, l :: ls => .int .u8 (k : Int) :: l :: .int .i64 (p : Int) :: flat3 (p + (9 + bs.length)) a ls
  | _, _, _ => []
theorem flat3_snoc : ∀ (p : Nat) (acc : List (Nat × List Nat)) (ls : List Value) (k : Nat) (bs : List Nat) (l : Value), ls.length = acc.length → flat3 p (acc ++ [(k, bs)]) (ls ++ [l]) = flat3 p acc ls ++ [.int .u8 (k : Int), l, .int .i64 ((p + endOf acc : Nat) : Int)]
  | p, [], [], _, _, _, _ => by simp [flat3, endOf]
  | p, (k0, b0) :: a, _ :: ls, k, bs, l, h => by
    simp only [List.cons_append, flat3]
    rw [flat3_snoc (p + (9 + b0.length)) a ls k bs l (by simpa using h)]
    simp [endOf, Nat.add_assoc]
  | p, [], _ :: _, _, _, _, h => by simp at h
  | p, _ :: _, [], _, _, _, h => by simp at h
theorem flat3_get : ∀ (p : Nat) (acc : List (Nat × List Nat)) (ls : List Value) (i k : Nat) (bs : List Nat) (l : Value), acc[i]? = some (k, bs) → ls[i]? = some l →
    (flat3 p acc ls)[3 * i]? = some (.int .u8 (k : Int)) ∧ (flat3 p acc ls)[3 * i + 1]? = some l ∧ (flat3 p acc ls)[3 * i + 2]? = some (.int .i64 ((p + endOf (acc.take i) : Nat) : Int))
  | p, (k0, b0) :: a, l0 :: ls, 0, k, bs, l, h, h' => by
    simp only [List.getElem?_cons_zero, Option.some.injEq, Prod.mk.injEq] at h h'
    obtain ⟨rfl, rfl⟩ := h
    subst h'
    exact ⟨rfl, rfl, by simp [flat3, endOf]⟩
  | p, (k0, b0) :: a, l0 :: ls, i + 1, k, bs, l, h, h' => by
    simp only [List.getElem?_cons_succ] at h h'
    have := flat3_get (p + (9 + b0.length)) a ls i k bs l h h'
    simpa [flat3, Nat.mul_succ, endOf, Nat.add_assoc] using this
  | _, [], _, _, _, _, _, h, _ => by simp at h
  | _, _ :: _, [], _, _, _, _, _, h' => by simp at h'

structure RInv (B : Nat) (w : World) (v : Value) (acc : List (Nat × List Nat)) (ls : List Value) : Prop where
  len : ls.length = acc.length
  row : w.ownsRow B 45 3 v acc.length (flat3 0 acc ls)
  own : ∀ (i k : Nat) (bs : List Nat), acc[i]? = some (k, bs) → ∃ l, ls[i]? = some l ∧ Own w B l bs
theorem RInv.nil (B : Nat) (w : World) : RInv B w (.slice none 0 0) [] [] := ⟨rfl, World.ownsRow_nil _ _ _ _, fun i k bs h => by simp at h⟩
theorem RInv.below {B : Nat} {w w' : World} {v : Value} {acc : List (Nat × List Nat)} {ls : List Value} (h : RInv B w v acc ls) (hb : Below w.heap.size w w') : RInv B w' v acc ls :=
  ⟨h.len, row_below h.row hb, fun i k bs hi => by obtain ⟨l, a, b⟩ := h.own i k bs hi; exact ⟨l, a, b.keep hb⟩⟩
theorem RInv.shape {B : Nat} {w : World} {v : Value} {acc : List (Nat × List Nat)} {ls : List Value} (h : RInv B w v acc ls) : ∃ fo fc, v = .slice fo acc.length fc ∧ acc.length ≤ fc := by
  rcases h.row.2 with ⟨rfl, hn⟩ | ⟨g, cap, cur, rfl, _, _, hc, _⟩
  · exact ⟨none, 0, by rw [hn], by omega⟩
  · exact ⟨_, cap, rfl, hc⟩
theorem own_ne_row3 {w : World} {B B' n : Nat} {v l : Value} {xs : List Nat} {cs : List Value} (h : Own w B v xs) (h' : w.ownsRow B' 45 3 l n cs) : v.ownBlock = none ∨ v.ownBlock ≠ l.ownBlock := by
  rcases h.2 with ⟨rfl, _⟩ | ⟨g1, c1, cur1, rfl, _, hh1, _⟩
  · exact .inl rfl
  · refine .inr fun he => ?_
    rcases h'.2 with ⟨rfl, _⟩ | ⟨g2, c2, cur2, rfl, _, hh2, _⟩
    · simp [Value.ownBlock] at he
    · simp [Value.ownBlock] at he
      subst he
      rw [hh1] at hh2
      simp at hh2
theorem RInv.step {B k p : Nat} {w w' : World} {v v' l : Value} {acc : List (Nat × List Nat)} {ls : List Value} {bs : List Nat} (h : RInv B w v acc ls) (hl : Own w B l bs) (hp : p = endOf acc)
    (hown : w'.ownsRow B 45 3 v' (acc.length + 1) (flat3 0 acc ls ++ [.int .u8 (k : Int), l, .int .i64 (p : Int)])) (hg : w.grownBy w' v.ownBlock) : RInv B w' v' (acc ++ [(k, bs)]) (ls ++ [l]) := by
  have keep : ∀ (c : Value) (ys : List Nat), Own w B c ys → Own w' B c ys := fun c ys hc => World.ownsRow.kept hc hg (own_ne_row3 hc h.row)
  refine ⟨by simp [h.len], by rw [flat3_snoc _ _ _ _ _ _ h.len, Nat.zero_add, ← hp]; simpa using hown, ?_⟩
  intro i k' bs' hi
  by_cases hlt : i < acc.length
  · rw [List.getElem?_append_left hlt] at hi
    obtain ⟨c, a, b⟩ := h.own i k' bs' hi
    exact ⟨c, by rw [List.getElem?_append_left (by rw [h.len]; exact hlt)]; exact a, keep _ _ b⟩
  · have hie : i = acc.length := by
      have := (List.getElem?_eq_some_iff.1 hi).1
      simp at this
      omega
    subst hie
    simp at hi
    obtain ⟨rfl, rfl⟩ := hi
    exact ⟨l, by rw [← h.len]; simp, keep _ _ hl⟩
theorem RInv.cells {B : Nat} {w : World} {v : Value} {acc : List (Nat × List Nat)} {ls : List Value} (h : RInv B w v acc ls) {i k : Nat} {bs : List Nat} {l : Value} (hi : acc[i]? = some (k, bs)) (hl : ls[i]? = some l) :
    ∃ g fc, v = .slice (some ⟨g, 0, none⟩) acc.length fc ∧ acc.length ≤ fc ∧ B ≤ g ∧ w.cell? ⟨g, 3 * i, none⟩ = some (.int .u8 (k : Int)) ∧ w.cell? ⟨g, 3 * i + 1, none⟩ = some l ∧ w.cell? ⟨g, 3 * i + 2, none⟩ = some (.int .i64 ((endOf (acc.take i) : Nat) : Int)) := by
  rcases h.row.2 with ⟨rfl, hn⟩ | ⟨g, cap, cur, rfl, hg, hh, hc, r⟩
  · have := (List.getElem?_eq_some_iff.1 hi).1
    omega
  · obtain ⟨e0, e1, e2⟩ := flat3_get 0 acc ls i k bs l hi hl
    have c0 := World.ownsRow.cells h.row (g := g) rfl _ _ e0
    have c1 := World.ownsRow.cells h.row (g := g) rfl _ _ e1
    have c2 := World.ownsRow.cells h.row (g := g) rfl _ _ e2
    rw [add_none, Nat.zero_add] at c0 c1 c2
    rw [Nat.zero_add] at c2
    exact ⟨g, cap, rfl, hc, hg, c0, c1, c2⟩
theorem infoRef : (Tryd.prog.info? 45).map (fun i => (i.zero, i.size, i.bytes)) = some (some (.agg #[.int .u8 0, .slice none 0 0, .int .i64 0]), 3, 40) := by kernel_rfl
theorem three_new (W : World) (n : Nat) (hn : n = W.heap.size) (x y z : Value) (t : TypeId) : ∀ j u, [x, y, z][j]? = some u → (W.alloc (.cells #[x, y, z] t)).cell? ((⟨n, 0, none⟩ : Addr).add j) = some u := by
  intro j u h
  subst hn
  rw [add_none, Nat.zero_add]
  match j, h with
  | 0, h => simpa using h
  | 1, h => simpa using h
  | 2, h => simpa using h

set_option maxHeartbeats 1600000 in
set_option maxRecDepth 100000 in
theorem refScan_any (cap : Nat) (ao : Option Addr) (xs : List Nat) (w : World) (hl : xs.length ≤ 1073741824) (hnc : xs.length ≤ cap) (hx : ∀ x ∈ xs, x < 256) (hr : Row w ao xs) :
    Calls Tryd.prog 11 #[.slice ao xs.length cap] w fun e w' => ∃ v ls, e = .returned (.tuple #[v, .int .i64 ((scanR xs.length xs).2.1 : Nat), .int .i64 ((scanR xs.length xs).2.2 : Nat)]) ∧ Hid (RInv w.heap.size w' v (scanR xs.length xs).1 ls ∧ Below w.heap.size w w') := by
  have HX : Hid (∀ x ∈ xs, x < 256) := hx
  have HR : Hid (Row w ao xs) := hr
  clear hx hr
  obtain ⟨i0, hi, hz0, hz1, hz2⟩ := info_parts infoRef
  obtain ⟨n, hn⟩ : ∃ n, n = xs.length := ⟨_, rfl⟩
  have HN : Hid (n = xs.length) := hn
  obtain ⟨S, hS⟩ : ∃ S, S = scanR n xs := ⟨_, rfl⟩
  have HS : Hid (S = scanR n xs) := hS
  rw [← hn] at hl hnc ⊢
  rw [← hS]
  clear hn hS
  go_enter Tryd.func11, Tryd.ntmps11
  go_wp2
  go_loopw [5, 6] (fun v i wr => ∃ (p f : Nat) (acc : List (Nat × List Nat)) (ls : List Value), (p ≤ n ∧ n - p ≤ f ∧ 9 * acc.length ≤ p) ∧ i = .int .i64 (p : Int) ∧ Hid (RInv w.heap.size wr v acc ls ∧ Below w.heap.size w wr) ∧ Hid (p = endOf acc) ∧
      Hid (S = (acc ++ (scanR f (xs.drop p)).1, p + (scanR f (xs.drop p)).2.1, (scanR f (xs.drop p)).2.2))) (fun _ i _ => n - (intOf i).toNat)
  case atStart => exact ⟨0, n, [], [], ⟨by omega, by omega, by simp⟩, rfl, ⟨RInv.nil _ _, Below.refl _ _⟩, rfl, by show _ = _; rw [HS.out]; simp⟩
  case round =>
    obtain ⟨p, f, acc, ls, hp, rfl, HI, HPE, HD⟩ := hrel
    have hsz := HI.out.2.size
    by_cases hlt : p < n
    · obtain ⟨b, off, rfl⟩ := HR.out.form (by rw [← HN.out]; omega)
      obtain ⟨ys, HY⟩ : ∃ ys, Hid (ys = xs.drop p) := ⟨_, rfl⟩
      have hyl : ys.length = n - p := by rw [HY.out, List.length_drop, ← HN.out]
      have HYX : Hid (∀ x ∈ ys, x < 256) := by rw [HY.out]; exact lt_drop HX.out p
      have HYR : Hid (Row wr (some ⟨b, off + p, none⟩) ys) := by show Row wr _ ys; rw [HY.out]; exact (HR.out.keep HI.out.2).dropN p
      obtain ⟨sa, hsl, hsa⟩ := slice_from b off n cap (n - p) (cap - p) p p rfl (by omega) rfl rfl
      rw [hsa (by omega)] at hsl
      clear hsa
      obtain ⟨er, HER⟩ : ∃ er, Hid (er = openErr ys) := ⟨_, rfl⟩
      obtain ⟨kd, HKD⟩ : ∃ kd, Hid (kd = openKind ys) := ⟨_, rfl⟩
      obtain ⟨en, HEN⟩ : ∃ en, Hid (en = openEnd ys) := ⟨_, rfl⟩
      obtain ⟨out, HOU⟩ : ∃ out, Hid (out = openOut ys) := ⟨_, rfl⟩
      go_wp2_with fail
      refine (refOpen_all (n - p) (cap - p) (some ⟨b, off + p, none⟩) ys wr (by omega) (by omega) (by omega) HYX.out HYR.out).mono ?_
      rintro e w2 ⟨lo, ln, lc, rfl, h2⟩
      rw [← HER.out, ← HKD.out, ← HEN.out]
      have HM : Hid (Made wr w2 lo ln lc out) := by show Made wr w2 lo ln lc out; rw [HOU.out]; exact h2.out
      have HB2 : Hid (Below wr.heap.size wr w2) := HM.out.2.2.2.2
      have HF2 : Hid (RInv w.heap.size w2 u5 acc ls) := HI.out.1.below HB2.out
      have HL2 : Hid (Below w.heap.size w w2) := HI.out.2.trans (HB2.out.mono hsz)
      have hs2 := HL2.out.size
      clear h2 HYR HR hsl
      by_cases h0 : er = 0
      · subst h0
        have hok : openErr ys = 0 := HER.out.symm
        obtain ⟨f', rfl, hsc⟩ := scan_good (f := f) (by omega) (by omega) hok
        have hen : 9 ≤ en ∧ en ≤ n - p := by
          have h := openEnd_good hok
          rw [← HEN.out, hyl] at h
          omega
        have HOL : Hid (en = 9 + out.length) := by
          have h := openEnd_good hok
          show en = _
          rw [HEN.out, h.1, HOU.out]
          unfold openOut
          rw [if_pos hok, openLoad_length h.2]
        have HSC : Hid (S = ((acc ++ [(kd, out)]) ++ (scanR f' (xs.drop (p + en))).1, (p + en) + (scanR f' (xs.drop (p + en))).2.1, (scanR f' (xs.drop (p + en))).2.2)) := by
          show S = _
          rw [HD.out, ← HY.out, hsc, ← HEN.out, ← HKD.out, ← HOU.out, HY.out, List.drop_drop]
          simp [Nat.add_assoc]
        clear hok hsc HD
        go_wp2_with (first | (at_builtin; refine wpList_append_own _ rfl (.tmp 29) (.tmp 31) 28 rfl w.heap.size 45 i0 (.agg #[.int .u8 0, .slice none 0 0, .int .i64 0]) 3 40 Tryd.underlying28 hi hz0 hz1 hz2 rfl (by decide) _ _ _ rfl ((HF2.out.row.alloc _).alloc _) ⟨w2.heap.size + 1, 0, none⟩ 1 1 [.int .u8 (kd : Int), .slice lo ln lc, .int .i64 (p : Int)] rfl rfl (three_new _ _ (by simp) _ _ _ _) (by intro u hu; simp at hu; rcases hu with rfl | rfl | rfl <;> rfl) (by unfold maxLen; omega) (by omega) (by simp; omega) ?_; intro v3 w3 hown3 hgrow3 hnil3))
        go_roundw
        case rel =>
          refine ⟨p + en, f', acc ++ [(kd, out)], ls ++ [.slice lo ln lc], ⟨by omega, by omega, by simp; omega⟩, rfl, ⟨?_, ?_⟩, by show _ = _; rw [endOf_snoc, ← HPE.out, HOL.out], HSC⟩
          · exact RInv.step ((HF2.out.below (below_new _ _)).below (below_new _ _)) (((HM.out.2.2.2.1.lower hsz).alloc _).alloc _) HPE.out hown3 hgrow3
          · exact ((HL2.out.alloc hs2 _).alloc (by simp; omega) _).grown hgrow3 (by simp; omega) (fun j hj => (World.ownsRow.lt HF2.out.row j hj).1)
        case measure => simp [intOf]; omega
      · have hne : ((er : Int) == 0) = false := by rw [beq_eq_false_iff_ne]; omega
        have HSC : Hid (S = (acc, p, er)) := by
          show S = _
          rw [HD.out, ← HY.out, scan_bad (by omega) (by omega) (by rw [← HER.out]; exact h0), ← HER.out]
          simp
        clear HD
        go_wp2
        rw [HSC.out]
        go_ret3
        exact ⟨u5, ls, rfl, HF2.out.below (below_new _ _), HL2.out.alloc hs2 _⟩
    · have HSC : Hid (S = (acc, p, 0)) := by
        show S = _
        rw [HD.out, scan_done (by rw [List.length_drop, ← HN.out]; omega)]
        simp
      clear HD
      go_wp2
      rw [HSC.out]
      go_ret3
      exact ⟨u5, ls, rfl, HI.out.1, HI.out.2⟩
end Go.Proofs.YtmgppjfohabdmabDoor
