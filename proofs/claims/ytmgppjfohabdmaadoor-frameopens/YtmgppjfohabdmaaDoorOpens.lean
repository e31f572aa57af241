/- The walk of the law FrameOpens: every row of bytes: it returns true and turns nothing old. -/
import Derived.Test.YtmgppjfohabdmaaDoorLive
import Derived.Test.YtmgppjfohabdmaaDoorOpenRef
import Derived.Test.YtmgppjfohabdmaaDoorAloneN
namespace Go.Proofs.YtmgppjfohabdmaaDoor
open Go.RowKit

theorem open_all (n cap : Nat) (ao : Option Addr) (xs : List Nat) (w : World) (hn : n = xs.length) (hnc : n ≤ cap) (hl : n ≤ 140737488351232) (hx : ∀ x ∈ xs, x < 256) (hr : Row w ao xs) (hT : Tab w) :
    Calls Tryd.prog 19 #[.slice ao n cap] w fun e w' => ∃ lo ln lc, e = .returned (.tuple #[.agg #[.int .u8 ((openKind xs : Nat) : Int), .slice lo ln lc], .int .i64 ((openEnd xs : Nat) : Int), .int .i64 ((openErr xs : Nat) : Int)]) ∧ Hid (Made w w' lo ln lc (openOut xs)) := by
  by_cases h0 : openErr xs = 0
  · have e1 : openKind xs = xs.getD 8 0 := by unfold openKind; rw [if_pos h0]
    have e2 : openEnd xs = 9 + num4 xs := by unfold openEnd; rw [if_pos h0]
    have e3 : openOut xs = openLoad xs := by unfold openOut; rw [if_pos h0]
    have h9 : 9 + num4 xs ≤ xs.length := by
      have h := h0
      unfold openErr at h
      split at h
      · cases h
      · split at h
        · cases h
        · split at h
          · cases h
          · omega
    obtain ⟨b, off, rfl⟩ := hr.form (by omega)
    rw [e1, e2, e3, h0]
    refine (open_good n cap b off xs w hn hnc hl hx hr hT h0).mono ?_
    rintro e w' ⟨g, rfl, h⟩
    have hlen := openLoad_length h9
    exact ⟨_, _, _, rfl, hlen.symm, Nat.le_refl _, h.out.2.2.1.row, Blk.own (ys := []) (by rw [List.append_nil]; exact h.out.2.2.1) hlen.symm rfl h.out.1 (by unfold maxLen; omega), h.out.2.2.2⟩
  · have e1 : openKind xs = 0 := by unfold openKind; rw [if_neg h0]
    have e2 : openEnd xs = 0 := by unfold openEnd; rw [if_neg h0]
    have e3 : openOut xs = [] := by unfold openOut; rw [if_neg h0]
    rw [e1, e2, e3]
    refine (open_bad n cap ao xs w hn hnc hl hx hr hT h0).mono ?_
    rintro e w' ⟨he, h⟩
    exact ⟨none, 0, 0, he, rfl, Nat.le_refl _, .inl rfl, own_nil _ _, h.out⟩
theorem openOut_length (xs : List Nat) : (openOut xs).length ≤ 2097152 := by
  unfold openOut
  by_cases h0 : openErr xs = 0
  · rw [if_pos h0]
    have h := h0
    unfold openErr at h
    split at h
    · cases h
    · split at h
      · cases h
      · split at h
        · cases h
        · rw [openLoad_length (by omega)]; omega
  · rw [if_neg h0]; simp
theorem openOut_lt {xs : List Nat} (hx : ∀ x ∈ xs, x < 256) : ∀ x ∈ openOut xs, x < 256 := by
  unfold openOut
  split
  · exact lt_drop (lt_take hx _) _
  · simp
theorem same_true' (n m c d : Nat) (ao bo : Option Addr) (xs : List Nat) (w : World) (hn : n = xs.length) (hm : m = xs.length) (hx : Row w ao xs) (hy : Row w bo xs) (bx : ∀ x ∈ xs, x < 256) :
    Calls Tryd.prog 17 #[.slice ao n c, .slice bo m d] w fun e w' => e = .returned (.bool true) ∧ w' = w := by
  subst hn; subst hm
  refine (same_any c d ao bo xs xs w hx hy bx bx).mono ?_
  rintro e w' ⟨rfl, rfl⟩
  exact ⟨by simp, rfl⟩
theorem below_new (w : World) (o : Obj) : Below w.heap.size w (w.alloc o) := (Below.refl _ _).alloc (Nat.le_refl _) _

set_option maxHeartbeats 1600000 in
set_option maxRecDepth 100000 in
theorem frameOpens_walk (cb : Nat) (bo : Option Addr) (xs : List Nat) (w : World) (hl : xs.length ≤ 140737488351232) (hcb : xs.length ≤ cb) (hx : ∀ x ∈ xs, x < 256) (hb : Row w bo xs) (hT : Tab w) :
    Calls Tryd.prog 6 #[.slice bo xs.length cb] w fun e w' => e = .returned (.bool true) ∧ Below w.heap.size w w' := by
  have HX : Hid (∀ x ∈ xs, x < 256) := hx
  have HB : Hid (Row w bo xs) := hb
  have HT : Hid (Tab w) := hT
  obtain ⟨out, HOU⟩ : ∃ out, Hid (out = openOut xs) := ⟨_, rfl⟩
  obtain ⟨er, HER⟩ : ∃ er, Hid (er = openErr xs) := ⟨_, rfl⟩
  obtain ⟨kd, HKD⟩ : ∃ kd, Hid (kd = openKind xs) := ⟨_, rfl⟩
  obtain ⟨en, HEN⟩ : ∃ en, Hid (en = openEnd xs) := ⟨_, rfl⟩
  have HU : Hid (∀ x ∈ out, x < 256) := by show ∀ x ∈ out, x < 256; rw [HOU.out]; exact openOut_lt hx
  have hol : out.length ≤ 2097152 := by rw [HOU.out]; exact openOut_length xs
  clear hx hb hT
  go_enter Tryd.func6, Tryd.ntmps6
  go_wp2_with fail
  refine (lent_row cb bo xs w hl HB.out).mono ?_
  rintro e w1 ⟨g, c1, rfl, h1⟩
  have hle1 := h1.out.1
  have hgl : g < w1.heap.size := h1.out.2.2.1
  have HF1 : Hid (Row w1 (some ⟨g, 0, none⟩) (xs ++ marks 64)) := h1.out.2.2.2.2.1
  have HL1 : Hid (Below w.heap.size w w1) := h1.out.2.2.2.2.2
  have hs1 := HL1.out.size
  have HT1 : Hid (Tab w1) := HT.out.keep HL1.out
  clear h1
  go_wp2_with fail
  refine (open_all xs.length c1 _ xs w1 rfl (by omega) hl HX.out HF1.out.take HT1.out).mono ?_
  rintro e w2 ⟨po, pn, pc, rfl, h2⟩
  rw [← HER.out, ← HKD.out, ← HEN.out]
  have HM2 : Hid (Made w1 w2 po pn pc out) := by show Made w1 w2 po pn pc out; rw [HOU.out]; exact h2.out
  have HL2 : Hid (Below w1.heap.size w1 w2) := HM2.out.2.2.2.2
  have hs2 := HL2.out.size
  have HF2 : Hid (Row w2 (some ⟨g, 0, none⟩) (xs ++ marks 64)) := HF1.out.keep HL2.out
  have HT2 : Hid (Tab w2) := HT1.out.keep HL2.out
  clear h2 HF1 HT1
  go_wp2_with fail
  refine (open_all xs.length c1 _ xs _ rfl (by omega) hl HX.out (by exact HF2.out.take.keep (below_new _ _)) (by exact HT2.out.keep (below_new _ _))).mono ?_
  rintro e w3 ⟨qo, qn, qc, rfl, h3⟩
  rw [← HER.out, ← HKD.out, ← HEN.out]
  have hM3 := h3.out
  rw [← HOU.out] at hM3
  have HL3 : Hid (Below (w2.heap.size + 1) (w2.alloc (.cells #[.int .u8 (kd : Int), .slice po pn pc] 40)) w3) := by show Below _ _ _; simpa using hM3.2.2.2.2
  have hs3 : w2.heap.size + 1 ≤ w3.heap.size := by have := HL3.out.size; simpa using this
  have HQ3 : Hid (qn = out.length ∧ qn ≤ qc ∧ Row w3 qo out ∧ Own w3 (w2.heap.size + 1) (.slice qo qn qc) out) := ⟨hM3.1, hM3.2.1, hM3.2.2.1, by simpa using hM3.2.2.2.1⟩
  have p0 : w3.cell? ⟨w2.heap.size, 0, none⟩ = some (.int .u8 (kd : Int)) := cell_kept (new_cell rfl rfl) hM3.2.2.2.2
  have p1 : w3.cell? ⟨w2.heap.size, 1, none⟩ = some (.slice po pn pc) := cell_kept (new_cell rfl rfl) hM3.2.2.2.2
  have HL23 : Hid (Below w2.heap.size w2 w3) := (below_new _ _).trans (hM3.2.2.2.2.mono (by simp))
  clear h3 hM3 HL3 HT2
  have HLw3 : Hid (Below w.heap.size w w3) := (HL1.out.trans (HL2.out.mono hs1)).trans (HL23.out.mono (by omega))
  go_wp2_with fail
  refine (refOpen_all xs.length cb bo xs _ rfl hcb hl HX.out (by exact (HB.out.keep HLw3.out).keep (below_new _ _))).mono ?_
  rintro e w4 ⟨ro, rn, rc, rfl, h4⟩
  rw [← HER.out, ← HKD.out, ← HEN.out]
  have hM4 := h4.out
  rw [← HOU.out] at hM4
  have HL34 : Hid (Below w3.heap.size w3 w4) := (below_new _ _).trans (hM4.2.2.2.2.mono (by simp))
  have hs4 : w3.heap.size + 1 ≤ w4.heap.size := by have := hM4.2.2.2.2.size; simpa using this
  have HR4 : Hid (rn = out.length ∧ Row w4 ro out) := ⟨hM4.1, hM4.2.2.1⟩
  have y0 : w4.cell? ⟨w3.heap.size, 0, none⟩ = some (.int .u8 (kd : Int)) := cell_kept (new_cell rfl rfl) hM4.2.2.2.2
  have y1 : w4.cell? ⟨w3.heap.size, 1, none⟩ = some (.slice qo qn qc) := cell_kept (new_cell rfl rfl) hM4.2.2.2.2
  have x0 := cell_kept p0 HL34.out
  have x1 := cell_kept p1 HL34.out
  clear h4 hM4 p0 p1
  have HLw4 : Hid (Below w.heap.size w w4) := HLw3.out.trans (HL34.out.mono (by omega))
  have HP4 : Hid (pn = out.length ∧ Row w4 po out ∧ Own w4 w1.heap.size (.slice po pn pc) out) := ⟨HM2.out.1, (HM2.out.2.2.1.keep HL23.out).keep HL34.out, (HM2.out.2.2.2.1.keep HL23.out).keep HL34.out⟩
  have HQ4 : Hid (qn = out.length ∧ Row w4 qo out ∧ Own w4 w1.heap.size (.slice qo qn qc) out) := ⟨HQ3.out.1, HQ3.out.2.2.1.keep HL34.out, (HQ3.out.2.2.2.lower (by omega)).keep HL34.out⟩
  have HSP : Hid (∀ k, (Value.slice po pn pc).ownBlock = some k → (Value.slice qo qn qc).ownBlock ≠ some k) := fun k hk e => by
    have a := HM2.out.2.2.2.1.ltSize k hk
    have b := HQ3.out.2.2.2.ge k e
    omega
  have HF4 : Hid (Row w4 (some ⟨g, 0, none⟩) (xs ++ marks 64)) := (HF2.out.keep HL23.out).keep HL34.out
  clear HM2 HQ3 HF2 HL2 HL23 HL34 HLw3
  have he0 : (((er : Nat) : Int) != ((er : Nat) : Int)) = false := by simp
  have hn0 : (((en : Nat) : Int) != ((en : Nat) : Int)) = false := by simp
  have hk0 : (((kd : Nat) : Int) != ((kd : Nat) : Int)) = false := by simp
  have hlt2 : w2.heap.size < w4.heap.size := by omega
  have hlt3 : w3.heap.size < w4.heap.size := by omega
  have HPL : Hid (∀ k, (Value.slice po pn pc).ownBlock = some k → k < w4.heap.size) := HP4.out.2.2.ltSize
  have HQL : Hid (∀ k, (Value.slice qo qn qc).ownBlock = some k → k < w4.heap.size) := HQ4.out.2.2.ltSize
  have hpn : pn + 64 ≤ 140737488355328 := by have := HP4.out.1; omega
  have hqn : qn + 64 ≤ 140737488355328 := by have := HQ4.out.1; omega
  go_wp2_with (go_at_call 7; refine (num_any _ _).mono ?_; rintro e w5 ⟨rfl, rfl⟩)
  refine (same_true' pn rn pc rc po ro out _ HP4.out.1 HR4.out.1 (by exact HP4.out.2.1.keep (below_new _ _)) (by exact HR4.out.2.keep (below_new _ _)) HU.out).mono ?_
  rintro e w6 ⟨rfl, rfl⟩
  go_wp2_with fail
  refine (same_true' qn rn qc rc qo ro out _ HQ4.out.1 HR4.out.1 (by exact HQ4.out.2.1.keep (below_new _ _)) (by exact HR4.out.2.keep (below_new _ _)) HU.out).mono ?_
  rintro e w6 ⟨rfl, rfl⟩
  go_wp2_with fail
  refine (kept_true _ c1 cb g 0 bo xs _ hl rfl hle1 (by exact HF4.out.keep (below_new _ _)) (by exact (HB.out.keep HLw4.out).keep (below_new _ _)) HX.out).mono ?_
  rintro e w6 ⟨rfl, rfl⟩
  go_wp2_with fail
  refine (alone_two' _ _ (by simp) w1.heap.size pn pc qn qc po qo out out (by simp; omega) (by exact HP4.out.2.2.alloc _) (by exact HQ4.out.2.2.alloc _) hpn hqn HSP.out).mono ?_
  rintro e w6 ⟨rfl, h6⟩
  have hb6 : Below w1.heap.size (w4.alloc (.cells #[.int .u8 (kd : Int), .slice ro rn rc, .int .i64 0] 44)) w6 := h6.out.below (by simp; omega) (fun k hk => by
    simp only [List.mem_cons, List.not_mem_nil, or_false] at hk
    rcases hk with hk | hk
    · exact HP4.out.2.2.ge k hk.symm
    · exact HQ4.out.2.2.ge k hk.symm)
  have hb46 : Below w1.heap.size w4 w6 := ((below_new w4 _).mono (by omega)).trans hb6
  have HL6 : Hid (Below w.heap.size w w6) := HLw4.out.trans (hb46.mono hs1)
  have HF6 : Hid (Row w6 (some ⟨g, 0, none⟩) (xs ++ marks 64)) := HF4.out.below hb46 (fun a ha => by cases ha; exact hgl)
  have HB6 : Hid (Row w6 bo xs) := HB.out.keep HL6.out
  have HT6 : Hid (Tab w6) := HT.out.keep HL6.out
  clear h6 hb6 hb46 HP4 HQ4 HR4 HF4 HLw4 HSP HPL HQL x0 x1 y0 y1
  go_wp2_with fail
  refine (kept_true _ c1 cb g 0 bo xs _ hl rfl hle1 HF6.out HB6.out HX.out).mono ?_
  rintro e w7 ⟨rfl, rfl⟩
  go_wp2_with fail
  refine (live_true _ HT6.out).mono ?_
  rintro e w11 ⟨rfl, h11⟩
  have HL11 : Hid (Below w.heap.size w w11) := HL6.out.trans (h11.mono HL6.out.size)
  clear h11
  go_wp2
  go_ret
  exact ⟨rfl, HL11.out⟩
end Go.Proofs.YtmgppjfohabdmaaDoor
