/- The walk of the law FrameEaches. -/
import Derived.Laws.EntriesVeiled
import Derived.Test.YtmgppjfohabdmabDoorEachFn
import Derived.Test.YtmgppjfohabdmabDoorHeldIn
import Derived.Test.YtmgppjfohabdmabDoorScans
namespace Go.Proofs.YtmgppjfohabdmabDoor
open Go.RowKit Go.Shelf

attribute [local go_sem] Oper.semAt_some

theorem lent_n (n cap : Nat) (ao : Option Addr) (xs : List Nat) (w : World) (hn : n = xs.length) (hl : n ≤ 140737488351232) (hr : Row w ao xs) :
    Calls Tryd.prog 9 #[.slice ao n cap] w fun e w' => ∃ g c, e = .returned (.slice (some ⟨g, 0, none⟩) (n + 64) c) ∧ Hid (n + 64 ≤ c ∧ w.heap.size ≤ g ∧ g < w'.heap.size ∧ Own w' w.heap.size (.slice (some ⟨g, 0, none⟩) (n + 64) c) (xs ++ marks 64) ∧ Row w' (some ⟨g, 0, none⟩) (xs ++ marks 64) ∧ Below w.heap.size w w') := by
  subst hn
  exact lent_row cap ao xs w hl hr
/-- One cell in a block of its own. -/
def Box (W : World) (b : Nat) (t : TypeId) (v : Value) : Prop := W.heap[b]? = some (.cells #[v] t (0, 0))
theorem Box.cell {W : World} {b : Nat} {t : TypeId} {v : Value} (h : Box W b t v) : W.cell? ⟨b, 0, none⟩ = some v := by unfold World.cell?; rw [h]; rfl
theorem Box.frozen {W : World} {b : Nat} {t : TypeId} {v : Value} (h : Box W b t v) : W.frozen? ⟨b, 0, none⟩ = false := by unfold World.frozen?; rw [h]; rfl
theorem Box.below {W W' : World} {b B : Nat} {t : TypeId} {v : Value} (h : Box W b t v) (hb : Below B W W') (hB : b < B) : Box W' b t v := (hb.block b hB).trans h
theorem Box.lt {W : World} {b : Nat} {t : TypeId} {v : Value} (h : Box W b t v) : b < W.heap.size := (Array.getElem?_eq_some_iff.1 h).1
theorem Box.keep {W W' : World} {b : Nat} {t : TypeId} {v : Value} (h : Box W b t v) (hb : Below W.heap.size W W') : Box W' b t v := h.below hb h.lt
theorem Box.new (W : World) (t : TypeId) (v : Value) : Box (W.alloc (.cells #[v] t)) W.heap.size t v := World.alloc_heap_new W _
theorem Box.set {W : World} {b : Nat} {t : TypeId} {v : Value} (h : Box W b t v) (u : Value) : Box (W.setCell ⟨b, 0, none⟩ u) b t u := by
  unfold Box at h ⊢
  have hlt := (Array.getElem?_eq_some_iff.1 h).1
  simp [World.setCell, Array.getElem?_modify, h]
theorem Box.grown {W W' : World} {b : Nat} {t : TypeId} {v : Value} {r : Option Nat} (h : Box W b t v) (hg : W.grownBy W' r) (hne : some b ≠ r) : Box W' b t v := (hg.block b h.lt hne).trans h

theorem cell_set_other {W : World} {a b : Nat} {u v : Value} (h : W.cell? ⟨a, 0, none⟩ = some u) (hne : a ≠ b) : (W.setCell ⟨b, 0, none⟩ v).cell? ⟨a, 0, none⟩ = some u := by
  rw [World.cell?_setCell_other _ _ _ _ (fun e => hne (by simpa using (congrArg Addr.block e).symm))]
  exact h
theorem own_read1 {w : World} {B n c : Nat} {ao : Option Addr} {xs : List Nat} (h : Own w B (.slice ao n c) xs) (h0 : 0 < n) : ∃ g cap, Value.slice ao n c = .slice (some ⟨g, 0, none⟩) n cap ∧ n ≤ cap ∧ B ≤ g := by
  rcases h.2 with ⟨e, hn⟩ | ⟨g, cap, cur, e, hg, _, hc, _⟩
  · simp at e; omega
  · simp only [Value.slice.injEq] at e ⊢
    obtain ⟨rfl, rfl, rfl⟩ := e
    exact ⟨g, c, by simp, hc, hg⟩
theorem RInv.belowTop {B top : Nat} {w w' : World} {v : Value} {acc : List (Nat × List Nat)} {ls : List Value} (h : RInv B w v acc ls) (hb : Below top w w') (hv : ∀ g, v.ownBlock = some g → g < top) (hls : ∀ (i : Nat) (l : Value), ls[i]? = some l → ∀ g, l.ownBlock = some g → g < top) : RInv B w' v acc ls := by
  have keep : ∀ {e size n : Nat} {u : Value} {cs : List Value}, w.ownsRow B e size u n cs → (∀ g, u.ownBlock = some g → g < top) → w'.ownsRow B e size u n cs := fun {e size n u cs} ho ht => by
    refine ⟨ho.1, ?_⟩
    rcases ho.2 with h2 | ⟨g, cap, cur, rfl, hg, hh, r⟩
    · exact .inl h2
    · exact .inr ⟨g, cap, cur, rfl, hg, (hb.block g (ht g rfl)).trans hh, r⟩
  exact ⟨h.len, keep h.row hv, fun i k bs hi => by obtain ⟨l, a, b⟩ := h.own i k bs hi; exact ⟨l, a, keep b (hls i l a)⟩⟩
/-- What the law's loops leave as it was. -/
structure EB (w : World) (stop : Int) (ro ko : Option Addr) (m rc nx Bk bW bE : Nat) (xs : List Nat) (fr : List (Nat × List Nat)) (lr : List Value) (W : World) : Prop where
  stopB : Box W w.heap.size 3 (.int .i64 stop)
  res : Box W (w.heap.size + 1) 4 (.bool false)
  wv : Box W bW 28 (.slice ro m rc)
  ev : Box W bE 40 (.func (.func 30) #[] #[.pointer (some ⟨Bk, 0, none⟩)])
  ref : RInv (w.heap.size + 2) W (.slice ro m rc) fr lr
  kept : W.cell? ⟨Bk, 0, none⟩ = some (.slice ko nx nx)
  row : Row W ko xs
  tab : Tab W
  low : Below w.heap.size w W
structure ETop (w : World) (ro ko : Option Addr) (m rc Bk bW bE : Nat) (lr : List Value) (top : Nat) : Prop where
  base : w.heap.size + 2 ≤ top
  wv : bW < top
  ev : bE < top
  bk : Bk < top
  ko : ∀ a, ko = some a → a.block < top
  ro : ∀ g, (Value.slice ro m rc).ownBlock = some g → g < top
  lr : ∀ (i : Nat) (l : Value), lr[i]? = some l → ∀ g, l.ownBlock = some g → g < top
theorem ETop.mono {w : World} {ro ko : Option Addr} {m rc Bk bW bE top top' : Nat} {lr : List Value} (h : ETop w ro ko m rc Bk bW bE lr top) (hle : top ≤ top') : ETop w ro ko m rc Bk bW bE lr top' :=
  ⟨Nat.le_trans h.base hle, Nat.lt_of_lt_of_le h.wv hle, Nat.lt_of_lt_of_le h.ev hle, Nat.lt_of_lt_of_le h.bk hle, fun a ha => Nat.lt_of_lt_of_le (h.ko a ha) hle, fun g hg => Nat.lt_of_lt_of_le (h.ro g hg) hle, fun i l hi g hg => Nat.lt_of_lt_of_le (h.lr i l hi g hg) hle⟩
theorem EB.below {w : World} {stop : Int} {ro ko : Option Addr} {m rc nx Bk bW bE top : Nat} {xs : List Nat} {fr : List (Nat × List Nat)} {lr : List Value} {W W' : World} (h : EB w stop ro ko m rc nx Bk bW bE xs fr lr W) (ht : ETop w ro ko m rc Bk bW bE lr top) (hb : Below top W W') : EB w stop ro ko m rc nx Bk bW bE xs fr lr W' := by
  have hbs := ht.base
  have h0 : 0 < top := by omega
  exact ⟨h.stopB.below hb (by omega), h.res.below hb (by omega), h.wv.below hb ht.wv, h.ev.below hb ht.ev, h.ref.belowTop hb ht.ro ht.lr, (hb.cell (p := ⟨Bk, 0, none⟩) ht.bk).trans h.kept, h.row.below hb ht.ko, fun j hj => (hb.cell (p := ⟨0, j, none⟩) h0).trans (h.tab j hj), h.low.trans (hb.mono (by omega))⟩

set_option maxHeartbeats 3200000 in
set_option maxRecDepth 100000 in
theorem frameEaches_in (cb : Nat) (bo : Option Addr) (stop : Int) (xs : List Nat) (w : World) (hl : xs.length ≤ 1048576) (hcb : xs.length ≤ cb) (hx : ∀ x ∈ xs, x < 256) (hb : Row w bo xs) (hT : Tab w) :
    CallsIn Fence.wide 9 Tryd.prog 4 #[.slice bo xs.length cb, .int .i64 stop] w fun e w' => e = .returned (.bool true) ∧ Below w.heap.size w w' := by
  have HX : Hid (∀ x ∈ xs, x < 256) := hx
  have HB : Hid (Row w bo xs) := hb
  have HT : Hid (Tab w) := hT
  obtain ⟨fr, en, er, HS⟩ : ∃ fr en er, Hid (scanR xs.length xs = (fr, en, er)) := ⟨_, _, _, rfl⟩
  have HMEM : Hid (∀ x ∈ fr, x.2.length ≤ 2097152 ∧ ∀ y ∈ x.2, y < 256) := fun x hx' => scan_mem xs.length xs hx x (by rw [HS.out]; exact hx')
  obtain ⟨m, hm⟩ : ∃ m, m = fr.length := ⟨_, rfl⟩
  have HM : Hid (m = fr.length) := hm
  have hml : m ≤ 1048576 := by
    have h := scan_len xs.length xs
    rw [HS.out] at h
    have h2 : 9 * fr.length ≤ xs.length := h
    omega
  obtain ⟨nx, hnx⟩ : ∃ n, n = xs.length := ⟨_, rfl⟩
  have HNX : Hid (nx = xs.length) := hnx
  rw [← hnx] at hl hcb ⊢
  clear hx hb hT hm hnx
  refine callsIn_of_wp_marks Tryd.func4 rfl trivial ?_ rfl
  simp only [Tryd.ntmps4, List.size_toArray, List.length_cons, List.length_nil, Nat.reduceAdd, Nat.reduceSub, Array.replicate_succ, Array.replicate_zero, List.push_toArray, List.append_toArray, List.nil_append, List.cons_append]
  gi_wp2_with fail
  refine ⟨trivial, (callsIn_wide.2 (refScan_m nx cb bo xs fr m en er _ HNX.out HM.out HS.out (by omega) hcb HX.out (by exact (HB.out.keep (below_new _ _)).keep (below_new _ _)))).mono ?_⟩
  rintro e w2 ⟨ro, rc, lr, rfl, h2⟩
  have HR2 : Hid (RInv (w.heap.size + 2) w2 (.slice ro m rc) fr lr) := by have h := h2.out.1; show RInv (w.heap.size + 2) w2 (.slice ro m rc) fr lr; simpa using h
  have HL02 : Hid (Below (w.heap.size + 2) ((w.alloc (.cells #[.int .i64 stop] 3)).alloc (.cells #[.bool false] 4)) w2) := by have h := h2.out.2; show Below (w.heap.size + 2) _ w2; simpa using h
  have HbS : Hid (Box w2 w.heap.size 3 (.int .i64 stop)) := ((Box.new w 3 (.int .i64 stop)).keep (below_new _ _)).below HL02.out (by omega)
  have HbR : Hid (Box w2 (w.heap.size + 1) 4 (.bool false)) := by
    have h := (Box.new (w.alloc (.cells #[.int .i64 stop] 3)) 4 (.bool false)).below HL02.out (by simp)
    show Box w2 (w.heap.size + 1) 4 (.bool false)
    simpa using h
  have HL2 : Hid (Below w.heap.size w w2) := ((below_new w _).trans ((below_new _ _).mono (by simp))).trans (HL02.out.mono (by omega))
  have hs2 : w.heap.size + 2 ≤ w2.heap.size := by have h := HL02.out.size; simpa using h
  clear h2 HL02
  gi_wp2_with fail
  refine ⟨trivial, (callsIn_wide.2 (lent_n nx cb bo xs _ HNX.out (by omega) (by exact (HB.out.keep HL2.out).keep (below_new _ _)))).mono ?_⟩
  rintro e w3 ⟨g, c1, rfl, h3⟩
  have hg2 : w2.heap.size + 1 ≤ g := by have h := h3.out.2.1; simpa using h
  have hg3 : g < w3.heap.size := h3.out.2.2.1
  have hc1 : nx + 64 ≤ c1 := h3.out.1
  have HL23 : Hid (Below (w2.heap.size + 1) (w2.alloc (.cells #[.slice ro m rc] 28)) w3) := by have h := h3.out.2.2.2.2.2; show Below (w2.heap.size + 1) _ w3; simpa using h
  have HF3 : Hid (Own w3 (w2.heap.size + 1) (.slice (some ⟨g, 0, none⟩) (nx + 64) c1) (xs ++ marks 64)) := by have h := h3.out.2.2.2.1; show Own w3 (w2.heap.size + 1) _ _; simpa using h
  have HFR3 : Hid (Row w3 (some ⟨g, 0, none⟩) (xs ++ marks 64)) := h3.out.2.2.2.2.1
  have HbW3 : Hid (Box w3 w2.heap.size 28 (.slice ro m rc)) := (Box.new w2 _ _).below HL23.out (by omega)
  have HL2n : Hid (Below w2.heap.size w2 w3) := (below_new w2 _).trans (HL23.out.mono (by omega))
  have hs3 := HL2n.out.size
  clear h3 HL23
  gi_wp2_with fail
  refine ⟨trivial, (callsIn_wide.2 (each_any nx c1 (some ⟨g, 0, none⟩) xs w3 HNX.out (by omega) (by exact HFR3.out.take))).mono ?_⟩
  rintro e w4 ⟨Bk, ko, rfl, h4⟩
  have HK4 : Hid (w4.cell? ⟨Bk, 0, none⟩ = some (.slice ko nx nx) ∧ Row w4 ko xs) := ⟨h4.out.2.2.1, h4.out.2.2.2.1⟩
  have HKB : Hid (w3.heap.size ≤ Bk ∧ Bk < w4.heap.size ∧ ∀ a, ko = some a → w3.heap.size ≤ a.block ∧ a.block < w4.heap.size) := ⟨h4.out.1, h4.out.2.1, h4.out.2.2.2.2.1⟩
  have HL34 : Hid (Below w3.heap.size w3 w4) := h4.out.2.2.2.2.2
  have hs4 := HL34.out.size
  clear h4 HFR3
  have HF4 : Hid (Own (w4.alloc (.cells #[.func (.func 30) #[] #[.pointer (some ⟨Bk, 0, none⟩)]] 40)) (w2.heap.size + 1) (.slice (some ⟨g, 0, none⟩) (nx + 64) c1) (xs ++ marks 64)) := (HF3.out.keep HL34.out).alloc _
  have hfn := func_ne Bk
  gi_wp2
  gi_loopw [10] (fun i wr => ∃ k : Nat, k ≤ nx + 64 ∧ i = .int .i64 k ∧ Hid ((∃ ys, ys.length = nx + 64 ∧ Own wr (w2.heap.size + 1) (.slice (some ⟨g, 0, none⟩) (nx + 64) c1) ys) ∧ (w4.alloc (.cells #[.func (.func 30) #[] #[.pointer (some ⟨Bk, 0, none⟩)]] 40)).grownBy wr (some g))) (fun i _ => nx + 64 - (intOf i).toNat)
  case atStart => exact ⟨0, Nat.zero_le _, rfl, ⟨_, by simp [marks_length, HNX.out], HF4.out⟩, World.grownBy.refl _ _⟩
  case round =>
    obtain ⟨k, hk, rfl, HK⟩ := hrel
    by_cases hlt : k < nx + 64
    · obtain ⟨ys, hyl, hyo⟩ := HK.out.1
      have hc := hyo.cellOf k (by omega)
      have hf := hyo.freeOf k
      have hki : (k : Int) < (nx : Int) + 64 := by omega
      have HK2 : Hid ((∃ ys, ys.length = nx + 64 ∧ Own (wr.setCell ⟨g, k, none⟩ (.int .u8 238)) (w2.heap.size + 1) (.slice (some ⟨g, 0, none⟩) (nx + 64) c1) ys) ∧ (w4.alloc (.cells #[.func (.func 30) #[] #[.pointer (some ⟨Bk, 0, none⟩)]] 40)).grownBy (wr.setCell ⟨g, k, none⟩ (.int .u8 238)) (some g)) := by
        rw [← hyl] at hyo
        have := hyo.set (j := k) (x := 238)
        refine ⟨⟨ys.set k 238, by simp [hyl], ?_⟩, grown_trans HK.out.2 (grownBy_set _ _ _ _)⟩
        rw [List.length_set, hyl] at this
        exact this
      clear hyo HK HF4 HF3
      gi_wp2
      go_roundw
      case rel => exact ⟨k + 1, by omega, rfl, HK2⟩
      case measure => simp [intOf]; omega
    · have hgr := HK.out.2
      have hsr : w4.heap.size + 1 ≤ wr.heap.size := by have h := hgr.size; simpa using h
      have HbE : Hid (Box wr w4.heap.size 40 (.func (.func 30) #[] #[.pointer (some ⟨Bk, 0, none⟩)])) := (Box.new w4 _ _).grown hgr (by simp; omega)
      have HLg : Hid (Below g (w4.alloc (.cells #[.func (.func 30) #[] #[.pointer (some ⟨Bk, 0, none⟩)]] 40)) wr) := (Below.refl g _).grown hgr (by simp; omega) (fun j hj => by cases hj; exact Nat.le_refl _)
      have HL2r : Hid (Below w2.heap.size w2 wr) := ((HL2n.out.trans (HL34.out.mono hs3)).trans ((below_new w4 _).mono (by omega))).trans (HLg.out.mono (by omega))
      have HLr : Hid (Below w.heap.size w wr) := HL2.out.trans (HL2r.out.mono (by omega))
      have HRr : Hid (RInv (w.heap.size + 2) wr (.slice ro m rc) fr lr) := HR2.out.below HL2r.out
      have HbSr : Hid (Box wr w.heap.size 3 (.int .i64 stop)) := HbS.out.keep HL2r.out
      have HbRr : Hid (Box wr (w.heap.size + 1) 4 (.bool false)) := HbR.out.keep HL2r.out
      have HbWr : Hid (Box wr w2.heap.size 28 (.slice ro m rc)) := (((HbW3.out.keep HL34.out).keep (below_new w4 _)).below HLg.out (by omega))
      have HKr : Hid (wr.cell? ⟨Bk, 0, none⟩ = some (.slice ko nx nx) ∧ Row wr ko xs) := by
        refine ⟨hgr.cell (cell_kept HK4.out.1 (below_new _ _)) (fun e => by have := HKB.out.1; simp at e; omega), ?_⟩
        have hr := HK4.out.2.keep (below_new w4 (.cells #[.func (.func 30) #[] #[.pointer (some ⟨Bk, 0, none⟩)]] 40))
        rcases hr with h | ⟨b, off, rfl, hc⟩
        · exact .inl h
        · exact .inr ⟨b, off, rfl, fun i hi => hgr.cell (hc i hi) (fun e => by have := (HKB.out.2.2 _ rfl).1; simp at e; simp at this; omega)⟩
      have HTr : Hid (Tab wr) := HT.out.keep HLr.out
      clear HK hgr HLg HK4 HbS HbR HbW3 HF3 HF4 HL34 HL2n HR2
      have hcE := HbE.out.cell
      have hlE := HbE.out.lt
      gi_wp2
      obtain ⟨W0, hW0⟩ : ∃ W0, wr.alloc (.cells #[.int .i64 0] 3) = W0 := ⟨_, rfl⟩
      obtain ⟨bN, hbN⟩ : ∃ bN, wr.heap.size = bN := ⟨_, rfl⟩
      have hsW0 : W0.heap.size = bN + 1 := by rw [← hW0, ← hbN]; simp
      have HTOP : Hid (ETop w ro ko m rc Bk w2.heap.size w4.heap.size lr bN) := by
        have hk := HKB.out
        have hsw := HRr.out
        refine ⟨by omega, by omega, by omega, by omega, fun a ha => by have := (hk.2.2 a ha).2; omega, ?_, ?_⟩
        · intro g hg; have := (World.ownsRow.lt hsw.row g hg).2; omega
        · intro i l hi g hg
          have hlt := (List.getElem?_eq_some_iff.1 hi).1
          rw [hsw.len] at hlt
          obtain ⟨l', a, b⟩ := hsw.own i _ _ (List.getElem?_eq_getElem hlt)
          rw [hi] at a
          cases a
          have := (World.ownsRow.lt b g hg).2
          omega
      have HEB : Hid (EB w stop ro ko m rc nx Bk w2.heap.size w4.heap.size xs fr lr W0) := by
        have hn : Below wr.heap.size wr W0 := by rw [← hW0]; exact below_new _ _
        exact ⟨HbSr.out.keep hn, HbRr.out.keep hn, HbWr.out.keep hn, HbE.out.keep hn, HRr.out.below hn, cell_kept HKr.out.1 hn, HKr.out.2.keep hn, HTr.out.keep hn, HLr.out.trans (hn.mono HLr.out.size)⟩
      have HbN : Hid (Box W0 bN 3 (.int .i64 0)) := by show Box W0 bN 3 (.int .i64 0); rw [← hW0, ← hbN]; exact Box.new _ _ _
      rw [hW0, hbN]
      clear hcE hlE HbSr HbRr HbWr HbE HRr HKr HTr HLr HL2r hW0
      refine range_outer (A1 := ?A) (ko := ko) (xs := xs) (fr := fr) (en := en) (er := er) (kc := nx) (Bk := Bk) (by rw [← HNX.out]; omega) (by rw [← HNX.out]; exact Nat.le_refl _) HX.out HS.out rfl rfl
        (fun i W => EB w stop ro ko m rc nx Bk w2.heap.size w4.heap.size xs fr lr W ∧ Box W bN 3 (.int .i64 (i : Nat)))
        (fun c _ W => c = .exit 2 ∧ EB w stop ro ko m rc nx Bk w2.heap.size w4.heap.size xs fr lr W ∧ ∃ j : Int, Box W bN 3 (.int .i64 j))
        (fun i W W' h hb => ⟨h.1.below (HTOP.out.mono (by omega)) hb, h.2.below hb (by omega)⟩)
        (fun c i W W' h hb => ⟨h.1, h.2.1.below (HTOP.out.mono (by omega)) hb, h.2.2.imp (fun j hj => hj.below hb (by omega))⟩)
        (fun i W h => ⟨by rw [← HNX.out]; exact h.1.kept, h.1.row, h.1.tab⟩) ⟨HEB.out, HbN.out⟩ ?hassign ?hbody ?hdone ?hstop
      case hassign =>
        intro l W1 p k ao ln lc bx K hbx hK
        gi_wp2
        exact hK
      case hbody =>
        rintro bx i kd bs lo lc W hfi ⟨hEB, hBN⟩ hbx hown hlb hbox ⟨r, hrec⟩
        have hil : i < fr.length := (List.getElem?_eq_some_iff.1 hfi).1
        obtain ⟨rl, hr1, hr2⟩ := hEB.ref.own i kd bs hfi
        obtain ⟨gR, rc2, hv, _, _, d0, d1, d2⟩ := hEB.ref.cells hfi hr1
        simp only [Value.slice.injEq] at hv
        obtain ⟨hv1, hv2, hv3⟩ := hv
        obtain ⟨rro, rrc, rfl, _, hrr⟩ := hr2.read
        obtain ⟨_, _, _, _, hrl⟩ := hown.read
        have HRR : Hid (Row W rro bs) := hrr
        have HRL : Hid (Row W lo bs) := by
          obtain ⟨ao, cp, e, _, h⟩ := hown.read
          simp only [Value.slice.injEq] at e
          rw [e.1]
          exact h
        have HBS : Hid (∀ y ∈ bs, y < 256) := (HMEM.out (kd, bs) (List.mem_of_getElem? hfi)).2
        obtain ⟨ln, hln⟩ : ∃ ln, ln = bs.length := ⟨_, rfl⟩
        have HLN : Hid (ln = bs.length) := hln
        obtain ⟨p, hp⟩ : ∃ p, p = endOf (fr.take i) := ⟨_, rfl⟩
        rw [← hln] at d1 hbox
        rw [← hp] at d2
        rw [← hln, ← hp]
        rw [Nat.mul_comm] at d0 d1 d2
        have hwv := hEB.wv.cell
        have hnv := hBN.cell
        have hx0 : W.cell? ⟨bx, 0, none⟩ = some (.int .u8 (kd : Int)) := by unfold World.cell?; rw [hbox]; rfl
        have hx1 : W.cell? ⟨bx, 1, none⟩ = some (.slice lo ln lc) := by unfold World.cell?; rw [hbox]; rfl
        rw [hv1] at hwv
        have hmi : (i : Int) < (m : Int) := by have := HM.out; omega
        have hge : decide ((m : Int) ≤ (i : Int)) = false := by simp; omega
        have HS0 : (fun W : World => W.cell? ⟨bN, 0, none⟩ = some (.int .i64 (i : Int)) ∧ W.cell? ⟨w2.heap.size, 0, none⟩ = some (.slice (some ⟨gR, 0, none⟩) m rc) ∧ W.cell? ⟨gR, i * 3, none⟩ = some (.int .u8 (kd : Int)) ∧ W.cell? ⟨gR, i * 3 + 1, none⟩ = some (.slice rro ln rrc) ∧ W.cell? ⟨gR, i * 3 + 2, none⟩ = some (.int .i64 (p : Int)) ∧ W.cell? ⟨bx, 0, none⟩ = some (.int .u8 (kd : Int)) ∧ W.cell? ⟨bx, 1, none⟩ = some (.slice lo ln lc)) W.drew := ⟨hnv, hwv, d0, d1, d2, hx0, hx1⟩
        refine wpIn_block (wpIn_seq (wpIn_seq ?_))
        refine region_in_var (by kernel_rfl) (by kernel_rfl) (fun ⟨_, _, h⟩ => h) ?_ (S := (fun W : World => W.cell? ⟨bN, 0, none⟩ = some (.int .i64 (i : Int)) ∧ W.cell? ⟨w2.heap.size, 0, none⟩ = some (.slice (some ⟨gR, 0, none⟩) m rc) ∧ W.cell? ⟨gR, i * 3, none⟩ = some (.int .u8 (kd : Int)) ∧ W.cell? ⟨gR, i * 3 + 1, none⟩ = some (.slice rro ln rrc) ∧ W.cell? ⟨gR, i * 3 + 2, none⟩ = some (.int .i64 (p : Int)) ∧ W.cell? ⟨bx, 0, none⟩ = some (.int .u8 (kd : Int)) ∧ W.cell? ⟨bx, 1, none⟩ = some (.slice lo ln lc)))
        intro A hA
        have hsz : A.tmps.size = 178 := by rw [hA]; rfl
        have e5 : A.eval (.tmp 5) = .pointer (some ⟨w2.heap.size, 0, none⟩) := by rw [hA]; rfl
        have e11 : A.eval (.tmp 11) = .pointer (some ⟨bN, 0, none⟩) := by rw [hA]; rfl
        have e12 : A.eval (.tmp 12) = .int .i64 (p : Int) := by rw [hA]; rfl
        have e13 : A.eval (.tmp 13) = .pointer (some ⟨bx, 0, none⟩) := by rw [hA]; rfl
        refine heldRun (i := 0) 47 (.int .i64 (i : Int)) rfl rfl (by kernel_rfl) (by kernel_rfl) (by kernel_rfl) (fun _ _ _ h => h) rfl (fun w hSw => by obtain ⟨s1, s2, s3, s4, s5, s6, s7⟩ := hSw; unfold execOp; simp [e11]; go_simp) HS0 ?_
        refine heldRun (i := 1) 48 (.slice (some ⟨gR, 0, none⟩) m rc) rfl rfl (by kernel_rfl) (by kernel_rfl) (by kernel_rfl) (fun _ _ _ h => h) rfl (fun w hSw => by obtain ⟨s1, s2, s3, s4, s5, s6, s7⟩ := hSw; unfold execOp; simp [ev_put, e5]; go_simp) HS0 ?_
        refine heldRun (i := 2) 49 (.int .i64 (m : Int)) rfl rfl (by kernel_rfl) (by kernel_rfl) (by kernel_rfl) (fun _ _ _ h => h) rfl (fun w hSw => by obtain ⟨s1, s2, s3, s4, s5, s6, s7⟩ := hSw; unfold execOp; simp; go_simp) HS0 ?_
        refine heldRun (i := 3) 50 (.bool false) rfl rfl (by kernel_rfl) (by kernel_rfl) (by kernel_rfl) (fun _ _ _ h => h) rfl (fun w hSw => by obtain ⟨s1, s2, s3, s4, s5, s6, s7⟩ := hSw; unfold execOp; simp [ev_put, hsz, sz_put]; go_simp) HS0 ?_
        refine heldMove (i := 4) 51 50 (.bool false) rfl rfl rfl (by kernel_rfl) (by kernel_rfl) (by kernel_rfl) (fun _ _ _ h => h) rfl (by simp [ev_put, hsz, sz_put]) HS0 ?_
        refine heldMove (i := 5) 52 12 (.int .i64 (p : Int)) rfl rfl rfl (by kernel_rfl) (by kernel_rfl) (by kernel_rfl) (fun _ _ _ h => h) (wants 4 51 false rfl rfl (by simp [sz_put, hsz]) (by simp [ev_put, hsz, sz_put])) (by simp [ev_put, e12]) HS0 ?_
        refine heldRun (i := 6) 53 (.slice (some ⟨gR, 0, none⟩) m rc) rfl rfl (by kernel_rfl) (by kernel_rfl) (by kernel_rfl) (fun _ _ _ h => h) (wants 4 51 false rfl rfl (by simp [sz_put, hsz]) (by simp [ev_put, hsz, sz_put])) (fun w hSw => by obtain ⟨s1, s2, s3, s4, s5, s6, s7⟩ := hSw; unfold execOp; simp [ev_put, e5]; go_simp) HS0 ?_
        refine heldRun (i := 7) 54 (.int .i64 (i : Int)) rfl rfl (by kernel_rfl) (by kernel_rfl) (by kernel_rfl) (fun _ _ _ h => h) (wants 4 51 false rfl rfl (by simp [sz_put, hsz]) (by simp [ev_put, hsz, sz_put])) (fun w hSw => by obtain ⟨s1, s2, s3, s4, s5, s6, s7⟩ := hSw; unfold execOp; simp [ev_put, e11]; go_simp) HS0 ?_
        refine heldRun (i := 8) 55 (.pointer (some ⟨gR, i * 3, none⟩)) rfl rfl (by kernel_rfl) (by kernel_rfl) (by kernel_rfl) (fun _ _ _ h => h) (wants 4 51 false rfl rfl (by simp [sz_put, hsz]) (by simp [ev_put, hsz, sz_put])) (fun w hSw => by obtain ⟨s1, s2, s3, s4, s5, s6, s7⟩ := hSw; unfold execOp; simp [ev_put, hsz, sz_put]; go_simp) HS0 ?_
        refine heldRun (i := 9) 56 (.pointer (some ⟨gR, i * 3 + 2, none⟩)) rfl rfl (by kernel_rfl) (by kernel_rfl) (by kernel_rfl) (fun _ _ _ h => h) (wants 4 51 false rfl rfl (by simp [sz_put, hsz]) (by simp [ev_put, hsz, sz_put])) (fun w hSw => by obtain ⟨s1, s2, s3, s4, s5, s6, s7⟩ := hSw; unfold execOp; simp [ev_put, hsz, sz_put]; go_simp) HS0 ?_
        refine heldRun (i := 10) 57 (.int .i64 (p : Int)) rfl rfl (by kernel_rfl) (by kernel_rfl) (by kernel_rfl) (fun _ _ _ h => h) (wants 4 51 false rfl rfl (by simp [sz_put, hsz]) (by simp [ev_put, hsz, sz_put])) (fun w hSw => by obtain ⟨s1, s2, s3, s4, s5, s6, s7⟩ := hSw; unfold execOp; simp [ev_put, hsz, sz_put]; go_simp) HS0 ?_
        refine heldRun (i := 11) 58 (.bool false) rfl rfl (by kernel_rfl) (by kernel_rfl) (by kernel_rfl) (fun _ _ _ h => h) (wants 4 51 false rfl rfl (by simp [sz_put, hsz]) (by simp [ev_put, hsz, sz_put])) (fun w hSw => by obtain ⟨s1, s2, s3, s4, s5, s6, s7⟩ := hSw; unfold execOp; simp [ev_put, hsz, sz_put]; go_simp) HS0 ?_
        refine heldRun (i := 12) 59 (.bool false) rfl rfl (by kernel_rfl) (by kernel_rfl) (by kernel_rfl) (fun _ _ _ h => h) rfl (fun w hSw => by obtain ⟨s1, s2, s3, s4, s5, s6, s7⟩ := hSw; unfold execOp; simp [ev_put, hsz, sz_put]; go_simp) HS0 ?_
        refine heldMove (i := 13) 60 59 (.bool false) rfl rfl rfl (by kernel_rfl) (by kernel_rfl) (by kernel_rfl) (fun _ _ _ h => h) rfl (by simp [ev_put, hsz, sz_put]) HS0 ?_
        refine heldRun (i := 14) 61 (.pointer (some ⟨bx, 0, none⟩)) rfl rfl (by kernel_rfl) (by kernel_rfl) (by kernel_rfl) (fun _ _ _ h => h) (wants 13 60 false rfl rfl (by simp [sz_put, hsz]) (by simp [ev_put, hsz, sz_put])) (fun w hSw => by obtain ⟨s1, s2, s3, s4, s5, s6, s7⟩ := hSw; unfold execOp; simp [ev_put, e13]; go_simp) HS0 ?_
        refine heldRun (i := 15) 62 (.int .u8 (kd : Int)) rfl rfl (by kernel_rfl) (by kernel_rfl) (by kernel_rfl) (fun _ _ _ h => h) (wants 13 60 false rfl rfl (by simp [sz_put, hsz]) (by simp [ev_put, hsz, sz_put])) (fun w hSw => by obtain ⟨s1, s2, s3, s4, s5, s6, s7⟩ := hSw; unfold execOp; simp [ev_put, hsz, sz_put]; go_simp) HS0 ?_
        refine heldRun (i := 16) 63 (.slice (some ⟨gR, 0, none⟩) m rc) rfl rfl (by kernel_rfl) (by kernel_rfl) (by kernel_rfl) (fun _ _ _ h => h) (wants 13 60 false rfl rfl (by simp [sz_put, hsz]) (by simp [ev_put, hsz, sz_put])) (fun w hSw => by obtain ⟨s1, s2, s3, s4, s5, s6, s7⟩ := hSw; unfold execOp; simp [ev_put, e5]; go_simp) HS0 ?_
        refine heldRun (i := 17) 64 (.int .i64 (i : Int)) rfl rfl (by kernel_rfl) (by kernel_rfl) (by kernel_rfl) (fun _ _ _ h => h) (wants 13 60 false rfl rfl (by simp [sz_put, hsz]) (by simp [ev_put, hsz, sz_put])) (fun w hSw => by obtain ⟨s1, s2, s3, s4, s5, s6, s7⟩ := hSw; unfold execOp; simp [ev_put, e11]; go_simp) HS0 ?_
        refine heldRun (i := 18) 65 (.pointer (some ⟨gR, i * 3, none⟩)) rfl rfl (by kernel_rfl) (by kernel_rfl) (by kernel_rfl) (fun _ _ _ h => h) (wants 13 60 false rfl rfl (by simp [sz_put, hsz]) (by simp [ev_put, hsz, sz_put])) (fun w hSw => by obtain ⟨s1, s2, s3, s4, s5, s6, s7⟩ := hSw; unfold execOp; simp [ev_put, hsz, sz_put]; go_simp) HS0 ?_
        refine heldRun (i := 19) 66 (.pointer (some ⟨gR, i * 3, none⟩)) rfl rfl (by kernel_rfl) (by kernel_rfl) (by kernel_rfl) (fun _ _ _ h => h) (wants 13 60 false rfl rfl (by simp [sz_put, hsz]) (by simp [ev_put, hsz, sz_put])) (fun w hSw => by obtain ⟨s1, s2, s3, s4, s5, s6, s7⟩ := hSw; unfold execOp; simp [ev_put, hsz, sz_put]; go_simp) HS0 ?_
        refine heldRun (i := 20) 67 (.int .u8 (kd : Int)) rfl rfl (by kernel_rfl) (by kernel_rfl) (by kernel_rfl) (fun _ _ _ h => h) (wants 13 60 false rfl rfl (by simp [sz_put, hsz]) (by simp [ev_put, hsz, sz_put])) (fun w hSw => by obtain ⟨s1, s2, s3, s4, s5, s6, s7⟩ := hSw; unfold execOp; simp [ev_put, hsz, sz_put]; go_simp) HS0 ?_
        refine heldRun (i := 21) 68 (.bool false) rfl rfl (by kernel_rfl) (by kernel_rfl) (by kernel_rfl) (fun _ _ _ h => h) (wants 13 60 false rfl rfl (by simp [sz_put, hsz]) (by simp [ev_put, hsz, sz_put])) (fun w hSw => by obtain ⟨s1, s2, s3, s4, s5, s6, s7⟩ := hSw; unfold execOp; simp [ev_put, hsz, sz_put]; go_simp) HS0 ?_
        refine heldRun (i := 22) 69 (.bool false) rfl rfl (by kernel_rfl) (by kernel_rfl) (by kernel_rfl) (fun _ _ _ h => h) rfl (fun w hSw => by obtain ⟨s1, s2, s3, s4, s5, s6, s7⟩ := hSw; unfold execOp; simp [ev_put, hsz, sz_put]; go_simp) HS0 ?_
        refine heldMove (i := 23) 70 69 (.bool false) rfl rfl rfl (by kernel_rfl) (by kernel_rfl) (by kernel_rfl) (fun _ _ _ h => h) rfl (by simp [ev_put, hsz, sz_put]) HS0 ?_
        refine heldRun (i := 24) 71 (.pointer (some ⟨bx, 1, none⟩)) rfl rfl (by kernel_rfl) (by kernel_rfl) (by kernel_rfl) (fun _ _ _ h => h) (wants 23 70 false rfl rfl (by simp [sz_put, hsz]) (by simp [ev_put, hsz, sz_put])) (fun w hSw => by obtain ⟨s1, s2, s3, s4, s5, s6, s7⟩ := hSw; unfold execOp; simp [ev_put, e13]; go_simp) HS0 ?_
        refine heldRun (i := 25) 72 (.slice lo ln lc) rfl rfl (by kernel_rfl) (by kernel_rfl) (by kernel_rfl) (fun _ _ _ h => h) (wants 23 70 false rfl rfl (by simp [sz_put, hsz]) (by simp [ev_put, hsz, sz_put])) (fun w hSw => by obtain ⟨s1, s2, s3, s4, s5, s6, s7⟩ := hSw; unfold execOp; simp [ev_put, hsz, sz_put]; go_simp) HS0 ?_
        refine heldRun (i := 26) 73 (.slice (some ⟨gR, 0, none⟩) m rc) rfl rfl (by kernel_rfl) (by kernel_rfl) (by kernel_rfl) (fun _ _ _ h => h) (wants 23 70 false rfl rfl (by simp [sz_put, hsz]) (by simp [ev_put, hsz, sz_put])) (fun w hSw => by obtain ⟨s1, s2, s3, s4, s5, s6, s7⟩ := hSw; unfold execOp; simp [ev_put, e5]; go_simp) HS0 ?_
        refine heldRun (i := 27) 74 (.int .i64 (i : Int)) rfl rfl (by kernel_rfl) (by kernel_rfl) (by kernel_rfl) (fun _ _ _ h => h) (wants 23 70 false rfl rfl (by simp [sz_put, hsz]) (by simp [ev_put, hsz, sz_put])) (fun w hSw => by obtain ⟨s1, s2, s3, s4, s5, s6, s7⟩ := hSw; unfold execOp; simp [ev_put, e11]; go_simp) HS0 ?_
        refine heldRun (i := 28) 75 (.pointer (some ⟨gR, i * 3, none⟩)) rfl rfl (by kernel_rfl) (by kernel_rfl) (by kernel_rfl) (fun _ _ _ h => h) (wants 23 70 false rfl rfl (by simp [sz_put, hsz]) (by simp [ev_put, hsz, sz_put])) (fun w hSw => by obtain ⟨s1, s2, s3, s4, s5, s6, s7⟩ := hSw; unfold execOp; simp [ev_put, hsz, sz_put]; go_simp) HS0 ?_
        refine heldRun (i := 29) 76 (.pointer (some ⟨gR, i * 3 + 1, none⟩)) rfl rfl (by kernel_rfl) (by kernel_rfl) (by kernel_rfl) (fun _ _ _ h => h) (wants 23 70 false rfl rfl (by simp [sz_put, hsz]) (by simp [ev_put, hsz, sz_put])) (fun w hSw => by obtain ⟨s1, s2, s3, s4, s5, s6, s7⟩ := hSw; unfold execOp; simp [ev_put, hsz, sz_put]; go_simp) HS0 ?_
        refine heldRun (i := 30) 77 (.slice rro ln rrc) rfl rfl (by kernel_rfl) (by kernel_rfl) (by kernel_rfl) (fun _ _ _ h => h) (wants 23 70 false rfl rfl (by simp [sz_put, hsz]) (by simp [ev_put, hsz, sz_put])) (fun w hSw => by obtain ⟨s1, s2, s3, s4, s5, s6, s7⟩ := hSw; unfold execOp; simp [ev_put, hsz, sz_put]; go_simp) HS0 ?_
        refine heldCall (i := 31) 78 19 #[.slice lo ln lc, .slice rro ln rrc] rfl rfl (by kernel_rfl) (wants 23 70 false rfl rfl (by simp [sz_put, hsz]) (by simp [ev_put, hsz, sz_put])) (by unfold execOp; simp; go_simp) ?_
        refine (same_true' ln ln lc rrc lo rro bs _ HLN.out HLN.out (by exact HRL.out) (by exact HRR.out) HBS.out).mono ?_
        rintro e w9 ⟨rfl, hw9⟩
        subst hw9
        refine ⟨_, rfl, HS0, ?_⟩
        refine heldRun (i := 32) 79 (.bool false) rfl rfl (by kernel_rfl) (by kernel_rfl) (by kernel_rfl) (fun _ _ _ h => h) (wants 23 70 false rfl rfl (by simp [sz_put, hsz]) (by simp [ev_put, hsz, sz_put])) (fun w hSw => by obtain ⟨s1, s2, s3, s4, s5, s6, s7⟩ := hSw; unfold execOp; simp [ev_put, hsz, sz_put]; go_simp) HS0 ?_
        refine heldRun (i := 33) 80 (.bool false) rfl rfl (by kernel_rfl) (by kernel_rfl) (by kernel_rfl) (fun _ _ _ h => h) rfl (fun w hSw => by obtain ⟨s1, s2, s3, s4, s5, s6, s7⟩ := hSw; unfold execOp; simp [ev_put, hsz, sz_put]; go_simp) HS0 ?_
        refine wpAnyH_done (by kernel_rfl) ?_ _
        subst hA
        simp only [put_mk, List.set_cons_succ, List.set_cons_zero]
        have HE : Hid (EB w stop ro ko m rc nx Bk w2.heap.size w4.heap.size xs fr lr W) := hEB
        have HBn : Hid (Box W bN 3 (.int .i64 (i : Nat))) := hBN
        have HOW : Hid (Own W.drew (W0.heap.size + 2) (.slice lo ln lc) bs) := by show Own W (W0.heap.size + 2) (.slice lo ln lc) bs; rw [hln]; exact hown
        have HBX : Hid (W.heap[bx]? = some (.cells #[.int .u8 (kd : Int), .slice lo ln lc] 43 (0, 0))) := hbox
        have HLB : Hid (∀ r, (Value.slice lo ln lc).ownBlock = some r → r < bx) := by rw [hln]; exact hlb
        have hlnb : ln ≤ 2097152 := by rw [hln]; exact (HMEM.out (kd, bs) (List.mem_of_getElem? hfi)).1
        clear hEB hBN hown hbox hlb hrl hrr hr1 hr2 HS0 d0 d1 d2 hwv hnv hx0 hx1 HRR HRL hrec hp hln hv1 hv2 hv3
        gi_wp2
        gi_loopw [14] (fun q wr => ∃ k : Nat, k ≤ ln ∧ q = .int .i64 k ∧ Hid ((∃ ys, ys.length = ln ∧ Own wr (W0.heap.size + 2) (.slice lo ln lc) ys) ∧ W.drew.grownBy wr (Value.slice lo ln lc).ownBlock)) (fun q _ => ln - (intOf q).toNat)
        case atStart => exact ⟨0, Nat.zero_le _, rfl, ⟨bs, HLN.out.symm, HOW.out⟩, World.grownBy.refl _ _⟩
        case round =>
          obtain ⟨k, hk, rfl, HK⟩ := hrel
          have hbxk : ∀ (wr : World), W.drew.grownBy wr (Value.slice lo ln lc).ownBlock → wr.cell? ⟨bx, 1, none⟩ = some (.slice lo ln lc) := fun wr hgr => by
            have h := (hgr.block bx (Array.getElem?_eq_some_iff.1 HBX.out).1 (fun e => by have := HLB.out bx e.symm; omega)).trans HBX.out
            unfold World.cell?
            rw [h]
            rfl
          have hx1 := hbxk _ HK.out.2
          by_cases hlt : k < ln
          · obtain ⟨ys, hyl, hyo⟩ := HK.out.1
            obtain ⟨gl, cp, e, hcp, _⟩ := own_read1 hyo (by omega)
            simp only [Value.slice.injEq] at e
            obtain ⟨rfl, _, rfl⟩ := e
            have hc := hyo.cellOf k (by omega)
            have hf := hyo.freeOf k
            have hki : (k : Int) < (ln : Int) := by omega
            have HK2 : Hid ((∃ ys, ys.length = ln ∧ Own (wr.setCell ⟨gl, k, none⟩ (.int .u8 221)) (W0.heap.size + 2) (.slice (some ⟨gl, 0, none⟩) ln lc) ys) ∧ W.drew.grownBy (wr.setCell ⟨gl, k, none⟩ (.int .u8 221)) (Value.slice (some ⟨gl, 0, none⟩) ln lc).ownBlock) := by
              rw [← hyl] at hyo
              have := hyo.set (j := k) (x := 221)
              refine ⟨⟨ys.set k 221, by simp [hyl], ?_⟩, grown_trans HK.out.2 (grownBy_set _ _ _ _)⟩
              rw [List.length_set, hyl] at this
              exact this
            clear hyo HK
            gi_wp2
            go_roundw
            case rel => exact ⟨k + 1, by omega, rfl, HK2⟩
            case measure => simp [intOf]; omega
          · have hgr := HK.out.2
            have hge2 : ∀ r, (Value.slice lo ln lc).ownBlock = some r → W0.heap.size + 2 ≤ r := fun r hr => HOW.out.ge r hr
            have HLt : Hid (Below W0.heap.size W wr) := ((Below.refl _ W).drew).grown hgr (by show W0.heap.size ≤ W.heap.size; have := (Array.getElem?_eq_some_iff.1 HBX.out).1; omega) (fun r hr => by have := hge2 r hr; omega)
            have HREC : Hid (RecKept W0.heap.size 2 W wr) := fun g h1 h2 => hgr.block g (by show g < W.heap.size; have := (Array.getElem?_eq_some_iff.1 HBX.out).1; omega) (fun e => by have := hge2 g e.symm; omega)
            have hsz3 : W.heap.size ≤ wr.heap.size := hgr.size
            have HE2 : Hid (EB w stop ro ko m rc nx Bk w2.heap.size w4.heap.size xs fr lr wr) := HE.out.below (HTOP.out.mono (by omega)) HLt.out
            have HBn2 : Hid (Box wr bN 3 (.int .i64 (i : Nat))) := HBn.out.below HLt.out (by omega)
            have hn1 := HBn2.out.cell
            have hn2 := HBn2.out.frozen
            have hst1 := HE2.out.stopB.cell
            clear HK hgr HOW HBX HE HBn hbxk
            by_cases hstop : (i : Int) = stop
            · have hsb : ((i : Int) == stop) = true := by simp [hstop]
              gi_wp2
              exact ⟨HREC.out, hsz3, rfl, HE2.out, _, HBn2.out⟩
            · have hsb : ((i : Int) == stop) = false := by simp [hstop]
              gi_wp2
              exact ⟨HREC.out.trans (RecKept.setCell _ _ _ (.inl (by show bN < W0.heap.size; omega))), by simp [World.setCell]; exact hsz3, HE2.out.below HTOP.out ((Below.refl _ _).setCell (p := ⟨bN, 0, none⟩) (Nat.le_refl _) _), HBn2.out.set _⟩
      case hdone =>
        intro W hI hszW hD
        obtain ⟨j, HBj⟩ : ∃ j : Int, Hid (Box W bN 3 (.int .i64 j)) := ⟨_, hI.2⟩
        have HE : Hid (EB w stop ro ko m rc nx Bk w2.heap.size w4.heap.size xs fr lr W) := hI.1
        have HD1 : Hid (W.heap[W0.heap.size]? = some (.deferred (some []))) := hD
        clear hI hD
        have hn1 := HBj.out.cell
        have hn2 := HBj.out.frozen
        have hev := cell_set_other HE.out.ev.cell (b := bN) (v := .int .i64 0) (by have := HTOP.out.ev; omega)
        gi_wp2
        obtain ⟨W5, hW5⟩ : ∃ W5, W.setCell ⟨bN, 0, none⟩ (.int .i64 0) = W5 := ⟨_, rfl⟩
        have HE5 : Hid (EB w stop ro ko m rc nx Bk w2.heap.size w4.heap.size xs fr lr W5) := by show EB w stop ro ko m rc nx Bk w2.heap.size w4.heap.size xs fr lr W5; rw [← hW5]; exact HE.out.below HTOP.out ((Below.refl _ _).setCell (p := ⟨bN, 0, none⟩) (Nat.le_refl _) _)
        have HB5 : Hid (Box W5 bN 3 (.int .i64 0)) := by show Box W5 bN 3 (.int .i64 0); rw [← hW5]; exact HBj.out.set _
        have HD5 : Hid (W5.heap[W0.heap.size]? = some (.deferred (some []))) := by show _ = _; rw [← hW5]; exact (Below.heap_setCell _ _ _ _ (by show W0.heap.size ≠ bN; omega)).trans HD1.out
        have hs5 : bN + 3 ≤ W5.heap.size := by rw [← hW5]; simp [World.setCell]; omega
        rw [hW5]
        clear hn1 hn2 hev HE HBj HD1 hW5 hszW
        refine range_outer (A1 := ?A2) (ko := ko) (xs := xs) (fr := fr) (en := en) (er := er) (kc := nx) (Bk := Bk) (by rw [← HNX.out]; omega) (by rw [← HNX.out]; exact Nat.le_refl _) HX.out HS.out rfl rfl
          (fun i W => EB w stop ro ko m rc nx Bk w2.heap.size w4.heap.size xs fr lr W ∧ Box W bN 3 (.int .i64 (i : Nat)) ∧ W.heap[W0.heap.size]? = some (.deferred (some [])))
          (fun _ _ _ => False)
          (fun i W W' h hb => ⟨h.1.below (HTOP.out.mono (by omega)) hb, h.2.1.below hb (by omega), (hb.block _ (by omega)).trans h.2.2⟩)
          (fun c i W W' h hb => h)
          (fun i W h => ⟨by rw [← HNX.out]; exact h.1.kept, h.1.row, h.1.tab⟩) ⟨HE5.out, HB5.out, HD5.out⟩ ?hassign2 ?hbody2 ?hdone2 ?hstop2
        case hassign2 =>
          intro l W1 p k ao ln lc bx K hbx hK
          gi_wp2
          exact hK
        case hstop2 =>
          intro c i W _ h
          exact h.elim
        case hbody2 =>
          rintro bx i kd bs lo lc W hfi ⟨hEB, hBN, hDD⟩ hbx hown hlb hbox ⟨r, hrec⟩
          have hil : i < fr.length := (List.getElem?_eq_some_iff.1 hfi).1
          obtain ⟨rl, hr1, hr2⟩ := hEB.ref.own i kd bs hfi
          obtain ⟨gR, rc2, hv, _, _, d0, d1, d2⟩ := hEB.ref.cells hfi hr1
          simp only [Value.slice.injEq] at hv
          obtain ⟨hv1, hv2, hv3⟩ := hv
          obtain ⟨rro, rrc, rfl, _, hrr⟩ := hr2.read
          have HRR : Hid (Row W rro bs) := hrr
          have HRL : Hid (Row W lo bs) := by
            obtain ⟨ao, cp, e, _, h⟩ := hown.read
            simp only [Value.slice.injEq] at e
            rw [e.1]
            exact h
          have HBS : Hid (∀ y ∈ bs, y < 256) := (HMEM.out (kd, bs) (List.mem_of_getElem? hfi)).2
          obtain ⟨ln, hln⟩ : ∃ ln, ln = bs.length := ⟨_, rfl⟩
          have HLN : Hid (ln = bs.length) := hln
          obtain ⟨p, hp⟩ : ∃ p, p = endOf (fr.take i) := ⟨_, rfl⟩
          rw [← hln] at d1 hbox
          rw [← hp] at d2
          rw [← hln, ← hp]
          rw [Nat.mul_comm] at d0 d1 d2
          have hwv := hEB.wv.cell
          have hnv := hBN.cell
          have hx0 : W.cell? ⟨bx, 0, none⟩ = some (.int .u8 (kd : Int)) := by unfold World.cell?; rw [hbox]; rfl
          have hx1 : W.cell? ⟨bx, 1, none⟩ = some (.slice lo ln lc) := by unfold World.cell?; rw [hbox]; rfl
          rw [hv1] at hwv
          have hmi : (i : Int) < (m : Int) := by have := HM.out; omega
          have hge : decide ((m : Int) ≤ (i : Int)) = false := by simp; omega
          have HS0 : (fun W : World => W.cell? ⟨bN, 0, none⟩ = some (.int .i64 (i : Int)) ∧ W.cell? ⟨w2.heap.size, 0, none⟩ = some (.slice (some ⟨gR, 0, none⟩) m rc) ∧ W.cell? ⟨gR, i * 3, none⟩ = some (.int .u8 (kd : Int)) ∧ W.cell? ⟨gR, i * 3 + 1, none⟩ = some (.slice rro ln rrc) ∧ W.cell? ⟨gR, i * 3 + 2, none⟩ = some (.int .i64 (p : Int)) ∧ W.cell? ⟨bx, 0, none⟩ = some (.int .u8 (kd : Int)) ∧ W.cell? ⟨bx, 1, none⟩ = some (.slice lo ln lc)) W.drew := ⟨hnv, hwv, d0, d1, d2, hx0, hx1⟩
          refine wpIn_block (wpIn_seq (wpIn_seq ?_))
          refine region_in_var (by kernel_rfl) (by kernel_rfl) (fun ⟨_, _, h⟩ => h) ?_ (S := (fun W : World => W.cell? ⟨bN, 0, none⟩ = some (.int .i64 (i : Int)) ∧ W.cell? ⟨w2.heap.size, 0, none⟩ = some (.slice (some ⟨gR, 0, none⟩) m rc) ∧ W.cell? ⟨gR, i * 3, none⟩ = some (.int .u8 (kd : Int)) ∧ W.cell? ⟨gR, i * 3 + 1, none⟩ = some (.slice rro ln rrc) ∧ W.cell? ⟨gR, i * 3 + 2, none⟩ = some (.int .i64 (p : Int)) ∧ W.cell? ⟨bx, 0, none⟩ = some (.int .u8 (kd : Int)) ∧ W.cell? ⟨bx, 1, none⟩ = some (.slice lo ln lc)))
          intro A hA
          have hsz : A.tmps.size = 178 := by rw [hA]; rfl
          have e5 : A.eval (.tmp 5) = .pointer (some ⟨w2.heap.size, 0, none⟩) := by rw [hA]; rfl
          have e11 : A.eval (.tmp 11) = .pointer (some ⟨bN, 0, none⟩) := by rw [hA]; rfl
          have e15 : A.eval (.tmp 15) = .int .i64 (p : Int) := by rw [hA]; rfl
          have e16 : A.eval (.tmp 16) = .pointer (some ⟨bx, 0, none⟩) := by rw [hA]; rfl
          refine heldRun (i := 0) 100 (.int .i64 (i : Int)) rfl rfl (by kernel_rfl) (by kernel_rfl) (by kernel_rfl) (fun _ _ _ h => h) rfl (fun w hSw => by obtain ⟨s1, s2, s3, s4, s5, s6, s7⟩ := hSw; unfold execOp; simp [e11]; go_simp) HS0 ?_
          refine heldRun (i := 1) 101 (.slice (some ⟨gR, 0, none⟩) m rc) rfl rfl (by kernel_rfl) (by kernel_rfl) (by kernel_rfl) (fun _ _ _ h => h) rfl (fun w hSw => by obtain ⟨s1, s2, s3, s4, s5, s6, s7⟩ := hSw; unfold execOp; simp [ev_put, e5]; go_simp) HS0 ?_
          refine heldRun (i := 2) 102 (.int .i64 (m : Int)) rfl rfl (by kernel_rfl) (by kernel_rfl) (by kernel_rfl) (fun _ _ _ h => h) rfl (fun w hSw => by obtain ⟨s1, s2, s3, s4, s5, s6, s7⟩ := hSw; unfold execOp; simp; go_simp) HS0 ?_
          refine heldRun (i := 3) 103 (.bool false) rfl rfl (by kernel_rfl) (by kernel_rfl) (by kernel_rfl) (fun _ _ _ h => h) rfl (fun w hSw => by obtain ⟨s1, s2, s3, s4, s5, s6, s7⟩ := hSw; unfold execOp; simp [ev_put, hsz, sz_put]; go_simp) HS0 ?_
          refine heldMove (i := 4) 104 103 (.bool false) rfl rfl rfl (by kernel_rfl) (by kernel_rfl) (by kernel_rfl) (fun _ _ _ h => h) rfl (by simp [ev_put, hsz, sz_put]) HS0 ?_
          refine heldMove (i := 5) 105 15 (.int .i64 (p : Int)) rfl rfl rfl (by kernel_rfl) (by kernel_rfl) (by kernel_rfl) (fun _ _ _ h => h) (wants 4 104 false rfl rfl (by simp [sz_put, hsz]) (by simp [ev_put, hsz, sz_put])) (by simp [ev_put, e15]) HS0 ?_
          refine heldRun (i := 6) 106 (.slice (some ⟨gR, 0, none⟩) m rc) rfl rfl (by kernel_rfl) (by kernel_rfl) (by kernel_rfl) (fun _ _ _ h => h) (wants 4 104 false rfl rfl (by simp [sz_put, hsz]) (by simp [ev_put, hsz, sz_put])) (fun w hSw => by obtain ⟨s1, s2, s3, s4, s5, s6, s7⟩ := hSw; unfold execOp; simp [ev_put, e5]; go_simp) HS0 ?_
          refine heldRun (i := 7) 107 (.int .i64 (i : Int)) rfl rfl (by kernel_rfl) (by kernel_rfl) (by kernel_rfl) (fun _ _ _ h => h) (wants 4 104 false rfl rfl (by simp [sz_put, hsz]) (by simp [ev_put, hsz, sz_put])) (fun w hSw => by obtain ⟨s1, s2, s3, s4, s5, s6, s7⟩ := hSw; unfold execOp; simp [ev_put, e11]; go_simp) HS0 ?_
          refine heldRun (i := 8) 108 (.pointer (some ⟨gR, i * 3, none⟩)) rfl rfl (by kernel_rfl) (by kernel_rfl) (by kernel_rfl) (fun _ _ _ h => h) (wants 4 104 false rfl rfl (by simp [sz_put, hsz]) (by simp [ev_put, hsz, sz_put])) (fun w hSw => by obtain ⟨s1, s2, s3, s4, s5, s6, s7⟩ := hSw; unfold execOp; simp [ev_put, hsz, sz_put]; go_simp) HS0 ?_
          refine heldRun (i := 9) 109 (.pointer (some ⟨gR, i * 3 + 2, none⟩)) rfl rfl (by kernel_rfl) (by kernel_rfl) (by kernel_rfl) (fun _ _ _ h => h) (wants 4 104 false rfl rfl (by simp [sz_put, hsz]) (by simp [ev_put, hsz, sz_put])) (fun w hSw => by obtain ⟨s1, s2, s3, s4, s5, s6, s7⟩ := hSw; unfold execOp; simp [ev_put, hsz, sz_put]; go_simp) HS0 ?_
          refine heldRun (i := 10) 110 (.int .i64 (p : Int)) rfl rfl (by kernel_rfl) (by kernel_rfl) (by kernel_rfl) (fun _ _ _ h => h) (wants 4 104 false rfl rfl (by simp [sz_put, hsz]) (by simp [ev_put, hsz, sz_put])) (fun w hSw => by obtain ⟨s1, s2, s3, s4, s5, s6, s7⟩ := hSw; unfold execOp; simp [ev_put, hsz, sz_put]; go_simp) HS0 ?_
          refine heldRun (i := 11) 111 (.bool false) rfl rfl (by kernel_rfl) (by kernel_rfl) (by kernel_rfl) (fun _ _ _ h => h) (wants 4 104 false rfl rfl (by simp [sz_put, hsz]) (by simp [ev_put, hsz, sz_put])) (fun w hSw => by obtain ⟨s1, s2, s3, s4, s5, s6, s7⟩ := hSw; unfold execOp; simp [ev_put, hsz, sz_put]; go_simp) HS0 ?_
          refine heldRun (i := 12) 112 (.bool false) rfl rfl (by kernel_rfl) (by kernel_rfl) (by kernel_rfl) (fun _ _ _ h => h) rfl (fun w hSw => by obtain ⟨s1, s2, s3, s4, s5, s6, s7⟩ := hSw; unfold execOp; simp [ev_put, hsz, sz_put]; go_simp) HS0 ?_
          refine heldMove (i := 13) 113 112 (.bool false) rfl rfl rfl (by kernel_rfl) (by kernel_rfl) (by kernel_rfl) (fun _ _ _ h => h) rfl (by simp [ev_put, hsz, sz_put]) HS0 ?_
          refine heldRun (i := 14) 114 (.pointer (some ⟨bx, 0, none⟩)) rfl rfl (by kernel_rfl) (by kernel_rfl) (by kernel_rfl) (fun _ _ _ h => h) (wants 13 113 false rfl rfl (by simp [sz_put, hsz]) (by simp [ev_put, hsz, sz_put])) (fun w hSw => by obtain ⟨s1, s2, s3, s4, s5, s6, s7⟩ := hSw; unfold execOp; simp [ev_put, e16]; go_simp) HS0 ?_
          refine heldRun (i := 15) 115 (.int .u8 (kd : Int)) rfl rfl (by kernel_rfl) (by kernel_rfl) (by kernel_rfl) (fun _ _ _ h => h) (wants 13 113 false rfl rfl (by simp [sz_put, hsz]) (by simp [ev_put, hsz, sz_put])) (fun w hSw => by obtain ⟨s1, s2, s3, s4, s5, s6, s7⟩ := hSw; unfold execOp; simp [ev_put, hsz, sz_put]; go_simp) HS0 ?_
          refine heldRun (i := 16) 116 (.slice (some ⟨gR, 0, none⟩) m rc) rfl rfl (by kernel_rfl) (by kernel_rfl) (by kernel_rfl) (fun _ _ _ h => h) (wants 13 113 false rfl rfl (by simp [sz_put, hsz]) (by simp [ev_put, hsz, sz_put])) (fun w hSw => by obtain ⟨s1, s2, s3, s4, s5, s6, s7⟩ := hSw; unfold execOp; simp [ev_put, e5]; go_simp) HS0 ?_
          refine heldRun (i := 17) 117 (.int .i64 (i : Int)) rfl rfl (by kernel_rfl) (by kernel_rfl) (by kernel_rfl) (fun _ _ _ h => h) (wants 13 113 false rfl rfl (by simp [sz_put, hsz]) (by simp [ev_put, hsz, sz_put])) (fun w hSw => by obtain ⟨s1, s2, s3, s4, s5, s6, s7⟩ := hSw; unfold execOp; simp [ev_put, e11]; go_simp) HS0 ?_
          refine heldRun (i := 18) 118 (.pointer (some ⟨gR, i * 3, none⟩)) rfl rfl (by kernel_rfl) (by kernel_rfl) (by kernel_rfl) (fun _ _ _ h => h) (wants 13 113 false rfl rfl (by simp [sz_put, hsz]) (by simp [ev_put, hsz, sz_put])) (fun w hSw => by obtain ⟨s1, s2, s3, s4, s5, s6, s7⟩ := hSw; unfold execOp; simp [ev_put, hsz, sz_put]; go_simp) HS0 ?_
          refine heldRun (i := 19) 119 (.pointer (some ⟨gR, i * 3, none⟩)) rfl rfl (by kernel_rfl) (by kernel_rfl) (by kernel_rfl) (fun _ _ _ h => h) (wants 13 113 false rfl rfl (by simp [sz_put, hsz]) (by simp [ev_put, hsz, sz_put])) (fun w hSw => by obtain ⟨s1, s2, s3, s4, s5, s6, s7⟩ := hSw; unfold execOp; simp [ev_put, hsz, sz_put]; go_simp) HS0 ?_
          refine heldRun (i := 20) 120 (.int .u8 (kd : Int)) rfl rfl (by kernel_rfl) (by kernel_rfl) (by kernel_rfl) (fun _ _ _ h => h) (wants 13 113 false rfl rfl (by simp [sz_put, hsz]) (by simp [ev_put, hsz, sz_put])) (fun w hSw => by obtain ⟨s1, s2, s3, s4, s5, s6, s7⟩ := hSw; unfold execOp; simp [ev_put, hsz, sz_put]; go_simp) HS0 ?_
          refine heldRun (i := 21) 121 (.bool false) rfl rfl (by kernel_rfl) (by kernel_rfl) (by kernel_rfl) (fun _ _ _ h => h) (wants 13 113 false rfl rfl (by simp [sz_put, hsz]) (by simp [ev_put, hsz, sz_put])) (fun w hSw => by obtain ⟨s1, s2, s3, s4, s5, s6, s7⟩ := hSw; unfold execOp; simp [ev_put, hsz, sz_put]; go_simp) HS0 ?_
          refine heldRun (i := 22) 122 (.bool false) rfl rfl (by kernel_rfl) (by kernel_rfl) (by kernel_rfl) (fun _ _ _ h => h) rfl (fun w hSw => by obtain ⟨s1, s2, s3, s4, s5, s6, s7⟩ := hSw; unfold execOp; simp [ev_put, hsz, sz_put]; go_simp) HS0 ?_
          refine heldMove (i := 23) 123 122 (.bool false) rfl rfl rfl (by kernel_rfl) (by kernel_rfl) (by kernel_rfl) (fun _ _ _ h => h) rfl (by simp [ev_put, hsz, sz_put]) HS0 ?_
          refine heldRun (i := 24) 124 (.pointer (some ⟨bx, 1, none⟩)) rfl rfl (by kernel_rfl) (by kernel_rfl) (by kernel_rfl) (fun _ _ _ h => h) (wants 23 123 false rfl rfl (by simp [sz_put, hsz]) (by simp [ev_put, hsz, sz_put])) (fun w hSw => by obtain ⟨s1, s2, s3, s4, s5, s6, s7⟩ := hSw; unfold execOp; simp [ev_put, e16]; go_simp) HS0 ?_
          refine heldRun (i := 25) 125 (.slice lo ln lc) rfl rfl (by kernel_rfl) (by kernel_rfl) (by kernel_rfl) (fun _ _ _ h => h) (wants 23 123 false rfl rfl (by simp [sz_put, hsz]) (by simp [ev_put, hsz, sz_put])) (fun w hSw => by obtain ⟨s1, s2, s3, s4, s5, s6, s7⟩ := hSw; unfold execOp; simp [ev_put, hsz, sz_put]; go_simp) HS0 ?_
          refine heldRun (i := 26) 126 (.slice (some ⟨gR, 0, none⟩) m rc) rfl rfl (by kernel_rfl) (by kernel_rfl) (by kernel_rfl) (fun _ _ _ h => h) (wants 23 123 false rfl rfl (by simp [sz_put, hsz]) (by simp [ev_put, hsz, sz_put])) (fun w hSw => by obtain ⟨s1, s2, s3, s4, s5, s6, s7⟩ := hSw; unfold execOp; simp [ev_put, e5]; go_simp) HS0 ?_
          refine heldRun (i := 27) 127 (.int .i64 (i : Int)) rfl rfl (by kernel_rfl) (by kernel_rfl) (by kernel_rfl) (fun _ _ _ h => h) (wants 23 123 false rfl rfl (by simp [sz_put, hsz]) (by simp [ev_put, hsz, sz_put])) (fun w hSw => by obtain ⟨s1, s2, s3, s4, s5, s6, s7⟩ := hSw; unfold execOp; simp [ev_put, e11]; go_simp) HS0 ?_
          refine heldRun (i := 28) 128 (.pointer (some ⟨gR, i * 3, none⟩)) rfl rfl (by kernel_rfl) (by kernel_rfl) (by kernel_rfl) (fun _ _ _ h => h) (wants 23 123 false rfl rfl (by simp [sz_put, hsz]) (by simp [ev_put, hsz, sz_put])) (fun w hSw => by obtain ⟨s1, s2, s3, s4, s5, s6, s7⟩ := hSw; unfold execOp; simp [ev_put, hsz, sz_put]; go_simp) HS0 ?_
          refine heldRun (i := 29) 129 (.pointer (some ⟨gR, i * 3 + 1, none⟩)) rfl rfl (by kernel_rfl) (by kernel_rfl) (by kernel_rfl) (fun _ _ _ h => h) (wants 23 123 false rfl rfl (by simp [sz_put, hsz]) (by simp [ev_put, hsz, sz_put])) (fun w hSw => by obtain ⟨s1, s2, s3, s4, s5, s6, s7⟩ := hSw; unfold execOp; simp [ev_put, hsz, sz_put]; go_simp) HS0 ?_
          refine heldRun (i := 30) 130 (.slice rro ln rrc) rfl rfl (by kernel_rfl) (by kernel_rfl) (by kernel_rfl) (fun _ _ _ h => h) (wants 23 123 false rfl rfl (by simp [sz_put, hsz]) (by simp [ev_put, hsz, sz_put])) (fun w hSw => by obtain ⟨s1, s2, s3, s4, s5, s6, s7⟩ := hSw; unfold execOp; simp [ev_put, hsz, sz_put]; go_simp) HS0 ?_
          refine heldCall (i := 31) 131 19 #[.slice lo ln lc, .slice rro ln rrc] rfl rfl (by kernel_rfl) (wants 23 123 false rfl rfl (by simp [sz_put, hsz]) (by simp [ev_put, hsz, sz_put])) (by unfold execOp; simp; go_simp) ?_
          refine (same_true' ln ln lc rrc lo rro bs _ HLN.out HLN.out (by exact HRL.out) (by exact HRR.out) HBS.out).mono ?_
          rintro e w9 ⟨rfl, hw9⟩
          subst hw9
          refine ⟨_, rfl, HS0, ?_⟩
          refine heldRun (i := 32) 132 (.bool false) rfl rfl (by kernel_rfl) (by kernel_rfl) (by kernel_rfl) (fun _ _ _ h => h) (wants 23 123 false rfl rfl (by simp [sz_put, hsz]) (by simp [ev_put, hsz, sz_put])) (fun w hSw => by obtain ⟨s1, s2, s3, s4, s5, s6, s7⟩ := hSw; unfold execOp; simp [ev_put, hsz, sz_put]; go_simp) HS0 ?_
          refine heldRun (i := 33) 133 (.bool false) rfl rfl (by kernel_rfl) (by kernel_rfl) (by kernel_rfl) (fun _ _ _ h => h) rfl (fun w hSw => by obtain ⟨s1, s2, s3, s4, s5, s6, s7⟩ := hSw; unfold execOp; simp [ev_put, hsz, sz_put]; go_simp) HS0 ?_
          refine wpAnyH_done (by kernel_rfl) ?_ _
          subst hA
          simp only [put_mk, List.set_cons_succ, List.set_cons_zero]
          have HE : Hid (EB w stop ro ko m rc nx Bk w2.heap.size w4.heap.size xs fr lr W) := hEB
          have HBn : Hid (Box W bN 3 (.int .i64 (i : Nat))) := hBN
          have HDD : Hid (W.heap[W0.heap.size]? = some (.deferred (some []))) := hDD
          have HRC : Hid (W.heap[W5.heap.size + 1]? = some (.loop r)) := hrec
          have hszb : bx < W.heap.size := (Array.getElem?_eq_some_iff.1 hbox).1
          clear hEB hBN hDD hrec hown hbox hlb hrr hr1 hr2 HS0 d0 d1 d2 hwv hnv hx0 hx1 HRR HRL hp hln hv1 hv2 hv3
          obtain ⟨io, rfl⟩ : ∃ io, io = i := ⟨_, rfl⟩
          have hn1 := HBn.out.cell
          have hn2 := HBn.out.frozen
          by_cases h3 : (io : Int) < 3
          · have hb3 : decide ((io : Int) < 3) = true := by simp [h3]
            have hev := HE.out.ev.cell
            have hlv := HE.out.ev.lt
            gi_wp2
            obtain ⟨W6, hW6⟩ : ∃ W6, (W.alloc (.cells #[.int .i64 0] 3)).drew = W6 := ⟨_, rfl⟩
            obtain ⟨bM, hbM⟩ : ∃ bM, W.heap.size = bM := ⟨_, rfl⟩
            have hs6 : W6.heap.size = bM + 1 := by rw [← hW6, ← hbM]; simp
            have hn6 : Below W.heap.size W W6 := by rw [← hW6]; exact (below_new _ _).drew
            have HE6 : Hid (EB w stop ro ko m rc nx Bk w2.heap.size w4.heap.size xs fr lr W6) := HE.out.below (HTOP.out.mono (by have := HBn.out.lt; omega)) hn6
            have HN6 : Hid (Box W6 bN 3 (.int .i64 (io : Nat))) := HBn.out.keep hn6
            have HD6 : Hid (W6.heap[W0.heap.size]? = some (.deferred (some []))) := (hn6.block _ (by omega)).trans HDD.out
            have HM6 : Hid (Box W6 bM 3 (.int .i64 0)) := by show Box W6 bM 3 (.int .i64 0); rw [← hW6, ← hbM]; exact Box.new W _ _
            have HK6 : Hid (RecKept W5.heap.size 2 W W6) := RecKept.below hn6 (by omega)
            have HR6 : Hid (W6.heap[W5.heap.size + 1]? = some (.loop r)) := (hn6.block _ (by omega)).trans HRC.out
            rw [hW6, hbM]
            clear hn1 hn2 hev hlv hn6 hW6 HE HBn HDD HRC
            refine range_inner (A1 := ?A3) (l0 := W5.heap.size + 1) (r0 := r) HR6.out (ko := ko) (xs := xs) (fr := fr) (en := en) (er := er) (kc := nx) (Bk := Bk) (by rw [← HNX.out]; omega) (by rw [← HNX.out]; exact Nat.le_refl _) HX.out HS.out rfl rfl
              (fun j W' => EB w stop ro ko m rc nx Bk w2.heap.size w4.heap.size xs fr lr W' ∧ Box W' bN 3 (.int .i64 (io : Nat)) ∧ W'.heap[W0.heap.size]? = some (.deferred (some [])) ∧ Box W' bM 3 (.int .i64 (j : Nat)) ∧ RecKept W5.heap.size 2 W W' ∧ bM ≤ W'.heap.size)
              (fun _ _ _ => False)
              (fun j X X' h hb => ⟨h.1.below (HTOP.out.mono (by omega)) hb, h.2.1.below hb (by omega), (hb.block _ (by omega)).trans h.2.2.1, h.2.2.2.1.below hb (by omega), h.2.2.2.2.1.trans (RecKept.below hb (by omega)), Nat.le_trans h.2.2.2.2.2 hb.size⟩)
              (fun c i X X' h hb => h)
              (fun i X h => ⟨by rw [← HNX.out]; exact h.1.kept, h.1.row, h.1.tab⟩) ⟨HE6.out, HN6.out, HD6.out, HM6.out, HK6.out, by omega⟩ ?hassign3 ?hbody3 ?hdone3 ?hstop3
            case hassign3 =>
              intro l W1 p k ao ln lc bx K hbx hK
              gi_wp2
              exact hK
            case hstop3 =>
              intro c i X _ h
              exact h.elim
            case hbody3 =>
              rintro bx i kd bs lo lc Wb hfi ⟨hEB, hBO, hDD, hBN, hRK, hSZ⟩ hbx2 hown hlb hbox ⟨r2, hrec2⟩
              have hil : i < fr.length := (List.getElem?_eq_some_iff.1 hfi).1
              obtain ⟨rl, hr1, hr2⟩ := hEB.ref.own i kd bs hfi
              obtain ⟨gR, rc2, hv, _, _, d0, d1, d2⟩ := hEB.ref.cells hfi hr1
              simp only [Value.slice.injEq] at hv
              obtain ⟨hv1, hv2, hv3⟩ := hv
              obtain ⟨rro, rrc, rfl, _, hrr⟩ := hr2.read
              have HRR : Hid (Row Wb rro bs) := hrr
              have HRL : Hid (Row Wb lo bs) := by
                obtain ⟨ao, cp, e, _, h⟩ := hown.read
                simp only [Value.slice.injEq] at e
                rw [e.1]
                exact h
              have HBS : Hid (∀ y ∈ bs, y < 256) := (HMEM.out (kd, bs) (List.mem_of_getElem? hfi)).2
              obtain ⟨ln, hln⟩ : ∃ ln, ln = bs.length := ⟨_, rfl⟩
              have HLN : Hid (ln = bs.length) := hln
              obtain ⟨p, hp⟩ : ∃ p, p = endOf (fr.take i) := ⟨_, rfl⟩
              rw [← hln] at d1 hbox
              rw [← hp] at d2
              rw [← hln, ← hp]
              rw [Nat.mul_comm] at d0 d1 d2
              have hwv := hEB.wv.cell
              have hnv := hBN.cell
              have hx0 : Wb.cell? ⟨bx, 0, none⟩ = some (.int .u8 (kd : Int)) := by unfold World.cell?; rw [hbox]; rfl
              have hx1 : Wb.cell? ⟨bx, 1, none⟩ = some (.slice lo ln lc) := by unfold World.cell?; rw [hbox]; rfl
              rw [hv1] at hwv
              have hmi : (i : Int) < (m : Int) := by have := HM.out; omega
              have hge : decide ((m : Int) ≤ (i : Int)) = false := by simp; omega
              have HS0 : (fun W : World => W.cell? ⟨bM, 0, none⟩ = some (.int .i64 (i : Int)) ∧ W.cell? ⟨w2.heap.size, 0, none⟩ = some (.slice (some ⟨gR, 0, none⟩) m rc) ∧ W.cell? ⟨gR, i * 3, none⟩ = some (.int .u8 (kd : Int)) ∧ W.cell? ⟨gR, i * 3 + 1, none⟩ = some (.slice rro ln rrc) ∧ W.cell? ⟨gR, i * 3 + 2, none⟩ = some (.int .i64 (p : Int)) ∧ W.cell? ⟨bx, 0, none⟩ = some (.int .u8 (kd : Int)) ∧ W.cell? ⟨bx, 1, none⟩ = some (.slice lo ln lc)) Wb.drew := ⟨hnv, hwv, d0, d1, d2, hx0, hx1⟩
              refine wpIn_block (wpIn_seq (wpIn_seq ?_))
              refine region_in_var (by kernel_rfl) (by kernel_rfl) (fun ⟨_, _, h⟩ => h) ?_ (S := (fun W : World => W.cell? ⟨bM, 0, none⟩ = some (.int .i64 (i : Int)) ∧ W.cell? ⟨w2.heap.size, 0, none⟩ = some (.slice (some ⟨gR, 0, none⟩) m rc) ∧ W.cell? ⟨gR, i * 3, none⟩ = some (.int .u8 (kd : Int)) ∧ W.cell? ⟨gR, i * 3 + 1, none⟩ = some (.slice rro ln rrc) ∧ W.cell? ⟨gR, i * 3 + 2, none⟩ = some (.int .i64 (p : Int)) ∧ W.cell? ⟨bx, 0, none⟩ = some (.int .u8 (kd : Int)) ∧ W.cell? ⟨bx, 1, none⟩ = some (.slice lo ln lc)))
              intro A hA
              have hsz : A.tmps.size = 178 := by rw [hA]; rfl
              have e5 : A.eval (.tmp 5) = .pointer (some ⟨w2.heap.size, 0, none⟩) := by rw [hA]; rfl
              have e17 : A.eval (.tmp 17) = .pointer (some ⟨bM, 0, none⟩) := by rw [hA]; rfl
              have e18 : A.eval (.tmp 18) = .int .i64 (p : Int) := by rw [hA]; rfl
              have e19 : A.eval (.tmp 19) = .pointer (some ⟨bx, 0, none⟩) := by rw [hA]; rfl
              refine heldRun (i := 0) 139 (.int .i64 (i : Int)) rfl rfl (by kernel_rfl) (by kernel_rfl) (by kernel_rfl) (fun _ _ _ h => h) rfl (fun w hSw => by obtain ⟨s1, s2, s3, s4, s5, s6, s7⟩ := hSw; unfold execOp; simp [e17]; go_simp) HS0 ?_
              refine heldRun (i := 1) 140 (.slice (some ⟨gR, 0, none⟩) m rc) rfl rfl (by kernel_rfl) (by kernel_rfl) (by kernel_rfl) (fun _ _ _ h => h) rfl (fun w hSw => by obtain ⟨s1, s2, s3, s4, s5, s6, s7⟩ := hSw; unfold execOp; simp [ev_put, e5]; go_simp) HS0 ?_
              refine heldRun (i := 2) 141 (.int .i64 (m : Int)) rfl rfl (by kernel_rfl) (by kernel_rfl) (by kernel_rfl) (fun _ _ _ h => h) rfl (fun w hSw => by obtain ⟨s1, s2, s3, s4, s5, s6, s7⟩ := hSw; unfold execOp; simp; go_simp) HS0 ?_
              refine heldRun (i := 3) 142 (.bool false) rfl rfl (by kernel_rfl) (by kernel_rfl) (by kernel_rfl) (fun _ _ _ h => h) rfl (fun w hSw => by obtain ⟨s1, s2, s3, s4, s5, s6, s7⟩ := hSw; unfold execOp; simp [ev_put, hsz, sz_put]; go_simp) HS0 ?_
              refine heldMove (i := 4) 143 142 (.bool false) rfl rfl rfl (by kernel_rfl) (by kernel_rfl) (by kernel_rfl) (fun _ _ _ h => h) rfl (by simp [ev_put, hsz, sz_put]) HS0 ?_
              refine heldMove (i := 5) 144 18 (.int .i64 (p : Int)) rfl rfl rfl (by kernel_rfl) (by kernel_rfl) (by kernel_rfl) (fun _ _ _ h => h) (wants 4 143 false rfl rfl (by simp [sz_put, hsz]) (by simp [ev_put, hsz, sz_put])) (by simp [ev_put, e18]) HS0 ?_
              refine heldRun (i := 6) 145 (.slice (some ⟨gR, 0, none⟩) m rc) rfl rfl (by kernel_rfl) (by kernel_rfl) (by kernel_rfl) (fun _ _ _ h => h) (wants 4 143 false rfl rfl (by simp [sz_put, hsz]) (by simp [ev_put, hsz, sz_put])) (fun w hSw => by obtain ⟨s1, s2, s3, s4, s5, s6, s7⟩ := hSw; unfold execOp; simp [ev_put, e5]; go_simp) HS0 ?_
              refine heldRun (i := 7) 146 (.int .i64 (i : Int)) rfl rfl (by kernel_rfl) (by kernel_rfl) (by kernel_rfl) (fun _ _ _ h => h) (wants 4 143 false rfl rfl (by simp [sz_put, hsz]) (by simp [ev_put, hsz, sz_put])) (fun w hSw => by obtain ⟨s1, s2, s3, s4, s5, s6, s7⟩ := hSw; unfold execOp; simp [ev_put, e17]; go_simp) HS0 ?_
              refine heldRun (i := 8) 147 (.pointer (some ⟨gR, i * 3, none⟩)) rfl rfl (by kernel_rfl) (by kernel_rfl) (by kernel_rfl) (fun _ _ _ h => h) (wants 4 143 false rfl rfl (by simp [sz_put, hsz]) (by simp [ev_put, hsz, sz_put])) (fun w hSw => by obtain ⟨s1, s2, s3, s4, s5, s6, s7⟩ := hSw; unfold execOp; simp [ev_put, hsz, sz_put]; go_simp) HS0 ?_
              refine heldRun (i := 9) 148 (.pointer (some ⟨gR, i * 3 + 2, none⟩)) rfl rfl (by kernel_rfl) (by kernel_rfl) (by kernel_rfl) (fun _ _ _ h => h) (wants 4 143 false rfl rfl (by simp [sz_put, hsz]) (by simp [ev_put, hsz, sz_put])) (fun w hSw => by obtain ⟨s1, s2, s3, s4, s5, s6, s7⟩ := hSw; unfold execOp; simp [ev_put, hsz, sz_put]; go_simp) HS0 ?_
              refine heldRun (i := 10) 149 (.int .i64 (p : Int)) rfl rfl (by kernel_rfl) (by kernel_rfl) (by kernel_rfl) (fun _ _ _ h => h) (wants 4 143 false rfl rfl (by simp [sz_put, hsz]) (by simp [ev_put, hsz, sz_put])) (fun w hSw => by obtain ⟨s1, s2, s3, s4, s5, s6, s7⟩ := hSw; unfold execOp; simp [ev_put, hsz, sz_put]; go_simp) HS0 ?_
              refine heldRun (i := 11) 150 (.bool false) rfl rfl (by kernel_rfl) (by kernel_rfl) (by kernel_rfl) (fun _ _ _ h => h) (wants 4 143 false rfl rfl (by simp [sz_put, hsz]) (by simp [ev_put, hsz, sz_put])) (fun w hSw => by obtain ⟨s1, s2, s3, s4, s5, s6, s7⟩ := hSw; unfold execOp; simp [ev_put, hsz, sz_put]; go_simp) HS0 ?_
              refine heldRun (i := 12) 151 (.bool false) rfl rfl (by kernel_rfl) (by kernel_rfl) (by kernel_rfl) (fun _ _ _ h => h) rfl (fun w hSw => by obtain ⟨s1, s2, s3, s4, s5, s6, s7⟩ := hSw; unfold execOp; simp [ev_put, hsz, sz_put]; go_simp) HS0 ?_
              refine heldMove (i := 13) 152 151 (.bool false) rfl rfl rfl (by kernel_rfl) (by kernel_rfl) (by kernel_rfl) (fun _ _ _ h => h) rfl (by simp [ev_put, hsz, sz_put]) HS0 ?_
              refine heldRun (i := 14) 153 (.pointer (some ⟨bx, 1, none⟩)) rfl rfl (by kernel_rfl) (by kernel_rfl) (by kernel_rfl) (fun _ _ _ h => h) (wants 13 152 false rfl rfl (by simp [sz_put, hsz]) (by simp [ev_put, hsz, sz_put])) (fun w hSw => by obtain ⟨s1, s2, s3, s4, s5, s6, s7⟩ := hSw; unfold execOp; simp [ev_put, e19]; go_simp) HS0 ?_
              refine heldRun (i := 15) 154 (.slice lo ln lc) rfl rfl (by kernel_rfl) (by kernel_rfl) (by kernel_rfl) (fun _ _ _ h => h) (wants 13 152 false rfl rfl (by simp [sz_put, hsz]) (by simp [ev_put, hsz, sz_put])) (fun w hSw => by obtain ⟨s1, s2, s3, s4, s5, s6, s7⟩ := hSw; unfold execOp; simp [ev_put, hsz, sz_put]; go_simp) HS0 ?_
              refine heldRun (i := 16) 155 (.slice (some ⟨gR, 0, none⟩) m rc) rfl rfl (by kernel_rfl) (by kernel_rfl) (by kernel_rfl) (fun _ _ _ h => h) (wants 13 152 false rfl rfl (by simp [sz_put, hsz]) (by simp [ev_put, hsz, sz_put])) (fun w hSw => by obtain ⟨s1, s2, s3, s4, s5, s6, s7⟩ := hSw; unfold execOp; simp [ev_put, e5]; go_simp) HS0 ?_
              refine heldRun (i := 17) 156 (.int .i64 (i : Int)) rfl rfl (by kernel_rfl) (by kernel_rfl) (by kernel_rfl) (fun _ _ _ h => h) (wants 13 152 false rfl rfl (by simp [sz_put, hsz]) (by simp [ev_put, hsz, sz_put])) (fun w hSw => by obtain ⟨s1, s2, s3, s4, s5, s6, s7⟩ := hSw; unfold execOp; simp [ev_put, e17]; go_simp) HS0 ?_
              refine heldRun (i := 18) 157 (.pointer (some ⟨gR, i * 3, none⟩)) rfl rfl (by kernel_rfl) (by kernel_rfl) (by kernel_rfl) (fun _ _ _ h => h) (wants 13 152 false rfl rfl (by simp [sz_put, hsz]) (by simp [ev_put, hsz, sz_put])) (fun w hSw => by obtain ⟨s1, s2, s3, s4, s5, s6, s7⟩ := hSw; unfold execOp; simp [ev_put, hsz, sz_put]; go_simp) HS0 ?_
              refine heldRun (i := 19) 158 (.pointer (some ⟨gR, i * 3 + 1, none⟩)) rfl rfl (by kernel_rfl) (by kernel_rfl) (by kernel_rfl) (fun _ _ _ h => h) (wants 13 152 false rfl rfl (by simp [sz_put, hsz]) (by simp [ev_put, hsz, sz_put])) (fun w hSw => by obtain ⟨s1, s2, s3, s4, s5, s6, s7⟩ := hSw; unfold execOp; simp [ev_put, hsz, sz_put]; go_simp) HS0 ?_
              refine heldRun (i := 20) 159 (.slice rro ln rrc) rfl rfl (by kernel_rfl) (by kernel_rfl) (by kernel_rfl) (fun _ _ _ h => h) (wants 13 152 false rfl rfl (by simp [sz_put, hsz]) (by simp [ev_put, hsz, sz_put])) (fun w hSw => by obtain ⟨s1, s2, s3, s4, s5, s6, s7⟩ := hSw; unfold execOp; simp [ev_put, hsz, sz_put]; go_simp) HS0 ?_
              refine heldCall (i := 21) 160 19 #[.slice lo ln lc, .slice rro ln rrc] rfl rfl (by kernel_rfl) (wants 13 152 false rfl rfl (by simp [sz_put, hsz]) (by simp [ev_put, hsz, sz_put])) (by unfold execOp; simp; go_simp) ?_
              refine (same_true' ln ln lc rrc lo rro bs _ HLN.out HLN.out (by exact HRL.out) (by exact HRR.out) HBS.out).mono ?_
              rintro e w9 ⟨rfl, hw9⟩
              subst hw9
              refine ⟨_, rfl, HS0, ?_⟩
              refine heldRun (i := 22) 161 (.bool false) rfl rfl (by kernel_rfl) (by kernel_rfl) (by kernel_rfl) (fun _ _ _ h => h) (wants 13 152 false rfl rfl (by simp [sz_put, hsz]) (by simp [ev_put, hsz, sz_put])) (fun w hSw => by obtain ⟨s1, s2, s3, s4, s5, s6, s7⟩ := hSw; unfold execOp; simp [ev_put, hsz, sz_put]; go_simp) HS0 ?_
              refine heldRun (i := 23) 162 (.bool false) rfl rfl (by kernel_rfl) (by kernel_rfl) (by kernel_rfl) (fun _ _ _ h => h) rfl (fun w hSw => by obtain ⟨s1, s2, s3, s4, s5, s6, s7⟩ := hSw; unfold execOp; simp [ev_put, hsz, sz_put]; go_simp) HS0 ?_
              refine wpAnyH_done (by kernel_rfl) ?_ _
              subst hA
              simp only [put_mk, List.set_cons_succ, List.set_cons_zero]
              have hszb2 : bx < Wb.heap.size := (Array.getElem?_eq_some_iff.1 hbox).1
              have hn1 := hBN.cell
              have hn2 := hBN.frozen
              have HG1 : Hid (EB w stop ro ko m rc nx Bk w2.heap.size w4.heap.size xs fr lr (Wb.setCell ⟨bM, 0, none⟩ (.int .i64 ((i : Int) + 1))).drew) := hEB.below HTOP.out (((Below.refl _ _).setCell (p := ⟨bM, 0, none⟩) (by show bN ≤ bM; omega) _).drew)
              have HG2 : Hid (Box (Wb.setCell ⟨bM, 0, none⟩ (.int .i64 ((i : Int) + 1))) bN 3 (.int .i64 (io : Nat))) := hBO.below ((Below.refl bM _).setCell (p := ⟨bM, 0, none⟩) (Nat.le_refl _) _) (by omega)
              have HG3 : Hid ((Wb.setCell ⟨bM, 0, none⟩ (.int .i64 ((i : Int) + 1))).heap[W0.heap.size]? = some (.deferred (some []))) := (Below.heap_setCell _ _ _ _ (by show W0.heap.size ≠ bM; omega)).trans hDD
              have HG4 : Hid (Box (Wb.setCell ⟨bM, 0, none⟩ (.int .i64 ((i : Int) + 1))) bM 3 (.int .i64 ((i : Int) + 1))) := hBN.set _
              have HG5 : Hid (RecKept W5.heap.size 2 W (Wb.setCell ⟨bM, 0, none⟩ (.int .i64 ((i : Int) + 1)))) := hRK.trans (RecKept.setCell _ _ _ (.inr (by show W5.heap.size + 2 ≤ bM; omega)))
              have HG6 : Hid (Wb.heap.size ≤ (Wb.setCell ⟨bM, 0, none⟩ (.int .i64 ((i : Int) + 1))).heap.size) := by show _ ≤ _; simp [World.setCell]
              clear hEB hBO hDD hBN hRK hrec2 hown hbox hlb hrr hr1 hr2 HS0 d0 d1 d2 hwv hnv hx0 hx1 HRR HRL hp hln hv1 hv2 hv3
              gi_wp2
              exact ⟨RecKept.setCell Wb ⟨bM, 0, none⟩ (.int .i64 ((i : Int) + 1)) (.inl (by show bM < bM + 1; omega)), HG6.out, HG1.out, HG2.out, by first | exact HG3.out | (rw [← hsW0]; exact HG3.out), HG4.out, HG5.out, Nat.le_trans hSZ HG6.out⟩
            case hdone3 =>
              rintro X ⟨hEB, hBO, hDD, hBM, hRK, hSZ⟩ hsX
              have hBm : Box X bM 3 (.int .i64 (m : Nat)) := by rw [HM.out]; exact hBM
              have c1 := hBm.cell
              have c2 := hBO.cell
              have c3 := hBO.frozen
              have c4 := hEB.wv.cell
              have HG1 : Hid (EB w stop ro ko m rc nx Bk w2.heap.size w4.heap.size xs fr lr (X.setCell ⟨bN, 0, none⟩ (.int .i64 ((io : Int) + 1)))) := hEB.below HTOP.out ((Below.refl _ _).setCell (p := ⟨bN, 0, none⟩) (Nat.le_refl _) _)
              have HG2 : Hid (Box (X.setCell ⟨bN, 0, none⟩ (.int .i64 ((io : Int) + 1))) bN 3 (.int .i64 ((io : Int) + 1))) := hBO.set _
              have HG3 : Hid ((X.setCell ⟨bN, 0, none⟩ (.int .i64 ((io : Int) + 1))).heap[W0.heap.size]? = some (.deferred (some []))) := (Below.heap_setCell _ _ _ _ (by show W0.heap.size ≠ bN; omega)).trans hDD
              have HG5 : Hid (RecKept W5.heap.size 2 W (X.setCell ⟨bN, 0, none⟩ (.int .i64 ((io : Int) + 1)))) := hRK.trans (RecKept.setCell _ _ _ (.inl (by show bN < W5.heap.size; omega)))
              have HG6 : Hid (W.heap.size ≤ (X.setCell ⟨bN, 0, none⟩ (.int .i64 ((io : Int) + 1))).heap.size) := by show _ ≤ _; simp [World.setCell]; omega
              clear hEB hBO hDD hBM hRK hBm HE6 HN6 HD6 HM6 HK6 HR6
              gi_wp2
              exact ⟨HG5.out, HG6.out, HG1.out, HG2.out, HG3.out⟩
          · have hb3 : decide ((io : Int) < 3) = false := by simp; omega
            have HF1 : Hid (EB w stop ro ko m rc nx Bk w2.heap.size w4.heap.size xs fr lr (W.setCell ⟨bN, 0, none⟩ (.int .i64 ((io : Int) + 1))).drew) := HE.out.below HTOP.out (((Below.refl _ _).setCell (p := ⟨bN, 0, none⟩) (Nat.le_refl _) _).drew)
            have HF2 : Hid ((W.setCell ⟨bN, 0, none⟩ (.int .i64 ((io : Int) + 1))).heap[W0.heap.size]? = some (.deferred (some []))) := (Below.heap_setCell _ _ _ _ (by show W0.heap.size ≠ bN; omega)).trans HDD.out
            gi_wp2
            exact ⟨RecKept.setCell W ⟨bN, 0, none⟩ (.int .i64 ((io : Int) + 1)) (.inl (by show bN < W5.heap.size; omega)), by show W.heap.size ≤ (W.setCell ⟨bN, 0, none⟩ (.int .i64 ((io : Int) + 1))).heap.size; simp [World.setCell], HF1.out, HBn.out.set _, by first | exact HF2.out | (rw [← hsW0]; exact HF2.out)⟩
        case hdone2 =>
          rintro W ⟨hEB, hBN, hDD⟩ hsW hD2
          have hBm : Box W bN 3 (.int .i64 (m : Nat)) := by rw [HM.out]; exact hBN
          have HEB9 : Hid (EB w stop ro ko m rc nx Bk w2.heap.size w4.heap.size xs fr lr W) := hEB
          have HD1 : Hid (W.heap[W0.heap.size]? = some (.deferred (some []))) := hDD
          have HD2 : Hid (W.heap[W5.heap.size]? = some (.deferred (some []))) := hD2
          have c1 := hBm.cell
          have c2 := hEB.wv.cell
          clear hEB hBN hDD hD2 hBm HE5 HB5 HD5
          gi_wp2_with fail
          refine ⟨trivial, (callsIn_wide.2 (live_true W HEB9.out.tab)).mono ?_⟩
          rintro e W9 ⟨rfl, h9⟩
          have HR9 : Hid (Box W9 (w.heap.size + 1) 4 (.bool false)) := HEB9.out.res.keep h9
          have HL9 : Hid (Below w.heap.size w W9) := HEB9.out.low.trans (h9.mono HEB9.out.low.size)
          have HA1 : Hid (W9.heap[W0.heap.size]? = some (.deferred (some []))) := (h9.block _ (by omega)).trans HD1.out
          have HA2 : Hid (W9.heap[W5.heap.size]? = some (.deferred (some []))) := (h9.block _ (by omega)).trans HD2.out
          have c3 := HR9.out.cell
          have c4 := HR9.out.frozen
          clear h9 c1 c2 HD1 HD2
          have hA2 : (W9.setCell ⟨w.heap.size + 1, 0, none⟩ (.bool true)).heap[W5.heap.size]? = some (.deferred (some [])) := (Below.heap_setCell _ _ _ _ (by show W5.heap.size ≠ w.heap.size + 1; have := HTOP.out.base; omega)).trans HA2.out
          have hA1 : ((W9.setCell ⟨w.heap.size + 1, 0, none⟩ (.bool true)).putObj W5.heap.size (.deferred none)).heap[bN + 1]? = some (.deferred (some [])) := by
            rw [World.putObj_heap_other (by omega), ← hsW0]
            exact (Below.heap_setCell _ _ _ _ (by show W0.heap.size ≠ w.heap.size + 1; have := HTOP.out.base; omega)).trans HA1.out
          have hA0 : Box (((W9.setCell ⟨w.heap.size + 1, 0, none⟩ (.bool true)).putObj W5.heap.size (.deferred none)).putObj (bN + 1) (.deferred none)) (w.heap.size + 1) 4 (.bool true) := by
            have hb := HTOP.out.base
            unfold Box
            rw [World.putObj_heap_other (by omega), World.putObj_heap_other (by omega)]
            exact HR9.out.set _
          have hc5 := hA0.cell
          have HLF : Hid (Below w.heap.size w (((W9.setCell ⟨w.heap.size + 1, 0, none⟩ (.bool true)).putObj W5.heap.size (.deferred none)).putObj (bN + 1) (.deferred none))) := ((HL9.out.setCell (p := ⟨w.heap.size + 1, 0, none⟩) (by simp) _).trans (putObj_below _ _ (by have := HTOP.out.base; omega))).trans (putObj_below _ _ (by have := HTOP.out.base; omega))
          clear hA0
          gi_wp2
          refine ⟨by simp, .inl ⟨_, _, rfl, run_takeDeferred hA2, ?_⟩⟩
          refine ⟨by simp, .inl ⟨_, _, rfl, run_takeDeferred hA1, ?_⟩⟩
          refine ⟨.bool true, ?_, rfl, HLF.out⟩
          simp [results, Tryd.results4, go_sem, hc5]
      case hstop =>
        rintro c i W _ ⟨rfl, hE, j, hBj⟩ hszW hD
        have HBj : Hid (Box W bN 3 (.int .i64 j)) := hBj
        have HE : Hid (EB w stop ro ko m rc nx Bk w2.heap.size w4.heap.size xs fr lr W) := hE
        have HD1 : Hid (W.heap[W0.heap.size]? = some (.deferred (some []))) := hD
        clear hE hBj hD
        have hn1 := HBj.out.cell
        have hn2 := HBj.out.frozen
        have hev := cell_set_other HE.out.ev.cell (b := bN) (v := .int .i64 0) (by have := HTOP.out.ev; omega)
        gi_wp2
        obtain ⟨W5, hW5⟩ : ∃ W5, W.setCell ⟨bN, 0, none⟩ (.int .i64 0) = W5 := ⟨_, rfl⟩
        have HE5 : Hid (EB w stop ro ko m rc nx Bk w2.heap.size w4.heap.size xs fr lr W5) := by show EB w stop ro ko m rc nx Bk w2.heap.size w4.heap.size xs fr lr W5; rw [← hW5]; exact HE.out.below HTOP.out ((Below.refl _ _).setCell (p := ⟨bN, 0, none⟩) (Nat.le_refl _) _)
        have HB5 : Hid (Box W5 bN 3 (.int .i64 0)) := by show Box W5 bN 3 (.int .i64 0); rw [← hW5]; exact HBj.out.set _
        have HD5 : Hid (W5.heap[W0.heap.size]? = some (.deferred (some []))) := by show _ = _; rw [← hW5]; exact (Below.heap_setCell _ _ _ _ (by show W0.heap.size ≠ bN; omega)).trans HD1.out
        have hs5 : bN + 3 ≤ W5.heap.size := by rw [← hW5]; simp [World.setCell]; omega
        rw [hW5]
        clear hn1 hn2 hev HE HBj HD1 hW5 hszW
        refine range_outer (A1 := ?A4) (ko := ko) (xs := xs) (fr := fr) (en := en) (er := er) (kc := nx) (Bk := Bk) (by rw [← HNX.out]; omega) (by rw [← HNX.out]; exact Nat.le_refl _) HX.out HS.out rfl rfl
          (fun i W => EB w stop ro ko m rc nx Bk w2.heap.size w4.heap.size xs fr lr W ∧ Box W bN 3 (.int .i64 (i : Nat)) ∧ W.heap[W0.heap.size]? = some (.deferred (some [])))
          (fun _ _ _ => False)
          (fun i W W' h hb => ⟨h.1.below (HTOP.out.mono (by omega)) hb, h.2.1.below hb (by omega), (hb.block _ (by omega)).trans h.2.2⟩)
          (fun c i W W' h hb => h)
          (fun i W h => ⟨by rw [← HNX.out]; exact h.1.kept, h.1.row, h.1.tab⟩) ⟨HE5.out, HB5.out, HD5.out⟩ ?hassign2 ?hbody2 ?hdone2 ?hstop2
        case hassign2 =>
          intro l W1 p k ao ln lc bx K hbx hK
          gi_wp2
          exact hK
        case hstop2 =>
          intro c i W _ h
          exact h.elim
        case hbody2 =>
          rintro bx i kd bs lo lc W hfi ⟨hEB, hBN, hDD⟩ hbx hown hlb hbox ⟨r, hrec⟩
          have hil : i < fr.length := (List.getElem?_eq_some_iff.1 hfi).1
          obtain ⟨rl, hr1, hr2⟩ := hEB.ref.own i kd bs hfi
          obtain ⟨gR, rc2, hv, _, _, d0, d1, d2⟩ := hEB.ref.cells hfi hr1
          simp only [Value.slice.injEq] at hv
          obtain ⟨hv1, hv2, hv3⟩ := hv
          obtain ⟨rro, rrc, rfl, _, hrr⟩ := hr2.read
          have HRR : Hid (Row W rro bs) := hrr
          have HRL : Hid (Row W lo bs) := by
            obtain ⟨ao, cp, e, _, h⟩ := hown.read
            simp only [Value.slice.injEq] at e
            rw [e.1]
            exact h
          have HBS : Hid (∀ y ∈ bs, y < 256) := (HMEM.out (kd, bs) (List.mem_of_getElem? hfi)).2
          obtain ⟨ln, hln⟩ : ∃ ln, ln = bs.length := ⟨_, rfl⟩
          have HLN : Hid (ln = bs.length) := hln
          obtain ⟨p, hp⟩ : ∃ p, p = endOf (fr.take i) := ⟨_, rfl⟩
          rw [← hln] at d1 hbox
          rw [← hp] at d2
          rw [← hln, ← hp]
          rw [Nat.mul_comm] at d0 d1 d2
          have hwv := hEB.wv.cell
          have hnv := hBN.cell
          have hx0 : W.cell? ⟨bx, 0, none⟩ = some (.int .u8 (kd : Int)) := by unfold World.cell?; rw [hbox]; rfl
          have hx1 : W.cell? ⟨bx, 1, none⟩ = some (.slice lo ln lc) := by unfold World.cell?; rw [hbox]; rfl
          rw [hv1] at hwv
          have hmi : (i : Int) < (m : Int) := by have := HM.out; omega
          have hge : decide ((m : Int) ≤ (i : Int)) = false := by simp; omega
          have HS0 : (fun W : World => W.cell? ⟨bN, 0, none⟩ = some (.int .i64 (i : Int)) ∧ W.cell? ⟨w2.heap.size, 0, none⟩ = some (.slice (some ⟨gR, 0, none⟩) m rc) ∧ W.cell? ⟨gR, i * 3, none⟩ = some (.int .u8 (kd : Int)) ∧ W.cell? ⟨gR, i * 3 + 1, none⟩ = some (.slice rro ln rrc) ∧ W.cell? ⟨gR, i * 3 + 2, none⟩ = some (.int .i64 (p : Int)) ∧ W.cell? ⟨bx, 0, none⟩ = some (.int .u8 (kd : Int)) ∧ W.cell? ⟨bx, 1, none⟩ = some (.slice lo ln lc)) W.drew := ⟨hnv, hwv, d0, d1, d2, hx0, hx1⟩
          refine wpIn_block (wpIn_seq (wpIn_seq ?_))
          refine region_in_var (by kernel_rfl) (by kernel_rfl) (fun ⟨_, _, h⟩ => h) ?_ (S := (fun W : World => W.cell? ⟨bN, 0, none⟩ = some (.int .i64 (i : Int)) ∧ W.cell? ⟨w2.heap.size, 0, none⟩ = some (.slice (some ⟨gR, 0, none⟩) m rc) ∧ W.cell? ⟨gR, i * 3, none⟩ = some (.int .u8 (kd : Int)) ∧ W.cell? ⟨gR, i * 3 + 1, none⟩ = some (.slice rro ln rrc) ∧ W.cell? ⟨gR, i * 3 + 2, none⟩ = some (.int .i64 (p : Int)) ∧ W.cell? ⟨bx, 0, none⟩ = some (.int .u8 (kd : Int)) ∧ W.cell? ⟨bx, 1, none⟩ = some (.slice lo ln lc)))
          intro A hA
          have hsz : A.tmps.size = 178 := by rw [hA]; rfl
          have e5 : A.eval (.tmp 5) = .pointer (some ⟨w2.heap.size, 0, none⟩) := by rw [hA]; rfl
          have e11 : A.eval (.tmp 11) = .pointer (some ⟨bN, 0, none⟩) := by rw [hA]; rfl
          have e15 : A.eval (.tmp 15) = .int .i64 (p : Int) := by rw [hA]; rfl
          have e16 : A.eval (.tmp 16) = .pointer (some ⟨bx, 0, none⟩) := by rw [hA]; rfl
          refine heldRun (i := 0) 100 (.int .i64 (i : Int)) rfl rfl (by kernel_rfl) (by kernel_rfl) (by kernel_rfl) (fun _ _ _ h => h) rfl (fun w hSw => by obtain ⟨s1, s2, s3, s4, s5, s6, s7⟩ := hSw; unfold execOp; simp [e11]; go_simp) HS0 ?_
          refine heldRun (i := 1) 101 (.slice (some ⟨gR, 0, none⟩) m rc) rfl rfl (by kernel_rfl) (by kernel_rfl) (by kernel_rfl) (fun _ _ _ h => h) rfl (fun w hSw => by obtain ⟨s1, s2, s3, s4, s5, s6, s7⟩ := hSw; unfold execOp; simp [ev_put, e5]; go_simp) HS0 ?_
          refine heldRun (i := 2) 102 (.int .i64 (m : Int)) rfl rfl (by kernel_rfl) (by kernel_rfl) (by kernel_rfl) (fun _ _ _ h => h) rfl (fun w hSw => by obtain ⟨s1, s2, s3, s4, s5, s6, s7⟩ := hSw; unfold execOp; simp; go_simp) HS0 ?_
          refine heldRun (i := 3) 103 (.bool false) rfl rfl (by kernel_rfl) (by kernel_rfl) (by kernel_rfl) (fun _ _ _ h => h) rfl (fun w hSw => by obtain ⟨s1, s2, s3, s4, s5, s6, s7⟩ := hSw; unfold execOp; simp [ev_put, hsz, sz_put]; go_simp) HS0 ?_
          refine heldMove (i := 4) 104 103 (.bool false) rfl rfl rfl (by kernel_rfl) (by kernel_rfl) (by kernel_rfl) (fun _ _ _ h => h) rfl (by simp [ev_put, hsz, sz_put]) HS0 ?_
          refine heldMove (i := 5) 105 15 (.int .i64 (p : Int)) rfl rfl rfl (by kernel_rfl) (by kernel_rfl) (by kernel_rfl) (fun _ _ _ h => h) (wants 4 104 false rfl rfl (by simp [sz_put, hsz]) (by simp [ev_put, hsz, sz_put])) (by simp [ev_put, e15]) HS0 ?_
          refine heldRun (i := 6) 106 (.slice (some ⟨gR, 0, none⟩) m rc) rfl rfl (by kernel_rfl) (by kernel_rfl) (by kernel_rfl) (fun _ _ _ h => h) (wants 4 104 false rfl rfl (by simp [sz_put, hsz]) (by simp [ev_put, hsz, sz_put])) (fun w hSw => by obtain ⟨s1, s2, s3, s4, s5, s6, s7⟩ := hSw; unfold execOp; simp [ev_put, e5]; go_simp) HS0 ?_
          refine heldRun (i := 7) 107 (.int .i64 (i : Int)) rfl rfl (by kernel_rfl) (by kernel_rfl) (by kernel_rfl) (fun _ _ _ h => h) (wants 4 104 false rfl rfl (by simp [sz_put, hsz]) (by simp [ev_put, hsz, sz_put])) (fun w hSw => by obtain ⟨s1, s2, s3, s4, s5, s6, s7⟩ := hSw; unfold execOp; simp [ev_put, e11]; go_simp) HS0 ?_
          refine heldRun (i := 8) 108 (.pointer (some ⟨gR, i * 3, none⟩)) rfl rfl (by kernel_rfl) (by kernel_rfl) (by kernel_rfl) (fun _ _ _ h => h) (wants 4 104 false rfl rfl (by simp [sz_put, hsz]) (by simp [ev_put, hsz, sz_put])) (fun w hSw => by obtain ⟨s1, s2, s3, s4, s5, s6, s7⟩ := hSw; unfold execOp; simp [ev_put, hsz, sz_put]; go_simp) HS0 ?_
          refine heldRun (i := 9) 109 (.pointer (some ⟨gR, i * 3 + 2, none⟩)) rfl rfl (by kernel_rfl) (by kernel_rfl) (by kernel_rfl) (fun _ _ _ h => h) (wants 4 104 false rfl rfl (by simp [sz_put, hsz]) (by simp [ev_put, hsz, sz_put])) (fun w hSw => by obtain ⟨s1, s2, s3, s4, s5, s6, s7⟩ := hSw; unfold execOp; simp [ev_put, hsz, sz_put]; go_simp) HS0 ?_
          refine heldRun (i := 10) 110 (.int .i64 (p : Int)) rfl rfl (by kernel_rfl) (by kernel_rfl) (by kernel_rfl) (fun _ _ _ h => h) (wants 4 104 false rfl rfl (by simp [sz_put, hsz]) (by simp [ev_put, hsz, sz_put])) (fun w hSw => by obtain ⟨s1, s2, s3, s4, s5, s6, s7⟩ := hSw; unfold execOp; simp [ev_put, hsz, sz_put]; go_simp) HS0 ?_
          refine heldRun (i := 11) 111 (.bool false) rfl rfl (by kernel_rfl) (by kernel_rfl) (by kernel_rfl) (fun _ _ _ h => h) (wants 4 104 false rfl rfl (by simp [sz_put, hsz]) (by simp [ev_put, hsz, sz_put])) (fun w hSw => by obtain ⟨s1, s2, s3, s4, s5, s6, s7⟩ := hSw; unfold execOp; simp [ev_put, hsz, sz_put]; go_simp) HS0 ?_
          refine heldRun (i := 12) 112 (.bool false) rfl rfl (by kernel_rfl) (by kernel_rfl) (by kernel_rfl) (fun _ _ _ h => h) rfl (fun w hSw => by obtain ⟨s1, s2, s3, s4, s5, s6, s7⟩ := hSw; unfold execOp; simp [ev_put, hsz, sz_put]; go_simp) HS0 ?_
          refine heldMove (i := 13) 113 112 (.bool false) rfl rfl rfl (by kernel_rfl) (by kernel_rfl) (by kernel_rfl) (fun _ _ _ h => h) rfl (by simp [ev_put, hsz, sz_put]) HS0 ?_
          refine heldRun (i := 14) 114 (.pointer (some ⟨bx, 0, none⟩)) rfl rfl (by kernel_rfl) (by kernel_rfl) (by kernel_rfl) (fun _ _ _ h => h) (wants 13 113 false rfl rfl (by simp [sz_put, hsz]) (by simp [ev_put, hsz, sz_put])) (fun w hSw => by obtain ⟨s1, s2, s3, s4, s5, s6, s7⟩ := hSw; unfold execOp; simp [ev_put, e16]; go_simp) HS0 ?_
          refine heldRun (i := 15) 115 (.int .u8 (kd : Int)) rfl rfl (by kernel_rfl) (by kernel_rfl) (by kernel_rfl) (fun _ _ _ h => h) (wants 13 113 false rfl rfl (by simp [sz_put, hsz]) (by simp [ev_put, hsz, sz_put])) (fun w hSw => by obtain ⟨s1, s2, s3, s4, s5, s6, s7⟩ := hSw; unfold execOp; simp [ev_put, hsz, sz_put]; go_simp) HS0 ?_
          refine heldRun (i := 16) 116 (.slice (some ⟨gR, 0, none⟩) m rc) rfl rfl (by kernel_rfl) (by kernel_rfl) (by kernel_rfl) (fun _ _ _ h => h) (wants 13 113 false rfl rfl (by simp [sz_put, hsz]) (by simp [ev_put, hsz, sz_put])) (fun w hSw => by obtain ⟨s1, s2, s3, s4, s5, s6, s7⟩ := hSw; unfold execOp; simp [ev_put, e5]; go_simp) HS0 ?_
          refine heldRun (i := 17) 117 (.int .i64 (i : Int)) rfl rfl (by kernel_rfl) (by kernel_rfl) (by kernel_rfl) (fun _ _ _ h => h) (wants 13 113 false rfl rfl (by simp [sz_put, hsz]) (by simp [ev_put, hsz, sz_put])) (fun w hSw => by obtain ⟨s1, s2, s3, s4, s5, s6, s7⟩ := hSw; unfold execOp; simp [ev_put, e11]; go_simp) HS0 ?_
          refine heldRun (i := 18) 118 (.pointer (some ⟨gR, i * 3, none⟩)) rfl rfl (by kernel_rfl) (by kernel_rfl) (by kernel_rfl) (fun _ _ _ h => h) (wants 13 113 false rfl rfl (by simp [sz_put, hsz]) (by simp [ev_put, hsz, sz_put])) (fun w hSw => by obtain ⟨s1, s2, s3, s4, s5, s6, s7⟩ := hSw; unfold execOp; simp [ev_put, hsz, sz_put]; go_simp) HS0 ?_
          refine heldRun (i := 19) 119 (.pointer (some ⟨gR, i * 3, none⟩)) rfl rfl (by kernel_rfl) (by kernel_rfl) (by kernel_rfl) (fun _ _ _ h => h) (wants 13 113 false rfl rfl (by simp [sz_put, hsz]) (by simp [ev_put, hsz, sz_put])) (fun w hSw => by obtain ⟨s1, s2, s3, s4, s5, s6, s7⟩ := hSw; unfold execOp; simp [ev_put, hsz, sz_put]; go_simp) HS0 ?_
          refine heldRun (i := 20) 120 (.int .u8 (kd : Int)) rfl rfl (by kernel_rfl) (by kernel_rfl) (by kernel_rfl) (fun _ _ _ h => h) (wants 13 113 false rfl rfl (by simp [sz_put, hsz]) (by simp [ev_put, hsz, sz_put])) (fun w hSw => by obtain ⟨s1, s2, s3, s4, s5, s6, s7⟩ := hSw; unfold execOp; simp [ev_put, hsz, sz_put]; go_simp) HS0 ?_
          refine heldRun (i := 21) 121 (.bool false) rfl rfl (by kernel_rfl) (by kernel_rfl) (by kernel_rfl) (fun _ _ _ h => h) (wants 13 113 false rfl rfl (by simp [sz_put, hsz]) (by simp [ev_put, hsz, sz_put])) (fun w hSw => by obtain ⟨s1, s2, s3, s4, s5, s6, s7⟩ := hSw; unfold execOp; simp [ev_put, hsz, sz_put]; go_simp) HS0 ?_
          refine heldRun (i := 22) 122 (.bool false) rfl rfl (by kernel_rfl) (by kernel_rfl) (by kernel_rfl) (fun _ _ _ h => h) rfl (fun w hSw => by obtain ⟨s1, s2, s3, s4, s5, s6, s7⟩ := hSw; unfold execOp; simp [ev_put, hsz, sz_put]; go_simp) HS0 ?_
          refine heldMove (i := 23) 123 122 (.bool false) rfl rfl rfl (by kernel_rfl) (by kernel_rfl) (by kernel_rfl) (fun _ _ _ h => h) rfl (by simp [ev_put, hsz, sz_put]) HS0 ?_
          refine heldRun (i := 24) 124 (.pointer (some ⟨bx, 1, none⟩)) rfl rfl (by kernel_rfl) (by kernel_rfl) (by kernel_rfl) (fun _ _ _ h => h) (wants 23 123 false rfl rfl (by simp [sz_put, hsz]) (by simp [ev_put, hsz, sz_put])) (fun w hSw => by obtain ⟨s1, s2, s3, s4, s5, s6, s7⟩ := hSw; unfold execOp; simp [ev_put, e16]; go_simp) HS0 ?_
          refine heldRun (i := 25) 125 (.slice lo ln lc) rfl rfl (by kernel_rfl) (by kernel_rfl) (by kernel_rfl) (fun _ _ _ h => h) (wants 23 123 false rfl rfl (by simp [sz_put, hsz]) (by simp [ev_put, hsz, sz_put])) (fun w hSw => by obtain ⟨s1, s2, s3, s4, s5, s6, s7⟩ := hSw; unfold execOp; simp [ev_put, hsz, sz_put]; go_simp) HS0 ?_
          refine heldRun (i := 26) 126 (.slice (some ⟨gR, 0, none⟩) m rc) rfl rfl (by kernel_rfl) (by kernel_rfl) (by kernel_rfl) (fun _ _ _ h => h) (wants 23 123 false rfl rfl (by simp [sz_put, hsz]) (by simp [ev_put, hsz, sz_put])) (fun w hSw => by obtain ⟨s1, s2, s3, s4, s5, s6, s7⟩ := hSw; unfold execOp; simp [ev_put, e5]; go_simp) HS0 ?_
          refine heldRun (i := 27) 127 (.int .i64 (i : Int)) rfl rfl (by kernel_rfl) (by kernel_rfl) (by kernel_rfl) (fun _ _ _ h => h) (wants 23 123 false rfl rfl (by simp [sz_put, hsz]) (by simp [ev_put, hsz, sz_put])) (fun w hSw => by obtain ⟨s1, s2, s3, s4, s5, s6, s7⟩ := hSw; unfold execOp; simp [ev_put, e11]; go_simp) HS0 ?_
          refine heldRun (i := 28) 128 (.pointer (some ⟨gR, i * 3, none⟩)) rfl rfl (by kernel_rfl) (by kernel_rfl) (by kernel_rfl) (fun _ _ _ h => h) (wants 23 123 false rfl rfl (by simp [sz_put, hsz]) (by simp [ev_put, hsz, sz_put])) (fun w hSw => by obtain ⟨s1, s2, s3, s4, s5, s6, s7⟩ := hSw; unfold execOp; simp [ev_put, hsz, sz_put]; go_simp) HS0 ?_
          refine heldRun (i := 29) 129 (.pointer (some ⟨gR, i * 3 + 1, none⟩)) rfl rfl (by kernel_rfl) (by kernel_rfl) (by kernel_rfl) (fun _ _ _ h => h) (wants 23 123 false rfl rfl (by simp [sz_put, hsz]) (by simp [ev_put, hsz, sz_put])) (fun w hSw => by obtain ⟨s1, s2, s3, s4, s5, s6, s7⟩ := hSw; unfold execOp; simp [ev_put, hsz, sz_put]; go_simp) HS0 ?_
          refine heldRun (i := 30) 130 (.slice rro ln rrc) rfl rfl (by kernel_rfl) (by kernel_rfl) (by kernel_rfl) (fun _ _ _ h => h) (wants 23 123 false rfl rfl (by simp [sz_put, hsz]) (by simp [ev_put, hsz, sz_put])) (fun w hSw => by obtain ⟨s1, s2, s3, s4, s5, s6, s7⟩ := hSw; unfold execOp; simp [ev_put, hsz, sz_put]; go_simp) HS0 ?_
          refine heldCall (i := 31) 131 19 #[.slice lo ln lc, .slice rro ln rrc] rfl rfl (by kernel_rfl) (wants 23 123 false rfl rfl (by simp [sz_put, hsz]) (by simp [ev_put, hsz, sz_put])) (by unfold execOp; simp; go_simp) ?_
          refine (same_true' ln ln lc rrc lo rro bs _ HLN.out HLN.out (by exact HRL.out) (by exact HRR.out) HBS.out).mono ?_
          rintro e w9 ⟨rfl, hw9⟩
          subst hw9
          refine ⟨_, rfl, HS0, ?_⟩
          refine heldRun (i := 32) 132 (.bool false) rfl rfl (by kernel_rfl) (by kernel_rfl) (by kernel_rfl) (fun _ _ _ h => h) (wants 23 123 false rfl rfl (by simp [sz_put, hsz]) (by simp [ev_put, hsz, sz_put])) (fun w hSw => by obtain ⟨s1, s2, s3, s4, s5, s6, s7⟩ := hSw; unfold execOp; simp [ev_put, hsz, sz_put]; go_simp) HS0 ?_
          refine heldRun (i := 33) 133 (.bool false) rfl rfl (by kernel_rfl) (by kernel_rfl) (by kernel_rfl) (fun _ _ _ h => h) rfl (fun w hSw => by obtain ⟨s1, s2, s3, s4, s5, s6, s7⟩ := hSw; unfold execOp; simp [ev_put, hsz, sz_put]; go_simp) HS0 ?_
          refine wpAnyH_done (by kernel_rfl) ?_ _
          subst hA
          simp only [put_mk, List.set_cons_succ, List.set_cons_zero]
          have HE : Hid (EB w stop ro ko m rc nx Bk w2.heap.size w4.heap.size xs fr lr W) := hEB
          have HBn : Hid (Box W bN 3 (.int .i64 (i : Nat))) := hBN
          have HDD : Hid (W.heap[W0.heap.size]? = some (.deferred (some []))) := hDD
          have HRC : Hid (W.heap[W5.heap.size + 1]? = some (.loop r)) := hrec
          have hszb : bx < W.heap.size := (Array.getElem?_eq_some_iff.1 hbox).1
          clear hEB hBN hDD hrec hown hbox hlb hrr hr1 hr2 HS0 d0 d1 d2 hwv hnv hx0 hx1 HRR HRL hp hln hv1 hv2 hv3
          obtain ⟨io, rfl⟩ : ∃ io, io = i := ⟨_, rfl⟩
          have hn1 := HBn.out.cell
          have hn2 := HBn.out.frozen
          by_cases h3 : (io : Int) < 3
          · have hb3 : decide ((io : Int) < 3) = true := by simp [h3]
            have hev := HE.out.ev.cell
            have hlv := HE.out.ev.lt
            gi_wp2
            obtain ⟨W6, hW6⟩ : ∃ W6, (W.alloc (.cells #[.int .i64 0] 3)).drew = W6 := ⟨_, rfl⟩
            obtain ⟨bM, hbM⟩ : ∃ bM, W.heap.size = bM := ⟨_, rfl⟩
            have hs6 : W6.heap.size = bM + 1 := by rw [← hW6, ← hbM]; simp
            have hn6 : Below W.heap.size W W6 := by rw [← hW6]; exact (below_new _ _).drew
            have HE6 : Hid (EB w stop ro ko m rc nx Bk w2.heap.size w4.heap.size xs fr lr W6) := HE.out.below (HTOP.out.mono (by have := HBn.out.lt; omega)) hn6
            have HN6 : Hid (Box W6 bN 3 (.int .i64 (io : Nat))) := HBn.out.keep hn6
            have HD6 : Hid (W6.heap[W0.heap.size]? = some (.deferred (some []))) := (hn6.block _ (by omega)).trans HDD.out
            have HM6 : Hid (Box W6 bM 3 (.int .i64 0)) := by show Box W6 bM 3 (.int .i64 0); rw [← hW6, ← hbM]; exact Box.new W _ _
            have HK6 : Hid (RecKept W5.heap.size 2 W W6) := RecKept.below hn6 (by omega)
            have HR6 : Hid (W6.heap[W5.heap.size + 1]? = some (.loop r)) := (hn6.block _ (by omega)).trans HRC.out
            rw [hW6, hbM]
            clear hn1 hn2 hev hlv hn6 hW6 HE HBn HDD HRC
            refine range_inner (A1 := ?A5) (l0 := W5.heap.size + 1) (r0 := r) HR6.out (ko := ko) (xs := xs) (fr := fr) (en := en) (er := er) (kc := nx) (Bk := Bk) (by rw [← HNX.out]; omega) (by rw [← HNX.out]; exact Nat.le_refl _) HX.out HS.out rfl rfl
              (fun j W' => EB w stop ro ko m rc nx Bk w2.heap.size w4.heap.size xs fr lr W' ∧ Box W' bN 3 (.int .i64 (io : Nat)) ∧ W'.heap[W0.heap.size]? = some (.deferred (some [])) ∧ Box W' bM 3 (.int .i64 (j : Nat)) ∧ RecKept W5.heap.size 2 W W' ∧ bM ≤ W'.heap.size)
              (fun _ _ _ => False)
              (fun j X X' h hb => ⟨h.1.below (HTOP.out.mono (by omega)) hb, h.2.1.below hb (by omega), (hb.block _ (by omega)).trans h.2.2.1, h.2.2.2.1.below hb (by omega), h.2.2.2.2.1.trans (RecKept.below hb (by omega)), Nat.le_trans h.2.2.2.2.2 hb.size⟩)
              (fun c i X X' h hb => h)
              (fun i X h => ⟨by rw [← HNX.out]; exact h.1.kept, h.1.row, h.1.tab⟩) ⟨HE6.out, HN6.out, HD6.out, HM6.out, HK6.out, by omega⟩ ?hassign3 ?hbody3 ?hdone3 ?hstop3
            case hassign3 =>
              intro l W1 p k ao ln lc bx K hbx hK
              gi_wp2
              exact hK
            case hstop3 =>
              intro c i X _ h
              exact h.elim
            case hbody3 =>
              rintro bx i kd bs lo lc Wb hfi ⟨hEB, hBO, hDD, hBN, hRK, hSZ⟩ hbx2 hown hlb hbox ⟨r2, hrec2⟩
              have hil : i < fr.length := (List.getElem?_eq_some_iff.1 hfi).1
              obtain ⟨rl, hr1, hr2⟩ := hEB.ref.own i kd bs hfi
              obtain ⟨gR, rc2, hv, _, _, d0, d1, d2⟩ := hEB.ref.cells hfi hr1
              simp only [Value.slice.injEq] at hv
              obtain ⟨hv1, hv2, hv3⟩ := hv
              obtain ⟨rro, rrc, rfl, _, hrr⟩ := hr2.read
              have HRR : Hid (Row Wb rro bs) := hrr
              have HRL : Hid (Row Wb lo bs) := by
                obtain ⟨ao, cp, e, _, h⟩ := hown.read
                simp only [Value.slice.injEq] at e
                rw [e.1]
                exact h
              have HBS : Hid (∀ y ∈ bs, y < 256) := (HMEM.out (kd, bs) (List.mem_of_getElem? hfi)).2
              obtain ⟨ln, hln⟩ : ∃ ln, ln = bs.length := ⟨_, rfl⟩
              have HLN : Hid (ln = bs.length) := hln
              obtain ⟨p, hp⟩ : ∃ p, p = endOf (fr.take i) := ⟨_, rfl⟩
              rw [← hln] at d1 hbox
              rw [← hp] at d2
              rw [← hln, ← hp]
              rw [Nat.mul_comm] at d0 d1 d2
              have hwv := hEB.wv.cell
              have hnv := hBN.cell
              have hx0 : Wb.cell? ⟨bx, 0, none⟩ = some (.int .u8 (kd : Int)) := by unfold World.cell?; rw [hbox]; rfl
              have hx1 : Wb.cell? ⟨bx, 1, none⟩ = some (.slice lo ln lc) := by unfold World.cell?; rw [hbox]; rfl
              rw [hv1] at hwv
              have hmi : (i : Int) < (m : Int) := by have := HM.out; omega
              have hge : decide ((m : Int) ≤ (i : Int)) = false := by simp; omega
              have HS0 : (fun W : World => W.cell? ⟨bM, 0, none⟩ = some (.int .i64 (i : Int)) ∧ W.cell? ⟨w2.heap.size, 0, none⟩ = some (.slice (some ⟨gR, 0, none⟩) m rc) ∧ W.cell? ⟨gR, i * 3, none⟩ = some (.int .u8 (kd : Int)) ∧ W.cell? ⟨gR, i * 3 + 1, none⟩ = some (.slice rro ln rrc) ∧ W.cell? ⟨gR, i * 3 + 2, none⟩ = some (.int .i64 (p : Int)) ∧ W.cell? ⟨bx, 0, none⟩ = some (.int .u8 (kd : Int)) ∧ W.cell? ⟨bx, 1, none⟩ = some (.slice lo ln lc)) Wb.drew := ⟨hnv, hwv, d0, d1, d2, hx0, hx1⟩
              refine wpIn_block (wpIn_seq (wpIn_seq ?_))
              refine region_in_var (by kernel_rfl) (by kernel_rfl) (fun ⟨_, _, h⟩ => h) ?_ (S := (fun W : World => W.cell? ⟨bM, 0, none⟩ = some (.int .i64 (i : Int)) ∧ W.cell? ⟨w2.heap.size, 0, none⟩ = some (.slice (some ⟨gR, 0, none⟩) m rc) ∧ W.cell? ⟨gR, i * 3, none⟩ = some (.int .u8 (kd : Int)) ∧ W.cell? ⟨gR, i * 3 + 1, none⟩ = some (.slice rro ln rrc) ∧ W.cell? ⟨gR, i * 3 + 2, none⟩ = some (.int .i64 (p : Int)) ∧ W.cell? ⟨bx, 0, none⟩ = some (.int .u8 (kd : Int)) ∧ W.cell? ⟨bx, 1, none⟩ = some (.slice lo ln lc)))
              intro A hA
              have hsz : A.tmps.size = 178 := by rw [hA]; rfl
              have e5 : A.eval (.tmp 5) = .pointer (some ⟨w2.heap.size, 0, none⟩) := by rw [hA]; rfl
              have e17 : A.eval (.tmp 17) = .pointer (some ⟨bM, 0, none⟩) := by rw [hA]; rfl
              have e18 : A.eval (.tmp 18) = .int .i64 (p : Int) := by rw [hA]; rfl
              have e19 : A.eval (.tmp 19) = .pointer (some ⟨bx, 0, none⟩) := by rw [hA]; rfl
              refine heldRun (i := 0) 139 (.int .i64 (i : Int)) rfl rfl (by kernel_rfl) (by kernel_rfl) (by kernel_rfl) (fun _ _ _ h => h) rfl (fun w hSw => by obtain ⟨s1, s2, s3, s4, s5, s6, s7⟩ := hSw; unfold execOp; simp [e17]; go_simp) HS0 ?_
              refine heldRun (i := 1) 140 (.slice (some ⟨gR, 0, none⟩) m rc) rfl rfl (by kernel_rfl) (by kernel_rfl) (by kernel_rfl) (fun _ _ _ h => h) rfl (fun w hSw => by obtain ⟨s1, s2, s3, s4, s5, s6, s7⟩ := hSw; unfold execOp; simp [ev_put, e5]; go_simp) HS0 ?_
              refine heldRun (i := 2) 141 (.int .i64 (m : Int)) rfl rfl (by kernel_rfl) (by kernel_rfl) (by kernel_rfl) (fun _ _ _ h => h) rfl (fun w hSw => by obtain ⟨s1, s2, s3, s4, s5, s6, s7⟩ := hSw; unfold execOp; simp; go_simp) HS0 ?_
              refine heldRun (i := 3) 142 (.bool false) rfl rfl (by kernel_rfl) (by kernel_rfl) (by kernel_rfl) (fun _ _ _ h => h) rfl (fun w hSw => by obtain ⟨s1, s2, s3, s4, s5, s6, s7⟩ := hSw; unfold execOp; simp [ev_put, hsz, sz_put]; go_simp) HS0 ?_
              refine heldMove (i := 4) 143 142 (.bool false) rfl rfl rfl (by kernel_rfl) (by kernel_rfl) (by kernel_rfl) (fun _ _ _ h => h) rfl (by simp [ev_put, hsz, sz_put]) HS0 ?_
              refine heldMove (i := 5) 144 18 (.int .i64 (p : Int)) rfl rfl rfl (by kernel_rfl) (by kernel_rfl) (by kernel_rfl) (fun _ _ _ h => h) (wants 4 143 false rfl rfl (by simp [sz_put, hsz]) (by simp [ev_put, hsz, sz_put])) (by simp [ev_put, e18]) HS0 ?_
              refine heldRun (i := 6) 145 (.slice (some ⟨gR, 0, none⟩) m rc) rfl rfl (by kernel_rfl) (by kernel_rfl) (by kernel_rfl) (fun _ _ _ h => h) (wants 4 143 false rfl rfl (by simp [sz_put, hsz]) (by simp [ev_put, hsz, sz_put])) (fun w hSw => by obtain ⟨s1, s2, s3, s4, s5, s6, s7⟩ := hSw; unfold execOp; simp [ev_put, e5]; go_simp) HS0 ?_
              refine heldRun (i := 7) 146 (.int .i64 (i : Int)) rfl rfl (by kernel_rfl) (by kernel_rfl) (by kernel_rfl) (fun _ _ _ h => h) (wants 4 143 false rfl rfl (by simp [sz_put, hsz]) (by simp [ev_put, hsz, sz_put])) (fun w hSw => by obtain ⟨s1, s2, s3, s4, s5, s6, s7⟩ := hSw; unfold execOp; simp [ev_put, e17]; go_simp) HS0 ?_
              refine heldRun (i := 8) 147 (.pointer (some ⟨gR, i * 3, none⟩)) rfl rfl (by kernel_rfl) (by kernel_rfl) (by kernel_rfl) (fun _ _ _ h => h) (wants 4 143 false rfl rfl (by simp [sz_put, hsz]) (by simp [ev_put, hsz, sz_put])) (fun w hSw => by obtain ⟨s1, s2, s3, s4, s5, s6, s7⟩ := hSw; unfold execOp; simp [ev_put, hsz, sz_put]; go_simp) HS0 ?_
              refine heldRun (i := 9) 148 (.pointer (some ⟨gR, i * 3 + 2, none⟩)) rfl rfl (by kernel_rfl) (by kernel_rfl) (by kernel_rfl) (fun _ _ _ h => h) (wants 4 143 false rfl rfl (by simp [sz_put, hsz]) (by simp [ev_put, hsz, sz_put])) (fun w hSw => by obtain ⟨s1, s2, s3, s4, s5, s6, s7⟩ := hSw; unfold execOp; simp [ev_put, hsz, sz_put]; go_simp) HS0 ?_
              refine heldRun (i := 10) 149 (.int .i64 (p : Int)) rfl rfl (by kernel_rfl) (by kernel_rfl) (by kernel_rfl) (fun _ _ _ h => h) (wants 4 143 false rfl rfl (by simp [sz_put, hsz]) (by simp [ev_put, hsz, sz_put])) (fun w hSw => by obtain ⟨s1, s2, s3, s4, s5, s6, s7⟩ := hSw; unfold execOp; simp [ev_put, hsz, sz_put]; go_simp) HS0 ?_
              refine heldRun (i := 11) 150 (.bool false) rfl rfl (by kernel_rfl) (by kernel_rfl) (by kernel_rfl) (fun _ _ _ h => h) (wants 4 143 false rfl rfl (by simp [sz_put, hsz]) (by simp [ev_put, hsz, sz_put])) (fun w hSw => by obtain ⟨s1, s2, s3, s4, s5, s6, s7⟩ := hSw; unfold execOp; simp [ev_put, hsz, sz_put]; go_simp) HS0 ?_
              refine heldRun (i := 12) 151 (.bool false) rfl rfl (by kernel_rfl) (by kernel_rfl) (by kernel_rfl) (fun _ _ _ h => h) rfl (fun w hSw => by obtain ⟨s1, s2, s3, s4, s5, s6, s7⟩ := hSw; unfold execOp; simp [ev_put, hsz, sz_put]; go_simp) HS0 ?_
              refine heldMove (i := 13) 152 151 (.bool false) rfl rfl rfl (by kernel_rfl) (by kernel_rfl) (by kernel_rfl) (fun _ _ _ h => h) rfl (by simp [ev_put, hsz, sz_put]) HS0 ?_
              refine heldRun (i := 14) 153 (.pointer (some ⟨bx, 1, none⟩)) rfl rfl (by kernel_rfl) (by kernel_rfl) (by kernel_rfl) (fun _ _ _ h => h) (wants 13 152 false rfl rfl (by simp [sz_put, hsz]) (by simp [ev_put, hsz, sz_put])) (fun w hSw => by obtain ⟨s1, s2, s3, s4, s5, s6, s7⟩ := hSw; unfold execOp; simp [ev_put, e19]; go_simp) HS0 ?_
              refine heldRun (i := 15) 154 (.slice lo ln lc) rfl rfl (by kernel_rfl) (by kernel_rfl) (by kernel_rfl) (fun _ _ _ h => h) (wants 13 152 false rfl rfl (by simp [sz_put, hsz]) (by simp [ev_put, hsz, sz_put])) (fun w hSw => by obtain ⟨s1, s2, s3, s4, s5, s6, s7⟩ := hSw; unfold execOp; simp [ev_put, hsz, sz_put]; go_simp) HS0 ?_
              refine heldRun (i := 16) 155 (.slice (some ⟨gR, 0, none⟩) m rc) rfl rfl (by kernel_rfl) (by kernel_rfl) (by kernel_rfl) (fun _ _ _ h => h) (wants 13 152 false rfl rfl (by simp [sz_put, hsz]) (by simp [ev_put, hsz, sz_put])) (fun w hSw => by obtain ⟨s1, s2, s3, s4, s5, s6, s7⟩ := hSw; unfold execOp; simp [ev_put, e5]; go_simp) HS0 ?_
              refine heldRun (i := 17) 156 (.int .i64 (i : Int)) rfl rfl (by kernel_rfl) (by kernel_rfl) (by kernel_rfl) (fun _ _ _ h => h) (wants 13 152 false rfl rfl (by simp [sz_put, hsz]) (by simp [ev_put, hsz, sz_put])) (fun w hSw => by obtain ⟨s1, s2, s3, s4, s5, s6, s7⟩ := hSw; unfold execOp; simp [ev_put, e17]; go_simp) HS0 ?_
              refine heldRun (i := 18) 157 (.pointer (some ⟨gR, i * 3, none⟩)) rfl rfl (by kernel_rfl) (by kernel_rfl) (by kernel_rfl) (fun _ _ _ h => h) (wants 13 152 false rfl rfl (by simp [sz_put, hsz]) (by simp [ev_put, hsz, sz_put])) (fun w hSw => by obtain ⟨s1, s2, s3, s4, s5, s6, s7⟩ := hSw; unfold execOp; simp [ev_put, hsz, sz_put]; go_simp) HS0 ?_
              refine heldRun (i := 19) 158 (.pointer (some ⟨gR, i * 3 + 1, none⟩)) rfl rfl (by kernel_rfl) (by kernel_rfl) (by kernel_rfl) (fun _ _ _ h => h) (wants 13 152 false rfl rfl (by simp [sz_put, hsz]) (by simp [ev_put, hsz, sz_put])) (fun w hSw => by obtain ⟨s1, s2, s3, s4, s5, s6, s7⟩ := hSw; unfold execOp; simp [ev_put, hsz, sz_put]; go_simp) HS0 ?_
              refine heldRun (i := 20) 159 (.slice rro ln rrc) rfl rfl (by kernel_rfl) (by kernel_rfl) (by kernel_rfl) (fun _ _ _ h => h) (wants 13 152 false rfl rfl (by simp [sz_put, hsz]) (by simp [ev_put, hsz, sz_put])) (fun w hSw => by obtain ⟨s1, s2, s3, s4, s5, s6, s7⟩ := hSw; unfold execOp; simp [ev_put, hsz, sz_put]; go_simp) HS0 ?_
              refine heldCall (i := 21) 160 19 #[.slice lo ln lc, .slice rro ln rrc] rfl rfl (by kernel_rfl) (wants 13 152 false rfl rfl (by simp [sz_put, hsz]) (by simp [ev_put, hsz, sz_put])) (by unfold execOp; simp; go_simp) ?_
              refine (same_true' ln ln lc rrc lo rro bs _ HLN.out HLN.out (by exact HRL.out) (by exact HRR.out) HBS.out).mono ?_
              rintro e w9 ⟨rfl, hw9⟩
              subst hw9
              refine ⟨_, rfl, HS0, ?_⟩
              refine heldRun (i := 22) 161 (.bool false) rfl rfl (by kernel_rfl) (by kernel_rfl) (by kernel_rfl) (fun _ _ _ h => h) (wants 13 152 false rfl rfl (by simp [sz_put, hsz]) (by simp [ev_put, hsz, sz_put])) (fun w hSw => by obtain ⟨s1, s2, s3, s4, s5, s6, s7⟩ := hSw; unfold execOp; simp [ev_put, hsz, sz_put]; go_simp) HS0 ?_
              refine heldRun (i := 23) 162 (.bool false) rfl rfl (by kernel_rfl) (by kernel_rfl) (by kernel_rfl) (fun _ _ _ h => h) rfl (fun w hSw => by obtain ⟨s1, s2, s3, s4, s5, s6, s7⟩ := hSw; unfold execOp; simp [ev_put, hsz, sz_put]; go_simp) HS0 ?_
              refine wpAnyH_done (by kernel_rfl) ?_ _
              subst hA
              simp only [put_mk, List.set_cons_succ, List.set_cons_zero]
              have hszb2 : bx < Wb.heap.size := (Array.getElem?_eq_some_iff.1 hbox).1
              have hn1 := hBN.cell
              have hn2 := hBN.frozen
              have HG1 : Hid (EB w stop ro ko m rc nx Bk w2.heap.size w4.heap.size xs fr lr (Wb.setCell ⟨bM, 0, none⟩ (.int .i64 ((i : Int) + 1))).drew) := hEB.below HTOP.out (((Below.refl _ _).setCell (p := ⟨bM, 0, none⟩) (by show bN ≤ bM; omega) _).drew)
              have HG2 : Hid (Box (Wb.setCell ⟨bM, 0, none⟩ (.int .i64 ((i : Int) + 1))) bN 3 (.int .i64 (io : Nat))) := hBO.below ((Below.refl bM _).setCell (p := ⟨bM, 0, none⟩) (Nat.le_refl _) _) (by omega)
              have HG3 : Hid ((Wb.setCell ⟨bM, 0, none⟩ (.int .i64 ((i : Int) + 1))).heap[W0.heap.size]? = some (.deferred (some []))) := (Below.heap_setCell _ _ _ _ (by show W0.heap.size ≠ bM; omega)).trans hDD
              have HG4 : Hid (Box (Wb.setCell ⟨bM, 0, none⟩ (.int .i64 ((i : Int) + 1))) bM 3 (.int .i64 ((i : Int) + 1))) := hBN.set _
              have HG5 : Hid (RecKept W5.heap.size 2 W (Wb.setCell ⟨bM, 0, none⟩ (.int .i64 ((i : Int) + 1)))) := hRK.trans (RecKept.setCell _ _ _ (.inr (by show W5.heap.size + 2 ≤ bM; omega)))
              have HG6 : Hid (Wb.heap.size ≤ (Wb.setCell ⟨bM, 0, none⟩ (.int .i64 ((i : Int) + 1))).heap.size) := by show _ ≤ _; simp [World.setCell]
              clear hEB hBO hDD hBN hRK hrec2 hown hbox hlb hrr hr1 hr2 HS0 d0 d1 d2 hwv hnv hx0 hx1 HRR HRL hp hln hv1 hv2 hv3
              gi_wp2
              exact ⟨RecKept.setCell Wb ⟨bM, 0, none⟩ (.int .i64 ((i : Int) + 1)) (.inl (by show bM < bM + 1; omega)), HG6.out, HG1.out, HG2.out, by first | exact HG3.out | (rw [← hsW0]; exact HG3.out), HG4.out, HG5.out, Nat.le_trans hSZ HG6.out⟩
            case hdone3 =>
              rintro X ⟨hEB, hBO, hDD, hBM, hRK, hSZ⟩ hsX
              have hBm : Box X bM 3 (.int .i64 (m : Nat)) := by rw [HM.out]; exact hBM
              have c1 := hBm.cell
              have c2 := hBO.cell
              have c3 := hBO.frozen
              have c4 := hEB.wv.cell
              have HG1 : Hid (EB w stop ro ko m rc nx Bk w2.heap.size w4.heap.size xs fr lr (X.setCell ⟨bN, 0, none⟩ (.int .i64 ((io : Int) + 1)))) := hEB.below HTOP.out ((Below.refl _ _).setCell (p := ⟨bN, 0, none⟩) (Nat.le_refl _) _)
              have HG2 : Hid (Box (X.setCell ⟨bN, 0, none⟩ (.int .i64 ((io : Int) + 1))) bN 3 (.int .i64 ((io : Int) + 1))) := hBO.set _
              have HG3 : Hid ((X.setCell ⟨bN, 0, none⟩ (.int .i64 ((io : Int) + 1))).heap[W0.heap.size]? = some (.deferred (some []))) := (Below.heap_setCell _ _ _ _ (by show W0.heap.size ≠ bN; omega)).trans hDD
              have HG5 : Hid (RecKept W5.heap.size 2 W (X.setCell ⟨bN, 0, none⟩ (.int .i64 ((io : Int) + 1)))) := hRK.trans (RecKept.setCell _ _ _ (.inl (by show bN < W5.heap.size; omega)))
              have HG6 : Hid (W.heap.size ≤ (X.setCell ⟨bN, 0, none⟩ (.int .i64 ((io : Int) + 1))).heap.size) := by show _ ≤ _; simp [World.setCell]; omega
              clear hEB hBO hDD hBM hRK hBm HE6 HN6 HD6 HM6 HK6 HR6
              gi_wp2
              exact ⟨HG5.out, HG6.out, HG1.out, HG2.out, HG3.out⟩
          · have hb3 : decide ((io : Int) < 3) = false := by simp; omega
            have HF1 : Hid (EB w stop ro ko m rc nx Bk w2.heap.size w4.heap.size xs fr lr (W.setCell ⟨bN, 0, none⟩ (.int .i64 ((io : Int) + 1))).drew) := HE.out.below HTOP.out (((Below.refl _ _).setCell (p := ⟨bN, 0, none⟩) (Nat.le_refl _) _).drew)
            have HF2 : Hid ((W.setCell ⟨bN, 0, none⟩ (.int .i64 ((io : Int) + 1))).heap[W0.heap.size]? = some (.deferred (some []))) := (Below.heap_setCell _ _ _ _ (by show W0.heap.size ≠ bN; omega)).trans HDD.out
            gi_wp2
            exact ⟨RecKept.setCell W ⟨bN, 0, none⟩ (.int .i64 ((io : Int) + 1)) (.inl (by show bN < W5.heap.size; omega)), by show W.heap.size ≤ (W.setCell ⟨bN, 0, none⟩ (.int .i64 ((io : Int) + 1))).heap.size; simp [World.setCell], HF1.out, HBn.out.set _, by first | exact HF2.out | (rw [← hsW0]; exact HF2.out)⟩
        case hdone2 =>
          rintro W ⟨hEB, hBN, hDD⟩ hsW hD2
          have hBm : Box W bN 3 (.int .i64 (m : Nat)) := by rw [HM.out]; exact hBN
          have HEB9 : Hid (EB w stop ro ko m rc nx Bk w2.heap.size w4.heap.size xs fr lr W) := hEB
          have HD1 : Hid (W.heap[W0.heap.size]? = some (.deferred (some []))) := hDD
          have HD2 : Hid (W.heap[W5.heap.size]? = some (.deferred (some []))) := hD2
          have c1 := hBm.cell
          have c2 := hEB.wv.cell
          clear hEB hBN hDD hD2 hBm HE5 HB5 HD5
          gi_wp2_with fail
          refine ⟨trivial, (callsIn_wide.2 (live_true W HEB9.out.tab)).mono ?_⟩
          rintro e W9 ⟨rfl, h9⟩
          have HR9 : Hid (Box W9 (w.heap.size + 1) 4 (.bool false)) := HEB9.out.res.keep h9
          have HL9 : Hid (Below w.heap.size w W9) := HEB9.out.low.trans (h9.mono HEB9.out.low.size)
          have HA1 : Hid (W9.heap[W0.heap.size]? = some (.deferred (some []))) := (h9.block _ (by omega)).trans HD1.out
          have HA2 : Hid (W9.heap[W5.heap.size]? = some (.deferred (some []))) := (h9.block _ (by omega)).trans HD2.out
          have c3 := HR9.out.cell
          have c4 := HR9.out.frozen
          clear h9 c1 c2 HD1 HD2
          have hA2 : (W9.setCell ⟨w.heap.size + 1, 0, none⟩ (.bool true)).heap[W5.heap.size]? = some (.deferred (some [])) := (Below.heap_setCell _ _ _ _ (by show W5.heap.size ≠ w.heap.size + 1; have := HTOP.out.base; omega)).trans HA2.out
          have hA1 : ((W9.setCell ⟨w.heap.size + 1, 0, none⟩ (.bool true)).putObj W5.heap.size (.deferred none)).heap[bN + 1]? = some (.deferred (some [])) := by
            rw [World.putObj_heap_other (by omega), ← hsW0]
            exact (Below.heap_setCell _ _ _ _ (by show W0.heap.size ≠ w.heap.size + 1; have := HTOP.out.base; omega)).trans HA1.out
          have hA0 : Box (((W9.setCell ⟨w.heap.size + 1, 0, none⟩ (.bool true)).putObj W5.heap.size (.deferred none)).putObj (bN + 1) (.deferred none)) (w.heap.size + 1) 4 (.bool true) := by
            have hb := HTOP.out.base
            unfold Box
            rw [World.putObj_heap_other (by omega), World.putObj_heap_other (by omega)]
            exact HR9.out.set _
          have hc5 := hA0.cell
          have HLF : Hid (Below w.heap.size w (((W9.setCell ⟨w.heap.size + 1, 0, none⟩ (.bool true)).putObj W5.heap.size (.deferred none)).putObj (bN + 1) (.deferred none))) := ((HL9.out.setCell (p := ⟨w.heap.size + 1, 0, none⟩) (by simp) _).trans (putObj_below _ _ (by have := HTOP.out.base; omega))).trans (putObj_below _ _ (by have := HTOP.out.base; omega))
          clear hA0
          gi_wp2
          refine ⟨by simp, .inl ⟨_, _, rfl, run_takeDeferred hA2, ?_⟩⟩
          refine ⟨by simp, .inl ⟨_, _, rfl, run_takeDeferred hA1, ?_⟩⟩
          refine ⟨.bool true, ?_, rfl, HLF.out⟩
          simp [results, Tryd.results4, go_sem, hc5]
theorem frameEaches_walk (cb : Nat) (bo : Option Addr) (stop : Int) (xs : List Nat) (w : World) (hl : xs.length ≤ 1048576) (hcb : xs.length ≤ cb) (hx : ∀ x ∈ xs, x < 256) (hb : Row w bo xs) (hT : Tab w) :
    Calls Tryd.prog 4 #[.slice bo xs.length cb, .int .i64 stop] w fun e w' => e = .returned (.bool true) ∧ Below w.heap.size w w' :=
  callsIn_wide.1 (frameEaches_in cb bo stop xs w hl hcb hx hb hT)
end Go.Proofs.YtmgppjfohabdmabDoor
