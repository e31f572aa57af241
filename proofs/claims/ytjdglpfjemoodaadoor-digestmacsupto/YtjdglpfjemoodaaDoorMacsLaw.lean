/- The walk of the law DigestMacs: for every key and all parts it returns true and turns nothing old; the tables of roots are a condition. -/
import Derived.Test.YtjdglpfjemoodaaDoorSlRow
import Derived.Test.YtjdglpfjemoodaaDoorRefMac
import Derived.Test.YtjdglpfjemoodaaDoorRefJoined
import Derived.Test.YtjdglpfjemoodaaDoorSameFn
import Derived.Test.YtjdglpfjemoodaaDoorHeldSteps
import Derived.Test.YtjdglpfjemoodaaDoorLive2
import Derived.Test.YtjdglpfjemoodaaDoorArrEq
import Derived.Test.YtjdglpfjemoodaaDoorRows1
import Derived.Test.YtjdglpfjemoodaaDoorSmallOwn
namespace Go.Proofs.YtjdglpfjemoodaaDoor
open Go.RowKit

theorem slice_hi4 (g off n cap m : Nat) (i : Int) (hi : i = (m : Int)) (hm : m ≤ cap) (h0 : 0 < cap) (w : World) : (Instr.slice 26 (.slice (some ⟨g, off, none⟩) n cap) none (some (.int .i64 i)) none).run Tryd.prog w = .ok (.slice (some ⟨g, off, none⟩) m cap) w := by
  subst hi
  rw [run_slice_h w 26 (some ⟨g, off, none⟩) n cap underBytes .i64 (m : Int) (by omega) (by omega), sizeRun]
  simp [Result.andThen, sliced, add_none, show ¬ cap = 0 by omega]
/-- The lent rows so far: where they lie, with their marks. -/
structure Lent (w : World) (pl : List (List Nat)) (k : Nat) (G C : Nat → Nat) (vF vL : Value) : Prop where
  row : ∀ i, i < k → Row w (some ⟨G i, 0, none⟩) (pl.getD i [] ++ marks 64)
  fit : ∀ i, i < k → (pl.getD i []).length + 64 ≤ C i
  lt : ∀ i, i < k → G i < w.heap.size
  offF : ∀ i, i < k → vF.ownBlock ≠ some (G i)
  offL : ∀ i, i < k → vL.ownBlock ≠ some (G i)
def fullsOf (pl : List (List Nat)) (G C : Nat → Nat) (k : Nat) : List Value := (List.range k).map fun i => .slice (some ⟨G i, 0, none⟩) ((pl.getD i []).length + 64) (C i)
def lendOf (pl : List (List Nat)) (G C : Nat → Nat) (k : Nat) : List Value := (List.range k).map fun i => .slice (some ⟨G i, 0, none⟩) (pl.getD i []).length (C i)
theorem Lent.keep {w w' : World} {pl : List (List Nat)} {k : Nat} {G C : Nat → Nat} {vF vL : Value} (h : Lent w pl k G C vF vL) (hb : Below w.heap.size w w') : Lent w' pl k G C vF vL :=
  ⟨fun i hi => (h.row i hi).keep hb, h.fit, fun i hi => Nat.lt_of_lt_of_le (h.lt i hi) hb.size, h.offF, h.offL⟩
theorem row_far {w w' : World} {r : Option Nat} {g : Nat} {xs : List Nat} (h : Row w (some ⟨g, 0, none⟩) xs) (hg : w.grownBy w' r) (hl : g < w.heap.size) (hr : r ≠ some g) : Row w' (some ⟨g, 0, none⟩) xs := by
  rcases h with h | ⟨b, off, e, hc⟩
  · exact .inl h
  · cases e
    refine .inr ⟨g, 0, rfl, fun i hi => ?_⟩
    rw [World.cell?_of_block (hg.block g hl (fun e => hr e.symm))]
    exact hc i hi
theorem Lent.growF {w w' : World} {pl : List (List Nat)} {k m : Nat} {G C : Nat → Nat} {vF vL v' : Value} (h : Lent w pl k G C vF vL) (hg : w.grownBy w' vF.ownBlock) (hv : v'.ownBlock = vF.ownBlock ∨ v'.ownBlock = some m) (hm : w.heap.size ≤ m) : Lent w' pl k G C v' vL :=
  ⟨fun i hi => row_far (h.row i hi) hg (h.lt i hi) (h.offF i hi), h.fit, fun i hi => Nat.lt_of_lt_of_le (h.lt i hi) hg.size,
   fun i hi => by rcases hv with hv | hv <;> rw [hv]; exact h.offF i hi; intro e; cases e; have := h.lt i hi; omega, h.offL⟩
theorem Lent.growL {w w' : World} {pl : List (List Nat)} {k m : Nat} {G C : Nat → Nat} {vF vL v' : Value} (h : Lent w pl k G C vF vL) (hg : w.grownBy w' vL.ownBlock) (hv : v'.ownBlock = vL.ownBlock ∨ v'.ownBlock = some m) (hm : w.heap.size ≤ m) : Lent w' pl k G C vF v' :=
  ⟨fun i hi => row_far (h.row i hi) hg (h.lt i hi) (h.offL i hi), h.fit, fun i hi => Nat.lt_of_lt_of_le (h.lt i hi) hg.size, h.offF,
   fun i hi => by rcases hv with hv | hv <;> rw [hv]; exact h.offL i hi; intro e; cases e; have := h.lt i hi; omega⟩
theorem Lent.more {w : World} {pl : List (List Nat)} {k g c : Nat} {G C : Nat → Nat} {vF vL : Value} (h : Lent w pl k G C vF vL) (hr : Row w (some ⟨g, 0, none⟩) (pl.getD k [] ++ marks 64)) (hc : (pl.getD k []).length + 64 ≤ c) (hl : g < w.heap.size) (hF : vF.ownBlock ≠ some g) (hL : vL.ownBlock ≠ some g) :
    Lent w pl (k + 1) (fun i => if i = k then g else G i) (fun i => if i = k then c else C i) vF vL := by
  refine ⟨fun i hi => ?_, fun i hi => ?_, fun i hi => ?_, fun i hi => ?_, fun i hi => ?_⟩ <;> by_cases e : i = k <;> simp only [e, if_true, if_false]
  · exact hr
  · exact h.row i (by omega)
  · exact hc
  · exact h.fit i (by omega)
  · exact hl
  · exact h.lt i (by omega)
  · exact hF
  · exact h.offF i (by omega)
  · exact hL
  · exact h.offL i (by omega)
theorem fulls_succ (pl : List (List Nat)) (G C : Nat → Nat) (k g c : Nat) : fullsOf pl (fun i => if i = k then g else G i) (fun i => if i = k then c else C i) (k + 1) = fullsOf pl G C k ++ [.slice (some ⟨g, 0, none⟩) ((pl.getD k []).length + 64) c] := by
  unfold fullsOf
  rw [List.range_succ, List.map_append]
  congr 1
  · apply List.map_congr_left
    intro i hi
    have := List.mem_range.1 hi
    simp [show i ≠ k by omega]
  · simp
theorem lend_succ (pl : List (List Nat)) (G C : Nat → Nat) (k g c : Nat) : lendOf pl (fun i => if i = k then g else G i) (fun i => if i = k then c else C i) (k + 1) = lendOf pl G C k ++ [.slice (some ⟨g, 0, none⟩) (pl.getD k []).length c] := by
  unfold lendOf
  rw [List.range_succ, List.map_append]
  congr 1
  · apply List.map_congr_left
    intro i hi
    have := List.mem_range.1 hi
    simp [show i ≠ k by omega]
  · simp

set_option linter.unusedSimpArgs false in
set_option maxHeartbeats 4000000 in
set_option maxRecDepth 100000 in
theorem digestMacs_walk (n cap pn pc : Nat) (ao po : Option Addr) (xs : List Nat) (pl : List (List Nat)) (w : World) (hl : n ≤ 1048576) (hn : n = xs.length) (hx : ∀ x ∈ xs, x < 256) (hr : Row w ao xs)
    (hpn : pn = pl.length) (hpl : pn ≤ 1048576) (hpf : pl.flatten.length ≤ 1048576) (hp : Parts w po pl) (hT : Roots w 0) (hT1 : Roots w 1) :
    Calls Tryd.prog 6 #[.slice ao n cap, .slice po pn pc] w fun e w' => e = .returned (.bool true) ∧ Below w.heap.size w w' := by
  have HN : Hid (n = xs.length) := hn
  have HX : Hid (∀ x ∈ xs, x < 256) := hx
  have HR : Hid (Row w ao xs) := hr
  have HT : Hid (Roots w 0) := hT
  have HT1 : Hid (Roots w 1) := hT1
  have HPN : Hid (pn = pl.length) := hpn
  have HPF : Hid (pl.flatten.length ≤ 1048576) := hpf
  have HP : Hid (Parts w po pl) := hp
  have HLK : Hid (∀ k, k < pn → (pl.getD k []).length ≤ 1048576) := fun k hk => by
    have h1 := flat_le pl (k + 1)
    rw [take_flat (by omega), List.length_append] at h1
    omega
  clear hx hr hT hT1 hpn hp hpf hn
  go_enter Tryd.func6, Tryd.ntmps6
  go_wp2
  go_loopw [5, 6, 7] (fun vF vL i wr => ∃ (k : Nat) (G C : Nat → Nat), k ≤ pn ∧ i = .int .i64 (k : Int) ∧ Hid (OwnS wr w.heap.size vF (fullsOf pl G C k)) ∧ Hid (OwnS wr w.heap.size vL (lendOf pl G C k)) ∧ Hid (Aside vF vL) ∧ Hid (Lent wr pl k G C vF vL) ∧ Hid (Below w.heap.size w wr)) (fun _ _ i _ => pn - (intOf i).toNat)
  case atStart => exact ⟨0, fun _ => 0, fun _ => 0, Nat.zero_le _, rfl, ownS_nil _ _, ownS_nil _ _, apart_nil _, ⟨fun i hi => by omega, fun i hi => by omega, fun i hi => by omega, fun i hi => by omega, fun i hi => by omega⟩, Below.refl _ _⟩
  case round =>
    obtain ⟨k, G, C, hk, rfl, HF, HL, HA, HE, HB⟩ := hrel
    have hs := HB.out.size
    by_cases hlt : k < pn
    · obtain ⟨b, off, rfl, ak, ck, hck, hlk, hrk, hxk⟩ := HP.out.at k (by rw [← HPN.out]; exact hlt)
      have HCK : Hid (∀ W, Below w.heap.size w W → W.cell? ⟨b, off + k, none⟩ = some (.slice ak (pl.getD k []).length ck)) := fun W h => cell_kept hck h
      have HRK : Hid (Row wr ak (pl.getD k [])) := hrk.keep HB.out
      have hml := HLK.out k hlt
      have hdt : decide ((k : Int) < (pn : Int)) = true := decide_eq_true (by omega)
      have HFL : Hid ((fullsOf pl G C k).length = k) := by show _ = _; simp [fullsOf]
      have HLL : Hid ((lendOf pl G C k).length = k) := by show _ = _; simp [lendOf]
      have HFS := hide (fun g c => fulls_succ pl G C k g c)
      have HLS := hide (fun g c => lend_succ pl G C k g c)
      clear hck hrk hxk
      have ckr := HCK.out wr HB.out
      obtain ⟨m, hm⟩ : ∃ m, m = (pl.getD k []).length := ⟨_, rfl⟩
      have HM : Hid (m = (pl.getD k []).length) := hm
      rw [← hm] at HCK hlk hml ckr
      rw [← hm] at HFS HLS
      clear hm
      go_wp2_with fail
      rw [HM.out]
      refine (lent_row ck ak (pl.getD k []) wr (by rw [← HM.out]; omega) HRK.out).mono ?_
      rw [← HM.out]
      rintro e w2 ⟨g, c, rfl, h2⟩
      obtain ⟨hc2, hg2, hgl2, _, hrow2, hb2⟩ := h2.out
      have HR2 : Hid (Row w2 (some ⟨g, 0, none⟩) (pl.getD k [] ++ marks 64)) := hrow2
      have HB2 : Hid (Below w.heap.size w w2) := HB.out.trans (hb2.mono hs)
      have HF2 : Hid (OwnS w2 w.heap.size u5 (fullsOf pl G C k)) := HF.out.keep hb2
      have HL2 : Hid (OwnS w2 w.heap.size u6 (lendOf pl G C k)) := HL.out.keep hb2
      have HE2 : Hid (Lent w2 pl (k + 1) (fun i => if i = k then g else G i) (fun i => if i = k then c else C i) u5 u6) := (HE.out.keep hb2).more hrow2 (by have := HM.out; omega) hgl2 (fun e => by have := (World.ownsRow.lt HF.out g e).2; omega) (fun e => by have := (World.ownsRow.lt HL.out g e).2; omega)
      have hs2 := HB2.out.size
      have ck2 := HCK.out w2 HB2.out
      clear h2 hrow2 hb2 HF HL HE ckr
      go_wp2_with (first | (at_builtin; refine wpList_append_sl rfl _ _ rfl w.heap.size _ (fullsOf pl G C k) rfl (HF2.out.alloc _) ⟨w2.heap.size, 0, none⟩ 1 (.slice (some ⟨g, 0, none⟩) (m + 64) c) rfl (by simp) rfl (by have := HFL.out; omega) (by simp; omega) ?_) | fail)
      rintro v3 w3 hown3 hgr3 hat3
      have HF3 : Hid (OwnS w3 w.heap.size v3 (fullsOf pl (fun i => if i = k then g else G i) (fun i => if i = k then c else C i) (k + 1))) := by rw [HFS.out]; exact hown3
      have HL3 : Hid (OwnS w3 w.heap.size u6 (lendOf pl G C k)) := (HL2.out.alloc _).other hgr3 HA.out.symm
      have HA3 : Hid (Aside v3 u6) := (HL2.out.aside HA.out.symm hat3 (by omega)).symm
      have HE3 : Hid (Lent w3 pl (k + 1) (fun i => if i = k then g else G i) (fun i => if i = k then c else C i) v3 u6) := (HE2.out.keep (below_new w2 _)).growF hgr3 hat3 (by simp)
      have HB3 : Hid (Below w.heap.size w w3) := (HB2.out.alloc hs2 _).grown hgr3 (by simp; omega) HF2.out.ge
      have hs3 := HB3.out.size
      have ck3 := HCK.out w3 HB3.out
      have hsl := slice_hi4 g 0 (m + 64) c m (m : Int) rfl (by omega) (by omega)
      clear hown3 hgr3 hat3 ck2 HF2 HL2 HE2
      go_wp2_with (first | (at_builtin; refine wpList_append_sl rfl _ _ rfl w.heap.size _ (lendOf pl G C k) rfl (HL3.out.alloc _) ⟨w3.heap.size, 0, none⟩ 1 (.slice (some ⟨g, 0, none⟩) m c) rfl (by simp) rfl (by have := HLL.out; omega) (by simp; omega) ?_) | fail)
      rintro v4 w4 hown4 hgr4 hat4
      have HL4 : Hid (OwnS w4 w.heap.size v4 (lendOf pl (fun i => if i = k then g else G i) (fun i => if i = k then c else C i) (k + 1))) := by rw [HLS.out]; exact hown4
      have HF4 : Hid (OwnS w4 w.heap.size v3 (fullsOf pl (fun i => if i = k then g else G i) (fun i => if i = k then c else C i) (k + 1))) := (HF3.out.alloc _).other hgr4 HA3.out
      have HA4 : Hid (Aside v3 v4) := HF3.out.aside HA3.out hat4 (by omega)
      have HE4 : Hid (Lent w4 pl (k + 1) (fun i => if i = k then g else G i) (fun i => if i = k then c else C i) v3 v4) := (HE3.out.keep (below_new w3 _)).growL hgr4 hat4 (by simp)
      have HB4 : Hid (Below w.heap.size w w4) := (HB3.out.alloc hs3 _).grown hgr4 (by simp; omega) HL3.out.ge
      clear hown4 hgr4 hat4
      go_wp2
      go_roundw
      case rel => exact ⟨k + 1, _, _, by omega, by go_num, HF4, HL4, HA4, HE4, HB4⟩
      case measure => simp [intOf]; omega
    · obtain rfl : k = pn := by omega
      have hdt : decide ((k : Int) < (k : Int)) = false := decide_eq_false (by omega)
      go_wp2_with fail
      rw [HN.out]
      refine (lent_row cap ao xs wr (by rw [← HN.out]; omega) (HR.out.keep HB.out)).mono ?_
      rw [← HN.out]
      rintro e w2 ⟨gk, kc, rfl, h2⟩
      obtain ⟨hc2, hg2, hgl2, _, hrow2, hb2⟩ := h2.out
      have HK2 : Hid (Row w2 (some ⟨gk, 0, none⟩) (xs ++ marks 64)) := hrow2
      have HB2 : Hid (Below w.heap.size w w2) := HB.out.trans (hb2.mono hs)
      have HF2 : Hid (OwnS w2 w.heap.size u5 (fullsOf pl G C k)) := HF.out.keep hb2
      have HL2 : Hid (OwnS w2 w.heap.size u6 (lendOf pl G C k)) := HL.out.keep hb2
      have HE2 : Hid (Lent w2 pl k G C u5 u6) := HE.out.keep hb2
      have hs2 := HB2.out.size
      clear h2 hrow2 hb2 HF HL HE HB HA hs
      have hsl := slice_hi4 gk 0 (n + 64) kc n (n : Int) rfl (by omega) (by omega)
      have HFL : Hid ((fullsOf pl G C k).length = k) := by show _ = _; simp [fullsOf]
      have HLL : Hid ((lendOf pl G C k).length = k) := by show _ = _; simp [lendOf]
      obtain ⟨oF, cF, hvF, hcF, hF⟩ := HF2.out.read
      obtain ⟨oL, cL, hvL, hcL, hL⟩ := HL2.out.read
      rw [HFL.out] at hvF hcF
      rw [HLL.out] at hvL hcL
      subst hvF hvL
      have HPL : Hid (Parts w2 oL pl) := by
        by_cases h0 : k = 0
        · exact .inl (List.eq_nil_of_length_eq_zero (by rw [← HPN.out]; exact h0))
        · obtain ⟨gL, e, hcell⟩ := hL (by rw [HLL.out]; omega)
          refine .inr ⟨gL, 0, e, fun i hi => ?_⟩
          have hik : i < k := by rw [HPN.out]; exact hi
          have hfit := HE2.out.fit i hik
          refine ⟨some ⟨G i, 0, none⟩, C i, ?_, by omega, (HE2.out.row i hik).take, ?_⟩
          · rw [Nat.zero_add, hcell i (by rw [HLL.out]; exact hik)]; simp [lendOf, hik]
          · have h5 := parts_lt HP.out (pl.getD i []) (by simp [List.getD, hi])
            exact h5
      have HFC : Hid (∀ i, i < k → ∃ gF, oF = some ⟨gF, 0, none⟩ ∧ w2.cell? ⟨gF, i, none⟩ = some (.slice (some ⟨G i, 0, none⟩) ((pl.getD i []).length + 64) (C i))) := fun i hi => by
        obtain ⟨gF, e, hcell⟩ := hF (by rw [HFL.out]; omega)
        exact ⟨gF, e, by rw [hcell i (by rw [HFL.out]; exact hi)]; simp [fullsOf, hi]⟩
      have HLC : Hid (∀ i, i < k → ∃ gL, oL = some ⟨gL, 0, none⟩ ∧ w2.cell? ⟨gL, i, none⟩ = some (.slice (some ⟨G i, 0, none⟩) (pl.getD i []).length (C i))) := fun i hi => by
        obtain ⟨gL, e, hcell⟩ := hL (by rw [HLL.out]; omega)
        exact ⟨gL, e, by rw [hcell i (by rw [HLL.out]; exact hi)]; simp [lendOf, hi]⟩
      clear hF hL HF2 HL2 HFL HLL
      have HMO : Hid ((macOf xs pl).length = 32) := sha_length _
      generalize hmo : macOf xs pl = mo at *
      replace hmo := hide hmo
      have HJO : Hid ((sha (joinBytes pl)).length = 32) := sha_length _
      generalize hjo : sha (joinBytes pl) = jo at *
      replace hjo := hide hjo
      go_wp2_with fail
      refine (mac_any n kc k cL (some ⟨gk, 0, none⟩) oL xs pl w2 HN.out (by omega) (by omega) HX.out HK2.out.take HPN.out (by omega) (by have := HPF.out; omega) HPL.out (HT.out.keep HB2.out)).mono ?_
      rintro e w3 ⟨rfl, h3⟩
      rw [hmo.out]
      have H23 : Hid (Below w2.heap.size w2 w3) := h3
      have hs3 := h3.size
      clear h3
      have HC3 : Hid ((Tryd.prog.info? 24).map (·.size) = some (mo.map bv).toArray.size) := by show _ = _; rw [size24]; simp [HMO.out]
      go_upto_region 10 with (first | (refine wpList_store_row rfl 24 _ _ rfl w3.heap.size (mo.map bv).toArray rfl rfl 24 _ (Bl.new w3 _ _) HC3.out (by simp [HMO.out]) (all_oneCell_toArray (bv_one _)) ?_) | fail)
      obtain ⟨w4, hq4⟩ : ∃ x, x = (w3.alloc (Obj.cells #[.int .u8 0, .int .u8 0, .int .u8 0, .int .u8 0, .int .u8 0, .int .u8 0, .int .u8 0, .int .u8 0, .int .u8 0, .int .u8 0, .int .u8 0, .int .u8 0, .int .u8 0, .int .u8 0, .int .u8 0, .int .u8 0, .int .u8 0, .int .u8 0, .int .u8 0, .int .u8 0, .int .u8 0, .int .u8 0, .int .u8 0, .int .u8 0, .int .u8 0, .int .u8 0, .int .u8 0, .int .u8 0, .int .u8 0, .int .u8 0, .int .u8 0, .int .u8 0] 24)).setRow w3.heap.size (mo.map bv).toArray := ⟨_, rfl⟩
      rw [← hq4]
      have HG4 : Hid (Bl w4 w3.heap.size (mo.map bv) 24) := by rw [hq4]; exact (Bl.new w3 _ _).setRow _
      have H34 : Hid (Below w3.heap.size w3 w4) := by rw [hq4]; exact below_setRow (below_new w3 _) (Nat.le_refl _) _
      clear hq4
      have H24 : Hid (Below w2.heap.size w2 w4) := H23.out.trans (H34.out.mono hs3)
      have HB4 : Hid (Below w.heap.size w w4) := HB2.out.trans (H24.out.mono hs2)
      obtain ⟨b10, hb10⟩ : ∃ b, b = w3.heap.size := ⟨_, rfl⟩
      rw [← hb10] at HG4 ⊢
      clear hb10 H23 H34
      go_wp2_with fail
      refine (joined_any k cL oL pl w4 HPN.out (by omega) (by rw [join_length, ← HPN.out]; have := HPF.out; omega) (HPL.out.keep H24.out) (HT.out.keep HB4.out)).mono ?_
      rintro e w5 ⟨rfl, h5⟩
      rw [hjo.out]
      have H25 : Hid (Below w2.heap.size w2 w5) := H24.out.trans (h5.mono H24.out.size)
      have HG5 : Hid (Bl w5 b10 (mo.map bv) 24) := HG4.out.keep h5
      have hs25 := H25.out.size
      clear h5
      have HC5 : Hid ((Tryd.prog.info? 24).map (·.size) = some (jo.map bv).toArray.size) := by show _ = _; rw [size24]; simp [HJO.out]
      go_upto_region 11 with (first | (refine wpList_store_row rfl 24 _ _ rfl w5.heap.size (jo.map bv).toArray rfl rfl 24 _ (Bl.new w5 _ _) HC5.out (by simp [HJO.out]) (all_oneCell_toArray (bv_one _)) ?_) | fail)
      obtain ⟨w6, hq6⟩ : ∃ x, x = (w5.alloc (Obj.cells #[.int .u8 0, .int .u8 0, .int .u8 0, .int .u8 0, .int .u8 0, .int .u8 0, .int .u8 0, .int .u8 0, .int .u8 0, .int .u8 0, .int .u8 0, .int .u8 0, .int .u8 0, .int .u8 0, .int .u8 0, .int .u8 0, .int .u8 0, .int .u8 0, .int .u8 0, .int .u8 0, .int .u8 0, .int .u8 0, .int .u8 0, .int .u8 0, .int .u8 0, .int .u8 0, .int .u8 0, .int .u8 0, .int .u8 0, .int .u8 0, .int .u8 0, .int .u8 0] 24)).setRow w5.heap.size (jo.map bv).toArray := ⟨_, rfl⟩
      rw [← hq6]
      have HJ6 : Hid (Bl w6 w5.heap.size (jo.map bv) 24) := by rw [hq6]; exact (Bl.new w5 _ _).setRow _
      have H56 : Hid (Below w5.heap.size w5 w6) := by rw [hq6]; exact below_setRow (below_new w5 _) (Nat.le_refl _) _
      clear hq6
      have HG6 : Hid (Bl w6 b10 (mo.map bv) 24) := HG5.out.keep H56.out
      have H26 : Hid (Below w2.heap.size w2 w6) := H25.out.trans (H56.out.mono hs25)
      have HB6 : Hid (Below w.heap.size w w6) := HB2.out.trans (H26.out.mono hs2)
      have HK6 : Hid (Row w6 (some ⟨gk, 0, none⟩) (xs ++ marks 64)) := HK2.out.keep H26.out
      have HE6 : Hid (Lent w6 pl k G C (.slice oF k cF) (.slice oL k cL)) := HE2.out.keep H26.out
      have HFC6 : Hid (∀ i, i < k → ∃ gF, oF = some ⟨gF, 0, none⟩ ∧ w6.cell? ⟨gF, i, none⟩ = some (.slice (some ⟨G i, 0, none⟩) ((pl.getD i []).length + 64) (C i))) := fun i hi => by obtain ⟨gF, e, h⟩ := HFC.out i hi; exact ⟨gF, e, cell_kept h H26.out⟩
      have HLC6 : Hid (∀ i, i < k → ∃ gL, oL = some ⟨gL, 0, none⟩ ∧ w6.cell? ⟨gL, i, none⟩ = some (.slice (some ⟨G i, 0, none⟩) (pl.getD i []).length (C i))) := fun i hi => by obtain ⟨gL, e, h⟩ := HLC.out i hi; exact ⟨gL, e, cell_kept h H26.out⟩
      have hs6 := HB6.out.size
      obtain ⟨b11, hb11⟩ : ∃ b, b = w5.heap.size := ⟨_, rfl⟩
      rw [← hb11] at HJ6 ⊢
      clear hb11 H56 H25 H24 H26 HK2 HE2 HFC HLC HG4 HG5 HB2 HB4 HPL
      go_wp2
      go_loopw [12] (fun i wr => ∃ j : Nat, j ≤ k ∧ i = .int .i64 (j : Int) ∧ Hid (Below w6.heap.size w6 wr)) (fun i _ => k - (intOf i).toNat)
      case atStart => exact ⟨0, Nat.zero_le _, rfl, Below.refl _ _⟩
      case round =>
        obtain ⟨j, hj, rfl, HS⟩ := hrel
        have hss := HS.out.size
        by_cases hjk : j < k
        · obtain ⟨b, off, rfl, ak, ck, hck, hlk, hrk, hxk⟩ := HP.out.at j (by rw [← HPN.out]; exact hjk)
          obtain ⟨gF, rfl, hcF⟩ := HFC6.out j hjk
          obtain ⟨gL, rfl, hcL⟩ := HLC6.out j hjk
          have hyl := HLK.out j hjk
          have hfj := HE6.out.fit j hjk
          have HCP : Hid (∀ W, Below w6.heap.size w6 W → W.cell? ⟨b, off + j, none⟩ = some (.slice ak (pl.getD j []).length ck)) := fun W h => cell_kept hck (HB6.out.trans (h.mono hs6))
          have HCF : Hid (∀ W, Below w6.heap.size w6 W → W.cell? ⟨gF, j, none⟩ = some (.slice (some ⟨G j, 0, none⟩) ((pl.getD j []).length + 64) (C j))) := fun W h => cell_kept hcF h
          have HCL : Hid (∀ W, Below w6.heap.size w6 W → W.cell? ⟨gL, j, none⟩ = some (.slice (some ⟨G j, 0, none⟩) (pl.getD j []).length (C j))) := fun W h => cell_kept hcL h
          have HRP : Hid (∀ W, Below w6.heap.size w6 W → Row W ak (pl.getD j [])) := fun W h => hrk.keep (HB6.out.trans (h.mono hs6))
          have HRF : Hid (∀ W, Below w6.heap.size w6 W → Row W (some ⟨G j, 0, none⟩) (pl.getD j [] ++ marks 64)) := fun W h => (HE6.out.row j hjk).keep h
          have HKK : Hid (∀ W, Below w6.heap.size w6 W → Row W (some ⟨gk, 0, none⟩) (xs ++ marks 64)) := fun W h => HK6.out.keep h
          have HKR : Hid (∀ W, Below w6.heap.size w6 W → Row W ao xs) := fun W h => HR.out.keep (HB6.out.trans (h.mono hs6))
          have HYX : Hid (∀ x ∈ pl.getD j [], x < 256) := hxk
          clear hck hrk hxk hcF hcL
          generalize pl.getD j [] = ys at *
          generalize G j = gj at *
          generalize C j = cj at *
          have li : (j : Int) < (k : Int) := by omega
          have hdt : decide ((j : Int) < (k : Int)) = true := decide_eq_true (by omega)
          go_wp2
          refine region_held_var (fun W => Below w6.heap.size w6 W) (by kernel_rfl) ?_
          intro A hA
          have hsz : A.tmps.size = 125 := by rw [hA]; rfl
          have e0 : A.eval (.tmp 0) = .slice ao n cap := by rw [hA]; rfl
          have e1 : A.eval (.tmp 1) = .slice (some ⟨b, off, none⟩) k pc := by rw [hA]; rfl
          have e5 : A.eval (.tmp 5) = .slice (some ⟨gF, 0, none⟩) k cF := by rw [hA]; rfl
          have e6 : A.eval (.tmp 6) = .slice (some ⟨gL, 0, none⟩) k cL := by rw [hA]; rfl
          have e9 : A.eval (.tmp 9) = .slice (some ⟨gk, 0, none⟩) (n + 64) kc := by rw [hA]; rfl
          have e12 : A.eval (.tmp 12) = .int .i64 (j : Int) := by rw [hA]; rfl
          have HSw : Hid (Below w6.heap.size w6 wr.drew) := below_drewN HS.out 1
          refine heldMove (i := 0) 54 5 (.slice (some ⟨gF, 0, none⟩) k cF) rfl rfl rfl (by kernel_rfl) (by kernel_rfl) (by kernel_rfl) (fun _ _ _ h => h) rfl (by simp [ev_put, hsz, sz_put, e0, e1, e5, e6, e9, e12]) HSw.out ?_
          refine heldMove (i := 1) 55 12 (.int .i64 (j : Int)) rfl rfl rfl (by kernel_rfl) (by kernel_rfl) (by kernel_rfl) (fun _ _ _ h => h) rfl (by simp [ev_put, hsz, sz_put, e0, e1, e5, e6, e9, e12]) HSw.out ?_
          refine heldRun (i := 2) 56 (.pointer (some ⟨gF, j, none⟩)) rfl rfl (by kernel_rfl) (by kernel_rfl) (by kernel_rfl) (fun _ _ _ h => h) rfl (fun w hSw => by unfold execOp; simp [ev_put, hsz, sz_put, e0, e1, e5, e6, e9, e12] <;> go_simp) HSw.out ?_
          refine heldRun (i := 3) 57 (.slice (some ⟨gj, 0, none⟩) (ys.length + 64) cj) rfl rfl (by kernel_rfl) (by kernel_rfl) (by kernel_rfl) (fun _ _ _ h => h) rfl (fun w hSw => by have c := HCF.out w hSw; unfold execOp; simp [ev_put, hsz, sz_put, e0, e1, e5, e6, e9, e12] <;> go_simp) HSw.out ?_
          refine heldMove (i := 4) 58 1 (.slice (some ⟨b, off, none⟩) k pc) rfl rfl rfl (by kernel_rfl) (by kernel_rfl) (by kernel_rfl) (fun _ _ _ h => h) rfl (by simp [ev_put, hsz, sz_put, e0, e1, e5, e6, e9, e12]) HSw.out ?_
          refine heldMove (i := 5) 59 12 (.int .i64 (j : Int)) rfl rfl rfl (by kernel_rfl) (by kernel_rfl) (by kernel_rfl) (fun _ _ _ h => h) rfl (by simp [ev_put, hsz, sz_put, e0, e1, e5, e6, e9, e12]) HSw.out ?_
          refine heldRun (i := 6) 60 (.pointer (some ⟨b, off + j, none⟩)) rfl rfl (by kernel_rfl) (by kernel_rfl) (by kernel_rfl) (fun _ _ _ h => h) rfl (fun w hSw => by unfold execOp; simp [ev_put, hsz, sz_put, e0, e1, e5, e6, e9, e12] <;> go_simp) HSw.out ?_
          refine heldRun (i := 7) 61 (.slice ak ys.length ck) rfl rfl (by kernel_rfl) (by kernel_rfl) (by kernel_rfl) (fun _ _ _ h => h) rfl (fun w hSw => by have c := HCP.out w hSw; unfold execOp; simp [ev_put, hsz, sz_put, e0, e1, e5, e6, e9, e12] <;> go_simp) HSw.out ?_
          refine heldCall (i := 8) 62 15 #[.slice (some ⟨gj, 0, none⟩) (ys.length + 64) cj, .slice ak ys.length ck] rfl rfl (by kernel_rfl) rfl (by unfold execOp; simp [ev_put, hsz, sz_put, e0, e1, e5, e6, e9, e12] <;> go_simp) ?_
          refine (kept_true (ys.length + 64) cj ck gj 0 ak ys _ (by omega) rfl (by omega) (HRF.out _ HSw.out) (HRP.out _ HSw.out) HYX.out).mono ?_
          rintro e w7 ⟨rfl, hw7⟩
          subst hw7
          refine ⟨_, rfl, HSw.out, ?_⟩
          refine heldRun (i := 9) 63 (.bool false) rfl rfl (by kernel_rfl) (by kernel_rfl) (by kernel_rfl) (fun _ _ _ h => h) rfl (fun w hSw => by unfold execOp; simp [ev_put, hsz, sz_put, e0, e1, e5, e6, e9, e12] <;> go_simp) HSw.out ?_
          refine heldMove (i := 10) 64 63 (.bool false) rfl rfl rfl (by kernel_rfl) (by kernel_rfl) (by kernel_rfl) (fun _ _ _ h => h) rfl (by simp [ev_put, hsz, sz_put, e0, e1, e5, e6, e9, e12]) HSw.out ?_
          refine heldMove (i := 11) 65 6 (.slice (some ⟨gL, 0, none⟩) k cL) rfl rfl rfl (by kernel_rfl) (by kernel_rfl) (by kernel_rfl) (fun _ _ _ h => h) (wants 10 64 false rfl rfl (by simp [sz_put, hsz]) (by simp [ev_put, hsz, sz_put, e0, e1, e5, e6, e9, e12])) (by simp [ev_put, hsz, sz_put, e0, e1, e5, e6, e9, e12]) HSw.out ?_
          refine heldMove (i := 12) 66 12 (.int .i64 (j : Int)) rfl rfl rfl (by kernel_rfl) (by kernel_rfl) (by kernel_rfl) (fun _ _ _ h => h) (wants 10 64 false rfl rfl (by simp [sz_put, hsz]) (by simp [ev_put, hsz, sz_put, e0, e1, e5, e6, e9, e12])) (by simp [ev_put, hsz, sz_put, e0, e1, e5, e6, e9, e12]) HSw.out ?_
          refine heldRun (i := 13) 67 (.pointer (some ⟨gL, j, none⟩)) rfl rfl (by kernel_rfl) (by kernel_rfl) (by kernel_rfl) (fun _ _ _ h => h) (wants 10 64 false rfl rfl (by simp [sz_put, hsz]) (by simp [ev_put, hsz, sz_put, e0, e1, e5, e6, e9, e12])) (fun w hSw => by unfold execOp; simp [ev_put, hsz, sz_put, e0, e1, e5, e6, e9, e12] <;> go_simp) HSw.out ?_
          refine heldRun (i := 14) 68 (.slice (some ⟨gj, 0, none⟩) ys.length cj) rfl rfl (by kernel_rfl) (by kernel_rfl) (by kernel_rfl) (fun _ _ _ h => h) (wants 10 64 false rfl rfl (by simp [sz_put, hsz]) (by simp [ev_put, hsz, sz_put, e0, e1, e5, e6, e9, e12])) (fun w hSw => by have c := HCL.out w hSw; unfold execOp; simp [ev_put, hsz, sz_put, e0, e1, e5, e6, e9, e12] <;> go_simp) HSw.out ?_
          refine heldMove (i := 15) 69 1 (.slice (some ⟨b, off, none⟩) k pc) rfl rfl rfl (by kernel_rfl) (by kernel_rfl) (by kernel_rfl) (fun _ _ _ h => h) (wants 10 64 false rfl rfl (by simp [sz_put, hsz]) (by simp [ev_put, hsz, sz_put, e0, e1, e5, e6, e9, e12])) (by simp [ev_put, hsz, sz_put, e0, e1, e5, e6, e9, e12]) HSw.out ?_
          refine heldMove (i := 16) 70 12 (.int .i64 (j : Int)) rfl rfl rfl (by kernel_rfl) (by kernel_rfl) (by kernel_rfl) (fun _ _ _ h => h) (wants 10 64 false rfl rfl (by simp [sz_put, hsz]) (by simp [ev_put, hsz, sz_put, e0, e1, e5, e6, e9, e12])) (by simp [ev_put, hsz, sz_put, e0, e1, e5, e6, e9, e12]) HSw.out ?_
          refine heldRun (i := 17) 71 (.pointer (some ⟨b, off + j, none⟩)) rfl rfl (by kernel_rfl) (by kernel_rfl) (by kernel_rfl) (fun _ _ _ h => h) (wants 10 64 false rfl rfl (by simp [sz_put, hsz]) (by simp [ev_put, hsz, sz_put, e0, e1, e5, e6, e9, e12])) (fun w hSw => by unfold execOp; simp [ev_put, hsz, sz_put, e0, e1, e5, e6, e9, e12] <;> go_simp) HSw.out ?_
          refine heldRun (i := 18) 72 (.slice ak ys.length ck) rfl rfl (by kernel_rfl) (by kernel_rfl) (by kernel_rfl) (fun _ _ _ h => h) (wants 10 64 false rfl rfl (by simp [sz_put, hsz]) (by simp [ev_put, hsz, sz_put, e0, e1, e5, e6, e9, e12])) (fun w hSw => by have c := HCP.out w hSw; unfold execOp; simp [ev_put, hsz, sz_put, e0, e1, e5, e6, e9, e12] <;> go_simp) HSw.out ?_
          refine heldCall (i := 19) 73 25 #[.slice (some ⟨gj, 0, none⟩) ys.length cj, .slice ak ys.length ck] rfl rfl (by kernel_rfl) (wants 10 64 false rfl rfl (by simp [sz_put, hsz]) (by simp [ev_put, hsz, sz_put, e0, e1, e5, e6, e9, e12])) (by unfold execOp; simp [ev_put, hsz, sz_put, e0, e1, e5, e6, e9, e12] <;> go_simp) ?_
          refine (same_any cj ck (some ⟨gj, 0, none⟩) ak ys ys _ (HRF.out _ HSw.out).take (HRP.out _ HSw.out) HYX.out HYX.out).mono ?_
          rintro e w8 ⟨rfl, hw8⟩
          subst hw8
          simp only [decide_true]
          refine ⟨_, rfl, HSw.out, ?_⟩
          refine heldRun (i := 20) 74 (.bool false) rfl rfl (by kernel_rfl) (by kernel_rfl) (by kernel_rfl) (fun _ _ _ h => h) (wants 10 64 false rfl rfl (by simp [sz_put, hsz]) (by simp [ev_put, hsz, sz_put, e0, e1, e5, e6, e9, e12])) (fun w hSw => by unfold execOp; simp [ev_put, hsz, sz_put, e0, e1, e5, e6, e9, e12] <;> go_simp) HSw.out ?_
          refine heldRun (i := 21) 75 (.bool false) rfl rfl (by kernel_rfl) (by kernel_rfl) (by kernel_rfl) (fun _ _ _ h => h) rfl (fun w hSw => by unfold execOp; simp [ev_put, hsz, sz_put, e0, e1, e5, e6, e9, e12] <;> go_simp) HSw.out ?_
          refine wpAnyH_done (by kernel_rfl) ?_ _
          subst hA
          simp only [put_mk, List.set_cons_succ, List.set_cons_zero]
          clear hsz e0 e1 e5 e6 e9 e12
          go_wp2
          refine region_held_var (fun W => Below w6.heap.size w6 W) (by kernel_rfl) ?_
          intro A hA
          have hsz : A.tmps.size = 125 := by rw [hA]; rfl
          have e0 : A.eval (.tmp 0) = .slice ao n cap := by rw [hA]; rfl
          have e1 : A.eval (.tmp 1) = .slice (some ⟨b, off, none⟩) k pc := by rw [hA]; rfl
          have e5 : A.eval (.tmp 5) = .slice (some ⟨gF, 0, none⟩) k cF := by rw [hA]; rfl
          have e6 : A.eval (.tmp 6) = .slice (some ⟨gL, 0, none⟩) k cL := by rw [hA]; rfl
          have e9 : A.eval (.tmp 9) = .slice (some ⟨gk, 0, none⟩) (n + 64) kc := by rw [hA]; rfl
          have e12 : A.eval (.tmp 12) = .int .i64 (j : Int) := by rw [hA]; rfl
          have HSv := HSw
          clear HSw
          have HSw : Hid (Below w6.heap.size w6 wr.drew.drew) := below_drewN HSv.out 1
          clear HSv
          refine heldMove (i := 0) 76 6 (.slice (some ⟨gL, 0, none⟩) k cL) rfl rfl rfl (by kernel_rfl) (by kernel_rfl) (by kernel_rfl) (fun _ _ _ h => h) rfl (by simp [ev_put, hsz, sz_put, e0, e1, e5, e6, e9, e12]) HSw.out ?_
          refine heldMove (i := 1) 77 12 (.int .i64 (j : Int)) rfl rfl rfl (by kernel_rfl) (by kernel_rfl) (by kernel_rfl) (fun _ _ _ h => h) rfl (by simp [ev_put, hsz, sz_put, e0, e1, e5, e6, e9, e12]) HSw.out ?_
          refine heldRun (i := 2) 78 (.pointer (some ⟨gL, j, none⟩)) rfl rfl (by kernel_rfl) (by kernel_rfl) (by kernel_rfl) (fun _ _ _ h => h) rfl (fun w hSw => by unfold execOp; simp [ev_put, hsz, sz_put, e0, e1, e5, e6, e9, e12] <;> go_simp) HSw.out ?_
          refine heldRun (i := 3) 79 (.slice (some ⟨gj, 0, none⟩) ys.length cj) rfl rfl (by kernel_rfl) (by kernel_rfl) (by kernel_rfl) (fun _ _ _ h => h) rfl (fun w hSw => by have c := HCL.out w hSw; unfold execOp; simp [ev_put, hsz, sz_put, e0, e1, e5, e6, e9, e12] <;> go_simp) HSw.out ?_
          refine heldMove (i := 4) 80 9 (.slice (some ⟨gk, 0, none⟩) (n + 64) kc) rfl rfl rfl (by kernel_rfl) (by kernel_rfl) (by kernel_rfl) (fun _ _ _ h => h) rfl (by simp [ev_put, hsz, sz_put, e0, e1, e5, e6, e9, e12]) HSw.out ?_
          refine heldMove (i := 5) 81 0 (.slice ao n cap) rfl rfl rfl (by kernel_rfl) (by kernel_rfl) (by kernel_rfl) (fun _ _ _ h => h) rfl (by simp [ev_put, hsz, sz_put, e0, e1, e5, e6, e9, e12]) HSw.out ?_
          refine heldRun (i := 6) 82 (.int .i64 (n : Int)) rfl rfl (by kernel_rfl) (by kernel_rfl) (by kernel_rfl) (fun _ _ _ h => h) rfl (fun w hSw => by unfold execOp; simp [ev_put, hsz, sz_put, e0, e1, e5, e6, e9, e12] <;> go_simp) HSw.out ?_
          refine heldRun (i := 7) 83 (.slice (some ⟨gk, 0, none⟩) n kc) rfl rfl (by kernel_rfl) (by kernel_rfl) (by kernel_rfl) (fun _ _ _ h => h) rfl (fun w hSw => by unfold execOp; simp [ev_put, hsz, sz_put, e0, e1, e5, e6, e9, e12] <;> go_simp) HSw.out ?_
          refine heldMove (i := 9) 85 1 (.slice (some ⟨b, off, none⟩) k pc) rfl rfl rfl (by kernel_rfl) (by kernel_rfl) (by kernel_rfl) (fun _ _ _ h => h) rfl (by simp [ev_put, hsz, sz_put, e0, e1, e5, e6, e9, e12]) HSw.out ?_
          refine heldMove (i := 10) 86 12 (.int .i64 (j : Int)) rfl rfl rfl (by kernel_rfl) (by kernel_rfl) (by kernel_rfl) (fun _ _ _ h => h) rfl (by simp [ev_put, hsz, sz_put, e0, e1, e5, e6, e9, e12]) HSw.out ?_
          refine heldRun (i := 11) 87 (.pointer (some ⟨b, off + j, none⟩)) rfl rfl (by kernel_rfl) (by kernel_rfl) (by kernel_rfl) (fun _ _ _ h => h) rfl (fun w hSw => by unfold execOp; simp [ev_put, hsz, sz_put, e0, e1, e5, e6, e9, e12] <;> go_simp) HSw.out ?_
          refine heldRun (i := 12) 88 (.slice ak ys.length ck) rfl rfl (by kernel_rfl) (by kernel_rfl) (by kernel_rfl) (fun _ _ _ h => h) rfl (fun w hSw => by have c := HCP.out w hSw; unfold execOp; simp [ev_put, hsz, sz_put, e0, e1, e5, e6, e9, e12] <;> go_simp) HSw.out ?_
          refine heldMove (i := 13) 89 0 (.slice ao n cap) rfl rfl rfl (by kernel_rfl) (by kernel_rfl) (by kernel_rfl) (fun _ _ _ h => h) rfl (by simp [ev_put, hsz, sz_put, e0, e1, e5, e6, e9, e12]) HSw.out ?_
          refine heldCall (i := 8) 84 26 #[.slice (some ⟨gj, 0, none⟩) ys.length cj, .slice (some ⟨gk, 0, none⟩) n kc] rfl rfl (by kernel_rfl) rfl (by unfold execOp; simp [ev_put, hsz, sz_put, e0, e1, e5, e6, e9, e12] <;> go_simp) ?_
          refine (dsame_any ys.length n cj kc (some ⟨gj, 0, none⟩) (some ⟨gk, 0, none⟩) ys xs _ rfl HN.out (by omega) (HRF.out _ HSw.out).take (HKK.out _ HSw.out).take HYX.out HX.out).mono ?_
          rintro e w7 ⟨rfl, q7, hw7⟩
          have HS7 : Hid (Below w6.heap.size w6 w7) := by rw [hw7]; exact below_drewN HSw.out q7
          clear hw7 HSw
          have HSw := HS7
          refine ⟨_, rfl, HSw.out, ?_⟩
          refine heldCall (i := 14) 90 25 #[.slice ak ys.length ck, .slice ao n cap] rfl rfl (by kernel_rfl) rfl (by unfold execOp; simp [ev_put, hsz, sz_put, e0, e1, e5, e6, e9, e12] <;> go_simp) ?_
          rw [HN.out]
          refine (same_any ck cap ak ao ys xs _ (HRP.out _ HSw.out) (HKR.out _ HSw.out) HYX.out HX.out).mono ?_
          rw [← HN.out]
          rintro e w8 ⟨rfl, hw8⟩
          subst hw8
          refine ⟨_, rfl, HSw.out, ?_⟩
          generalize decide (ys = xs) = D
          refine heldRun (i := 15) 91 (.bool false) rfl rfl (by kernel_rfl) (by kernel_rfl) (by kernel_rfl) (fun _ _ _ h => h) rfl (fun w hSw => by unfold execOp; simp [ev_put, hsz, sz_put, e0, e1, e5, e6, e9, e12] <;> go_simp) HSw.out ?_
          refine heldMove (i := 16) 92 91 (.bool false) rfl rfl rfl (by kernel_rfl) (by kernel_rfl) (by kernel_rfl) (fun _ _ _ h => h) rfl (by simp [ev_put, hsz, sz_put, e0, e1, e5, e6, e9, e12]) HSw.out ?_
          refine heldMove (i := 17) 93 6 (.slice (some ⟨gL, 0, none⟩) k cL) rfl rfl rfl (by kernel_rfl) (by kernel_rfl) (by kernel_rfl) (fun _ _ _ h => h) (wants 16 92 false rfl rfl (by simp [sz_put, hsz]) (by simp [ev_put, hsz, sz_put, e0, e1, e5, e6, e9, e12])) (by simp [ev_put, hsz, sz_put, e0, e1, e5, e6, e9, e12]) HSw.out ?_
          refine heldMove (i := 18) 94 12 (.int .i64 (j : Int)) rfl rfl rfl (by kernel_rfl) (by kernel_rfl) (by kernel_rfl) (fun _ _ _ h => h) (wants 16 92 false rfl rfl (by simp [sz_put, hsz]) (by simp [ev_put, hsz, sz_put, e0, e1, e5, e6, e9, e12])) (by simp [ev_put, hsz, sz_put, e0, e1, e5, e6, e9, e12]) HSw.out ?_
          refine heldRun (i := 19) 95 (.pointer (some ⟨gL, j, none⟩)) rfl rfl (by kernel_rfl) (by kernel_rfl) (by kernel_rfl) (fun _ _ _ h => h) (wants 16 92 false rfl rfl (by simp [sz_put, hsz]) (by simp [ev_put, hsz, sz_put, e0, e1, e5, e6, e9, e12])) (fun w hSw => by unfold execOp; simp [ev_put, hsz, sz_put, e0, e1, e5, e6, e9, e12] <;> go_simp) HSw.out ?_
          refine heldRun (i := 20) 96 (.slice (some ⟨gj, 0, none⟩) ys.length cj) rfl rfl (by kernel_rfl) (by kernel_rfl) (by kernel_rfl) (fun _ _ _ h => h) (wants 16 92 false rfl rfl (by simp [sz_put, hsz]) (by simp [ev_put, hsz, sz_put, e0, e1, e5, e6, e9, e12])) (fun w hSw => by have c := HCL.out w hSw; unfold execOp; simp [ev_put, hsz, sz_put, e0, e1, e5, e6, e9, e12] <;> go_simp) HSw.out ?_
          refine heldMove (i := 22) 98 1 (.slice (some ⟨b, off, none⟩) k pc) rfl rfl rfl (by kernel_rfl) (by kernel_rfl) (by kernel_rfl) (fun _ _ _ h => h) (wants 16 92 false rfl rfl (by simp [sz_put, hsz]) (by simp [ev_put, hsz, sz_put, e0, e1, e5, e6, e9, e12])) (by simp [ev_put, hsz, sz_put, e0, e1, e5, e6, e9, e12]) HSw.out ?_
          refine heldMove (i := 23) 99 12 (.int .i64 (j : Int)) rfl rfl rfl (by kernel_rfl) (by kernel_rfl) (by kernel_rfl) (fun _ _ _ h => h) (wants 16 92 false rfl rfl (by simp [sz_put, hsz]) (by simp [ev_put, hsz, sz_put, e0, e1, e5, e6, e9, e12])) (by simp [ev_put, hsz, sz_put, e0, e1, e5, e6, e9, e12]) HSw.out ?_
          refine heldRun (i := 24) 100 (.pointer (some ⟨b, off + j, none⟩)) rfl rfl (by kernel_rfl) (by kernel_rfl) (by kernel_rfl) (fun _ _ _ h => h) (wants 16 92 false rfl rfl (by simp [sz_put, hsz]) (by simp [ev_put, hsz, sz_put, e0, e1, e5, e6, e9, e12])) (fun w hSw => by unfold execOp; simp [ev_put, hsz, sz_put, e0, e1, e5, e6, e9, e12] <;> go_simp) HSw.out ?_
          refine heldRun (i := 25) 101 (.slice ak ys.length ck) rfl rfl (by kernel_rfl) (by kernel_rfl) (by kernel_rfl) (fun _ _ _ h => h) (wants 16 92 false rfl rfl (by simp [sz_put, hsz]) (by simp [ev_put, hsz, sz_put, e0, e1, e5, e6, e9, e12])) (fun w hSw => by have c := HCP.out w hSw; unfold execOp; simp [ev_put, hsz, sz_put, e0, e1, e5, e6, e9, e12] <;> go_simp) HSw.out ?_
          refine heldOne (i := 21) (w' := w8.alloc (Obj.cells #[] 5)) 97 (.slice (some ⟨w8.heap.size, 0, none⟩) 0 0) rfl rfl (by kernel_rfl) (wants 16 92 false rfl rfl (by simp [sz_put, hsz]) (by simp [ev_put, hsz, sz_put, e0, e1, e5, e6, e9, e12])) (by unfold execOp; simp [ev_put, hsz, sz_put, e0, e1, e5, e6, e9, e12] <;> go_simp <;> rfl) (HSw.out.alloc HSw.out.size _) ?_
          refine heldAppend (i := 26) 102 rfl rfl (by kernel_rfl) (wants 16 92 false rfl rfl (by simp [sz_put, hsz]) (by simp [ev_put, hsz, sz_put, e0, e1, e5, e6, e9, e12])) (.tmp 97) (.tmp 101) rfl w8.heap.size (.slice (some ⟨w8.heap.size, 0, none⟩) 0 0) [] (by simp [ev_put, hsz, sz_put, e0, e1, e5, e6, e9, e12]) (own_new w8 w8.heap.size [] (Nat.le_refl _) (Nat.zero_le _)) ak ys.length ck ys rfl (by simp [ev_put, hsz, sz_put, e0, e1, e5, e6, e9, e12]) ((HRP.out _ HSw.out).keep (below_new w8 _)) (by simp; omega) (by simp) ?_
          intro v9 w9 hown9 hgr9
          obtain ⟨ao9, c9, rfl, hc9, hr9, hb9⟩ := copied hown9 hgr9 rfl
          have HR9 : Hid (Row w9 ao9 ys) := hr9
          have HS9 : Hid (Below w6.heap.size w6 w9) := HSw.out.trans (hb9.mono HSw.out.size)
          clear hown9 hgr9 hr9 hb9 HSw
          have HSw := HS9
          refine ⟨HSw.out, ?_⟩
          refine heldCall (i := 27) 103 26 #[.slice (some ⟨gj, 0, none⟩) ys.length cj, .slice ao9 ys.length c9] rfl rfl (by kernel_rfl) (wants 16 92 false rfl rfl (by simp [sz_put, hsz]) (by simp [ev_put, hsz, sz_put, e0, e1, e5, e6, e9, e12])) (by unfold execOp; simp [ev_put, hsz, sz_put, e0, e1, e5, e6, e9, e12] <;> go_simp) ?_
          refine (dsame_any ys.length ys.length cj c9 (some ⟨gj, 0, none⟩) ao9 ys ys _ rfl rfl (by omega) (HRF.out _ HSw.out).take HR9.out HYX.out HYX.out).mono ?_
          rintro e w10 ⟨rfl, q10, hw10⟩
          have HS10 : Hid (Below w6.heap.size w6 w10) := by rw [hw10]; exact below_drewN HSw.out q10
          clear hw10 HSw
          have HSw := HS10
          simp only [decide_true]
          refine ⟨_, rfl, HSw.out, ?_⟩
          refine heldRun (i := 28) 104 (.bool false) rfl rfl (by kernel_rfl) (by kernel_rfl) (by kernel_rfl) (fun _ _ _ h => h) (wants 16 92 false rfl rfl (by simp [sz_put, hsz]) (by simp [ev_put, hsz, sz_put, e0, e1, e5, e6, e9, e12])) (fun w hSw => by unfold execOp; simp [ev_put, hsz, sz_put, e0, e1, e5, e6, e9, e12] <;> go_simp) HSw.out ?_
          refine heldRun (i := 29) 105 (.bool false) rfl rfl (by kernel_rfl) (by kernel_rfl) (by kernel_rfl) (fun _ _ _ h => h) rfl (fun w hSw => by unfold execOp; simp [ev_put, hsz, sz_put, e0, e1, e5, e6, e9, e12] <;> go_simp) HSw.out ?_
          refine wpAnyH_done (by kernel_rfl) ?_ _
          subst hA
          simp only [put_mk, List.set_cons_succ, List.set_cons_zero]
          go_wp2
          go_roundw
          case rel => exact ⟨j + 1, by omega, by go_num, HSw⟩
          case measure => simp [intOf]; omega
        · have hdt : decide ((j : Int) < (k : Int)) = false := decide_eq_false (by omega)
          have HKK : Hid (∀ W, Below w6.heap.size w6 W → Row W (some ⟨gk, 0, none⟩) (xs ++ marks 64)) := fun W h => HK6.out.keep h
          have HKR : Hid (∀ W, Below w6.heap.size w6 W → Row W ao xs) := fun W h => HR.out.keep (HB6.out.trans (h.mono hs6))
          have HKP : Hid (∀ W, Below w6.heap.size w6 W → Parts W po pl) := fun W h => HP.out.keep (HB6.out.trans (h.mono hs6))
          have HK0 : Hid (∀ W, Below w6.heap.size w6 W → Roots W 0) := fun W h => HT.out.keep (HB6.out.trans (h.mono hs6))
          have HK1 : Hid (∀ W, Below w6.heap.size w6 W → Roots W 1) := fun W h => HT1.out.keep (HB6.out.trans (h.mono hs6))
          have HM10 : Hid (∀ W, Below w6.heap.size w6 W → (Instr.loadAt 24 (.pointer (some ⟨b10, 0, none⟩))).run Tryd.prog W = .ok (.agg (mo.map bv).toArray) W) := fun W h => by
            simp only [Instr.loadAt, Instr.sureAddr, Sem.run_bind, Sem.run_pure, Result.andThen_ok, run_loadVar_row W b10 _ _ _ _ _ (HG6.out.keep h) Tryd.underlying24 rfl HC3.out]
          have HM11 : Hid (∀ W, Below w6.heap.size w6 W → (Instr.loadAt 24 (.pointer (some ⟨b11, 0, none⟩))).run Tryd.prog W = .ok (.agg (jo.map bv).toArray) W) := fun W h => by
            simp only [Instr.loadAt, Instr.sureAddr, Sem.run_bind, Sem.run_pure, Result.andThen_ok, run_loadVar_row W b11 _ _ _ _ _ (HJ6.out.keep h) Tryd.underlying24 rfl HC5.out]
          have hq1 : ∀ W, (Op.equalIn 10000 24 (.agg (mo.map bv).toArray) (.agg (mo.map bv).toArray)).run Tryd.prog W = .ok true W := fun W => by rw [arr32_eq _ _ W HMO.out HMO.out]; simp
          have hq2 : ∀ W, (Op.equalIn 10000 24 (.agg (jo.map bv).toArray) (.agg (jo.map bv).toArray)).run Tryd.prog W = .ok true W := fun W => by rw [arr32_eq _ _ W HJO.out HJO.out]; simp
          go_wp2
          refine region_held_var (fun W => Below w6.heap.size w6 W) (by kernel_rfl) ?_
          intro A hA
          have hsz : A.tmps.size = 125 := by rw [hA]; rfl
          have e0 : A.eval (.tmp 0) = .slice ao n cap := by rw [hA]; rfl
          have e1 : A.eval (.tmp 1) = .slice po k pc := by rw [hA]; rfl
          have e9 : A.eval (.tmp 9) = .slice (some ⟨gk, 0, none⟩) (n + 64) kc := by rw [hA]; rfl
          have e10 : A.eval (.tmp 10) = .pointer (some ⟨b10, 0, none⟩) := by rw [hA]; rfl
          have e11 : A.eval (.tmp 11) = .pointer (some ⟨b11, 0, none⟩) := by rw [hA]; rfl
          have HSw : Hid (Below w6.heap.size w6 wr.drew) := below_drewN HS.out 1
          refine heldCall (i := 0) 106 9 #[] rfl rfl (by kernel_rfl) rfl (by unfold execOp; simp [ev_put, hsz, sz_put, e0, e1, e9, e10, e11] <;> go_simp) ?_
          refine (live_true _ (HK0.out _ HSw.out)).mono ?_
          rintro e w7 ⟨rfl, h7⟩
          have HS7 : Hid (Below w6.heap.size w6 w7) := HSw.out.trans (h7.mono HSw.out.size)
          clear h7 HSw
          have HSw := HS7
          refine ⟨_, rfl, HSw.out, ?_⟩
          refine heldMove (i := 1) 107 106 (.bool true) rfl rfl rfl (by kernel_rfl) (by kernel_rfl) (by kernel_rfl) (fun _ _ _ h => h) rfl (by simp [ev_put, hsz, sz_put, e0, e1, e9, e10, e11]) HSw.out ?_
          refine heldMove (i := 2) 108 9 (.slice (some ⟨gk, 0, none⟩) (n + 64) kc) rfl rfl rfl (by kernel_rfl) (by kernel_rfl) (by kernel_rfl) (fun _ _ _ h => h) (wants 1 107 true rfl rfl (by simp [sz_put, hsz]) (by simp [ev_put, hsz, sz_put, e0, e1, e9, e10, e11])) (by simp [ev_put, hsz, sz_put, e0, e1, e9, e10, e11]) HSw.out ?_
          refine heldMove (i := 3) 109 0 (.slice ao n cap) rfl rfl rfl (by kernel_rfl) (by kernel_rfl) (by kernel_rfl) (fun _ _ _ h => h) (wants 1 107 true rfl rfl (by simp [sz_put, hsz]) (by simp [ev_put, hsz, sz_put, e0, e1, e9, e10, e11])) (by simp [ev_put, hsz, sz_put, e0, e1, e9, e10, e11]) HSw.out ?_
          refine heldCall (i := 4) 110 15 #[.slice (some ⟨gk, 0, none⟩) (n + 64) kc, .slice ao n cap] rfl rfl (by kernel_rfl) (wants 1 107 true rfl rfl (by simp [sz_put, hsz]) (by simp [ev_put, hsz, sz_put, e0, e1, e9, e10, e11])) (by unfold execOp; simp [ev_put, hsz, sz_put, e0, e1, e9, e10, e11] <;> go_simp) ?_
          rw [HN.out]
          refine (kept_true (xs.length + 64) kc cap gk 0 ao xs _ (by rw [← HN.out]; omega) rfl (by rw [← HN.out]; omega) (HKK.out _ HSw.out) (HKR.out _ HSw.out) HX.out).mono ?_
          rw [← HN.out]
          rintro e w8 ⟨rfl, hw8⟩
          subst hw8
          refine ⟨_, rfl, HSw.out, ?_⟩
          refine heldRun (i := 5) 111 (.bool true) rfl rfl (by kernel_rfl) (by kernel_rfl) (by kernel_rfl) (fun _ _ _ h => h) rfl (fun w hSw => by unfold execOp; simp [ev_put, hsz, sz_put, e0, e1, e9, e10, e11] <;> go_simp) HSw.out ?_
          refine heldMove (i := 6) 112 111 (.bool true) rfl rfl rfl (by kernel_rfl) (by kernel_rfl) (by kernel_rfl) (fun _ _ _ h => h) rfl (by simp [ev_put, hsz, sz_put, e0, e1, e9, e10, e11]) HSw.out ?_
          refine heldRun (i := 7) 113 (.agg (mo.map bv).toArray) rfl rfl (by kernel_rfl) (by kernel_rfl) (by kernel_rfl) (fun _ _ _ h => h) (wants 6 112 true rfl rfl (by simp [sz_put, hsz]) (by simp [ev_put, hsz, sz_put, e0, e1, e9, e10, e11])) (fun w hSw => by unfold execOp; simp [ev_put, hsz, sz_put, e0, e1, e9, e10, e11]; rw [HM10.out w hSw]; rfl) HSw.out ?_
          refine heldMove (i := 8) 114 0 (.slice ao n cap) rfl rfl rfl (by kernel_rfl) (by kernel_rfl) (by kernel_rfl) (fun _ _ _ h => h) (wants 6 112 true rfl rfl (by simp [sz_put, hsz]) (by simp [ev_put, hsz, sz_put, e0, e1, e9, e10, e11])) (by simp [ev_put, hsz, sz_put, e0, e1, e9, e10, e11]) HSw.out ?_
          refine heldMove (i := 9) 115 1 (.slice po k pc) rfl rfl rfl (by kernel_rfl) (by kernel_rfl) (by kernel_rfl) (fun _ _ _ h => h) (wants 6 112 true rfl rfl (by simp [sz_put, hsz]) (by simp [ev_put, hsz, sz_put, e0, e1, e9, e10, e11])) (by simp [ev_put, hsz, sz_put, e0, e1, e9, e10, e11]) HSw.out ?_
          refine heldCall (i := 10) 116 27 #[.slice ao n cap, .slice po k pc] rfl rfl (by kernel_rfl) (wants 6 112 true rfl rfl (by simp [sz_put, hsz]) (by simp [ev_put, hsz, sz_put, e0, e1, e9, e10, e11])) (by unfold execOp; simp [ev_put, hsz, sz_put, e0, e1, e9, e10, e11] <;> go_simp) ?_
          refine (refMac_any n cap k pc ao po xs pl _ (by omega) HN.out HX.out (HKR.out _ HSw.out) HPN.out (by omega) HPF.out (HKP.out _ HSw.out) (HK1.out _ HSw.out)).mono ?_
          rintro e w9 ⟨rfl, h9⟩
          rw [hmo.out]
          have HS9 : Hid (Below w6.heap.size w6 w9) := HSw.out.trans (h9.mono HSw.out.size)
          clear h9 HSw
          have HSw := HS9
          refine ⟨_, rfl, HSw.out, ?_⟩
          refine heldRun (i := 11) 117 (.bool true) rfl rfl (by kernel_rfl) (by kernel_rfl) (by kernel_rfl) (fun _ _ _ h => h) (wants 6 112 true rfl rfl (by simp [sz_put, hsz]) (by simp [ev_put, hsz, sz_put, e0, e1, e9, e10, e11])) (fun w hSw => by unfold execOp; simp [ev_put, hsz, sz_put, e0, e1, e9, e10, e11] <;> go_simp) HSw.out ?_
          refine heldRun (i := 12) 118 (.bool true) rfl rfl (by kernel_rfl) (by kernel_rfl) (by kernel_rfl) (fun _ _ _ h => h) rfl (fun w hSw => by unfold execOp; simp [ev_put, hsz, sz_put, e0, e1, e9, e10, e11] <;> go_simp) HSw.out ?_
          refine heldMove (i := 13) 119 118 (.bool true) rfl rfl rfl (by kernel_rfl) (by kernel_rfl) (by kernel_rfl) (fun _ _ _ h => h) rfl (by simp [ev_put, hsz, sz_put, e0, e1, e9, e10, e11]) HSw.out ?_
          refine heldRun (i := 14) 120 (.agg (jo.map bv).toArray) rfl rfl (by kernel_rfl) (by kernel_rfl) (by kernel_rfl) (fun _ _ _ h => h) (wants 13 119 true rfl rfl (by simp [sz_put, hsz]) (by simp [ev_put, hsz, sz_put, e0, e1, e9, e10, e11])) (fun w hSw => by unfold execOp; simp [ev_put, hsz, sz_put, e0, e1, e9, e10, e11]; rw [HM11.out w hSw]; rfl) HSw.out ?_
          refine heldMove (i := 15) 121 1 (.slice po k pc) rfl rfl rfl (by kernel_rfl) (by kernel_rfl) (by kernel_rfl) (fun _ _ _ h => h) (wants 13 119 true rfl rfl (by simp [sz_put, hsz]) (by simp [ev_put, hsz, sz_put, e0, e1, e9, e10, e11])) (by simp [ev_put, hsz, sz_put, e0, e1, e9, e10, e11]) HSw.out ?_
          refine heldCall (i := 16) 122 28 #[.slice po k pc] rfl rfl (by kernel_rfl) (wants 13 119 true rfl rfl (by simp [sz_put, hsz]) (by simp [ev_put, hsz, sz_put, e0, e1, e9, e10, e11])) (by unfold execOp; simp [ev_put, hsz, sz_put, e0, e1, e9, e10, e11] <;> go_simp) ?_
          refine (refJoined_any k pc po pl _ HPN.out (by omega) HPF.out (HKP.out _ HSw.out) (HK1.out _ HSw.out)).mono ?_
          rintro e w10 ⟨rfl, h10⟩
          rw [hjo.out]
          have HS10 : Hid (Below w6.heap.size w6 w10) := HSw.out.trans (h10.mono HSw.out.size)
          clear h10 HSw
          have HSw := HS10
          refine ⟨_, rfl, HSw.out, ?_⟩
          refine heldRun (i := 17) 123 (.bool true) rfl rfl (by kernel_rfl) (by kernel_rfl) (by kernel_rfl) (fun _ _ _ h => h) (wants 13 119 true rfl rfl (by simp [sz_put, hsz]) (by simp [ev_put, hsz, sz_put, e0, e1, e9, e10, e11])) (fun w hSw => by unfold execOp; simp [ev_put, hsz, sz_put, e0, e1, e9, e10, e11] <;> go_simp) HSw.out ?_
          refine heldRun (i := 18) 124 (.bool true) rfl rfl (by kernel_rfl) (by kernel_rfl) (by kernel_rfl) (fun _ _ _ h => h) rfl (fun w hSw => by unfold execOp; simp [ev_put, hsz, sz_put, e0, e1, e9, e10, e11] <;> go_simp) HSw.out ?_
          refine heldRun (i := 19) 4 (.bool true) rfl rfl (by kernel_rfl) (by kernel_rfl) (by kernel_rfl) (fun _ _ _ h => h) rfl (fun w hSw => by unfold execOp; simp [ev_put, hsz, sz_put, e0, e1, e9, e10, e11] <;> go_simp) HSw.out ?_
          refine wpAnyH_done (by kernel_rfl) ?_ _
          subst hA
          simp only [put_mk, List.set_cons_succ, List.set_cons_zero]
          go_wp2
          go_ret
          exact ⟨rfl, HB6.out.trans (HSw.out.mono hs6)⟩
end Go.Proofs.YtjdglpfjemoodaaDoor
