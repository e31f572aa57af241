/- The order of what is due: Compare, Or, the closure; the sort by the shelf's contract. -/
import Derived.Test.YtmngmkbiibhmkaaVCallB
import Derived.Test.YtmngmkbiibhmkaaVShelf
namespace Go.Proofs.Ytmngmkbiibhmkaa
open Go.RowKit Go.Maps Go.Shelf Go.Lib Go.Sort

def cmpN (a b : Nat) : Int := if a < b then -1 else if b < a then 1 else 0
def cmpT (x y : Tm) : Int := if cmpN x.2 y.2 = 0 then cmpN x.1 y.1 else cmpN x.2 y.2
def encT (x : Tm) : List Value := [.int .u64 (x.1 : Int), .int .u64 (x.2 : Int)]
/-- By time, those of one time by id. -/
def leT (x y : Tm) : Bool := decide (x.2 < y.2) || (decide (x.2 = y.2) && decide (x.1 ≤ y.1))
theorem ltT (x y : Tm) : ltOf cmpT x y = !leT y x := by
  rw [Bool.eq_iff_iff]
  unfold ltOf cmpT cmpN leT
  simp only [decide_eq_true_eq, Bool.not_eq_true', Bool.or_eq_false_iff, Bool.and_eq_false_iff, decide_eq_false_iff_not]
  repeat' split
  all_goals omega
theorem swoT : SWO (ltOf cmpT) where
  irrefl x := by rw [ltT]; simp [leT]
  trans x y z h1 h2 := by rw [ltT] at *; simp [leT] at *; omega
  ntrans x y z h1 h2 := by rw [ltT] at *; simp [leT] at *; omega
theorem totT (x y : Tm) (h1 : ltOf cmpT x y = false) (h2 : ltOf cmpT y x = false) : x = y := by
  rw [ltT] at h1 h2
  simp only [leT, Bool.not_eq_false', Bool.or_eq_true, Bool.and_eq_true, decide_eq_true_eq] at h1 h2
  exact Prod.ext (by omega) (by omega)
set_option maxHeartbeats 1000000 in
set_option maxRecDepth 100000 in
theorem isNaN_any (a : Nat) (w : World) : Calls Try.prog 53 #[.int .u64 (a : Int)] w fun e w' => e = .returned (.bool false) ∧ w' = w := by
  go_enter Try.func53, Try.ntmps53
  go_wp2
  go_ret
  exact ⟨rfl, rfl⟩
set_option maxHeartbeats 1000000 in
set_option maxRecDepth 100000 in
theorem compare_any (a b : Nat) (w : World) : Calls Try.prog 46 #[.int .u64 (a : Int), .int .u64 (b : Int)] w fun e w' => e = .returned (.int .i64 (cmpN a b)) ∧ w' = w := by
  have HA := hide (isNaN_any a w)
  have HB := hide (isNaN_any b w)
  unfold cmpN
  by_cases h1 : a < b
  · rw [if_pos h1]
    have h1' : (a : Int) < (b : Int) := by omega
    clear h1
    go_enter Try.func46, Try.ntmps46
    go_wp2_with (go_at_call 53; first | (refine HA.out.mono ?_; rintro e w2 ⟨rfl, hw⟩; have h := hw.symm; subst h) | (refine HB.out.mono ?_; rintro e w2 ⟨rfl, hw⟩; have h := hw.symm; subst h))
    go_ret
    exact ⟨rfl, rfl⟩
  · rw [if_neg h1]
    have h1' : ¬ (a : Int) < (b : Int) := by omega
    by_cases h2 : b < a
    · rw [if_pos h2]
      have h2' : (b : Int) < (a : Int) := by omega
      clear h1 h2
      go_enter Try.func46, Try.ntmps46
      go_wp2_with (go_at_call 53; first | (refine HA.out.mono ?_; rintro e w2 ⟨rfl, hw⟩; have h := hw.symm; subst h) | (refine HB.out.mono ?_; rintro e w2 ⟨rfl, hw⟩; have h := hw.symm; subst h))
      go_ret
      exact ⟨rfl, rfl⟩
    · rw [if_neg h2]
      have h2' : ¬ (b : Int) < (a : Int) := by omega
      clear h1 h2
      go_enter Try.func46, Try.ntmps46
      go_wp2_with (go_at_call 53; first | (refine HA.out.mono ?_; rintro e w2 ⟨rfl, hw⟩; have h := hw.symm; subst h) | (refine HB.out.mono ?_; rintro e w2 ⟨rfl, hw⟩; have h := hw.symm; subst h))
      go_ret
      exact ⟨rfl, rfl⟩
set_option maxHeartbeats 1000000 in
set_option maxRecDepth 100000 in
theorem or_any (g : Nat) (x y : Int) (w : World) (h0 : w.cell? ⟨g, 0, none⟩ = some (.int .i64 x)) (h1 : w.cell? ⟨g, 1, none⟩ = some (.int .i64 y)) : Calls Try.prog 45 #[.slice (some ⟨g, 0, none⟩) 2 2] w fun e w' => e = .returned (.int .i64 (if x = 0 then y else x)) ∧ w' = w := by
  obtain ⟨r, hr⟩ : ∃ r : Int, r = if x = 0 then y else x := ⟨_, rfl⟩
  rw [← hr]
  have HR := hide hr
  clear hr
  go_enter Try.func45, Try.ntmps45
  go_wp2
  go_loop [8] (fun v => ∃ i : Nat, i ≤ 2 ∧ v = .int .i64 (i : Int) ∧ Hid (1 ≤ i → x = 0) ∧ Hid (2 ≤ i → y = 0)) (fun v => 2 - (intOf v).toNat)
  case atStart => exact ⟨0, by omega, rfl, fun h => by omega, fun h => by omega⟩
  case round =>
    obtain ⟨i, hi, rfl, HX, HY⟩ := hrel
    rcases (by omega : i = 0 ∨ i = 1 ∨ i = 2) with rfl | rfl | rfl
    · by_cases hx : x = 0
      · subst hx
        go_wp2_with fail
        go_round
        case rel => exact ⟨1, by omega, rfl, fun _ => by first | exact rfl | trivial, fun h => by omega⟩
        case measure => simp [intOf]
      · have HE : Hid (r = x) := by show _ = _; rw [HR.out, if_neg hx]
        have hb : (x == 0) = false := by simpa using hx
        go_wp2_with fail
        go_ret
        exact ⟨ret_int HE.out.symm, rfl⟩
    · have hx := HX.out (by omega)
      subst hx
      by_cases hy : y = 0
      · subst hy
        go_wp2_with fail
        go_round
        case rel => exact ⟨2, by omega, rfl, fun _ => by first | exact rfl | trivial, fun _ => by first | exact rfl | trivial⟩
        case measure => simp [intOf]
      · have HE : Hid (r = y) := by show _ = _; rw [HR.out, if_pos rfl]
        have hb : (y == 0) = false := by simpa using hy
        go_wp2_with fail
        go_ret
        exact ⟨ret_int HE.out.symm, rfl⟩
    · have HE : Hid (r = 0) := by show _ = _; rw [HR.out, if_pos (HX.out (by omega)), HY.out (by omega)]
      go_wp2_with fail
      go_ret
      exact ⟨ret_int HE.out.symm, rfl⟩
theorem or_eq (g : Nat) (x y r : Int) (w : World) (hr : r = if x = 0 then y else x) (h0 : w.cell? ⟨g, 0, none⟩ = some (.int .i64 x)) (h1 : w.cell? ⟨g, 1, none⟩ = some (.int .i64 y)) : Calls Try.prog 45 #[.slice (some ⟨g, 0, none⟩) 2 2] w fun e w' => e = .returned (.int .i64 r) ∧ w' = w := by
  rw [hr]
  exact or_any g x y w h0 h1
def cmpZ (u v : Int) : Int := cmpN u.toNat v.toNat
theorem compare_int (u v : Int) (w : World) (hu : 0 ≤ u) (hv : 0 ≤ v) : Calls Try.prog 46 #[.int .u64 u, .int .u64 v] w fun e w' => e = .returned (.int .i64 (cmpZ u v)) ∧ w' = w := by
  obtain ⟨a, rfl⟩ := Int.eq_ofNat_of_zero_le hu
  obtain ⟨b, rfl⟩ := Int.eq_ofNat_of_zero_le hv
  exact compare_any a b w
set_option maxHeartbeats 400000 in
set_option maxRecDepth 100000 in
theorem closure_any (x y : Tm) (W : World) : Calls Try.prog 44 #[.agg #[.int .u64 (x.1 : Int), .int .u64 (x.2 : Int)], .agg #[.int .u64 (y.1 : Int), .int .u64 (y.2 : Int)]] W fun e w' => e = .returned (.int .i64 (cmpT x y)) ∧ ∃ q os', w' = grow (W.drewN q) os' := by
  obtain ⟨x1, x2⟩ := x
  obtain ⟨y1, y2⟩ := y
  simp only
  obtain ⟨r, hr⟩ : ∃ r : Int, r = cmpT (x1, x2) (y1, y2) := ⟨_, rfl⟩
  rw [← hr]
  obtain ⟨a, ha⟩ : ∃ a, cmpZ (x2 : Int) (y2 : Int) = a := ⟨_, rfl⟩
  obtain ⟨b, hb⟩ : ∃ b, cmpZ (x1 : Int) (y1 : Int) = b := ⟨_, rfl⟩
  have HR : Hid (r = if a = 0 then b else a) := by show _ = _; rw [hr, ← ha, ← hb]; rfl
  clear hr
  have hB0 := Bl.new W #[.int .u64 (x1 : Int), .int .u64 (x2 : Int)] 80
  have hB1 := Bl.new (W.alloc (.cells #[.int .u64 (x1 : Int), .int .u64 (x2 : Int)] 80)) #[.int .u64 (y1 : Int), .int .u64 (y2 : Int)] 80
  have HB0 := hide (hB0.alloc (.cells #[.int .u64 (y1 : Int), .int .u64 (y2 : Int)] 80))
  have HB1 := hide hB1
  rw [show (W.alloc (.cells #[.int .u64 (x1 : Int), .int .u64 (x2 : Int)] 80)).heap.size = W.heap.size + 1 by simp] at HB1
  have HG : Hid (∃ os, (W.alloc (.cells #[.int .u64 (x1 : Int), .int .u64 (x2 : Int)] 80)).alloc (.cells #[.int .u64 (y1 : Int), .int .u64 (y2 : Int)] 80) = grow W os) := ⟨_, by rw [alloc_eq_grow, alloc_eq_grow, grow_grow]⟩
  clear hB0 hB1
  go_enter Try.func44, Try.ntmps44
  go_upto_region 1 with fail
  generalize hN : W.heap.size = N at *
  generalize (W.alloc (.cells #[.int .u64 (x1 : Int), .int .u64 (x2 : Int)] 80)).alloc (.cells #[.int .u64 (y1 : Int), .int .u64 (y2 : Int)] 80) = u at *
  have c0 : u.cell? ⟨N, 0, none⟩ = some (.int .u64 (x1 : Int)) := HB0.out.cell 0
  have c1 : u.cell? ⟨N, 1, none⟩ = some (.int .u64 (x2 : Int)) := HB0.out.cell 1
  have c2 : u.cell? ⟨N + 1, 0, none⟩ = some (.int .u64 (y1 : Int)) := HB1.out.cell 0
  have c3 : u.cell? ⟨N + 1, 1, none⟩ = some (.int .u64 (y2 : Int)) := HB1.out.cell 1
  clear hN
  have n0 := World.new_ne u ⟨N, 0, none⟩ c0
  have n1 := World.new_ne u ⟨N, 1, none⟩ c1
  have n2 := World.new_ne u ⟨N + 1, 0, none⟩ c2
  have n3 := World.new_ne u ⟨N + 1, 1, none⟩ c3
  go_region_held (fun V => V.cell? ⟨N, 0, none⟩ = some (.int .u64 (x1 : Int)) ∧ V.cell? ⟨N, 1, none⟩ = some (.int .u64 (x2 : Int)) ∧ V.cell? ⟨N + 1, 0, none⟩ = some (.int .u64 (y1 : Int)) ∧ V.cell? ⟨N + 1, 1, none⟩ = some (.int .u64 (y2 : Int))) (go_keep) (first | (go_at_call 46; refine (compare_int _ _ _ (by omega) (by omega)).mono ?_; rintro e w2 ⟨rfl, rfl⟩) | (go_at_call 45; refine (or_eq _ a b r _ HR.out (by simp) (by simp)).mono ?_; rintro e w2 ⟨rfl, rfl⟩))
  go_wp2_with fail
  go_ret
  obtain ⟨os, hos⟩ := HG.out
  exact ⟨rfl, 1, os ++ #[.cells #[.int .i64 a, .int .i64 b] 3], by rw [hos, alloc_eq_grow, grow_grow]; rfl⟩
theorem cmpLays_any (blk off size : Nat) (w : World) : CmpLays Try.prog 44 #[] encT 2 cmpT blk off size w := fun _ _ _ _ x y => closure_any x y _
theorem sort_any (g cap : Nat) (ds : List Tm) (w : World) (hH : HoldsK encT 2 w g 0 ds.toArray) (hg : g < w.heap.size) (hsz : ds.length ≤ 1000000) :
    Calls Try.prog 43 #[.slice (some ⟨g, 0, none⟩) ds.length cap, .func (.func 44) #[] #[]] w fun e w' => e = .returned (.tuple #[]) ∧ ∃ n os, w' = sortWorldK encT 2 w g 0 n (ds.mergeSort leT).toArray os := by
  have eg : ∀ args w, (callFunc 44 args).run Try.prog w = .ok (.enter 44 args) w := enters_of Try.func44 (by kernel_rfl) rfl
  have hcon := AnyQ.slices_SortFunc_total sortL 2 Try.isAgg80 Try.sizeOf80 encT (fun _ => rfl) (fun x v hv => by simp [encT] at hv; rcases hv with rfl | rfl <;> rfl) cmpT swoT 44 #[] g 0 cap ds.toArray w eg (cmpLays_any g 0 _ w) hH hg (by simp; omega) totT
  change Calls Try.prog 43 _ _ _ at hcon
  rw [show (fun x y => !ltOf cmpT y x) = leT by funext x y; rw [ltT, Bool.not_not]] at hcon
  simpa using hcon
theorem sort_none (ao : Option Addr) (cap : Nat) (w : World) :
    Calls Try.prog 43 #[.slice ao 0 cap, .func (.func 44) #[] #[]] w fun e w' => e = .returned (.tuple #[]) ∧ w' = w := by
  have hcon := AnyF.slices_SortFunc_none sortL ao cap (.func (.func 44) #[] #[]) w
  change Calls Try.prog 43 _ _ _ at hcon
  exact hcon
end Go.Proofs.Ytmngmkbiibhmkaa
