/- The law's same, of any two clients. -/
import Derived.Test.YtghmabohodnbpaaGreatDoorLLaws
import Derived.BigQuiet
namespace Go.Proofs.YtghmabohodnbpaaGreatDoor
open Go.RowKit

def sameC (a b : Cl) : Bool := decide (a.id = b.id) && decide (a.secret = b.secret) && decide (a.grants = b.grants) && decide (a.ping = b.ping) && decide (a.url = b.url) && decide (a.scopes = b.scopes)
theorem sameC_iff (a b : Cl) : sameC a b = true ↔ a = b := by
  obtain ⟨a1, a2, a3, a4, a5, a6⟩ := a
  obtain ⟨b1, b2, b3, b4, b5, b6⟩ := b
  simp [sameC, and_assoc]
theorem sameC_no {a b : Cl} (h : ¬ a = b) : sameC a b = false := by
  cases hs : sameC a b with
  | false => rfl
  | true => exact absurd ((sameC_iff a b).1 hs) h
theorem sameC_yes {a b : Cl} (h : a = b) : sameC a b = true := (sameC_iff a b).2 h
theorem ne_str {x y : ByteArray} (h : ¬ x = y) : (x.toList != y.toList) = true := by
  rw [bne, str_eq, decide_eq_false h]; rfl
theorem ne_str2 {x y : ByteArray} (h : ¬ x = y) : ¬ x.toList = y.toList := fun h2 => by
  have := ne_str h
  rw [h2] at this
  simp at this
set_option linter.unusedSimpArgs false in
set_option maxHeartbeats 4000000 in
set_option maxRecDepth 100000 in
theorem same_any (ia ca ua ib cb ub : ByteArray) (ga gb : Int) (pa pb : Bool) (l r : List U) (sa sb : Option Addr) (n m da db : Nat) (w : World) (hn : n = l.length) (hm : m = r.length) (hl : n ≤ 140737488355328) (hl2 : m ≤ 140737488355328) (ha : SRow w sa l) (hb : SRow w sb r) :
    Calls Tryz.prog 20 #[.agg #[.string ia, .string ca, .int .i64 ga, .bool pa, .string ua, .slice sa n da], .agg #[.string ib, .string cb, .int .i64 gb, .bool pb, .string ub, .slice sb m db]] w fun e w' => e = .returned (.bool (sameC ⟨ia, ca, ga, pa, ua, l⟩ ⟨ib, cb, gb, pb, ub, r⟩)) ∧ Below w.heap.size w w' := by
  have HN : Hid (n = l.length) := hn
  have HM : Hid (m = r.length) := hm
  have HA : Hid (SRow w sa l) := ha
  have HB : Hid (SRow w sb r) := hb
  obtain ⟨D, HD⟩ : ∃ D, Hid (D = sameC ⟨ia, ca, ga, pa, ua, l⟩ ⟨ib, cb, gb, pb, ub, r⟩) := ⟨_, hide rfl⟩
  rw [← HD.out]
  clear hn hm ha hb
  go_enter Tryz.func20, Tryz.ntmps20
  go_upto_region 1 with fail
  have HBX : Hid (Below w.heap.size w ((w.alloc (.cells #[.string ia, .string ca, .int .i64 ga, .bool pa, .string ua, .slice sa n da] 47)).alloc (.cells #[.string ib, .string cb, .int .i64 gb, .bool pb, .string ub, .slice sb m db] 48))) := (below_new w _).trans ((below_new _ _).mono (by simp))
  have HC : Hid (C6 ((w.alloc (.cells #[.string ia, .string ca, .int .i64 ga, .bool pa, .string ua, .slice sa n da] 47)).alloc (.cells #[.string ib, .string cb, .int .i64 gb, .bool pb, .string ub, .slice sb m db] 48)) w.heap.size (.string ia) (.string ca) (.int .i64 ga) (.bool pa) (.string ua) (.slice sa n da)) := C6.keep (heap_alloc_new w _) (below_new _ _) (by simp)
  have HE : Hid (D6 ((w.alloc (.cells #[.string ia, .string ca, .int .i64 ga, .bool pa, .string ua, .slice sa n da] 47)).alloc (.cells #[.string ib, .string cb, .int .i64 gb, .bool pb, .string ub, .slice sb m db] 48)) (w.heap.size + 1) (.string ib) (.string cb) (.int .i64 gb) (.bool pb) (.string ub) (.slice sb m db)) := by
    have h := heap_alloc_new (w.alloc (.cells #[.string ia, .string ca, .int .i64 ga, .bool pa, .string ua, .slice sa n da] 47)) (.cells #[.string ib, .string cb, .int .i64 gb, .bool pb, .string ub, .slice sb m db] 48)
    rw [show (w.alloc (.cells #[.string ia, .string ca, .int .i64 ga, .bool pa, .string ua, .slice sa n da] 47)).heap.size = w.heap.size + 1 by simp] at h
    exact h
  generalize ((w.alloc (.cells #[.string ia, .string ca, .int .i64 ga, .bool pa, .string ua, .slice sa n da] 47)).alloc (.cells #[.string ib, .string cb, .int .i64 gb, .bool pb, .string ub, .slice sb m db] 48)) = w1 at *
  obtain ⟨c0, c1, c2, c3, c4, c5⟩ := HC.out.cells
  obtain ⟨d0, d1, d2, d3, d4, d5⟩ := HE.out.cells
  have HA1 := hide (HA.out.keep HBX.out)
  have HB1 := hide (HB.out.keep HBX.out)
  clear HC HE HA HB
  by_cases h_ia : ia = ib
  rotate_left
  · have HDF : Hid (D = false) := by
      show _ = _
      rw [HD.out]
      exact sameC_no (fun h => by injection h; contradiction)
    have hq := ne_str h_ia
    have hq2 := ne_str2 h_ia
    clear HD
    go_wp2
    go_ret
    exact ⟨by rw [HDF.out]; rfl, HBX.out⟩
  subst h_ia
  by_cases h_ca : ca = cb
  rotate_left
  · have HDF : Hid (D = false) := by
      show _ = _
      rw [HD.out]
      exact sameC_no (fun h => by injection h; contradiction)
    have hq := ne_str h_ca
    have hq2 := ne_str2 h_ca
    clear HD
    go_wp2
    go_ret
    exact ⟨by rw [HDF.out]; rfl, HBX.out⟩
  subst h_ca
  by_cases h_ga : ga = gb
  rotate_left
  · have HDF : Hid (D = false) := by
      show _ = _
      rw [HD.out]
      exact sameC_no (fun h => by injection h; contradiction)
    have hq : (ga != gb) = true := bne_iff_ne.2 h_ga
    clear HD
    go_wp2
    go_ret
    exact ⟨by rw [HDF.out]; rfl, HBX.out⟩
  subst h_ga
  by_cases h_pa : pa = pb
  rotate_left
  · have HDF : Hid (D = false) := by
      show _ = _
      rw [HD.out]
      exact sameC_no (fun h => by injection h; contradiction)
    clear HD
    cases pa <;> cases pb <;> first
      | exact absurd rfl h_pa
      | (go_wp2
         go_ret
         exact ⟨by rw [HDF.out]; rfl, HBX.out⟩)
  subst h_pa
  by_cases h_ua : ua = ub
  rotate_left
  · have HDF : Hid (D = false) := by
      show _ = _
      rw [HD.out]
      exact sameC_no (fun h => by injection h; contradiction)
    have hq := ne_str h_ua
    have hq2 := ne_str2 h_ua
    clear HD
    go_wp2
    go_ret
    exact ⟨by rw [HDF.out]; rfl, HBX.out⟩
  subst h_ua
  by_cases hnm : n = m
  rotate_left
  · have HDF : Hid (D = false) := by
      show _ = _
      rw [HD.out]
      exact sameC_no (fun h => hnm (by rw [HN.out, HM.out]; injection h with _ _ _ _ _ h; rw [h]))
    have hq : ((n : Int) != (m : Int)) = true := bne_iff_ne.2 (by omega)
    clear HD
    go_wp2
    go_ret
    exact ⟨by rw [HDF.out]; rfl, HBX.out⟩
  subst hnm
  go_wp2
  go_loopw [5] (fun i wr => ∃ k : Nat, k ≤ n ∧ i = .int .i64 (k : Int) ∧ Hid (l.take k = r.take k) ∧ ∃ q, wr = w1.drewN q) (fun i _ => n - (intOf i).toNat)
  case atStart => exact ⟨0, Nat.zero_le _, rfl, rfl, 0, rfl⟩
  case round =>
    obtain ⟨k, hk, rfl, HT, q, rfl⟩ := hrel
    by_cases hlt : k < n
    · obtain ⟨b1, o1, rfl⟩ := HA1.out.form (by rw [← HN.out]; omega)
      obtain ⟨b2, o2, rfl⟩ := HB1.out.form (by rw [← HM.out]; omega)
      obtain ⟨x, hxx⟩ : ∃ x, l[k]? = some x := ⟨_, List.getElem?_eq_getElem (by rw [← HN.out]; exact hlt)⟩
      obtain ⟨y, hyy⟩ : ∃ y, r[k]? = some y := ⟨_, List.getElem?_eq_getElem (by rw [← HM.out]; exact hlt)⟩
      obtain ⟨xb, HXB⟩ : ∃ xb : ByteArray, Hid (xb = ⟨x.toArray⟩) := ⟨_, hide rfl⟩
      obtain ⟨yb, HYB⟩ : ∃ yb : ByteArray, Hid (yb = ⟨y.toArray⟩) := ⟨_, hide rfl⟩
      have e0 : w1.cell? ⟨b1, o1 + k, none⟩ = some (.string xb) := by rw [HXB.out]; exact HA1.out.cell hxx
      have e1 : w1.cell? ⟨b2, o2 + k, none⟩ = some (.string yb) := by rw [HYB.out]; exact HB1.out.cell hyy
      have HXX := hide hxx
      have HYY := hide hyy
      have hit : (k : Int) < (n : Int) := by omega
      have hq : (xb.toList == yb.toList) = decide (x = y) := by
        rw [HXB.out, HYB.out, Lib.toList_data, Lib.toList_data, Bool.eq_iff_iff]; simp
      clear hxx hyy
      by_cases hxy : x = y
      · have hb : (xb.toList == yb.toList) = true := by rw [hq, decide_eq_true hxy]
        have hb2 : (xb.toList != yb.toList) = false := by rw [bne, hb]; rfl
        have HT2 : Hid (l.take (k + 1) = r.take (k + 1)) := by
          show _ = _
          rw [List.take_add_one, List.take_add_one, HT.out, HXX.out, HYY.out, hxy]
        clear hq hxy HT
        go_wp2
        go_quiet (fail)
        go_wp2
        go_roundw
        case rel => exact ⟨k + 1, by omega, by go_num, HT2, q + nq, by simp [World.drewN]⟩
        case measure => simp [intOf]; omega
      · have hb : (xb.toList == yb.toList) = false := by rw [hq, decide_eq_false hxy]
        have hb2 : (xb.toList != yb.toList) = true := by rw [bne, hb]; rfl
        have HDF : Hid (D = false) := by
          show _ = _
          rw [HD.out]
          refine sameC_no (fun h => ?_)
          injection h with _ _ _ _ _ h
          have := HXX.out
          rw [h, HYY.out] at this
          exact hxy (Option.some.inj this).symm
        clear hq HT HD
        go_wp2
        go_quiet (fail)
        go_wp2
        go_ret
        exact ⟨by rw [HDF.out]; rfl, below_drewN (below_drewN HBX.out _) _⟩
    · have HDT : Hid (D = true) := by
        show _ = _
        have := HT.out
        rw [List.take_of_length_le (by rw [← HN.out]; omega), List.take_of_length_le (by rw [← HM.out]; omega)] at this
        rw [HD.out, this]
        exact sameC_yes rfl
      go_wp2
      go_ret
      exact ⟨by rw [HDT.out]; rfl, below_drewN HBX.out _⟩
end Go.Proofs.YtghmabohodnbpaaGreatDoor
