/- A line as a field, by the program. -/
import Derived.Test.YtaenccjlokiejaaGreatDoorHCut
import Derived.Test.YtaenccjlokiejaaGreatDoorHPut
import Derived.Test.YtaenccjlokiejaaGreatDoorHEnv
namespace Go.Proofs.YtaenccjlokiejaaGreatDoor
open Go.RowKit Go.Shelf

def fieldV : Option Fl → Value
  | none => .tuple #[.agg #[.string { data := #[] }, .string { data := #[] }], .bool false]
  | some f => .tuple #[.agg #[.string (str f.1), .string (str f.2)], .bool true]
theorem dropTrim_le (l cs : U) : (Lib.trimS l cs).length ≤ l.length := by
  unfold Lib.trimS Lib.trimLeftS Lib.trimRightS
  have h1 := dw_le (cs.contains ·) l.reverse
  have h2 := dw_le (cs.contains ·) (l.reverse.dropWhile (cs.contains ·)).reverse
  simp only [List.length_reverse] at h1 h2 ⊢
  omega
set_option maxHeartbeats 2000000 in
set_option maxRecDepth 100000 in
theorem field_any (l : U) (w : World) (hl : l.length ≤ 1000000) (E : Env w) :
    Calls Tryz.prog 112 #[.string (str l)] w fun e w' => e = .returned (fieldV (fieldR l)) ∧ Below w.heap.size w w' := by
  have hcut := cut_one l 58
  obtain ⟨nm, hnm⟩ : ∃ nm, nm = l.takeWhile (· != 58) := ⟨_, rfl⟩
  obtain ⟨rs, hrs⟩ : ∃ rs, rs = l.drop (nm.length + 1) := ⟨_, rfl⟩
  obtain ⟨vl, hvl⟩ : ∃ vl, vl = trimW rs := ⟨_, rfl⟩
  have hnl : nm.length ≤ 1000000 := by rw [hnm]; exact Nat.le_trans (run_le _ l) hl
  have hrl : rs.length ≤ 1000000 := by rw [hrs, List.length_drop]; omega
  have hvll : vl.length ≤ 1000000 := by rw [hvl]; exact Nat.le_trans (dropTrim_le _ _) hrl
  obtain ⟨R, hR⟩ : ∃ R, R = fieldR l := ⟨_, rfl⟩
  have HR : Hid (R = if nm.length = l.length then none else if nameB nm = true ∧ valueB vl = true then some (lows nm, vl) else none) := by
    show _ = _
    rw [hR, hvl, hrs, hnm]
    rfl
  rw [← hR]
  rw [← hnm, ← hrs] at hcut
  have HC := hide (fun W (EE : Env W) => cutS_any l [58] W (by omega) EE)
  rw [hcut] at HC
  simp only at HC
  have HT := hide (fun W => trim_any rs [32, 9] W (by omega) (by decide) (by decide))
  rw [show Lib.trimS rs [32, 9] = vl from hvl.symm] at HT
  have HN := hide (fun W => isName_any nm W (by omega))
  have HV := hide (fun W => isValue_any vl W (by omega))
  have HS := hide (fun W => small_any nm W (by omega))
  have HL := hide (fun W => clone_any vl W (by omega))
  have HE := hide E
  have hle : nm.length ≤ l.length := by rw [hnm]; exact run_le _ l
  have HD : Hid (decide (nm.length < l.length) = !decide (nm.length = l.length)) := by
    show _ = _
    rw [Bool.eq_iff_iff]
    simp
    omega
  have e58 : str [58] = (⟨#[58]⟩ : ByteArray) := rfl
  have e329 : str [32, 9] = (⟨#[32, 9]⟩ : ByteArray) := rfl
  rw [e58] at HC
  rw [e329] at HT
  generalize hd : decide (nm.length < l.length) = db at *
  have HDE : Hid (db = !decide (nm.length = l.length)) := HD
  clear hcut hnm hrs hvl hR E e58 e329 hd hle HD hl hnl hrl hvll
  generalize str l = s at *
  go_enter Tryz.func112, Tryz.ntmps112
  go_upto_region 1 with fail
  have f0 : (w.alloc (.cells #[.string { data := #[] }, .string { data := #[] }] 78)).cell? ⟨w.heap.size, 0, none⟩ = some (.string { data := #[] }) := by simp
  have f1 : (w.alloc (.cells #[.string { data := #[] }, .string { data := #[] }] 78)).cell? ⟨w.heap.size, 1, none⟩ = some (.string { data := #[] }) := by simp
  have g0 : (w.alloc (.cells #[.string { data := #[] }, .string { data := #[] }] 78)).frozen? ⟨w.heap.size, 0, none⟩ = false := by simp
  have g1 : (w.alloc (.cells #[.string { data := #[] }, .string { data := #[] }] 78)).frozen? ⟨w.heap.size, 1, none⟩ = false := by simp
  have HB0 : Hid (Below w.heap.size w (w.alloc (.cells #[.string { data := #[] }, .string { data := #[] }] 78))) := below_new _ _
  have hp : w.heap.size < (w.alloc (.cells #[.string { data := #[] }, .string { data := #[] }] 78)).heap.size := by simp
  have HP : Hid (w.heap.size ≤ w.heap.size) := Nat.le_refl _
  have HE1 := hide (HE.out.keep HB0.out)
  generalize w.alloc (.cells #[.string { data := #[] }, .string { data := #[] }] 78) = w0 at *
  go_wp2_with fail
  refine (HC.out w0 HE1.out).mono ?_
  rintro e w1 ⟨rfl, hb1⟩
  have HB1 := hide (HB0.out.trans (hb1.mono HB0.out.size))
  have c0 := cell_kept f0 hb1
  have c1 := cell_kept f1 hb1
  have k0 : w1.frozen? ⟨w.heap.size, 0, none⟩ = false := (hb1.frozen (p := ⟨w.heap.size, 0, none⟩) hp).trans g0
  have k1 : w1.frozen? ⟨w.heap.size, 1, none⟩ = false := (hb1.frozen (p := ⟨w.heap.size, 1, none⟩) hp).trans g1
  have hp1 : w.heap.size < w1.heap.size := Nat.lt_of_lt_of_le hp hb1.size
  clear hb1 HB0 f0 f1 g0 g1 hp HC HE1
  go_wp2_with fail
  refine (HT.out w1).mono ?_
  rintro e w2 ⟨rfl, hb2⟩
  have HB2 := hide (HB1.out.trans (hb2.mono HB1.out.size))
  have d0 := cell_kept c0 hb2
  have d1 := cell_kept c1 hb2
  have m0 : w2.frozen? ⟨w.heap.size, 0, none⟩ = false := (hb2.frozen (p := ⟨w.heap.size, 0, none⟩) hp1).trans k0
  have m1 : w2.frozen? ⟨w.heap.size, 1, none⟩ = false := (hb2.frozen (p := ⟨w.heap.size, 1, none⟩) hp1).trans k1
  have hp2 : w.heap.size < w2.heap.size := Nat.lt_of_lt_of_le hp1 hb2.size
  clear hb2 HB1 c0 c1 k0 k1 hp1 HT
  by_cases h1 : nm.length = l.length
  · have hdb : db = false := by rw [HDE.out]; simp [h1]
    subst hdb
    have HRR : Hid (R = none) := by show _ = _; rw [HR.out, if_pos h1]
    clear HR h1 HDE
    go_wp2
    refine bodyPost_ret (v := .tuple #[.agg #[.string { data := #[] }, .string { data := #[] }], .bool false]) (by simp [results, Tryz.results112, go_sem, d0, d1]) rfl ⟨by rw [HRR.out]; rfl, ?_⟩
    exact ((HB2.out.setCell (Nat.le_refl _) _).setCell (Nat.le_refl _) _)
  have hdb : db = true := by rw [HDE.out]; simp [h1]
  subst hdb
  go_wp2_with fail
  refine (HN.out w2).mono ?_
  rintro e w3 ⟨rfl, hb3⟩
  have HB3 := hide (HB2.out.trans (hb3.mono HB2.out.size))
  have c0 := cell_kept d0 hb3
  have c1 := cell_kept d1 hb3
  have k0 : w3.frozen? ⟨w.heap.size, 0, none⟩ = false := (hb3.frozen (p := ⟨w.heap.size, 0, none⟩) hp2).trans m0
  have k1 : w3.frozen? ⟨w.heap.size, 1, none⟩ = false := (hb3.frozen (p := ⟨w.heap.size, 1, none⟩) hp2).trans m1
  have hp3 : w.heap.size < w3.heap.size := Nat.lt_of_lt_of_le hp2 hb3.size
  clear hb3 HB2 d0 d1 m0 m1 hp2 HN HDE
  by_cases h2 : nameB nm = true
  · rw [h2]
    go_wp2_with fail
    refine (HV.out w3).mono ?_
    rintro e w4 ⟨rfl, hb4⟩
    have HB4 := hide (HB3.out.trans (hb4.mono HB3.out.size))
    have d0 := cell_kept c0 hb4
    have d1 := cell_kept c1 hb4
    have m0 : w4.frozen? ⟨w.heap.size, 0, none⟩ = false := (hb4.frozen (p := ⟨w.heap.size, 0, none⟩) hp3).trans k0
    have m1 : w4.frozen? ⟨w.heap.size, 1, none⟩ = false := (hb4.frozen (p := ⟨w.heap.size, 1, none⟩) hp3).trans k1
    have hp4 : w.heap.size < w4.heap.size := Nat.lt_of_lt_of_le hp3 hb4.size
    clear hb4 HB3 c0 c1 k0 k1 hp3 HV
    by_cases h3 : valueB vl = true
    · rw [h3]
      have HRR : Hid (R = some (lows nm, vl)) := by show _ = _; rw [HR.out, if_neg h1, if_pos ⟨h2, h3⟩]
      clear HR h1 h2 h3
      go_wp2_with fail
      refine (HS.out w4).mono ?_
      rintro e w5 ⟨rfl, hb5⟩
      have HB5 := hide (HB4.out.trans (hb5.mono HB4.out.size))
      have c0 := cell_kept d0 hb5
      have c1 := cell_kept d1 hb5
      have k0 : w5.frozen? ⟨w.heap.size, 0, none⟩ = false := (hb5.frozen (p := ⟨w.heap.size, 0, none⟩) hp4).trans m0
      have k1 : w5.frozen? ⟨w.heap.size, 1, none⟩ = false := (hb5.frozen (p := ⟨w.heap.size, 1, none⟩) hp4).trans m1
      have hp5 : w.heap.size < w5.heap.size := Nat.lt_of_lt_of_le hp4 hb5.size
      clear hb5 HB4 d0 d1 m0 m1 hp4 HS
      go_wp2_with fail
      refine (HL.out w5).mono ?_
      rintro e w6 ⟨rfl, hb6⟩
      have HB6 := hide (HB5.out.trans (hb6.mono HB5.out.size))
      have d0 := cell_kept c0 hb6
      have d1 := cell_kept c1 hb6
      have m0 : w6.frozen? ⟨w.heap.size, 0, none⟩ = false := (hb6.frozen (p := ⟨w.heap.size, 0, none⟩) hp5).trans k0
      have m1 : w6.frozen? ⟨w.heap.size, 1, none⟩ = false := (hb6.frozen (p := ⟨w.heap.size, 1, none⟩) hp5).trans k1
      clear hb6 HB5 c0 c1 k0 k1 hp5 HL
      go_wp2
      refine bodyPost_ret (v := .tuple #[.agg #[.string (str (lows nm)), .string (str vl)], .bool true]) (by simp [results, Tryz.results112, go_sem, d0, d1]) rfl ⟨by rw [HRR.out]; rfl, ?_⟩
      exact ((HB6.out.setCell (Nat.le_refl _) _).setCell (Nat.le_refl _) _)
    · have h3' : valueB vl = false := by simpa using h3
      rw [h3']
      have HRR : Hid (R = none) := by show _ = _; rw [HR.out, if_neg h1, if_neg (fun h => h3 h.2)]
      clear HR h1 h2 h3 h3'
      go_wp2
      refine bodyPost_ret (v := .tuple #[.agg #[.string { data := #[] }, .string { data := #[] }], .bool false]) (by simp [results, Tryz.results112, go_sem, d0, d1]) rfl ⟨by rw [HRR.out]; rfl, ?_⟩
      exact ((HB4.out.setCell (Nat.le_refl _) _).setCell (Nat.le_refl _) _)
  · have h2' : nameB nm = false := by simpa using h2
    rw [h2']
    have HRR : Hid (R = none) := by show _ = _; rw [HR.out, if_neg h1, if_neg (fun h => h2 h.1)]
    clear HR h1 h2 h2'
    go_wp2
    refine bodyPost_ret (v := .tuple #[.agg #[.string { data := #[] }, .string { data := #[] }], .bool false]) (by simp [results, Tryz.results112, go_sem, c0, c1]) rfl ⟨by rw [HRR.out]; rfl, ?_⟩
    exact ((HB3.out.setCell (Nat.le_refl _) _).setCell (Nat.le_refl _) _)
end Go.Proofs.YtaenccjlokiejaaGreatDoor
