/- A head and one more line, by the program. -/
import Derived.Test.YtaenccjlokiejaaGreatDoorHFrm
import Derived.Test.YtaenccjlokiejaaGreatDoorHField
namespace Go.Proofs.YtaenccjlokiejaaGreatDoor
open Go.RowKit Go.Shelf

theorem atoiV_digits {l : U} (h : lengthB l = true) : atoiV l = (numR l : Int) := by
  unfold atoiV
  rw [(atoi_digits h).1]
set_option maxHeartbeats 1000000 in
set_option maxRecDepth 100000 in
theorem size_any (l : U) (bh : Nat) (v y : Value) (sz : Bool) (w : World) (hl : l.length ≤ 1000000) (h : HdB w bh v y (.bool sz)) (hb6 : 6 ≤ bh) (E : Env w) :
    Calls Tryz.prog 113 #[.pointer (some ⟨bh, 0, none⟩), .string (str l)] w fun e w' => (sz = false ∧ lengthB l = true ∧ e = .returned (.int .i64 0) ∧ Hid (HdB w' bh v (.int .i64 (numR l : Int)) (.bool true)) ∧ Hid (Frm w.heap.size bh w w')) ∨
      (¬ (sz = false ∧ lengthB l = true) ∧ e = .returned (.int .i64 154) ∧ Hid (Below w.heap.size w w')) := by
  have HL := hide (fun W => isLength_any l W (by omega))
  have HA := hide (fun W (EE : Env W) => atoi_any l W (by omega) EE)
  have HV := hide (@atoiV_digits l)
  have HH := hide h
  have HE := hide E
  obtain ⟨c0, c1, c2⟩ := h.cells
  generalize str l = s at *
  clear h E hl
  cases sz with
  | true =>
    clear c0 c1
    go_enter Tryz.func113, Tryz.ntmps113
    go_wp2
    go_ret
    exact .inr ⟨by simp, rfl, Below.refl _ _⟩
  | false =>
    go_enter Tryz.func113, Tryz.ntmps113
    go_wp2_with fail
    refine (HL.out w).mono ?_
    rintro e w1 ⟨rfl, hb1⟩
    have HB1 := hide hb1
    clear hb1 HL c0 c1 c2
    by_cases hlb : lengthB l = true
    · rw [hlb]
      have HH1 := hide (HH.out.keep HB1.out)
      have f2 := HH1.out.frozen 2
      obtain ⟨d0, d1, d2⟩ := HH1.out.cells
      clear d0 d1
      have HE1 := hide (HE.out.keep HB1.out)
      have HF1 : Hid (Frm w.heap.size bh w w1) := frm_below HB1.out (Nat.le_refl _)
      have HS2 := hide (HH1.out.set2 (.bool true))
      have HF2 := hide (HF1.out.setCell 2 (.bool true))
      have HE2 : Hid (Env (w1.setCell ⟨bh, 2, none⟩ (.bool true))) := by
        exact HE1.out.frm hb6 (Nat.le_refl 6) ((Frm.refl 6 bh w1).setCell 2 _)
      go_upto_region 4 with fail
      generalize w1.setCell ⟨bh, 2, none⟩ (.bool true) = w2 at *
      clear d2 f2 HH1 HF1 HE1 HB1
      go_wp2_with fail
      refine (HA.out w2 HE2.out).mono ?_
      rintro e w3 ⟨ev, rfl, hb3⟩
      have HS3 := hide (HS2.out.keep hb3)
      have HF3 := hide (HF2.out.trans (frm_below hb3 HF2.out.size))
      have HS4 := hide (HS3.out.set1 (.int .i64 (numR l : Int)))
      have HF4 := hide (HF3.out.setCell 1 (.int .i64 (numR l : Int)))
      have f1 := HS3.out.frozen 1
      obtain ⟨d0, d1, d2⟩ := HS3.out.cells
      clear hb3 d0 d2 HS2 HF2
      rw [HV.out hlb]
      go_wp2
      go_ret
      exact .inl ⟨by simp, by simp [hlb], rfl, HS4, HF4⟩
    · have hlf : lengthB l = false := by simpa using hlb
      rw [hlf]
      go_wp2
      go_ret
      exact .inr ⟨by rw [hlf]; simp, rfl, HB1⟩
/-- What add leaves. -/
def AddPost (B bh : Nat) (w w' : World) (r : Except Nat Hd) (e : Ending) : Prop :=
  match r with
  | .error x => e = .returned (.int .i64 (x : Int)) ∧ Below w.heap.size w w' ∧ x ≠ 0
  | .ok h => e = .returned (.int .i64 0) ∧ ∃ v, HdB w' bh v (.int .i64 ((h.len.getD 0 : Nat) : Int)) (.bool h.len.isSome) ∧ FOwn 78 w' B v h.fs ∧ Frm B bh w w'
theorem infoPairF : ∃ i0, Tryz.prog.info? 78 = some i0 ∧ i0.zero = some (.agg #[.string { data := #[] }, .string { data := #[] }]) ∧ i0.size = 2 ∧ i0.bytes = 32 := info_parts infoPair
set_option linter.unusedSimpArgs false in
set_option maxHeartbeats 2000000 in
set_option maxRecDepth 100000 in
theorem add_any (l : U) (B bh : Nat) (v : Value) (h : Hd) (w : World) (hl : l.length ≤ 1000000) (hh : HdB w bh v (.int .i64 ((h.len.getD 0 : Nat) : Int)) (.bool h.len.isSome)) (ho : FOwn 78 w B v h.fs) (hfs : h.fs.length ≤ 64)
    (hbB : bh < B) (hBw : B ≤ w.heap.size) (hb6 : 6 ≤ bh) (E : Env w) :
    Calls Tryz.prog 96 #[.pointer (some ⟨bh, 0, none⟩), .string (str l)] w fun e w' => AddPost B bh w w' (addR h l) e := by
  obtain ⟨i0, hi, hz0, hz1, hz2⟩ := infoPairF
  have HF := hide (field_any l w hl E)
  obtain ⟨R, hR⟩ : ∃ R, R = addR h l := ⟨_, rfl⟩
  rw [← hR]
  have HR : Hid (R = match fieldR l with
    | none => .error 153
    | some f =>
      if f.1 = teN then .error 154
      else if f.1 = clN then (if h.len = none ∧ lengthB f.2 = true then .ok ⟨h.fs, some (numR f.2)⟩ else .error 154)
      else if h.fs.length = 64 then .error 32 else .ok ⟨h.fs ++ [f], h.len⟩) := hR
  have HFL : Hid (∀ f, fieldR l = some f → f.1.length ≤ 64 ∧ f.2.length ≤ 4096) := by
    intro f hf
    unfold fieldR at hf
    split at hf
    · cases hf
    · split at hf
      · rename_i hnv
        injection hf with hf
        subst hf
        have h1 := hnv.1
        have h2 := hnv.2
        unfold nameB at h1
        unfold valueB at h2
        simp only [Bool.and_eq_true, decide_eq_true_eq] at h1 h2
        exact ⟨by rw [lows_len]; exact h1.1.2, h2.1.1⟩
      · cases hf
  have HH := hide hh
  have HO := hide ho
  have HE := hide E
  have HFS := hide hfs
  have HBW := hide hBw
  generalize str l = s at *
  clear hR hh ho E hl hfs
  go_enter Tryz.func96, Tryz.ntmps96
  go_wp2_with fail
  refine HF.out.mono ?_
  rintro e w1 ⟨rfl, hb1⟩
  have HB1 := hide hb1
  have HH1 := hide (HH.out.keep hb1)
  have HO1 := hide (HO.out.keep hb1)
  have HE1 := hide (HE.out.keep hb1)
  have hs1 := hb1.size
  clear hb1 HH HO HE HF
  cases hf : fieldR l with
  | none =>
    rw [hf] at HR
    have HRR : Hid (R = .error 153) := HR.out
    unfold fieldV
    clear HR hf
    go_wp2
    go_ret
    rw [HRR.out]
    exact ⟨rfl, HB1.out.alloc hs1 _, by decide⟩
  | some f =>
    rw [hf] at HR
    have HFF := hide (HFL.out f hf)
    have HRR : Hid (R = if f.1 = teN then .error 154
      else if f.1 = clN then (if h.len = none ∧ lengthB f.2 = true then .ok ⟨h.fs, some (numR f.2)⟩ else .error 154)
      else if h.fs.length = 64 then .error 32 else .ok ⟨h.fs ++ [f], h.len⟩) := HR.out
    unfold fieldV
    clear HR hf HFL
    have HP : Hid (PBk (w1.alloc (.cells #[.string (str f.1), .string (str f.2)] 78)) w1.heap.size f) := heap_alloc_new w1 _
    have HB2 : Hid (Below w.heap.size w (w1.alloc (.cells #[.string (str f.1), .string (str f.2)] 78))) := HB1.out.alloc hs1 _
    have HBX : Hid (Below w1.heap.size w1 (w1.alloc (.cells #[.string (str f.1), .string (str f.2)] 78))) := below_new _ _
    have HOB : Hid (∀ g, v.ownBlock = some g → g < w1.heap.size) := fun g hg => (World.ownsRow.lt HO1.out g hg).2
    have HH2 := hide (HH1.out.keep HBX.out)
    have HO2 := hide (HO1.out.keep HBX.out)
    have HE2 := hide (HE1.out.keep HBX.out)
    have HTE : Hid (((str f.1).toList == ([116, 114, 97, 110, 115, 102, 101, 114, 45, 101, 110, 99, 111, 100, 105, 110, 103] : List UInt8)) = decide (f.1 = teN)) := by
      show _ = _
      rw [toList_str, Bool.eq_iff_iff, beq_iff_eq, decide_eq_true_eq]
      exact Iff.rfl
    have HCL : Hid (((str f.1).toList == ([99, 111, 110, 116, 101, 110, 116, 45, 108, 101, 110, 103, 116, 104] : List UInt8)) = decide (f.1 = clN)) := by
      show _ = _
      rw [toList_str, Bool.eq_iff_iff, beq_iff_eq, decide_eq_true_eq]
      exact Iff.rfl
    go_upto_region 4 with fail
    have p0 := HP.out.cell0
    have p1 := HP.out.cell1
    have hs2 := HB2.out.size
    generalize hbf : w1.heap.size = bf at *
    generalize w1.alloc (.cells #[.string (str f.1), .string (str f.2)] 78) = w2 at *
    generalize hn1 : str f.1 = s1 at *
    clear HBX HH1 HO1 HE1 HB1
    by_cases hte : f.1 = teN
    · have ht : (s1.toList == ([116, 114, 97, 110, 115, 102, 101, 114, 45, 101, 110, 99, 111, 100, 105, 110, 103] : List UInt8)) = true := by rw [HTE.out]; simp [hte]
      have HQ : Hid (R = .error 154) := by show _ = _; rw [HRR.out, if_pos hte]
      clear hte HTE HCL HRR
      go_wp2
      go_ret
      rw [HQ.out]
      exact ⟨rfl, HB2.out, by decide⟩
    have ht : (s1.toList == ([116, 114, 97, 110, 115, 102, 101, 114, 45, 101, 110, 99, 111, 100, 105, 110, 103] : List UInt8)) = false := by rw [HTE.out]; simp [hte]
    by_cases hcl : f.1 = clN
    · have hc : (s1.toList == ([99, 111, 110, 116, 101, 110, 116, 45, 108, 101, 110, 103, 116, 104] : List UInt8)) = true := by rw [HCL.out]; simp [hcl]
      have HQ : Hid (R = if h.len = none ∧ lengthB f.2 = true then .ok ⟨h.fs, some (numR f.2)⟩ else .error 154) := by show _ = _; rw [HRR.out, if_neg hte, if_pos hcl]
      have HSZ := hide (size_any f.2 bh v _ h.len.isSome w2 (by have := HFF.out.2; omega) HH2.out hb6 HE2.out)
      clear hte hcl HTE HCL HRR
      go_wp2_with fail
      refine HSZ.out.mono ?_
      rintro e w3 (⟨hns, hlb, rfl, HH3, HF3⟩ | ⟨hno, rfl, HB3⟩)
      · have HQ2 : Hid (R = .ok ⟨h.fs, some (numR f.2)⟩) := by
          show _ = _
          rw [HQ.out, if_pos ⟨by simpa using hns, hlb⟩]
        have HO3 : Hid (FOwn 78 w3 B v h.fs) := by
          refine ⟨HO2.out.1, ?_⟩
          rcases HO2.out.2 with h2 | ⟨g, cap, cur, e, hg, hh, r⟩
          · exact .inl h2
          · exact .inr ⟨g, cap, cur, e, hg, (HF3.out.block g (Array.getElem?_eq_some_iff.1 hh).1 (by omega)).trans hh, r⟩
        have HF4 : Hid (Frm B bh w w3) := (frm_below HB2.out HBW.out).trans (HF3.out.lower (Nat.le_trans HBW.out hs2))
        clear HSZ hns hlb
        go_wp2
        go_ret
        rw [HQ2.out]
        exact ⟨rfl, v, HH3.out, HO3.out, HF4.out⟩
      · have HQ2 : Hid (R = .error 154) := by
          show _ = _
          rw [HQ.out, if_neg]
          intro hx
          exact hno ⟨by rw [hx.1]; rfl, hx.2⟩
        have HB4 := hide (HB2.out.trans (HB3.out.mono hs2))
        clear HSZ hno
        go_wp2
        go_ret
        rw [HQ2.out]
        exact ⟨rfl, HB4.out, by decide⟩
    have hc : (s1.toList == ([99, 111, 110, 116, 101, 110, 116, 45, 108, 101, 110, 103, 116, 104] : List UInt8)) = false := by rw [HCL.out]; simp [hcl]
    have HQ : Hid (R = if h.fs.length = 64 then .error 32 else .ok ⟨h.fs ++ [f], h.len⟩) := by show _ = _; rw [HRR.out, if_neg hte, if_neg hcl]
    clear hte hcl HTE HCL HRR
    obtain ⟨ao, cap, hv, _, _, _⟩ := HO2.out.shape
    subst hv
    obtain ⟨n, hn⟩ : ∃ n, n = h.fs.length := ⟨_, rfl⟩
    have HN := hide hn
    obtain ⟨d0, d1, d2⟩ := HH2.out.cells
    rw [← hn] at d0
    have hn64 : n ≤ 64 := by have := HFS.out; omega
    clear d1 d2
    by_cases h64 : n = 64
    · have HQ2 : Hid (R = .error 32) := by show _ = _; rw [HQ.out, if_pos (by rw [← HN.out]; exact h64)]
      subst h64
      clear hn
      go_wp2
      go_ret
      rw [HQ2.out]
      exact ⟨rfl, HB2.out, by decide⟩
    have HQ2 : Hid (R = .ok ⟨h.fs ++ [f], h.len⟩) := by show _ = _; rw [HQ.out, if_neg (by rw [← HN.out]; exact h64)]
    have h64b : ((n : Int) == 64) = false := by rw [beq_eq_false_iff_ne]; omega
    have HO2' : Hid (FOwn 78 w2 B (.slice ao n cap) h.fs) := by have := HO2.out; rw [← hn] at this; exact this
    have HBX : Hid (Below w2.heap.size w2 (w2.drew.alloc (.cells #[.string (str f.1), .string (str f.2)] 78))) := Below.alloc (below_drewN (Below.refl _ _) 1) (Nat.le_refl _) _
    have HFR : Hid (FRow (w2.drew.alloc (.cells #[.string (str f.1), .string (str f.2)] 78)) (some ⟨w2.heap.size, 0, none⟩) [f]) := frow_one w2.drew 78 f
    rw [hn1] at HBX HFR
    have f0 := HH2.out.frozen 0
    have hxs := HBX.out.size
    clear h64 hn HQ
    rw [← HN.out] at HOB
    go_upto_region 10 with fail
    have n0 := World.new_ne w2 _ p0
    have n1 := World.new_ne w2 _ p1
    have n2 := World.new_ne w2 _ d0
    have hbf2 : bf < w2.heap.size := (Array.getElem?_eq_some_iff.1 (show w2.heap[bf]? = _ from HP.out)).1
    have hbx : (w2.drew.alloc (.cells #[.string s1, .string (str f.2)] 78)).heap.size = w2.heap.size + 1 := by simp
    have HX1 : Hid (B ≤ (w2.drew.alloc (.cells #[.string s1, .string (str f.2)] 78)).heap.size) := by show _ ≤ _; have := HBW.out; omega
    have HX2 : Hid (bf < (w2.drew.alloc (.cells #[.string s1, .string (str f.2)] 78)).heap.size) := by show _ < _; omega
    have HSZ : Hid ((h.fs.length + 1) * 32 ≤ 140737488355328) := by show _ ≤ _; rw [← HN.out]; omega
    clear hbx
    have q0 := cell_kept p0 (below_new w2 (.cells #[.string s1, .string (str f.2)] 78))
    have q1 := cell_kept p1 (below_new w2 (.cells #[.string s1, .string (str f.2)] 78))
    have q2 := cell_kept d0 (below_new w2 (.cells #[.string s1, .string (str f.2)] 78))
    go_region_law (first
      | (refine law_appF rfl (.tmp 38) (.tmp 40) rfl hi hz0 hz1 hz2 B _ h.fs f rfl (HO2'.out.keep HBX.out) ⟨w2.heap.size, 0, none⟩ rfl HFR.out HSZ.out HX1.out ?_
         intro fo fc w5 hown5 hgr5
         have HO5 := hide hown5
         have HF5 : Hid (Frm B bh w2 w5) := (frm_below HBX.out (Nat.le_trans HBW.out hs2)).trans (frm_grown hgr5 (HO2'.out.keep HBX.out) HX1.out)
         have HH5 := hide (hdB_grown HH2.out HBX.out hgr5 (HO2'.out.keep HBX.out) hbB)
         have HP5 : Hid (PBk w5 bf f) := (hgr5.block bf HX2.out (fun e => by have := HOB.out bf e.symm; omega)).trans ((HBX.out.block bf hbf2).trans HP.out)
         clear hown5 hgr5
         obtain ⟨x0, x1, x2⟩ := HH5.out.cells
         have z0 := HP5.out.cell0
         have z1 := HP5.out.cell1
         rw [← HN.out] at x0
         rw [hn1] at z0
         clear x1 x2
         have y0 := HH5.out.frozen 0))
    all_goals
      have HH6 := hide (HH5.out.set0 (.slice fo (h.fs.length + 1) fc))
      have HF6 : Hid (Frm B bh w (w5.setCell ⟨bh, 0, none⟩ (.slice fo (h.fs.length + 1) fc))) := (frm_below HB2.out HBW.out).trans (HF5.out.setCell 0 _)
      have HO6 := hide (HO5.out.setOther bh 0 hbB (.slice fo (h.fs.length + 1) fc))
      clear HH5 HF5 HO5
      go_wp2
      go_ret
      rw [HQ2.out]
      exact ⟨rfl, _, HH6.out, HO6.out, HF6.out⟩
end Go.Proofs.YtaenccjlokiejaaGreatDoor
