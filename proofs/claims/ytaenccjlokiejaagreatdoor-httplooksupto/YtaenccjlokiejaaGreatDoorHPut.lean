/- Fields that may be handed in; a field's line in a builder. -/
import Derived.Test.YtaenccjlokiejaaGreatDoorHSmall
namespace Go.Proofs.YtaenccjlokiejaaGreatDoor
open Go.RowKit Go.Shelf

def fAgg (f : Fl) : Value := .agg #[.string (str f.1), .string (str f.2)]
theorem lows_cl : lows clN = clN := by decide
theorem lows_te : lows teN = teN := by decide
set_option maxHeartbeats 1000000 in
set_option maxRecDepth 100000 in
theorem mayBe_any (f : Fl) (w : World) (h1 : f.1.length ≤ 9223372036854775807) (h2 : f.2.length ≤ 9223372036854775807) : Calls Tryz.prog 75 #[fAgg f] w fun e w' => e = .returned (.bool (mayB f)) ∧ Below w.heap.size w w' := by
  have HE : Hid (mayB f = (nameB f.1 && valueB f.2 && !decide (lows f.1 = clN) && !decide (lows f.1 = teN))) := rfl
  have HN := hide (fun W => isName_any f.1 W h1)
  have HV := hide (fun W => isValue_any f.2 W h2)
  have HC := hide (fun W => sameName_any f.1 clN W h1 (by decide))
  have HT := hide (fun W => sameName_any f.1 teN W h1 (by decide))
  rw [lows_cl] at HC
  rw [lows_te] at HT
  have ec : str clN = ⟨#[99, 111, 110, 116, 101, 110, 116, 45, 108, 101, 110, 103, 116, 104]⟩ := rfl
  have et : str teN = ⟨#[116, 114, 97, 110, 115, 102, 101, 114, 45, 101, 110, 99, 111, 100, 105, 110, 103]⟩ := rfl
  rw [ec] at HC
  rw [et] at HT
  have HB0 : Hid (Below w.heap.size w (w.alloc (.cells #[.string (str f.1), .string (str f.2)] 78))) := below_new _ _
  unfold fAgg
  generalize str f.1 = s1 at *
  generalize str f.2 = s2 at *
  generalize mayB f = r at *
  generalize nameB f.1 = b1 at *
  generalize valueB f.2 = b2 at *
  generalize decide (lows f.1 = clN) = b3 at *
  generalize decide (lows f.1 = teN) = b4 at *
  clear ec et h1 h2
  have hc0 : (w.alloc (.cells #[.string s1, .string s2] 78)).cell? ⟨w.heap.size, 0, none⟩ = some (.string s1) := by simp
  have hc1 : (w.alloc (.cells #[.string s1, .string s2] 78)).cell? ⟨w.heap.size, 1, none⟩ = some (.string s2) := by simp
  go_enter Tryz.func75, Tryz.ntmps75
  go_upto_region 1 with fail
  generalize w.alloc (.cells #[.string s1, .string s2] 78) = w0 at *
  go_wp2_with fail
  refine (HN.out w0).mono ?_
  rintro e w1 ⟨rfl, hb1⟩
  have HB1 := hide (HB0.out.trans (hb1.mono HB0.out.size))
  have d1 := cell_kept hc1 hb1
  have d0 := cell_kept hc0 hb1
  clear hb1 HB0 hc0 hc1 HN
  cases b1 with
  | false =>
    have HR : Hid (r = false) := by show _ = _; rw [HE.out]; rfl
    clear HE
    go_wp2
    go_ret
    exact ⟨by rw [HR.out]; rfl, HB1.out⟩
  | true =>
    go_wp2_with fail
    refine (HV.out w1).mono ?_
    rintro e w2 ⟨rfl, hb2⟩
    have HB2 := hide (HB1.out.trans (hb2.mono HB1.out.size))
    have e0 := cell_kept d0 hb2
    clear hb2 HB1 d0 d1 HV
    cases b2 with
    | false =>
      have HR : Hid (r = false) := by show _ = _; rw [HE.out]; rfl
      clear HE
      go_wp2
      go_ret
      exact ⟨by rw [HR.out]; rfl, HB2.out⟩
    | true =>
      go_wp2_with fail
      refine (HC.out w2).mono ?_
      rintro e w3 ⟨rfl, hb3⟩
      have HB3 := hide (HB2.out.trans (hb3.mono HB2.out.size))
      have f0 := cell_kept e0 hb3
      clear hb3 HB2 e0 HC
      cases b3 with
      | true =>
        have HR : Hid (r = false) := by show _ = _; rw [HE.out]; rfl
        clear HE
        go_wp2
        go_ret
        exact ⟨by rw [HR.out]; rfl, HB3.out⟩
      | false =>
        go_wp2_with fail
        refine (HT.out w3).mono ?_
        rintro e w4 ⟨rfl, hb4⟩
        have HB4 := hide (HB3.out.trans (hb4.mono HB3.out.size))
        clear hb4 HB3 f0 HT
        have HR : Hid (r = !b4) := by show _ = _; rw [HE.out]; rfl
        clear HE
        go_wp2
        go_ret
        exact ⟨by rw [HR.out]; simp, HB4.out⟩
theorem lows_len (l : U) : (lows l).length = l.length := by simp [lows]
theorem str_app (a b : U) : str a ++ str b = str (a ++ b) := by
  apply ByteArray.ext
  simp [str]
set_option maxHeartbeats 1000000 in
set_option maxRecDepth 100000 in
theorem writeField_any (B b : Nat) (w0 : World) (xs : U) (f : Fl) (w : World) (hB0 : B ≤ w0.heap.size) (h : BU B b w0 w xs) (h1 : f.1.length ≤ 1000) (h2 : f.2.length ≤ 10000) (hx : xs.length ≤ 10000000) :
    Calls Tryz.prog 76 #[.pointer (some ⟨b, 0, none⟩), fAgg f] w fun e w' => e = .returned (.tuple #[]) ∧ BU B b w0 w' (xs ++ fieldT f) := by
  have HX := hide hx
  have HL1 := hide h1
  have HL2 := hide h2
  have hlt := h.lt
  have hsz := h.size
  have HBW : Hid (B ≤ w.heap.size) := Nat.le_trans hB0 hsz
  have HF : Hid (PBk (w.alloc (.cells #[.string (str f.1), .string (str f.2)] 78)) w.heap.size f) := heap_alloc_new w _
  have HS : Hid (BU B b w0 (w.alloc (.cells #[.string (str f.1), .string (str f.2)] 78)) xs) := h.keep (below_new _ _) HBW.out
  have hne : w.heap.size ≠ b := by omega
  have HNE := hide hne
  have HSM := hide (fun W => small_any f.1 W (by omega))
  have hc0 := HF.out.cell0
  have HT : Hid (xs ++ fieldT f = xs ++ (lows f.1 ++ [58]) ++ (if f.2 = [] then [] else 32 :: f.2) ++ [13, 10]) := by show _ = _; unfold fieldT; simp
  have HLL := hide (lows_len f.1)
  obtain ⟨k1, hk1⟩ : ∃ k1, k1 = f.1.length := ⟨_, rfl⟩
  obtain ⟨k2, hk2⟩ : ∃ k2, k2 = f.2.length := ⟨_, rfl⟩
  have hz1 : (str (lows f.1)).size = k1 := by rw [str_size, lows_len, hk1]
  have hz2 : (str f.2).size = k2 := by rw [str_size, hk2]
  have hk1b : k1 ≤ 1000 := by omega
  have hk2b : k2 ≤ 10000 := by omega
  have HAP : Hid (str (lows f.1) ++ (⟨#[58]⟩ : ByteArray) = str (lows f.1 ++ [58])) := str_app (lows f.1) [58]
  have HAP2 : Hid ((⟨#[32]⟩ : ByteArray) ++ str f.2 = str (32 :: f.2)) := str_app [32] f.2
  have HE : Hid (((str f.2).toList == ([] : List UInt8)) = decide (f.2 = [])) := by
    show _ = _
    rw [toList_str, Bool.eq_iff_iff]
    simp
  unfold fAgg
  generalize hP : w.heap.size = p at *
  generalize hn1 : str (lows f.1) = sl at *
  generalize hn2 : str f.2 = s2 at *
  generalize hn3 : str f.1 = s1 at *
  clear hk1 hk2 hn1
  go_enter Tryz.func76, Tryz.ntmps76
  go_upto_region 1 with fail
  generalize w.alloc (.cells #[.string s1, .string s2] 78) = wa at *
  clear h hlt hsz hP h1 h2 hx
  go_wp2_with fail
  refine (HSM.out wa).mono ?_
  rintro e w1 ⟨rfl, hb1⟩
  have hBa : B ≤ wa.heap.size := Nat.le_trans hB0 HS.out.size
  have HS1 := hide (HS.out.keep hb1 hBa)
  have HF1 := hide (HF.out.keep hb1)
  clear hb1 HS HF hc0 HSM hBa
  go_wp2_with fail
  rw [HAP.out]
  refine (putS_any B b w0 w1 xs (lows f.1 ++ [58]) hB0 HS1.out (by rw [List.length_append, HLL.out]; have := HX.out; have := HL1.out; simp; omega)).mono ?_
  rintro e w2 ⟨rfl, HS2, HK2⟩
  have HF2 := hide (HK2.out _ _ HF1.out HNE.out)
  have c1 := HF2.out.cell1
  rw [hn2] at c1
  clear HK2 HF1 HS1
  by_cases he : f.2 = []
  · have hee : (s2.toList == ([] : List UInt8)) = true := by rw [HE.out]; simp [he]
    rw [if_pos he] at HT
    have hT2 : Hid (xs ++ fieldT f = xs ++ (lows f.1 ++ [58]) ++ [13, 10]) := by show _ = _; rw [HT.out]; simp
    clear hz2 hk2b he
    go_wp2_with fail
    refine (putS_any B b w0 w2 _ [13, 10] hB0 HS2.out (by rw [List.length_append, List.length_append, HLL.out]; have := HX.out; have := HL1.out; simp; omega)).mono ?_
    rintro e w3 ⟨rfl, HS3, -⟩
    rw [← hT2.out] at HS3
    go_wp2
    go_end0
    exact ⟨rfl, HS3.out⟩
  · have hee : (s2.toList == ([] : List UInt8)) = false := by rw [HE.out]; simpa using he
    rw [if_neg he] at HT
    clear he
    go_wp2_with fail
    rw [HAP2.out]
    refine (putS_any B b w0 w2 _ (32 :: f.2) hB0 HS2.out (by rw [List.length_append, List.length_append, HLL.out]; have := HX.out; have := HL1.out; have := HL2.out; simp; omega)).mono ?_
    rintro e w3 ⟨rfl, HS3, -⟩
    clear HS2
    go_wp2_with fail
    refine (putS_any B b w0 w3 _ [13, 10] hB0 HS3.out (by simp only [List.length_append, List.length_cons, HLL.out]; have := HX.out; have := HL1.out; have := HL2.out; simp; omega)).mono ?_
    rintro e w4 ⟨rfl, HS4, -⟩
    rw [← HT.out] at HS4
    go_wp2
    go_end0
    exact ⟨rfl, HS4.out⟩
end Go.Proofs.YtaenccjlokiejaaGreatDoor
