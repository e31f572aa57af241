/- The walk of the law FrameSeals: every kind and every load: it returns true and turns nothing old. -/
import Derived.Test.YtmgppjfohabdmaaDoorLive
import Derived.Test.YtmgppjfohabdmaaDoorRef2
import Derived.Test.YtmgppjfohabdmaaDoorAloneN
namespace Go.Proofs.YtmgppjfohabdmaaDoor
open Go.RowKit

def sealErr (kind n : Nat) : Nat := if kind = 0 then 13 else if 2097152 < n then 1 else 0
def sealOut (kind : Nat) (xs : List Nat) : List Nat := if sealErr kind xs.length = 0 then sealed kind xs else []
theorem sealOut_lt {kind : Nat} {xs : List Nat} (hk : kind < 256) (hx : ∀ x ∈ xs, x < 256) : ∀ x ∈ sealOut kind xs, x < 256 := by
  unfold sealOut
  split
  · exact sealed_lt hk hx
  · simp
theorem sealOut_length (kind : Nat) (xs : List Nat) : (sealOut kind xs).length ≤ 2097161 := by
  unfold sealOut
  by_cases h : sealErr kind xs.length = 0
  · rw [if_pos h, sealed_length]
    unfold sealErr at h
    split at h
    · cases h
    · split at h
      · cases h
      · omega
  · rw [if_neg h]; simp
theorem seal_all (cap kind : Nat) (ao : Option Addr) (n : Nat) (xs : List Nat) (w : World) (hk2 : kind < 256) (hn : n = xs.length) (hl : n ≤ 140737488351232) (hx : ∀ x ∈ xs, x < 256) (hr : Row w ao xs) (hT : Tab w) :
    Calls Tryd.prog 15 #[.int .u8 (kind : Int), .slice ao n cap] w fun e w' => ∃ po pn pc, e = .returned (.tuple #[.slice po pn pc, .int .i64 ((sealErr kind n : Nat) : Int)]) ∧ Hid (Made w w' po pn pc (sealOut kind xs)) := by
  by_cases h0 : kind = 0
  · subst h0
    refine (seal_zero cap ao n w).mono ?_
    rintro e w' ⟨rfl, rfl⟩
    exact ⟨none, 0, 0, rfl, rfl, Nat.le_refl _, .inl rfl, own_nil _ _, Below.refl _ _⟩
  · by_cases h1 : 2097152 < n
    · refine (seal_long cap kind ao n w (by omega) h1 hl).mono ?_
      rintro e w' ⟨rfl, rfl⟩
      have e1 : sealErr kind n = 1 := by unfold sealErr; rw [if_neg h0, if_pos h1]
      have e2 : sealOut kind xs = [] := by unfold sealOut; rw [← hn, e1]; rfl
      rw [e1, e2]
      exact ⟨none, 0, 0, rfl, rfl, Nat.le_refl _, .inl rfl, own_nil _ _, Below.refl _ _⟩
    · refine (seal_any cap kind ao n xs w (by omega) hk2 hn (by omega) hx hr hT).mono ?_
      rintro e w' ⟨rfl, h⟩
      have e1 : sealErr kind n = 0 := by unfold sealErr; rw [if_neg h0, if_neg h1]
      have e2 : sealOut kind xs = sealed kind xs := by unfold sealOut; rw [← hn, e1, if_pos rfl]
      rw [e1, e2]
      have hlen := sealed_length kind xs
      exact ⟨_, _, _, rfl, by omega, Nat.le_refl _, h.out.1.row, Blk.own (ys := []) (by rw [List.append_nil]; exact h.out.1) (by omega) rfl (Nat.le_refl _) (by unfold maxLen; omega), h.out.2⟩
theorem refSeal_all (cap kind : Nat) (ao : Option Addr) (n : Nat) (xs : List Nat) (w : World) (hk2 : kind < 256) (hn : n = xs.length) (hl : n ≤ 140737488351232) (hx : ∀ x ∈ xs, x < 256) (hr : Row w ao xs) :
    Calls Tryd.prog 16 #[.int .u8 (kind : Int), .slice ao n cap] w fun e w' => ∃ po pn pc, e = .returned (.tuple #[.slice po pn pc, .int .i64 ((sealErr kind n : Nat) : Int)]) ∧ Hid (Made w w' po pn pc (sealOut kind xs)) := by
  by_cases h0 : kind = 0
  · subst h0
    refine (refSeal_zero cap ao n w).mono ?_
    rintro e w' ⟨rfl, rfl⟩
    exact ⟨none, 0, 0, rfl, rfl, Nat.le_refl _, .inl rfl, own_nil _ _, Below.refl _ _⟩
  · by_cases h1 : 2097152 < n
    · refine (refSeal_long cap kind ao n w (by omega) h1 hl).mono ?_
      rintro e w' ⟨rfl, rfl⟩
      have e1 : sealErr kind n = 1 := by unfold sealErr; rw [if_neg h0, if_pos h1]
      have e2 : sealOut kind xs = [] := by unfold sealOut; rw [← hn, e1]; rfl
      rw [e1, e2]
      exact ⟨none, 0, 0, rfl, rfl, Nat.le_refl _, .inl rfl, own_nil _ _, Below.refl _ _⟩
    · refine (refSeal_any cap kind ao n xs w (by omega) hk2 hn (by omega) hx hr).mono ?_
      rintro e w' ⟨ro, rc, rfl, h⟩
      have e1 : sealErr kind n = 0 := by unfold sealErr; rw [if_neg h0, if_neg h1]
      have e2 : sealOut kind xs = sealed kind xs := by unfold sealOut; rw [← hn, e1, if_pos rfl]
      rw [e1, e2]
      exact ⟨ro, _, rc, rfl, h.out⟩
theorem same_n (n m c d : Nat) (ao bo : Option Addr) (xs ys : List Nat) (w : World) (hn : n = xs.length) (hm : m = ys.length) (hx : Row w ao xs) (hy : Row w bo ys) (bx : ∀ x ∈ xs, x < 256) (byy : ∀ y ∈ ys, y < 256) :
    Calls Tryd.prog 17 #[.slice ao n c, .slice bo m d] w fun e w' => e = .returned (.bool (decide (xs = ys))) ∧ w' = w := by
  subst hn; subst hm; exact same_any c d ao bo xs ys w hx hy bx byy
theorem same_true (n c d : Nat) (ao bo : Option Addr) (xs : List Nat) (w : World) (hn : n = xs.length) (hx : Row w ao xs) (hy : Row w bo xs) (bx : ∀ x ∈ xs, x < 256) :
    Calls Tryd.prog 17 #[.slice ao n c, .slice bo n d] w fun e w' => e = .returned (.bool true) ∧ w' = w := by
  refine (same_n n n c d ao bo xs xs w hn hn hx hy bx bx).mono ?_
  rintro e w' ⟨rfl, rfl⟩
  exact ⟨by simp, rfl⟩

set_option maxHeartbeats 1600000 in
set_option maxRecDepth 100000 in
theorem frameSeals_walk (kind cb : Nat) (bo : Option Addr) (xs : List Nat) (w : World) (hk : kind < 256) (hl : xs.length ≤ 140737488351232) (hx : ∀ x ∈ xs, x < 256) (hb : Row w bo xs) (hT : Tab w) :
    Calls Tryd.prog 5 #[.int .u8 (kind : Int), .slice bo xs.length cb] w fun e w' => e = .returned (.bool true) ∧ Below w.heap.size w w' := by
  have HX : Hid (∀ x ∈ xs, x < 256) := hx
  have HB : Hid (Row w bo xs) := hb
  have HT : Hid (Tab w) := hT
  have HU : Hid (∀ x ∈ sealOut kind xs, x < 256) := sealOut_lt hk hx
  have hout := sealOut_length kind xs
  clear hx hb hT
  obtain ⟨out, HOU⟩ : ∃ out, Hid (out = sealOut kind xs) := ⟨_, rfl⟩
  obtain ⟨er, HER⟩ : ∃ er, Hid (er = sealErr kind xs.length) := ⟨_, rfl⟩
  have HU2 : Hid (∀ x ∈ out, x < 256) := by show ∀ x ∈ out, x < 256; rw [HOU.out]; exact HU.out
  have hol : out.length ≤ 2097161 := by rw [HOU.out]; exact hout
  clear HU hout
  go_enter Tryd.func5, Tryd.ntmps5
  go_wp2_with fail
  refine (lent_row cb bo xs w hl HB.out).mono ?_
  rintro e w1 ⟨g, c1, rfl, h1⟩
  have hle1 := h1.out.1
  have hgl : g < w1.heap.size := h1.out.2.2.1
  have HF1 : Hid (Row w1 (some ⟨g, 0, none⟩) (xs ++ marks 64)) := h1.out.2.2.2.2.1
  have HL1 : Hid (Below w.heap.size w w1) := h1.out.2.2.2.2.2
  have hs1 := HL1.out.size
  have HT1 : Hid (Tab w1) := HT.out.keep HL1.out
  clear h1
  go_wp2_with fail
  refine (seal_all c1 kind _ xs.length xs w1 hk rfl hl HX.out HF1.out.take HT1.out).mono ?_
  rintro e w2 ⟨po, pn, pc, rfl, h2⟩
  rw [← HER.out]
  have hmd2 : Made w1 w2 po pn pc out := by rw [HOU.out]; exact h2.out
  have HM2 : Hid (Made w1 w2 po pn pc out) := hmd2
  have HL2 : Hid (Below w1.heap.size w1 w2) := hmd2.2.2.2.2
  have hs2 := HL2.out.size
  have HF2 : Hid (Row w2 (some ⟨g, 0, none⟩) (xs ++ marks 64)) := HF1.out.keep HL2.out
  have HT2 : Hid (Tab w2) := HT1.out.keep HL2.out
  clear h2 hmd2 HF1 HT1
  go_wp2_with fail
  refine (seal_all c1 kind _ xs.length xs w2 hk rfl hl HX.out HF2.out.take HT2.out).mono ?_
  rintro e w3 ⟨qo, qn, qc, rfl, h3⟩
  rw [← HER.out]
  have hmd3 : Made w2 w3 qo qn qc out := by rw [HOU.out]; exact h3.out
  have HM3 : Hid (Made w2 w3 qo qn qc out) := hmd3
  have HL3 : Hid (Below w2.heap.size w2 w3) := hmd3.2.2.2.2
  have hs3 := HL3.out.size
  have HT3 : Hid (Tab w3) := HT2.out.keep HL3.out
  have HLw3 : Hid (Below w.heap.size w w3) := (HL1.out.trans (HL2.out.mono hs1)).trans (HL3.out.mono (by omega))
  clear h3 hmd3 HT2
  go_wp2_with fail
  refine (refSeal_all cb kind bo xs.length xs w3 hk rfl hl HX.out (HB.out.keep HLw3.out)).mono ?_
  rintro e w4 ⟨ro, rn, rc, rfl, h4⟩
  rw [← HER.out]
  have h4' : Made w3 w4 ro rn rc out := by rw [HOU.out]; exact h4.out
  have HL4 : Hid (Below w3.heap.size w3 w4) := h4'.2.2.2.2
  have hs4 := HL4.out.size
  have HLw4 : Hid (Below w.heap.size w w4) := HLw3.out.trans (HL4.out.mono (by omega))
  have HM4 : Hid (Made w3 w4 ro rn rc out) := h4'
  have hrn : pn = rn := HM2.out.1.trans h4'.1.symm
  have hqn : pn = qn := HM2.out.1.trans HM3.out.1.symm
  have HPN : Hid (pn = out.length) := HM2.out.1
  clear h4 h4' HLw3
  subst hrn
  subst hqn
  have HP4 : Hid (Own w4 w1.heap.size (.slice po pn pc) out) := (HM2.out.2.2.2.1.keep HL3.out).keep HL4.out
  have HQ4 : Hid (Own w4 w2.heap.size (.slice qo pn qc) out) := HM3.out.2.2.2.1.keep HL4.out
  have HRP4 : Hid (Row w4 po out) := (HM2.out.2.2.1.keep HL3.out).keep HL4.out
  have HRQ4 : Hid (Row w4 qo out) := HM3.out.2.2.1.keep HL4.out
  have HF4 : Hid (Row w4 (some ⟨g, 0, none⟩) (xs ++ marks 64)) := (HF2.out.keep HL3.out).keep HL4.out
  have HB4 : Hid (Row w4 bo xs) := HB.out.keep HLw4.out
  have HSP : Hid (∀ k, (Value.slice po pn pc).ownBlock = some k → (Value.slice qo pn qc).ownBlock ≠ some k) := fun k hk e => by
    have a := HM2.out.2.2.2.1.ltSize k hk
    have b := HQ4.out.ge k e
    omega
  have HPL : Hid (∀ k, (Value.slice po pn pc).ownBlock = some k → k < w3.heap.size) := fun k hk => Nat.lt_of_lt_of_le (HM2.out.2.2.2.1.ltSize k hk) hs3
  have HQL : Hid (∀ k, (Value.slice qo pn qc).ownBlock = some k → k < w3.heap.size) := HM3.out.2.2.2.1.ltSize
  clear HM2 HM3 HF2 HL2 HL3
  have he0 : (((er : Nat) : Int) != ((er : Nat) : Int)) = false := by simp
  have hrn2 : pn + 64 ≤ 140737488355328 := by have := HPN.out; omega
  go_wp2_with (go_at_call 7; refine (num_any _ _).mono ?_; rintro e w' ⟨rfl, rfl⟩)
  refine (same_true pn pc rc po ro out _ HPN.out HRP4.out HM4.out.2.2.1 HU2.out).mono ?_
  rintro e w' ⟨rfl, rfl⟩
  go_wp2_with fail
  refine (same_true pn qc rc qo ro out _ HPN.out HRQ4.out HM4.out.2.2.1 HU2.out).mono ?_
  rintro e w4 ⟨rfl, rfl⟩
  go_wp2_with fail
  refine (kept_true _ c1 cb g 0 bo xs _ hl rfl hle1 HF4.out HB4.out HX.out).mono ?_
  rintro e w' ⟨rfl, rfl⟩
  go_wp2_with fail
  refine (alone_two w' w1.heap.size pn pc pn qc po qo out out (by omega) HP4.out (HQ4.out.lower hs2) hrn2 hrn2 HSP.out).mono ?_
  rintro e w6 ⟨rfl, h6⟩
  have hp3 : ∀ k, (Value.slice po pn pc).ownBlock = some k → w1.heap.size ≤ k ∧ k < w3.heap.size := fun k hk => ⟨HP4.out.ge k hk, HPL.out k hk⟩
  have hq3 : ∀ k, (Value.slice qo pn qc).ownBlock = some k → w1.heap.size ≤ k ∧ k < w3.heap.size := fun k hk => ⟨Nat.le_trans hs2 (HQ4.out.ge k hk), HQL.out k hk⟩
  have hb6 : Below w1.heap.size w' w6 := h6.out.below (by omega) (fun k hk => by
    simp only [List.mem_cons, List.not_mem_nil, or_false] at hk
    rcases hk with hk | hk
    · exact (hp3 k hk.symm).1
    · exact (hq3 k hk.symm).1)
  have HL6 : Hid (Below w.heap.size w w6) := HLw4.out.trans (hb6.mono hs1)
  have HF6 : Hid (Row w6 (some ⟨g, 0, none⟩) (xs ++ marks 64)) := HF4.out.below hb6 (fun a ha => by cases ha; exact hgl)
  have HB6 : Hid (Row w6 bo xs) := HB.out.keep HL6.out
  have HT6 : Hid (Tab w6) := HT.out.keep HL6.out
  have HW6 : Hid (Row w6 ro out) := h6.out.row HM4.out.2.2.1 (fun a ha hk => by
    have hge : w3.heap.size ≤ a.block := HM4.out.2.2.2.1.ge a.block (by rw [ha]; rfl)
    simp only [List.mem_cons, List.not_mem_nil, or_false] at hk
    rcases hk with hk | hk
    · have := (hp3 _ hk.symm).2; omega
    · have := (hq3 _ hk.symm).2; omega)
  have hs6 := HL6.out.size
  clear h6 hp3 hq3 hb6 HP4 HQ4 HM4 HF4 HB4 HLw4 HL4 HRP4 HRQ4 HSP HPL HQL HT3
  go_wp2_with fail
  refine (kept_true _ c1 cb g 0 bo xs _ hl rfl hle1 HF6.out HB6.out HX.out).mono ?_
  rintro e w7 ⟨rfl, rfl⟩
  go_wp2_with fail
  refine (seal_all c1 kind _ xs.length xs _ hk rfl hl HX.out HF6.out.take HT6.out).mono ?_
  rintro e w8 ⟨so, sn, sc, rfl, h8⟩
  rw [← HER.out]
  have h8' : Made w7 w8 so sn sc out := by rw [HOU.out]; exact h8.out
  have hsn : pn = sn := HPN.out.trans h8'.1.symm
  have HR8 : Hid (Row w8 so out) := h8'.2.2.1
  have HW8 : Hid (Row w8 ro out) := HW6.out.keep h8'.2.2.2.2
  have HL8 : Hid (Below w.heap.size w w8) := HL6.out.trans (h8'.2.2.2.2.mono hs6)
  have HT8 : Hid (Tab w8) := HT.out.keep HL8.out
  clear h8 h8' HF6 HB6 HT6 HW6 HL6
  subst hsn
  have he1 : (((er : Nat) : Int) == ((er : Nat) : Int)) = true := by simp
  go_wp2_with (go_at_call 7; refine (num_any _ _).mono ?_; rintro e w9 ⟨rfl, rfl⟩)
  refine (same_true pn sc rc so ro out _ HPN.out HR8.out HW8.out HU2.out).mono ?_
  rintro e w10 ⟨rfl, rfl⟩
  go_wp2_with fail
  refine (live_true _ HT8.out).mono ?_
  rintro e w11 ⟨rfl, h11⟩
  have HL11 : Hid (Below w.heap.size w w11) := HL8.out.trans (h11.mono HL8.out.size)
  clear h11
  go_wp2
  go_ret
  exact ⟨rfl, HL11.out⟩
end Go.Proofs.YtmgppjfohabdmaaDoor
