/- A value's media, a target's parts: by the program and by the document's own hand. -/
import Derived.Test.YtaenccjlokiejaaGreatDoorHRefTrim
import Derived.Test.YtaenccjlokiejaaGreatDoorHCut
namespace Go.Proofs.YtaenccjlokiejaaGreatDoor
open Go.RowKit Go.Shelf

def preC (c : UInt8) (l : U) : U := l.takeWhile (· != c)
def posC (c : UInt8) (l : U) : U := l.drop ((l.takeWhile (· != c)).length + 1)
theorem preC_le (c : UInt8) (l : U) : (preC c l).length ≤ l.length := run_le _ l
theorem posC_le (c : UInt8) (l : U) : (posC c l).length ≤ l.length := by unfold posC; rw [List.length_drop]; omega
theorem preC_at {c : UInt8} {l : U} {k : Nat} (hk : k ≤ l.length) (h : ∀ j, j < k → l.getD j 0 ≠ c) (he : k = l.length ∨ l.getD k 0 = c) : preC c l = l.take k ∧ posC c l = l.drop (k + 1) := by
  have e := run_at (· != c) l k hk (fun j hj => by simpa using h j hj) (he.imp id fun e => by simpa using e)
  unfold preC posC
  rw [e, ← e, take_run]
  exact ⟨rfl, rfl⟩
set_option maxHeartbeats 1000000 in
set_option maxRecDepth 100000 in
theorem httpSplit_any (l : U) (w : World) (hl : l.length < 4294967281) (E : Env w) : Calls Tryz.prog 31 #[.string (str l)] w fun e w' => e = .returned (.tuple #[.string (str (preC 63 l)), .string (str (posC 63 l))]) ∧ Below w.heap.size w w' := by
  have HC := hide (cutS_any l [63] w hl E)
  rw [cut_one] at HC
  rw [show str [63] = (⟨#[63]⟩ : ByteArray) from rfl] at HC
  have H1 := hide (fun W => clone_any (preC 63 l) W (by have := preC_le 63 l; omega))
  have H2 := hide (fun W => clone_any (posC 63 l) W (by have := posC_le 63 l; omega))
  rw [show (l.takeWhile (· != 63)) = preC 63 l from rfl, show l.drop ((preC 63 l).length + 1) = posC 63 l from rfl] at HC
  generalize decide ((preC 63 l).length < l.length) = db at *
  generalize str (preC 63 l) = s1 at *
  generalize str (posC 63 l) = s2 at *
  generalize str l = s at *
  clear hl E
  go_enter Tryz.func31, Tryz.ntmps31
  go_wp2_with fail
  refine HC.out.mono ?_
  rintro e w1 ⟨rfl, hb1⟩
  have HB1 := hide hb1
  clear hb1 HC
  go_wp2_with fail
  refine (H1.out w1).mono ?_
  rintro e w2 ⟨rfl, hb2⟩
  have HB2 := hide (HB1.out.trans (hb2.mono HB1.out.size))
  clear hb2 H1
  go_wp2_with fail
  refine (H2.out w2).mono ?_
  rintro e w3 ⟨rfl, hb3⟩
  have HB3 := hide (HB2.out.trans (hb3.mono HB2.out.size))
  clear hb3 H2
  go_wp2_with fail
  go_ret2
  exact ⟨rfl, HB3.out⟩
set_option maxHeartbeats 1000000 in
set_option maxRecDepth 100000 in
theorem httpMedia_any (l : U) (w : World) (hl : l.length < 4294967281) (E : Env w) : Calls Tryz.prog 33 #[.string (str l)] w fun e w' => e = .returned (.string (str (lows (Lib.trimS (preC 59 l) [32, 9])))) ∧ Below w.heap.size w w' := by
  have HC := hide (cutS_any l [59] w hl E)
  rw [cut_one] at HC
  rw [show str [59] = (⟨#[59]⟩ : ByteArray) from rfl] at HC
  have hp := preC_le 59 l
  have H1 := hide (fun W => trim_any (preC 59 l) [32, 9] W (by omega) (by decide) (by decide))
  have H2 := hide (fun W => small_any (Lib.trimS (preC 59 l) [32, 9]) W (by have := dropTrim_le (preC 59 l) [32, 9]; omega))
  rw [show str [32, 9] = (⟨#[32, 9]⟩ : ByteArray) from rfl] at H1
  rw [show (l.takeWhile (· != 59)) = preC 59 l from rfl] at HC
  generalize decide ((preC 59 l).length < l.length) = db at *
  generalize str (l.drop ((preC 59 l).length + 1)) = s0 at *
  generalize str (lows (Lib.trimS (preC 59 l) [32, 9])) = s3 at *
  generalize str (Lib.trimS (preC 59 l) [32, 9]) = s2 at *
  generalize str (preC 59 l) = s1 at *
  generalize str l = s at *
  clear hl E hp
  go_enter Tryz.func33, Tryz.ntmps33
  go_wp2_with fail
  refine HC.out.mono ?_
  rintro e w1 ⟨rfl, hb1⟩
  have HB1 := hide hb1
  clear hb1 HC
  go_wp2_with fail
  refine (H1.out w1).mono ?_
  rintro e w2 ⟨rfl, hb2⟩
  have HB2 := hide (HB1.out.trans (hb2.mono HB1.out.size))
  clear hb2 H1
  go_wp2_with fail
  refine (H2.out w2).mono ?_
  rintro e w3 ⟨rfl, hb3⟩
  have HB3 := hide (HB2.out.trans (hb3.mono HB2.out.size))
  clear hb3 H2
  go_wp2_with fail
  go_ret
  exact ⟨rfl, HB3.out⟩
set_option maxHeartbeats 1000000 in
set_option maxRecDepth 100000 in
theorem refMedia_any (l : U) (w : World) (hl : l.length ≤ 4294967281) : Calls Tryz.prog 34 #[.string (str l)] w fun e w' => e = .returned (.string (str (lows (Lib.trimS (preC 59 l) [32, 9])))) ∧ Below w.heap.size w w' := by
  have hp := preC_le 59 l
  have H1 := hide (fun W => refTrim_any (preC 59 l) W (by omega))
  have H2 := hide (fun W => refSmall_any (Lib.trimS (preC 59 l) [32, 9]) W (by have := dropTrim_le (preC 59 l) [32, 9]; omega))
  have HIX := hide (str_at l)
  have HCT := hide (fun (k : Nat) (hk : k ≤ l.length) => cut_to l k (k : Int) rfl hk)
  have HPA := hide (fun (k : Nat) => @preC_at 59 l k)
  have hz := str_size l
  obtain ⟨n, hn⟩ : ∃ n, n = l.length := ⟨_, rfl⟩
  rw [← hn] at hz hl
  have HN := hide hn
  generalize str (lows (Lib.trimS (preC 59 l) [32, 9])) = s3 at *
  generalize str (Lib.trimS (preC 59 l) [32, 9]) = s2 at *
  generalize str l = s at *
  clear hp hn
  go_enter Tryz.func34, Tryz.ntmps34
  go_wp2_with fail
  go_loop [3] (fun i => ∃ k : Nat, k ≤ n ∧ i = .int .i64 (k : Int) ∧ Hid (∀ j, j < k → l.getD j 0 ≠ 59)) (fun i => n - (intOf i).toNat)
  case atStart => exact ⟨0, Nat.zero_le _, rfl, fun j hj => by omega⟩
  case round =>
    obtain ⟨k, hk, rfl, HK⟩ := hrel
    have hcu := HCT.out k (by rw [← HN.out]; exact hk)
    by_cases hlt : k < n
    · have hix := HIX.out k (by rw [← HN.out]; exact hlt)
      by_cases h59 : l.getD k 0 = 59
      · have he := (HPA.out k (by rw [← HN.out]; exact hk) HK.out (.inr h59)).1
        rw [h59, show (((59 : UInt8).toNat : Nat) : Int) = 59 from rfl] at hix
        have H1' := hide (H1.out w)
        rw [he] at H1'
        clear he h59
        go_wp2_with fail
        refine H1'.out.mono ?_
        rintro e w1 ⟨rfl, rfl⟩
        go_wp2_with fail
        refine (H2.out _).mono ?_
        rintro e w2 ⟨rfl, hb⟩
        have HB := hide hb
        clear hb
        go_wp2_with fail
        go_ret
        exact ⟨rfl, HB.out⟩
      · have HK2 : Hid (∀ j, j < k + 1 → l.getD j 0 ≠ 59) := fun j hj => by
          by_cases e : j = k
          · rw [e]; exact h59
          · exact HK.out j (by omega)
        have hne : (((l.getD k 0).toNat : Int) == 59) = false := by
          rw [beq_eq_false_iff_ne]
          intro e
          exact h59 (u8_ext (by have : (59 : UInt8).toNat = 59 := rfl; omega))
        have hne2 : (((l.getD k 0).toNat : Int) != 59) = true := by
          rw [bne_iff_ne]
          intro e
          exact h59 (u8_ext (by have : (59 : UInt8).toNat = 59 := rfl; omega))
        generalize (l.getD k 0).toNat = x at *
        clear HK h59
        go_wp2_with fail
        go_round
        case rel => exact ⟨k + 1, by omega, by go_num, HK2⟩
        case measure => simp [intOf]; omega
    · have he := (HPA.out k (by rw [← HN.out]; exact hk) HK.out (.inl (by have := HN.out; omega))).1
      have H1' := hide (H1.out w)
      rw [he] at H1'
      clear he
      go_wp2_with fail
      refine H1'.out.mono ?_
      rintro e w1 ⟨rfl, rfl⟩
      go_wp2_with fail
      refine (H2.out _).mono ?_
      rintro e w2 ⟨rfl, hb⟩
      have HB := hide hb
      clear hb
      go_wp2_with fail
      go_ret
      exact ⟨rfl, HB.out⟩
set_option maxHeartbeats 1000000 in
set_option maxRecDepth 100000 in
theorem refSplit_any (l : U) (w : World) (hl : l.length ≤ 4294967281) : Calls Tryz.prog 32 #[.string (str l)] w fun e w' => e = .returned (.tuple #[.string (str (preC 63 l)), .string (str (posC 63 l))]) ∧ Below w.heap.size w w' := by
  have HIX := hide (str_at l)
  have HCT := hide (fun (k : Nat) (hk : k ≤ l.length) => cut_to l k (k : Int) rfl hk)
  have HCF := hide (fun (k : Nat) (hk : k + 1 ≤ l.length) => cut_from l (k + 1) ((k : Int) + 1) (by omega) hk)
  have HPA := hide (fun (k : Nat) => @preC_at 63 l k)
  have hz := str_size l
  obtain ⟨n, hn⟩ : ∃ n, n = l.length := ⟨_, rfl⟩
  rw [← hn] at hz hl
  have HN := hide hn
  have HLS : Hid (∃ s, s = str l) := ⟨_, rfl⟩
  obtain ⟨s, hs⟩ := HLS.out
  have HS := hide hs
  rw [← hs] at hz HIX HCT HCF ⊢
  clear hn hs HLS
  go_enter Tryz.func32, Tryz.ntmps32
  go_wp2_with fail
  go_loop [4] (fun i => ∃ k : Nat, k ≤ n ∧ i = .int .i64 (k : Int) ∧ Hid (∀ j, j < k → l.getD j 0 ≠ 63)) (fun i => n - (intOf i).toNat)
  case atStart => exact ⟨0, Nat.zero_le _, rfl, fun j hj => by omega⟩
  case round =>
    obtain ⟨k, hk, rfl, HK⟩ := hrel
    by_cases hlt : k < n
    · have hix := HIX.out k (by rw [← HN.out]; exact hlt)
      by_cases h63 : l.getD k 0 = 63
      · have HE := hide (HPA.out k (by rw [← HN.out]; exact hk) HK.out (.inr h63))
        have hcu := HCT.out k (by rw [← HN.out]; exact hk)
        have hcf := HCF.out k (by rw [← HN.out]; exact hlt)
        rw [← HE.out.1] at hcu
        rw [← HE.out.2] at hcf
        rw [h63, show (((63 : UInt8).toNat : Nat) : Int) = 63 from rfl] at hix
        generalize hg1 : str (preC 63 l) = s1 at *
        generalize hg2 : str (posC 63 l) = s2 at *
        have HG1 := hide hg1
        have HG2 := hide hg2
        clear hg1 hg2
        have hkb : (k : Int) + 1 ≤ 4294967282 := by omega
        clear HE h63
        go_upto_region 5 with fail
        go_quiet (fail)
        go_wp2_with fail
        go_ret2
        exact ⟨by rw [HG1.out, HG2.out]; rfl, below_drewN (Below.refl _ _) _⟩
      · have HK2 : Hid (∀ j, j < k + 1 → l.getD j 0 ≠ 63) := fun j hj => by
          by_cases e : j = k
          · rw [e]; exact h63
          · exact HK.out j (by omega)
        have hne : (((l.getD k 0).toNat : Int) == 63) = false := by
          rw [beq_eq_false_iff_ne]
          intro e
          exact h63 (u8_ext (by have : (63 : UInt8).toNat = 63 := rfl; omega))
        generalize (l.getD k 0).toNat = x at *
        clear HK h63
        go_wp2_with fail
        go_round
        case rel => exact ⟨k + 1, by omega, by go_num, HK2⟩
        case measure => simp [intOf]; omega
    · have HE := hide (HPA.out k (by rw [← HN.out]; exact hk) HK.out (.inl (by have := HN.out; omega)))
      have HE1 : Hid (str (preC 63 l) = s) := by show _ = _; rw [HE.out.1, List.take_of_length_le (by have := HN.out; omega), HS.out]
      have HE2 : Hid (str (posC 63 l) = { data := #[] }) := by show _ = _; rw [HE.out.2, List.drop_of_length_le (by have := HN.out; omega)]; rfl
      clear HE
      go_wp2_with fail
      go_ret2
      exact ⟨by rw [HE1.out, HE2.out]; rfl, Below.refl _ _⟩
end Go.Proofs.YtaenccjlokiejaaGreatDoor
