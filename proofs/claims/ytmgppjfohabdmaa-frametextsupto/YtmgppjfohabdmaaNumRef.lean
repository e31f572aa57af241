/- The contracts of the reference's groups and PutUint: every number, every row of bytes. -/
import Derived.Test.YtmgppjfohabdmaaNum
namespace Go.Proofs.Ytmgppjfohabdmaa
open Go.RowKit

set_option maxHeartbeats 400000 in
set_option maxRecDepth 100000 in
theorem groups_any (v : Nat) (w : World) (hv : v < 18446744073709551616) :
    Calls Try.prog 21 #[.int .u64 (v : Int)] w fun e w' => ∃ ro rn rc, e = .returned (.slice ro rn rc) ∧ Hid (Made w w' ro rn rc (uenc v)) := by
  go_enter Try.func21, Try.ntmps21
  go_wp2
  go_loopw [0, 3] (fun u b wr => ∃ (f q : Nat) (acc : List Nat), u = .int .u64 (q : Int) ∧ Hid (q < 128 ^ f ∧ f ≤ 10 ∧ 1 ≤ f ∧ acc.length + f ≤ 10 ∧ acc ++ uencF f q = uenc v ∧ Own wr w.heap.size b acc ∧ Below w.heap.size w wr ∧ q < 18446744073709551616)) (fun u _ _ => (intOf u).toNat)
  case atStart => exact ⟨10, v, [], rfl, Nat.lt_of_lt_of_le hv (by decide), by decide, by decide, by decide, rfl, own_nil _ _, Below.refl _ _, hv⟩
  case round =>
    obtain ⟨f, q, acc, rfl, HR⟩ := hrel
    have hq : q < 18446744073709551616 := HR.out.2.2.2.2.2.2.2
    have hsz := HR.out.2.2.2.2.2.2.1.size
    by_cases hlt : q < 128
    · have HE : Hid (acc ++ [q] = uenc v) := by
        show _ = _
        rw [← HR.out.2.2.2.2.1, uencF_small _ _ hlt]
      go_wp2_with (first | (at_builtin; refine wpList_append_bytes rfl _ _ rfl w.heap.size _ acc rfl (HR.out.2.2.2.2.2.1.alloc _) (some ⟨wr.heap.size, 0, none⟩) 1 1 [q] rfl rfl (row_one _ _) ?hs1 ?hs2 ?_) | fail)
      case hs1 => have := HR.out.2.2.2.1; simp; omega
      case hs2 => simp; omega
      rintro v2 w2 hown2 hgr2
      have HO2 : Hid (Own w2 w.heap.size v2 (uenc v) ∧ Below w.heap.size w w2) := ⟨by rw [← HE.out]; exact hown2, (HR.out.2.2.2.2.2.2.1.alloc (by omega) _).grown hgr2 (by simp; omega) HR.out.2.2.2.2.2.1.ge⟩
      obtain ⟨ro, rc, hrr, hmd⟩ := made_of (w := w) HO2.out.1 HO2.out.2
      have HM : Hid (Made w w2 ro (uenc v).length rc (uenc v)) := hmd
      clear hown2 hgr2 HR hmd HO2
      subst hrr
      generalize (uenc v).length = rn at *
      go_wp2
      go_ret
      exact ⟨_, _, _, rfl, HM⟩
    · obtain ⟨b, hb0⟩ : ∃ b, b = q % 128 + 128 := ⟨_, rfl⟩
      have hor : (128 + (q : Int) % 128) = (b : Int) := by omega
      have HB0 : Hid (b = q % 128 + 128) := hb0
      have hb256 : (b : Int) < 256 := by omega
      have HE : Hid (∃ f', f = f' + 1 ∧ 1 ≤ f' ∧ q / 128 < 128 ^ f' ∧ (acc ++ [b]) ++ uencF f' (q / 128) = uenc v) := by
        obtain ⟨f', rfl⟩ : ∃ f', f = f' + 1 := ⟨f - 1, by have := HR.out.2.2.1; omega⟩
        refine ⟨f', rfl, ?_, ?_, ?_⟩
        · rcases Nat.eq_zero_or_pos f' with h | h
          · subst h; have := HR.out.1; simp at this; omega
          · exact h
        · rw [Nat.div_lt_iff_lt_mul (by decide)]; exact HR.out.1
        · rw [← HR.out.2.2.2.2.1, uencF_step _ _ hlt, ← hb0]; simp
      clear hb0
      have hge : (128 : Int) ≤ (q : Int) := by omega
      go_wp2_with (first | (at_builtin; refine wpList_append_bytes rfl _ _ rfl w.heap.size _ acc rfl (HR.out.2.2.2.2.2.1.alloc _) (some ⟨wr.heap.size, 0, none⟩) 1 1 [b] rfl rfl (row_one _ _) ?hs3 ?hs4 ?_) | fail)
      case hs3 => have := HR.out.2.2.2.1; simp; omega
      case hs4 => simp; omega
      rintro v2 w2 hown2 hgr2
      obtain ⟨f', hf, h1, h2, h3⟩ := HE.out
      have HO2 : Hid (q / 128 < 128 ^ f' ∧ f' ≤ 10 ∧ 1 ≤ f' ∧ (acc ++ [b]).length + f' ≤ 10 ∧ (acc ++ [b]) ++ uencF f' (q / 128) = uenc v ∧ Own w2 w.heap.size v2 (acc ++ [b]) ∧ Below w.heap.size w w2 ∧ q / 128 < 18446744073709551616) :=
        ⟨h2, by have := HR.out.2.1; omega, h1, by have := HR.out.2.2.2.1; simp; omega, h3, hown2, (HR.out.2.2.2.2.2.2.1.alloc (by omega) _).grown hgr2 (by simp; omega) HR.out.2.2.2.2.2.1.ge, by omega⟩
      clear hown2 hgr2 HR hf h1 h2 h3 HE
      go_wp2
      go_roundw
      case rel => exact ⟨f', q / 128, acc ++ [b], by go_num, HO2⟩
      case measure => simp [intOf]; omega
set_option maxRecDepth 100000 in
theorem refPutUint_any (v : Nat) (n c : Nat) (ao : Option Addr) (xs : List Nat) (w : World) (hv : v < 18446744073709551616) (hn : n = xs.length) (hl : n ≤ 140737488351232) (hr : Row w ao xs) :
    Calls Try.prog 7 #[.slice ao n c, .int .u64 (v : Int)] w fun e w' => ∃ ro rn rc, e = .returned (.slice ro rn rc) ∧ Hid (Made w w' ro rn rc (xs ++ uenc v)) := by
  have HR : Hid (Row w ao xs) := hr
  have HN : Hid (n = xs.length) := hn
  clear hr hn
  go_enter Try.func7, Try.ntmps7
  go_wp2_with fail
  refine (groups_any v w hv).mono ?_
  rintro e w1 ⟨go, gn, gc, rfl, h1⟩
  have HM1 : Hid (Made w w1 go gn gc (uenc v)) := h1
  have hgn : gn ≤ 11 := by have := h1.out.1; have := uenc_length v; omega
  clear h1
  go_wp2_with fail
  refine (joined_any n gn c gc ao go xs (uenc v) w1 HN.out HM1.out.1 (by omega) (HR.out.keep HM1.out.2.2.2.2) HM1.out.2.2.1).mono ?_
  rintro e w2 ⟨jo, jc, rfl, h2⟩
  have HM2 : Hid (Made w w2 jo (n + gn) jc (xs ++ uenc v)) := ⟨h2.out.1, h2.out.2.1, h2.out.2.2.1, h2.out.2.2.2.1.lower HM1.out.2.2.2.2.size, HM1.out.2.2.2.2.trans (h2.out.2.2.2.2.mono HM1.out.2.2.2.2.size)⟩
  clear h2 HM1
  go_wp2
  go_ret
  exact ⟨jo, _, jc, rfl, HM2⟩

end Go.Proofs.Ytmgppjfohabdmaa
