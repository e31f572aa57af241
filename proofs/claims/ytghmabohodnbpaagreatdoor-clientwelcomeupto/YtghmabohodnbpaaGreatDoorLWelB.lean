/- The contract of the law's base64: its walk. -/
import Derived.Test.YtghmabohodnbpaaGreatDoorLWelA
namespace Go.Proofs.YtghmabohodnbpaaGreatDoor
open Go.RowKit

set_option linter.unusedSimpArgs false in
set_option maxHeartbeats 4000000 in
set_option maxRecDepth 100000 in
theorem lbase64_any (n cap : Nat) (ao : Option Addr) (xs : List Nat) (w : World) (hn : n = xs.length) (hl : n ≤ 1099511627776) (hr : Row w ao xs) (hb : ∀ x ∈ xs, x < 256) :
    Calls Tryz.prog 21 #[.slice ao n cap] w fun e w' => e = .returned (.string (bstr (bcOf xs))) ∧ Below w.heap.size w w' := by
  have HN : Hid (n = xs.length) := hn
  have HR : Hid (Row w ao xs) := hr
  have HB : Hid (∀ x ∈ xs, x < 256) := hb
  clear hn hr hb
  go_enter Tryz.func21, Tryz.ntmps21
  go_wp2
  generalize hAL : ({ data := #[65, 66, 67, 68, 69, 70, 71, 72, 73, 74, 75, 76, 77, 78, 79, 80, 81, 82, 83, 84, 85, 86, 87, 88, 89, 90, 97, 98, 99, 100, 101, 102, 103, 104, 105, 106, 107, 108, 109, 110, 111, 112, 113, 114, 115, 116, 117, 118, 119, 120, 121, 122, 48, 49, 50, 51, 52, 53, 54, 55, 56, 57, 43, 47] } : ByteArray) = AL
  have HALL : Hid (AL = bstr letsC) := by show _ = _; rw [← hAL]; exact letsC_str
  clear hAL
  go_loopw [4, 5] (fun v iv wr => ∃ (i : Nat) (z : List Nat), (i ≤ n + 2 ∧ i % 3 = 0) ∧ v = .string (bstr z) ∧ iv = .int .i64 (i : Int) ∧ Hid (z = bcOf (xs.take i)) ∧ Hid (z.length ≤ 4 * i) ∧ Hid (Below w.heap.size w wr)) (fun _ iv _ => n + 2 - (intOf iv).toNat)
  case atStart => exact ⟨0, [], ⟨by omega, rfl⟩, rfl, rfl, rfl, Nat.le_refl _, Below.refl _ _⟩
  case round =>
    obtain ⟨i, z, ⟨hi2, hi3⟩, rfl, rfl, HZ, HZL, HW⟩ := hrel
    have hs := HW.out.size
    by_cases hlt : i < n
    · go_wp2
      go_loopw [6, 7] (fun m c wq => ∃ k : Nat, k ≤ 3 ∧ c = .int .i64 (k : Int) ∧ m = .int .i64 ((v3 xs i k : Nat) : Int) ∧ wq = wr) (fun _ c _ => 3 - (intOf c).toNat)
      case atStart => exact ⟨0, by omega, rfl, rfl, rfl⟩
      case round =>
        obtain ⟨k, hk, rfl, rfl, hwt⟩ := hrel
        have hwt2 := hwt.symm
        subst hwt2
        clear hwt
        by_cases hk3 : k < 3
        · have HES : Hid (v3 xs i (k + 1) = v3 xs i k * 256 + xs.getD (i + k) 0) := rfl
          have hel : v3 xs i k < 65536 := by
            have := v3_lt HB.out i k
            have h2 : 256 ^ k ≤ 256 ^ 2 := Nat.pow_le_pow_right (by omega) (by omega)
            omega
          have hxl : xs.getD (i + k) 0 < 256 := lt_get HB.out (i + k)
          obtain ⟨p, hp⟩ : ∃ p, p = i + k := ⟨_, rfl⟩
          have hwik : IntKind.i64.wrap ((i : Int) + (k : Int)) = (p : Int) := by rw [IntKind.wrap_i64]; omega
          have hpl : p ≤ 1099511627790 := by omega
          rw [← hp] at HES hxl
          clear hp
          generalize v3 xs i k = e at *
          by_cases hpn : p < n
          · obtain ⟨b, off, rfl, hc⟩ : ∃ b off, ao = some ⟨b, off, none⟩ ∧ ∀ W, Below w.heap.size w W → W.cell? ⟨b, off + p, none⟩ = some (.int .u8 ((xs.getD p 0 : Nat) : Int)) := by
              rcases HR.out with h0 | ⟨b, off, rfl, hc⟩
              · have := HN.out; rw [h0] at this; simp at this; omega
              · exact ⟨b, off, rfl, fun W hW => cell_kept (hc p (by rw [← HN.out]; exact hpn)) hW⟩
            have c0 := hc wr HW.out
            clear hc
            generalize xs.getD p 0 = x at *
            go_wp2
            go_roundw
            case rel => exact ⟨k + 1, by omega, by go_num, by rw [HES.out]; go_num, by first | trivial | rfl⟩
            case measure => simp [intOf]; omega
          · have h0 : xs.getD p 0 = 0 := by
              rw [List.getD, List.getElem?_eq_none (by rw [← HN.out]; omega)]; rfl
            rw [h0] at HES
            clear h0
            go_wp2
            go_roundw
            case rel => exact ⟨k + 1, by omega, by go_num, by rw [HES.out]; go_num, by first | trivial | rfl⟩
            case measure => simp [intOf]; omega
        · obtain rfl : k = 3 := by omega
          have hV : v3 xs i 3 < 16777216 := v3_lt HB.out i 3
          have HST : Hid (bcOf (xs.take (i + 3)) = bcOf (xs.take i) ++ [let4 xs i 0, let4 xs i 1, let4 xs i 2, let4 xs i 3]) := bcOf_step HB.out hi3 (by rw [← HN.out]; exact hlt)
          have HL4 : Hid (∀ k, let4 xs i k = if n < i + k then 61 else ltC (d4 (v3 xs i 3) k)) := fun k => by rw [HN.out]; rfl
          obtain ⟨V, HV⟩ : ∃ V, Hid (V = v3 xs i 3) := ⟨_, hide rfl⟩
          rw [← HV.out] at hV HL4 ⊢
          go_wp2
          have HC1 : Hid (∀ k, k < 4 → (wr.alloc (.cells #[.int .i64 ((V : Int) / 262144), .int .i64 ((V : Int) / 4096 % 64), .int .i64 ((V : Int) / 64 % 64), .int .i64 ((V : Int) % 64)] 3)).cell? ⟨wr.heap.size, k, none⟩ = some (.int .i64 ((d4 V k : Nat) : Int))) := fun k hk => by
            rw [cell_of_row _ _ _ _ _ _ (heap_alloc_new wr _)]
            rcases (show k = 0 ∨ k = 1 ∨ k = 2 ∨ k = 3 by omega) with rfl | rfl | rfl | rfl
            · rw [d4_0]; rfl
            · rw [d4_1]; rfl
            · rw [d4_2]; rfl
            · rw [d4_3]; rfl
          have HW1 : Hid (Below w.heap.size w (wr.alloc (.cells #[.int .i64 ((V : Int) / 262144), .int .i64 ((V : Int) / 4096 % 64), .int .i64 ((V : Int) / 64 % 64), .int .i64 ((V : Int) % 64)] 3))) := HW.out.trans ((below_new wr _).mono hs)
          generalize hg : wr.heap.size = g at *
          generalize wr.alloc (.cells #[.int .i64 ((V : Int) / 262144), .int .i64 ((V : Int) / 4096 % 64), .int .i64 ((V : Int) / 64 % 64), .int .i64 ((V : Int) % 64)] 3) = w1 at *
          clear hg HW hs
          go_loopw [4, 9] (fun v kk wq => ∃ (k : Nat) (o : List Nat), k ≤ 4 ∧ v = .string (bstr o) ∧ kk = .int .i64 (k : Int) ∧ Hid (o = z ++ [let4 xs i 0, let4 xs i 1, let4 xs i 2, let4 xs i 3].take k) ∧ Hid (o.length ≤ 4 * i + k) ∧ Hid (Below w1.heap.size w1 wq)) (fun _ kk _ => 4 - (intOf kk).toNat)
          case atStart => exact ⟨0, z, by omega, rfl, rfl, (List.append_nil z).symm, HZL.out, Below.refl _ _⟩
          case round =>
            obtain ⟨k, o, hk4, rfl, rfl, HO, HOL, HQ⟩ := hrel
            have hsq := HQ.out.size
            by_cases hlk : k < 4
            · have hwik : IntKind.i64.wrap ((i : Int) + (k : Int)) = (i : Int) + (k : Int) := by rw [IntKind.wrap_i64]; omega
              have HO4 : Hid (o ++ [let4 xs i k] = z ++ [let4 xs i 0, let4 xs i 1, let4 xs i 2, let4 xs i 3].take (k + 1)) := by
                show _ = _
                rw [HO.out, List.append_assoc]
                rcases (show k = 0 ∨ k = 1 ∨ k = 2 ∨ k = 3 by omega) with rfl | rfl | rfl | rfl <;> rfl
              have HOL4 : Hid ((o ++ [let4 xs i k]).length ≤ 4 * i + (k + 1)) := by show _ ≤ _; have := HOL.out; rw [List.length_append]; simp only [List.length_cons, List.length_nil]; omega
              have HLK := hide (HL4.out k)
              by_cases hin : n < i + k
              · have hini : (n : Int) < (i : Int) + (k : Int) := by omega
                have hE : let4 xs i k = 61 := by rw [HLK.out, if_pos hin]
                rw [hE] at HO4 HOL4
                have hadd : ∀ w, (Op.stringOp .add (bstr o) { data := #[61] }).run Tryz.prog w = .ok (.string (bstr (o ++ [61]))) w := add_str2 (y := [61]) (by have := HOL.out; simp only [List.length_cons, List.length_nil]; omega)
                clear hE
                go_wp2
                go_roundw
                case rel => exact ⟨k + 1, o ++ [61], by omega, by first | trivial | rfl, by go_num, HO4, HOL4, HQ⟩
                case measure => simp [intOf]; omega
              · have hini : ¬ (n : Int) < (i : Int) + (k : Int) := by omega
                have hE : let4 xs i k = ltC (d4 V k) := by rw [HLK.out, if_neg hin]
                rw [hE] at HO4 HOL4
                have ha : d4 V k < 64 := d4_lt hV k
                have c0 : wr.cell? ⟨g, k, none⟩ = some (.int .i64 ((d4 V k : Nat) : Int)) := cell_kept (HC1.out k hlk) HQ.out
                generalize d4 V k = a at *
                have hwa : IntKind.i64.wrap ((a : Int) + 1) = (a : Int) + 1 := by rw [IntKind.wrap_i64]; omega
                have hsl : ∀ w, (Instr.slice 9 (.string AL) (some (.int .i64 (a : Int))) (some (.int .i64 ((a : Int) + 1))) none).run Tryz.prog w = .ok (.string (bstr [ltC a])) w := by rw [HALL.out]; exact all_mid ha _ _ rfl rfl
                have hadd : ∀ w, (Op.stringOp .add (bstr o) (bstr [ltC a])).run Tryz.prog w = .ok (.string (bstr (o ++ [ltC a]))) w := add_str2 (by have := HOL.out; simp only [List.length_cons, List.length_nil]; omega)
                have hki : (k : Int) < 4 := by omega
                clear hE
                go_wp2_with fail
                go_quiet (fail)
                go_wp2
                go_roundw
                case rel =>
                  first
                    | exact ⟨k + 1, o ++ [ltC a], by omega, by first | trivial | rfl, by go_num, HO4, HOL4, below_drewN HQ.out _⟩
                    | ((repeat apply Exists.intro); exact ⟨⟨k + 1, o ++ [ltC a], by omega, rfl, by go_num, HO4, HOL4, below_drewN HQ.out _⟩, rfl⟩)
                case measure => simp [intOf]; omega
            · obtain rfl : k = 4 := by omega
              have HZ3 : Hid (o = bcOf (xs.take (i + 3))) := by show _ = _; rw [HST.out, ← HZ.out]; exact HO.out
              have HZL3 : Hid (o.length ≤ 4 * (i + 3)) := by show _ ≤ _; have := HOL.out; omega
              have HWW : Hid (Below w.heap.size w wr) := HW1.out.trans (HQ.out.mono HW1.out.size)
              go_wp2
              go_roundw
              case rel => exact ⟨i + 3, o, ⟨by omega, by omega⟩, by first | trivial | rfl, by go_num, HZ3, HZL3, HWW⟩
              case measure => simp [intOf]; omega
    · have HT : Hid (z = bcOf xs) := by show _ = _; rw [HZ.out, List.take_of_length_le (by rw [← HN.out]; omega)]
      go_wp2
      go_ret
      refine ⟨?_, HW.out⟩
      rw [HT.out]
      rfl
end Go.Proofs.YtghmabohodnbpaaGreatDoor
