/- The program's grantsText: every client that Check takes. -/
import Derived.Test.YtjehbdekipmllaaGreatDoorLPrW
namespace Go.Proofs.YtjehbdekipmllaaGreatDoor
open Go.RowKit

set_option maxHeartbeats 2000000 in
set_option maxRecDepth 100000 in
theorem writeGrants_any (c : Cl) (so : Option Addr) (n cp : Nat) (w : World) (hg : c.grants = 1 ∨ c.grants = 2 ∨ c.grants = 3) :
    Calls Tryz.prog 40 #[cAgg c so n cp] w fun e w' => e = .returned (.string (gText c.grants)) ∧ Below w.heap.size w w' := by
  unfold cAgg
  obtain ⟨id, secret, gr, pg, url, l⟩ := c
  have hg : gr = 1 ∨ gr = 2 ∨ gr = 3 := hg
  obtain ⟨i0, hi, hz0, hz1, hz2⟩ := info_parts infoStr
  have HB : Hid (Below w.heap.size w (w.alloc (.cells #[.string id, .string secret, .int .i64 gr, .bool pg, .string url, .slice so n cp] 47))) := below_new w _
  have HC : Hid (CB (w.alloc (.cells #[.string id, .string secret, .int .i64 gr, .bool pg, .string url, .slice so n cp] 47)) w.heap.size ⟨id, secret, gr, pg, url, l⟩ so n cp) := heap_alloc_new w _
  show Calls _ _ _ w fun e w' => e = .returned (.string (gText gr)) ∧ _
  rcases hg with rfl | rfl | rfl
  · go_enter Tryz.func40, Tryz.ntmps40
    go_upto_region 1 with fail
    generalize (w.alloc (.cells #[.string id, .string secret, .int .i64 1, .bool pg, .string url, .slice so n cp] 47)) = w1 at *
    have c2 := HC.out.six.2.2.1
    have hz := HB.out.size
    have HBX : Hid (Below w1.heap.size w1 (w1.alloc (.cells #[encStr uDevice] 9))) := below_new w1 _
    have HSX : Hid (SRow (w1.alloc (.cells #[encStr uDevice] 9)) (some ⟨w1.heap.size, 0, none⟩) [uDevice]) := srow_new1 w1 uDevice
    have hx := HBX.out.size
    go_wp2_with (first | (at_builtin; refine wpList_append_strs (i0 := i0) rfl _ _ rfl hi hz0 hz1 hz2 w1.heap.size (.slice none 0 0) [] [uDevice] rfl (sown_nil _ _) (some ⟨w1.heap.size, 0, none⟩) 1 1 rfl rfl HSX.out (by decide) (by simp) ?_) | fail)
    intro v w2 ho hg
    obtain ⟨ao, cap, rfl, _⟩ := ho.shape
    have HB2 : Hid (Below w1.heap.size w1 w2) := HBX.out.grown hg (by omega) (fun k hk => by cases hk)
    have HS2 := hide (sown_sat rfl ho)
    have HJ := hide (joinS_any _ cap ao [uDevice] w2 HS2.out (by decide) (by rw [join_words.2.1]; decide))
    rw [join_words.2.1] at HJ
    clear ho hg
    have hs2 := HB2.out.size
    go_wp2_with fail
    refine HJ.out.mono ?_
    rintro e w3 ⟨rfl, hb3⟩
    have HB3 := hide ((HB.out.trans (HB2.out.mono hz)).trans (hb3.mono (by omega)))
    clear hb3 HJ
    go_wp2
    go_ret
    exact ⟨rfl, HB3.out⟩
  · go_enter Tryz.func40, Tryz.ntmps40
    go_upto_region 1 with fail
    generalize (w.alloc (.cells #[.string id, .string secret, .int .i64 2, .bool pg, .string url, .slice so n cp] 47)) = w1 at *
    have c2 := HC.out.six.2.2.1
    have hz := HB.out.size
    have HBX : Hid (Below w1.heap.size w1 (w1.alloc (.cells #[encStr uCiba] 9))) := below_new w1 _
    have HSX : Hid (SRow (w1.alloc (.cells #[encStr uCiba] 9)) (some ⟨w1.heap.size, 0, none⟩) [uCiba]) := srow_new1 w1 uCiba
    have hx := HBX.out.size
    go_wp2_with (first | (at_builtin; refine wpList_append_strs (i0 := i0) rfl _ _ rfl hi hz0 hz1 hz2 w1.heap.size (.slice none 0 0) [] [uCiba] rfl (sown_nil _ _) (some ⟨w1.heap.size, 0, none⟩) 1 1 rfl rfl HSX.out (by decide) (by simp) ?_) | fail)
    intro v w2 ho hg
    obtain ⟨ao, cap, rfl, _⟩ := ho.shape
    have HB2 : Hid (Below w1.heap.size w1 w2) := HBX.out.grown hg (by omega) (fun k hk => by cases hk)
    have c2' := cell_kept c2 HB2.out
    have HS2 := hide (sown_sat rfl ho)
    have HJ := hide (joinS_any _ cap ao [uCiba] w2 HS2.out (by decide) (by rw [join_words.2.2.1]; decide))
    rw [join_words.2.2.1] at HJ
    clear ho hg
    have hs2 := HB2.out.size
    go_wp2_with fail
    refine HJ.out.mono ?_
    rintro e w3 ⟨rfl, hb3⟩
    have HB3 := hide ((HB.out.trans (HB2.out.mono hz)).trans (hb3.mono (by omega)))
    clear hb3 HJ
    go_wp2
    go_ret
    exact ⟨rfl, HB3.out⟩
  · go_enter Tryz.func40, Tryz.ntmps40
    go_upto_region 1 with fail
    generalize (w.alloc (.cells #[.string id, .string secret, .int .i64 3, .bool pg, .string url, .slice so n cp] 47)) = w1 at *
    have c2 := HC.out.six.2.2.1
    have hz := HB.out.size
    have HBX : Hid (Below w1.heap.size w1 (w1.alloc (.cells #[encStr uCiba] 9))) := below_new w1 _
    have HSX : Hid (SRow (w1.alloc (.cells #[encStr uCiba] 9)) (some ⟨w1.heap.size, 0, none⟩) [uCiba]) := srow_new1 w1 uCiba
    have hx := HBX.out.size
    go_wp2_with (first | (at_builtin; refine wpList_append_strs (i0 := i0) rfl _ _ rfl hi hz0 hz1 hz2 w1.heap.size (.slice none 0 0) [] [uCiba] rfl (sown_nil _ _) (some ⟨w1.heap.size, 0, none⟩) 1 1 rfl rfl HSX.out (by decide) (by simp) ?_) | fail)
    intro v w2 ho hg
    obtain ⟨ao, cap, rfl, _⟩ := ho.shape
    have HB2 : Hid (Below w1.heap.size w1 w2) := HBX.out.grown hg (by omega) (fun k hk => by cases hk)
    have c2' := cell_kept c2 HB2.out
    have HO2 := hide ho
    have hs2 := HB2.out.size
    have HBY : Hid (Below w2.heap.size w2 (w2.alloc (.cells #[encStr uDevice] 9))) := below_new w2 _
    have HSY : Hid (SRow (w2.alloc (.cells #[encStr uDevice] 9)) (some ⟨w2.heap.size, 0, none⟩) [uDevice]) := srow_new1 w2 uDevice
    clear ho hg
    go_wp2_with (first | (at_builtin; refine wpList_append_strs (i0 := i0) rfl (.tmp 15) (.tmp 16) rfl hi hz0 hz1 hz2 w1.heap.size (.slice ao 1 cap) [uCiba] [uDevice] rfl (HO2.out.keep HBY.out) (some ⟨w2.heap.size, 0, none⟩) 1 1 rfl rfl HSY.out (by decide) (by simp; omega) ?_) | fail)
    intro v w4 ho hg
    obtain ⟨ao2, cap2, rfl, _⟩ := ho.shape
    have HB4 : Hid (Below w1.heap.size w1 w4) := (HB2.out.trans (HBY.out.mono (by omega))).grown hg (by simp; omega) (fun k hk => (World.ownsRow.lt HO2.out k hk).1)
    have HS4 := hide (sown_sat rfl ho)
    have HJ := hide (joinS_any _ cap2 ao2 [uCiba, uDevice] w4 HS4.out (by decide) (by rw [join_words.2.2.2]; decide))
    rw [join_words.2.2.2] at HJ
    clear ho hg
    have hz4 := HB4.out.size
    go_wp2_with fail
    refine HJ.out.mono ?_
    rintro e w3 ⟨rfl, hb3⟩
    have HB3 := hide ((HB.out.trans (HB4.out.mono hz)).trans (hb3.mono (by omega)))
    clear hb3 HJ
    go_wp2
    go_ret
    exact ⟨rfl, HB3.out⟩
end Go.Proofs.YtjehbdekipmllaaGreatDoor
