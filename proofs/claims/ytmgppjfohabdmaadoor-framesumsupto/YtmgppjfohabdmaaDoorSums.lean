/- The walk of the law FrameSums: every two rows of bytes up to 2^20 and every register: it returns true and turns nothing old. -/
import Derived.Test.YtmgppjfohabdmaaDoorCrc
namespace Go.Proofs.YtmgppjfohabdmaaDoor
open Go.RowKit

set_option maxHeartbeats 800000 in
set_option maxRecDepth 100000 in
theorem frameSums_walk (ca cb c : Nat) (ao bo : Option Addr) (xs ys : List Nat) (w : World) (hla : xs.length ≤ 1048576) (hlb : ys.length ≤ 1048576) (hc : c < 4294967296)
    (hx : ∀ x ∈ xs, x < 256) (hy : ∀ y ∈ ys, y < 256) (ha : Row w ao xs) (hb : Row w bo ys) (hT : Tab w) :
    Calls Tryd.prog 4 #[.slice ao xs.length ca, .slice bo ys.length cb, .int .u32 (c : Int)] w fun e w' => e = .returned (.bool true) ∧ Below w.heap.size w w' := by
  have HX : Hid (∀ x ∈ xs, x < 256) := hx
  have HY : Hid (∀ x ∈ ys, x < 256) := hy
  have HXY : Hid (∀ x ∈ xs ++ ys, x < 256) := lt_append hx hy
  have HA : Hid (Row w ao xs) := ha
  have HB : Hid (Row w bo ys) := hb
  have HT : Hid (Tab w) := hT
  clear hx hy ha hb hT
  go_enter Tryd.func4, Tryd.ntmps4
  go_wp2_with (first | (at_builtin; refine wpList_append_bytes rfl _ _ rfl w.heap.size _ [] rfl (own_new w w.heap.size [] (Nat.le_refl _) (Nat.zero_le _)) ao _ ca xs rfl rfl ?hrow ?hsz ?hB ?_) | fail)
  case hrow => exact HA.out.keep ((Below.refl _ _).alloc (Nat.le_refl _) _)
  case hsz => simp; omega
  case hB => simp
  rintro v1 w1 hown1 hgr1
  have HB1 : Hid (Below w.heap.size w w1) := ((Below.refl _ _).alloc (Nat.le_refl _) _).grown hgr1 (by simp) (fun k hk => by simp [Value.ownBlock] at hk; omega)
  have HO1 : Hid (Own w1 w.heap.size v1 xs) := hown1
  clear hgr1 hown1
  have hs1 := HB1.out.size
  go_wp2_with (first | (at_builtin; refine wpList_append_bytes rfl _ _ rfl w.heap.size _ xs rfl HO1.out bo _ cb ys rfl rfl ?hrow2 ?hsz2 ?hB2 ?_) | fail)
  case hrow2 => exact HB.out.keep HB1.out
  case hsz2 => omega
  case hB2 => omega
  rintro v2 w2 hown2 hgr2
  have HB2 : Hid (Below w.heap.size w w2) := HB1.out.grown hgr2 hs1 HO1.out.ge
  obtain ⟨zs, hzs⟩ : ∃ zs, zs = xs ++ ys := ⟨_, rfl⟩
  have HO2 : Hid (Own w2 w.heap.size v2 zs) := by show Own w2 w.heap.size v2 zs; rw [hzs]; exact hown2
  have hlz : zs.length ≤ 2097152 := by rw [hzs, List.length_append]; omega
  have HZ : Hid (zs = xs ++ ys) := hzs
  have HZB : Hid (∀ x ∈ zs, x < 256) := by show ∀ x ∈ zs, x < 256; rw [hzs]; exact HXY.out
  clear hgr2 hown2 HO1 HB1 hzs HXY
  have hs2 := HB2.out.size
  obtain ⟨o2, c2, hv2, hle2, hr2⟩ := HO2.out.read
  have HR2 : Hid (Row w2 o2 zs) := hr2
  clear hr2
  subst hv2
  go_wp2_with fail
  refine (lent_row c2 o2 zs w2 (by omega) HR2.out).mono ?_
  rintro e w3 ⟨g, c3, rfl, h3⟩
  have hs3 := h3.out.2.2.2.2.2.size
  have hle3 := h3.out.1
  have HB3 : Hid (Below w.heap.size w w3) := HB2.out.trans (h3.out.2.2.2.2.2.mono hs2)
  have HR3 : Hid (Row w3 o2 zs) := HR2.out.keep h3.out.2.2.2.2.2
  have HF3 : Hid (Row w3 (some ⟨g, 0, none⟩) (zs ++ marks 64)) := h3.out.2.2.2.2.1
  have HT3 : Hid (Tab w3) := HT.out.keep HB3.out
  clear h3 HB2 HR2 HO2
  go_wp2_with fail
  refine (crc_any c3 _ zs w3 (by omega) HZB.out HF3.out.take HT3.out).mono ?_
  rintro e w' ⟨rfl, rfl⟩
  go_wp2_with fail
  refine (refCrc_any c2 _ zs w' (by omega) HZB.out HR3.out).mono ?_
  rintro e w3 ⟨rfl, rfl⟩
  have hne : (((crcOn 0 zs : Nat) : Int) != ((crcOn 0 zs : Nat) : Int)) = false := by simp
  go_wp2_with fail
  refine (kept_true _ c3 c2 g 0 o2 zs w3 (by omega) rfl hle3 HF3.out HR3.out HZB.out).mono ?_
  rintro e w' ⟨rfl, rfl⟩
  go_wp2_with (first | (at_builtin; refine wpList_append_bytes rfl _ _ rfl w.heap.size _ [] rfl (own_new w' w.heap.size [] (Nat.le_trans hs2 hs3) (Nat.zero_le _)) bo _ cb ys rfl rfl ?hrow4 ?hsz4 ?hB4 ?_) | fail)
  case hrow4 => exact (HB.out.keep HB3.out).keep ((Below.refl _ _).alloc (Nat.le_refl _) _)
  case hsz4 => simp; omega
  case hB4 => simp; omega
  rintro v4 w4 hown4 hgr4
  have hb34 : Below w'.heap.size w' w4 := ((Below.refl _ _).alloc (Nat.le_refl _) _).grown hgr4 (by simp) (fun k hk => by simp [Value.ownBlock] at hk; omega)
  have HB4 : Hid (Below w.heap.size w w4) := HB3.out.trans (hb34.mono (Nat.le_trans hs2 hs3))
  have hown4' : Own w4 w.heap.size v4 ys := hown4
  obtain ⟨o4, c4, hv4, hle4, hr4⟩ := hown4'.read
  have HR4 : Hid (Row w4 o4 ys) := hr4
  have HZ4 : Hid (Row w4 o2 zs) := HR3.out.keep hb34
  have HA4 : Hid (Row w4 ao xs) := HA.out.keep HB4.out
  have HBB4 : Hid (Row w4 bo ys) := HB.out.keep HB4.out
  have HT4 : Hid (Tab w4) := HT3.out.keep hb34
  clear hown4 hown4' hgr4 hr4 hb34 HB3 HF3 HR3 HT3 HA HB HT
  subst hv4
  go_wp2_with fail
  refine (crcOn_any c c4 o4 ys w4 hc (by omega) HY.out HR4.out HT4.out).mono ?_
  rintro e w5 ⟨rfl, rfl⟩
  go_wp2_with fail
  refine (refCrcOn_any c cb bo ys _ hc (by omega) HY.out HBB4.out).mono ?_
  rintro e w6 ⟨rfl, rfl⟩
  have heq : (((crcOn c ys : Nat) : Int) == ((crcOn c ys : Nat) : Int)) = true := by simp
  go_wp2_with fail
  refine (crc_any ca ao xs _ (by omega) HX.out HA4.out HT4.out).mono ?_
  rintro e w7 ⟨rfl, rfl⟩
  go_wp2_with fail
  refine (crcOn_any _ cb bo ys _ (crcOn_lt _ _) (by omega) HY.out HBB4.out HT4.out).mono ?_
  rintro e w8 ⟨rfl, rfl⟩
  go_wp2_with fail
  refine (refCrc_any c2 o2 zs _ (by omega) HZB.out HZ4.out).mono ?_
  rintro e w9 ⟨rfl, rfl⟩
  have HE : Hid (crcOn (crcOn 0 xs) ys = crcOn 0 zs) := by show _ = _; rw [HZ.out]; exact crcOn_append 0 xs ys HX.out
  go_wp2
  go_ret
  exact ⟨by rw [HE.out]; simp, HB4.out⟩
end Go.Proofs.YtmgppjfohabdmaaDoor
