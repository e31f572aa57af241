/- The contract of the law's frames: of the same frames it answers true. -/
import Derived.Deep.DeepCutAuto
import Derived.Deep.RegionHeld
import Derived.Test.YtmgppjfohabdmabDoorRefScan
import Derived.Test.YtmgppjfohabdmabDoorSmall
namespace Go.Proofs.YtmgppjfohabdmabDoor
open Go.RowKit

set_option maxHeartbeats 1600000 in
set_option maxRecDepth 100000 in
theorem frames_true (n fc rc B B' : Nat) (fo ro : Option Addr) (acc : List (Nat × List Nat)) (ls lr : List Value) (w : World) (hn : n = acc.length) (hl : n ≤ 1073741824) (hb : ∀ x ∈ acc, ∀ y ∈ x.2, y < 256) (hF : FInv B w (.slice fo n fc) acc ls) (hR : RInv B' w (.slice ro n rc) acc lr) :
    Calls Tryd.prog 13 #[.slice fo n fc, .slice ro n rc] w fun e w' => e = .returned (.bool true) ∧ Hid (Below w.heap.size w w') := by
  have HF : Hid (FInv B w (.slice fo n fc) acc ls) := hF
  have HR : Hid (RInv B' w (.slice ro n rc) acc lr) := hR
  have HB : Hid (∀ x ∈ acc, ∀ y ∈ x.2, y < 256) := hb
  have HN : Hid (n = acc.length) := hn
  clear hF hR hb hn
  go_enter Tryd.func13, Tryd.ntmps13
  go_wp2
  go_loopw [5] (fun i wr => ∃ p : Nat, p ≤ n ∧ i = .int .i64 (p : Int) ∧ Hid (Below w.heap.size w wr)) (fun i _ => n - (intOf i).toNat)
  case atStart => exact ⟨0, by omega, rfl, Below.refl _ _⟩
  case round =>
    obtain ⟨p, hp, rfl, HL⟩ := hrel
    by_cases hlt : p < n
    · have hpa : p < acc.length := by rw [← HN.out]; exact hlt
      obtain ⟨⟨k, bs⟩, hkb⟩ : ∃ x, acc[p]? = some x := ⟨_, List.getElem?_eq_getElem hpa⟩
      have HBS : Hid (∀ y ∈ bs, y < 256) := HB.out (k, bs) (List.mem_of_getElem? hkb)
      obtain ⟨l, hl1, hl2⟩ := (HF.out.below HL.out).own p k bs hkb
      obtain ⟨r, hr1, hr2⟩ := (HR.out.below HL.out).own p k bs hkb
      obtain ⟨gF, fc2, hv, _, _, c0, c1⟩ := (HF.out.below HL.out).cells hkb hl1
      obtain ⟨gR, rc2, hv2, _, _, d0, d1, _⟩ := (HR.out.below HL.out).cells hkb hr1
      simp only [Value.slice.injEq] at hv hv2
      obtain ⟨rfl, hq1, rfl⟩ := hv
      obtain ⟨rfl, hq2, rfl⟩ := hv2
      clear hq1 hq2
      obtain ⟨lo, lc, rfl, _, hlr⟩ := hl2.read
      obtain ⟨rro, rrc, rfl, _, hrr⟩ := hr2.read
      have HLR : Hid (Row wr lo bs) := hlr
      have HRR : Hid (Row wr rro bs) := hrr
      obtain ⟨m, hm⟩ : ∃ m, m = bs.length := ⟨_, rfl⟩
      have HM : Hid (m = bs.length) := hm
      rw [← hm] at c1 d1
      rw [Nat.mul_comm] at c0 c1 d0 d1
      clear hl1 hl2 hr1 hr2 hlr hrr hm hkb
      have hpi : (p : Int) < (n : Int) := by omega
      go_upto_region 6 with fail
      go_cut [41] (fun c wx => c = .bool false ∧ Hid (Below w.heap.size w wx))
      case first =>
        go_region_held (fun W => W.cell? ⟨gF, p * 2, none⟩ = some (.int .u8 (k : Int)) ∧ W.cell? ⟨gF, p * 2 + 1, none⟩ = some (.slice lo m lc) ∧ W.cell? ⟨gR, p * 3, none⟩ = some (.int .u8 (k : Int)) ∧ W.cell? ⟨gR, p * 3 + 1, none⟩ = some (.slice rro m rrc)) (go_keep) (first | (go_at_call 19; refine (same_true' m m lc rrc lo rro bs _ HM.out HM.out (by exact HLR.out) (by exact HRR.out) HBS.out).mono ?_; rintro e w7 ⟨rfl, hw7⟩; subst hw7))
        go_wp2
        go_meet
        case rel => exact ⟨rfl, HL.out.drew⟩
      case rest =>
        obtain ⟨rfl, HLc⟩ := hcut
        go_wp2
        go_roundw
        case rel =>
          first
            | exact ⟨p + 1, by omega, rfl, HLc⟩
            | ((repeat apply Exists.intro); exact ⟨⟨p + 1, by omega, rfl, HLc⟩, rfl⟩)
        case measure => simp [intOf]; omega
    · go_wp2
      go_ret
      exact ⟨rfl, HL⟩
end Go.Proofs.YtmgppjfohabdmabDoor
