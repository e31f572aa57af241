/- The contract of the reference's joined: two rows of bytes as a new one. -/
import Derived.Test.YtmgppjfohabdmabDoorRows1
namespace Go.Proofs.YtmgppjfohabdmabDoor
open Go.RowKit

/-- A new row of bytes, of the call's own: its value's shape, its bytes, its memory. -/
def Made (w w' : World) (ao : Option Addr) (n c : Nat) (xs : List Nat) : Prop := n = xs.length ∧ n ≤ c ∧ Row w' ao xs ∧ Own w' w.heap.size (.slice ao n c) xs ∧ Below w.heap.size w w'
theorem made_of {w w' : World} {v : Value} {xs : List Nat} (h : Own w' w.heap.size v xs) (hb : Below w.heap.size w w') : ∃ ao c, v = .slice ao xs.length c ∧ Made w w' ao xs.length c xs := by
  obtain ⟨ao, c, rfl, hle, hr⟩ := h.read
  exact ⟨ao, c, rfl, rfl, hle, hr, h, hb⟩

set_option maxHeartbeats 400000 in
set_option maxRecDepth 100000 in
theorem joined_any (n m c d : Nat) (ao bo : Option Addr) (xs ys : List Nat) (w : World) (hn : n = xs.length) (hm : m = ys.length) (hl : n + m ≤ 140737488355328) (ha : Row w ao xs) (hb : Row w bo ys) :
    Calls Tryd.prog 36 #[.slice ao n c, .slice bo m d] w fun e w' => ∃ ro rc, e = .returned (.slice ro (n + m) rc) ∧ Hid (Made w w' ro (n + m) rc (xs ++ ys)) := by
  have HA : Hid (Row w ao xs) := ha
  have HB : Hid (Row w bo ys) := hb
  have HN : Hid (n = xs.length) := hn
  have HM : Hid (m = ys.length) := hm
  clear ha hb hn hm
  go_enter Tryd.func36, Tryd.ntmps36
  go_wp2_with (first | (at_builtin; refine wpList_append_bytes rfl _ _ rfl w.heap.size _ [] rfl (World.ownsRow_nil _ _ _ _) ao _ c xs HN.out rfl HA.out ?hsz (Nat.le_refl _) ?_) | fail)
  case hsz => have := HN.out; simp; omega
  rintro v1 w1 hown1 hgr1
  have HL1 : Hid (Below w.heap.size w w1) := (Below.refl _ _).grown hgr1 (Nat.le_refl _) (fun k hk => by simp [Value.ownBlock] at hk)
  have HO1 : Hid (Own w1 w.heap.size v1 xs) := hown1
  clear hown1 hgr1
  go_wp2_with (first | (at_builtin; refine wpList_append_bytes rfl _ _ rfl w.heap.size _ xs rfl HO1.out bo _ d ys HM.out rfl (HB.out.keep HL1.out) ?hsz2 HL1.out.size ?_) | fail)
  case hsz2 => have := HN.out; have := HM.out; omega
  rintro v2 w2 hown2 hgr2
  have HL2 : Hid (Below w.heap.size w w2) := HL1.out.grown hgr2 HL1.out.size HO1.out.ge
  obtain ⟨ro, rc, hv, hmd⟩ := made_of (w := w) hown2 HL2.out
  have hlen : (xs ++ ys).length = n + m := by rw [List.length_append, ← HN.out, ← HM.out]
  rw [hlen] at hv hmd
  have HMD : Hid (Made w w2 ro (n + m) rc (xs ++ ys)) := hmd
  clear hown2 hgr2 hmd hlen
  subst hv
  go_wp2
  go_ret
  exact ⟨ro, rc, rfl, HMD⟩
end Go.Proofs.YtmgppjfohabdmabDoor
