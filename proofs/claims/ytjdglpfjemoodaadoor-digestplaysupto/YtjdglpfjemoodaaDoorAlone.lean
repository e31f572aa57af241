/- The contract of the laws' alone: of rows of the call's own, no two in one block, it answers true, and turns nothing but what is the call's own. -/
import Derived.Test.YtjdglpfjemoodaaDoorAlone1
namespace Go.Proofs.YtjdglpfjemoodaaDoor
open Go.RowKit

theorem outer_shape {w : World} {B n : Nat} {v : Value} {xs : List Value} (h : w.ownsRow B 26 1 v n xs) : ∃ ao c, v = .slice ao n c := by
  rcases h.2 with ⟨rfl, rfl⟩ | ⟨g, cap, cur, rfl, _⟩
  · exact ⟨none, 0, rfl⟩
  · exact ⟨_, _, rfl⟩
theorem own_shape {w : World} {B : Nat} {v : Value} {xs : List Nat} (h : Own w B v xs) : ∃ ao c, v = .slice ao xs.length c := by
  rcases h.2 with ⟨rfl, hn⟩ | ⟨g, cap, cur, rfl, _⟩
  · exact ⟨none, 0, by rw [hn]⟩
  · exact ⟨_, _, rfl⟩

set_option maxHeartbeats 2000000 in
set_option maxRecDepth 100000 in
theorem alone_true (lo : Option Addr) (k kc B : Nat) (A : Nat → Option Addr) (N C : Nat → Nat) (X : Nat → List Nat) (w : World) (hk : k ≤ 200) (hN : ∀ r, r < k → N r + 64 ≤ 140737488355328)
    (hX : ∀ r, r < k → (X r).length = N r) (ha : Apart k (fun r => .slice (A r) (N r) (C r))) (hh : Held w w B (.slice lo k kc) k (fun r => .slice (A r) (N r) (C r)) X) :
    Calls Tryd.prog 48 #[.slice lo k kc] w fun e w' => e = .returned (.bool true) ∧ Hid (Spare w w' k (fun r => .slice (A r) (N r) (C r))) := by
  have HN : Hid (∀ r, r < k → N r + 64 ≤ 140737488355328) := hN
  have HX : Hid (∀ r, r < k → (X r).length = N r) := hX
  have HA : Hid (Apart k (fun r => .slice (A r) (N r) (C r))) := ha
  have HH : Hid (Held w w B (.slice lo k kc) k (fun r => .slice (A r) (N r) (C r)) (P1 N X 0 0)) := hh.congr (fun r _ => (P1_zero N X r).symm)
  clear hN hX ha hh
  go_enter Tryd.func48, Tryd.ntmps48
  go_wp2
  go_loopw [3] (fun i wr => ∃ r : Nat, r ≤ k ∧ i = .int .i64 r ∧ Hid (Held w wr B (.slice lo k kc) k (fun r => .slice (A r) (N r) (C r)) (P1 N X r 0))) (fun i _ => k - (intOf i).toNat)
  case atStart => exact ⟨0, Nat.zero_le _, rfl, HH⟩
  case round =>
    clear HH
    obtain ⟨r, hr, rfl, HH⟩ := hrel
    by_cases hlt : r < k
    · obtain ⟨wo, rfl⟩ : ∃ wo : World, wo = wr := ⟨_, rfl⟩
      have hnr := HN.out r hlt
      go_wp2
      go_loopw [4] (fun j wr => ∃ s : Nat, s ≤ N r ∧ j = .int .i64 s ∧ Hid (Held w wr B (.slice lo k kc) k (fun r => .slice (A r) (N r) (C r)) (P1 N X r s))) (fun j _ => N r - (intOf j).toNat)
      case atStart => exact ⟨0, Nat.zero_le _, rfl, HH⟩
      case round =>
        clear HH
        obtain ⟨s, hs, rfl, HH⟩ := hrel
        obtain ⟨hb, hlo, hcell⟩ := HH.out.outer.cell r hlt
        by_cases hsl : s < N r
        · have hown := HH.out.rows r hlt
          obtain ⟨g, hA⟩ : ∃ g, A r = some ⟨g, 0, none⟩ := by
            rcases hown.shape.2 with ⟨_, h0, _⟩ | h
            · omega
            · exact h
          have hlen := P1_length N X r s (HX.out r hlt) hs
          have hw : Hid (Held w (wr.setCell ⟨g, s, none⟩ (.int .u8 ((r : Int) + 1))) B (.slice lo k kc) k (fun r => .slice (A r) (N r) (C r)) (P1 N X r (s + 1))) :=
            HH.out.write (c := C r) HA.out hlt (by simp only [hA]) (HX.out r hlt) hsl _ (by omega)
          simp only [hA] at hown
          have hc2 := hown.cellOf s (by omega)
          have hf2 := hown.freeOf s
          clear hown HH
          go_wp2
          go_roundw
          case rel => exact ⟨s + 1, by omega, by go_num, hw⟩
          case measure => simp [intOf]; omega
        · have hsn : s = N r := by omega
          subst hsn
          have H2 : Hid (Held w wr B (.slice lo k kc) k (fun r => .slice (A r) (N r) (C r)) (P1 N X (r + 1) 0)) := HH.out.congr (fun q _ => P1_row N X r q (HX.out r hlt))
          clear HH
          go_wp2
          go_roundw
          case rel => exact ⟨r + 1, by omega, by go_num, H2⟩
          case measure => simp [intOf]; omega
    · have hrk : k = r := by omega
      subst hrk
      have HG0 : Hid (Grown2 w wr B wr.heap.size (.slice lo k kc) k (fun r => .slice (A r) (N r) (C r)) N (.slice none 0 0) 0 (fun _ => .slice none 0 0)) := Grown2.start HH.out _
      clear HH
      obtain ⟨wp, rfl⟩ : ∃ wp : World, wp = wr := ⟨_, rfl⟩
      obtain ⟨i0, hi0, hz0, hz1, hz2⟩ := info_parts info25
      go_wp2
      go_loopw [5, 6] (fun mo i wr => ∃ (r : Nat) (M : Nat → Value) (ma : Option Addr) (mc : Nat), r ≤ k ∧ i = .int .i64 r ∧ mo = .slice ma r mc ∧ Hid (Grown2 w wr B wp.heap.size (.slice lo k kc) k (fun r => .slice (A r) (N r) (C r)) N (.slice ma r mc) r M)) (fun _ i _ => k - (intOf i).toNat)
      case atStart => exact ⟨0, _, none, 0, Nat.zero_le _, rfl, rfl, HG0⟩
      case round =>
        clear HG0
        obtain ⟨r, M, ma, mc, hr, rfl, rfl, HG⟩ := hrel
        by_cases hlt : r < k
        · obtain ⟨wo, rfl⟩ : ∃ wo : World, wo = wr := ⟨_, rfl⟩
          have hnr := HN.out r hlt
          obtain ⟨hb, hlo, hcell⟩ := HG.out.held.outer.cell r hlt
          have HS : Hid (Grow wo wo B (.slice (A r) (N r) (C r)) (.slice (A r) (N r) (C r)) (N r) (r + 1) 0) := Grow.start (HG.out.held.rows r hlt)
          have hbs := HG.out.held.size
          go_wp2
          clear hcell hlo
          go_loopw [7, 8] (fun m j wr => ∃ (s : Nat) (na : Option Addr) (nc : Nat), s ≤ 64 ∧ j = .int .i64 s ∧ m = .slice na (N r + s) nc ∧ Hid (Grow wo wr B (.slice (A r) (N r) (C r)) (.slice na (N r + s) nc) (N r) (r + 1) s)) (fun _ j _ => 64 - (intOf j).toNat)
          case atStart => exact ⟨0, A r, C r, Nat.zero_le _, rfl, rfl, HS⟩
          case round =>
            clear HS
            obtain ⟨s, na, nc, hs, rfl, rfl, HW⟩ := hrel
            have hws := HW.out.grown.size
            by_cases hsl : s < 64
            · go_wp2_with (first | (at_builtin; refine wpList_append_one rfl _ _ rfl B _ (List.replicate (N r + s) (r + 1)) rfl (HW.out.alloc _).own ⟨wr.heap.size, 0, none⟩ 1 (r + 1) rfl ?hy ?hsz ?hB ?_) | fail)
              case hy => simp [Addr.add]
              case hsz => simp; omega
              case hB => simp; omega
              rintro v2 w2 hown2 hgr2 hln2
              have HW2 : Hid (Grow wo w2 B (.slice (A r) (N r) (C r)) v2 (N r) (r + 1) (s + 1)) := HW.out.step2 _ hown2 hgr2 hln2.out
              obtain ⟨va, vc, hv2⟩ := own_shape HW2.out.own
              rw [List.length_replicate] at hv2
              clear hown2 hgr2 hln2 HW
              subst hv2
              go_wp2
              go_roundw
              case rel => exact ⟨s + 1, va, vc, by omega, by go_num, rfl, HW2⟩
              case measure => simp [intOf]; omega
            · have hs64 : s = 64 := by omega
              subst hs64
              have hms := HG.out.base
              go_wp2_with (first | (at_builtin; refine wpList_append_own _ rfl _ _ 52 rfl wp.heap.size 26 i0 (.slice none 0 0) 1 24 Tryd.underlying52 hi0 hz0 hz1 hz2 rfl (by decide) _ r ((List.range r).map M) rfl (World.ownsRow.alloc (HG.out.rows HA.out hlt HW.out).2.1 _) ⟨wr.heap.size, 0, none⟩ 1 1 [.slice na (N r + 64) nc] rfl rfl ?d1 ?d2 ?d3 ?d4 ?d5 ?_) | fail)
              case d1 =>
                intro j u hj
                match j, hj with
                | 0, hj => simp at hj; subst hj; simp [Addr.add]
              case d2 => intro u hu; simp at hu; subst hu; rfl
              case d3 => unfold maxLen; omega
              case d4 => omega
              case d5 => simp; omega
              rintro v2 w2 hown2 hgr2 _
              have HG2 : Hid (Grown2 w w2 B wp.heap.size (.slice lo k kc) k (fun r => .slice (A r) (N r) (C r)) N v2 (r + 1) (fun q => if q = r then .slice na (N r + 64) nc else M q)) := HG.out.next HA.out hlt HW.out _ hown2 hgr2
              obtain ⟨va, vc, hv2⟩ := outer_shape hown2
              clear hown2 hgr2 HW HG
              subst hv2
              go_wp2
              go_roundw
              case rel => exact ⟨r + 1, _, va, vc, by omega, by go_num, rfl, HG2⟩
              case measure => simp [intOf]; omega
        · have hrk : k = r := by omega
          subst hrk
          obtain ⟨wq, rfl⟩ : ∃ wq : World, wq = wr := ⟨_, rfl⟩
          go_wp2
          go_loop [9] (fun i => ∃ r : Nat, r ≤ k ∧ i = .int .i64 r) (fun i => k - (intOf i).toNat)
          case atStart => exact ⟨0, Nat.zero_le _, rfl⟩
          case round =>
            obtain ⟨r, hr, rfl⟩ := hrel
            by_cases hlt : r < k
            · have hnr := HN.out r hlt
              obtain ⟨hb, hlo, hcell⟩ := HG.out.held.outer.cell r hlt
              obtain ⟨hb2, hma, hcell2⟩ := HG.out.list.cell r hlt
              obtain ⟨g2, c2, hM, _, _, hrow2⟩ := (HG.out.news r hlt).readSome (by simp)
              rw [List.length_replicate] at hM
              rw [hM] at hcell2
              have HR2 : Hid (Row wq (some ⟨g2, 0, none⟩) (List.replicate (N r + 64) (r + 1))) := hrow2
              have hown := HG.out.held.rows r hlt
              have HO : Hid (Own wq B (.slice (A r) (N r) (C r)) (Full N r)) := hown
              clear hown hrow2 hM
              go_wp2
              go_loop [10] (fun j => ∃ s : Nat, s ≤ N r + 64 ∧ j = .int .i64 s) (fun j => N r + 64 - (intOf j).toNat)
              case atStart => exact ⟨0, Nat.zero_le _, rfl⟩
              case round =>
                obtain ⟨s, hs, rfl⟩ := hrel
                by_cases hsl : s < N r + 64
                · have h1 : wq.cell? ⟨g2, s, none⟩ = some (.int .u8 ((r + 1 : Nat) : Int)) := by
                    have := HR2.out.cell s (by simpa using hsl)
                    rw [Nat.zero_add] at this
                    simpa [List.getD, hsl] using this
                  rw [show ((r + 1 : Nat) : Int) = (r : Int) + 1 by omega] at h1
                  have e1 : (((r : Int) + 1) != (r : Int) + 1) = false := by simp
                  by_cases hs2 : s < N r
                  · obtain ⟨g, hA⟩ : ∃ g, A r = some ⟨g, 0, none⟩ := by
                      rcases HO.out.shape.2 with ⟨_, h0, _⟩ | h
                      · omega
                      · exact h
                    have h2 : wq.cell? ⟨g, s, none⟩ = some (.int .u8 ((r : Int) + 1)) := by
                      have ho := HO.out
                      rw [hA] at ho
                      have := ho.cellOf s (by simpa [Full] using hs2)
                      simpa [Full, List.getD, hs2] using this
                    go_wp2
                    go_round
                    case rel => exact ⟨s + 1, by omega, by go_num⟩
                    case measure => simp [intOf]; omega
                  · have hd : decide ((s : Int) < (N r : Int)) = false := by simp; omega
                    go_wp2
                    go_round
                    case rel => exact ⟨s + 1, by omega, by go_num⟩
                    case measure => simp [intOf]; omega
                · go_wp2
                  go_round
                  case rel => exact ⟨r + 1, by omega, by go_num⟩
                  case measure => simp [intOf]; omega
            · go_wp2
              go_ret
              exact ⟨rfl, HG.out.held.frame⟩
end Go.Proofs.YtjdglpfjemoodaaDoor
/- The contract of the laws' alone at a literal of two and of three rows. -/
namespace Go.Proofs.YtjdglpfjemoodaaDoor
open Go.RowKit

/-- Nothing that was there has turned but what lies in the blocks bs. -/
structure Rest (w w' : World) (bs : List (Option Nat)) : Prop where
  os : w'.os = w.os
  tape : w'.tape = w.tape
  output : w'.output = w.output
  size : w.heap.size ≤ w'.heap.size
  block : ∀ g, g < w.heap.size → some g ∉ bs → w'.heap[g]? = w.heap[g]?
theorem Rest.below {w w' : World} {bs : List (Option Nat)} {B : Nat} (h : Rest w w' bs) (hB : B ≤ w.heap.size) (hb : ∀ g, some g ∈ bs → B ≤ g) : Below B w w' :=
  ⟨h.os, h.tape, h.output, h.size, fun g hg => h.block g (by omega) (fun hm => by have := hb g hm; omega)⟩
theorem Rest.row {w w' : World} {bs : List (Option Nat)} {ao : Option Addr} {xs : List Nat} (h : Rest w w' bs) (hr : Row w ao xs) (hb : ∀ a, ao = some a → some a.block ∉ bs) : Row w' ao xs := by
  rcases hr with h0 | ⟨b, off, rfl, hc⟩
  · exact .inl h0
  · refine .inr ⟨b, off, rfl, fun i hi => ?_⟩
    have hlt := World.block_lt_of_cell? w _ (hc i hi)
    rw [World.cell?_of_block (h.block b hlt (hb ⟨b, off, none⟩ rfl))]
    exact hc i hi
def pick2 {α : Type} (x y : α) (r : Nat) : α := match r with | 0 => x | _ => y
theorem alone_two (W : World) (B n0 c0 n1 c1 : Nat) (a0 a1 : Option Addr) (x0 x1 : List Nat) (hB : B ≤ W.heap.size) (h0 : Own W B (.slice a0 n0 c0) x0) (h1 : Own W B (.slice a1 n1 c1) x1)
    (l0 : n0 + 64 ≤ 140737488355328) (l1 : n1 + 64 ≤ 140737488355328) (hs : ∀ g, (Value.slice a0 n0 c0).ownBlock = some g → (Value.slice a1 n1 c1).ownBlock ≠ some g) :
    Calls Tryd.prog 48 #[.slice (some ⟨W.heap.size, 0, none⟩) 2 2] (W.alloc (.cells #[.slice a0 n0 c0, .slice a1 n1 c1] 26)) fun e w' => e = .returned (.bool true) ∧ Hid (Rest W w' [(Value.slice a0 n0 c0).ownBlock, (Value.slice a1 n1 c1).ownBlock]) := by
  refine (alone_true (some ⟨W.heap.size, 0, none⟩) 2 2 B (pick2 a0 a1) (pick2 n0 n1) (pick2 c0 c1) (pick2 x0 x1) _ (by decide) ?_ ?_ ⟨?_⟩ ⟨?_, ?_, Spare.refl _ _ _, by simp; omega⟩).mono ?_
  · intro r hr
    rcases (show r = 0 ∨ r = 1 by omega) with rfl | rfl
    · exact l0
    · exact l1
  · intro r hr
    rcases (show r = 0 ∨ r = 1 by omega) with rfl | rfl
    · exact h0.shape.1.symm
    · exact h1.shape.1.symm
  · intro i j hi hj hne g hg
    rcases (show (i = 0 ∧ j = 1) ∨ (i = 1 ∧ j = 0) by omega) with ⟨rfl, rfl⟩ | ⟨rfl, rfl⟩
    · exact hs g hg
    · exact fun e => hs g e hg
  · have := World.ownsRow_lit (base := B) (e := 26) (size := 1) W #[.slice a0 n0 c0, .slice a1 n1 c1] 2 hB (by decide) rfl
    exact this
  · intro r hr
    rcases (show r = 0 ∨ r = 1 by omega) with rfl | rfl
    · exact h0.alloc _
    · exact h1.alloc _
  · rintro e w' ⟨rfl, hf⟩
    refine ⟨rfl, hf.out.os, hf.out.tape, hf.out.output, by have := hf.out.size; simp at this; omega, fun g hg hn => ?_⟩
    rw [hf.out.block g (by simp; omega) ?_]
    · exact Below.heap_alloc W _ g hg
    · intro r hr e
      rcases (show r = 0 ∨ r = 1 by omega) with rfl | rfl
      · exact hn (by rw [← e]; simp [pick2])
      · exact hn (by rw [← e]; simp [pick2])

theorem alone_two' (G : Nat) (W : World) (hG : G = W.heap.size) (B n0 c0 n1 c1 : Nat) (a0 a1 : Option Addr) (x0 x1 : List Nat) (hB : B ≤ W.heap.size) (h0 : Own W B (.slice a0 n0 c0) x0) (h1 : Own W B (.slice a1 n1 c1) x1)
    (l0 : n0 + 64 ≤ 140737488355328) (l1 : n1 + 64 ≤ 140737488355328) (hs : ∀ g, (Value.slice a0 n0 c0).ownBlock = some g → (Value.slice a1 n1 c1).ownBlock ≠ some g) :
    Calls Tryd.prog 48 #[.slice (some ⟨G, 0, none⟩) 2 2] (W.alloc (.cells #[.slice a0 n0 c0, .slice a1 n1 c1] 26)) fun e w' => e = .returned (.bool true) ∧ Hid (Rest W w' [(Value.slice a0 n0 c0).ownBlock, (Value.slice a1 n1 c1).ownBlock]) := by
  subst hG; exact alone_two W B n0 c0 n1 c1 a0 a1 x0 x1 hB h0 h1 l0 l1 hs

def pick3 {α : Type} (x y z : α) (r : Nat) : α := match r with | 0 => x | 1 => y | _ => z
theorem alone_three (W : World) (B n0 c0 n1 c1 n2 c2 : Nat) (a0 a1 a2 : Option Addr) (x0 x1 x2 : List Nat) (hB : B ≤ W.heap.size) (h0 : Own W B (.slice a0 n0 c0) x0) (h1 : Own W B (.slice a1 n1 c1) x1) (h2 : Own W B (.slice a2 n2 c2) x2)
    (l0 : n0 + 64 ≤ 140737488355328) (l1 : n1 + 64 ≤ 140737488355328) (l2 : n2 + 64 ≤ 140737488355328) (hs : ∀ g, (Value.slice a0 n0 c0).ownBlock = some g → (Value.slice a1 n1 c1).ownBlock ≠ some g ∧ (Value.slice a2 n2 c2).ownBlock ≠ some g)
    (ht : ∀ g, (Value.slice a1 n1 c1).ownBlock = some g → (Value.slice a2 n2 c2).ownBlock ≠ some g) :
    Calls Tryd.prog 48 #[.slice (some ⟨W.heap.size, 0, none⟩) 3 3] (W.alloc (.cells #[.slice a0 n0 c0, .slice a1 n1 c1, .slice a2 n2 c2] 26)) fun e w' => e = .returned (.bool true) ∧ Hid (Rest W w' [(Value.slice a0 n0 c0).ownBlock, (Value.slice a1 n1 c1).ownBlock, (Value.slice a2 n2 c2).ownBlock]) := by
  refine (alone_true (some ⟨W.heap.size, 0, none⟩) 3 3 B (pick3 a0 a1 a2) (pick3 n0 n1 n2) (pick3 c0 c1 c2) (pick3 x0 x1 x2) _ (by decide) ?_ ?_ ⟨?_⟩ ⟨?_, ?_, Spare.refl _ _ _, by simp; omega⟩).mono ?_
  · intro r hr
    rcases (show r = 0 ∨ r = 1 ∨ r = 2 by omega) with rfl | rfl | rfl
    · exact l0
    · exact l1
    · exact l2
  · intro r hr
    rcases (show r = 0 ∨ r = 1 ∨ r = 2 by omega) with rfl | rfl | rfl
    · exact h0.shape.1.symm
    · exact h1.shape.1.symm
    · exact h2.shape.1.symm
  · intro i j hi hj hne g hg
    rcases (show (i = 0 ∧ j = 1) ∨ (i = 1 ∧ j = 0) ∨ (i = 0 ∧ j = 2) ∨ (i = 2 ∧ j = 0) ∨ (i = 1 ∧ j = 2) ∨ (i = 2 ∧ j = 1) by omega) with ⟨rfl, rfl⟩ | ⟨rfl, rfl⟩ | ⟨rfl, rfl⟩ | ⟨rfl, rfl⟩ | ⟨rfl, rfl⟩ | ⟨rfl, rfl⟩
    · exact (hs g hg).1
    · exact fun e => (hs g e).1 hg
    · exact (hs g hg).2
    · exact fun e => (hs g e).2 hg
    · exact ht g hg
    · exact fun e => ht g e hg
  · have := World.ownsRow_lit (base := B) (e := 26) (size := 1) W #[.slice a0 n0 c0, .slice a1 n1 c1, .slice a2 n2 c2] 3 hB (by decide) rfl
    exact this
  · intro r hr
    rcases (show r = 0 ∨ r = 1 ∨ r = 2 by omega) with rfl | rfl | rfl
    · exact h0.alloc _
    · exact h1.alloc _
    · exact h2.alloc _
  · rintro e w' ⟨rfl, hf⟩
    refine ⟨rfl, hf.out.os, hf.out.tape, hf.out.output, by have := hf.out.size; simp at this; omega, fun g hg hn => ?_⟩
    rw [hf.out.block g (by simp; omega) ?_]
    · exact Below.heap_alloc W _ g hg
    · intro r hr e
      rcases (show r = 0 ∨ r = 1 ∨ r = 2 by omega) with rfl | rfl | rfl
      · exact hn (by rw [← e]; simp [pick3])
      · exact hn (by rw [← e]; simp [pick3])
      · exact hn (by rw [← e]; simp [pick3])
end Go.Proofs.YtjdglpfjemoodaaDoor
