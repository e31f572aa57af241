/- The contracts of the frame package's inner functions: word, frameSum, putWord. -/
import Derived.Test.YtmgppjfohabdmabDoorCrc
import Derived.Test.YtmgppjfohabdmabDoorBlk
import Derived.BigQuiet
import Derived.Deep.QuietTactic
import Derived.Laws.CopyOwn
namespace Go.Proofs.YtmgppjfohabdmabDoor
open Go.RowKit

theorem or4 (x0 x1 x2 x3 : Nat) (h0 : x0 < 256) (h1 : x1 < 256) (h2 : x2 < 256) (h3 : x3 < 256) :
    bits BinOp.or IntKind.u32 (bits BinOp.or IntKind.u32 (bits BinOp.or IntKind.u32 (x0 : Int) ((x1 : Int) * 256)) ((x2 : Int) * 65536)) ((x3 : Int) * 16777216) = ((x0 + 256 * x1 + 65536 * x2 + 16777216 * x3 : Nat) : Int) := by
  have e1 : bits BinOp.or IntKind.u32 (x0 : Int) ((x1 : Int) * 256) = ((x0 + 256 * x1 : Nat) : Int) := by
    rw [show ((x1 : Int) * 256) = ((256 * x1 : Nat) : Int) from by omega, u32_or_nat _ _ (by omega) (by omega), Nat.or_comm, nat_join 8 _ _ (by omega) (by omega), Nat.add_comm]
  have e2 : bits BinOp.or IntKind.u32 ((x0 + 256 * x1 : Nat) : Int) ((x2 : Int) * 65536) = ((x0 + 256 * x1 + 65536 * x2 : Nat) : Int) := by
    rw [show ((x2 : Int) * 65536) = ((65536 * x2 : Nat) : Int) from by omega, u32_or_nat _ _ (by omega) (by omega), Nat.or_comm, nat_join 16 _ _ (by omega) (by omega), Nat.add_comm]
  rw [e1, e2, show ((x3 : Int) * 16777216) = ((16777216 * x3 : Nat) : Int) from by omega, u32_or_nat _ _ (by omega) (by omega), Nat.or_comm, nat_join 24 _ _ (by omega) (by omega), Nat.add_comm]
def num4 (xs : List Nat) : Nat := xs.getD 0 0 + 256 * xs.getD 1 0 + 65536 * xs.getD 2 0 + 16777216 * xs.getD 3 0
set_option maxHeartbeats 400000 in
set_option maxRecDepth 100000 in
theorem word_any (n cap b off : Nat) (xs : List Nat) (w : World) (h4 : 4 ≤ xs.length) (hn : n = xs.length) (hl : xs.length ≤ 140737488351232) (hx : ∀ x ∈ xs, x < 256) (hr : Row w (some ⟨b, off, none⟩) xs) :
    Calls Tryd.prog 32 #[.slice (some ⟨b, off, none⟩) n cap] w fun e w' => e = .returned (.int .u32 ((num4 xs : Nat) : Int)) ∧ ∃ m, w' = w.drewN m := by
  obtain ⟨hc⟩ : Nonempty (∀ i, i < xs.length → w.cell? ⟨b, off + i, none⟩ = some (.int .u8 ((xs.getD i 0 : Nat) : Int))) := by
    rcases hr with h | ⟨b', off', h, hc⟩
    · subst h; simp at h4
    · cases h; exact ⟨hc⟩
  have c0 : w.cell? ⟨b, off, none⟩ = some (.int .u8 ((xs.getD 0 0 : Nat) : Int)) := hc 0 (by omega)
  have c1 := hc 1 (by omega)
  have c2 := hc 2 (by omega)
  have c3 := hc 3 (by omega)
  have hg : ∀ i, i < xs.length → xs.getD i 0 < 256 := fun i hi => hx _ (by simp [List.getD, hi])
  have g0 := hg 0 (by omega)
  have g1 := hg 1 (by omega)
  have g2 := hg 2 (by omega)
  have g3 := hg 3 (by omega)
  have HN : Hid (num4 xs = xs.getD 0 0 + 256 * xs.getD 1 0 + 65536 * xs.getD 2 0 + 16777216 * xs.getD 3 0) := rfl
  clear hg hc hr hx
  generalize num4 xs = N at *
  generalize xs.getD 0 0 = x0 at *
  generalize xs.getD 1 0 = x1 at *
  generalize xs.getD 2 0 = x2 at *
  generalize xs.getD 3 0 = x3 at *
  have l0 : (0 : Int) < (n : Int) := by omega
  have l1 : (1 : Int) < (n : Int) := by omega
  have l2 : (2 : Int) < (n : Int) := by omega
  have l3 : (3 : Int) < (n : Int) := by omega
  clear hn h4 hl
  go_enter Tryd.func32, Tryd.ntmps32
  go_wp2
  go_quiet (fail)
  go_wp2
  go_ret
  exact ⟨by rw [HN.out, ← or4 x0 x1 x2 x3 g0 g1 g2 g3]; rfl, nq, rfl⟩

def fsum (xs : List Nat) : Nat := crcOn (crcOn 0 (xs.take 4)) (xs.drop 8)
theorem fsum_lt (xs : List Nat) : fsum xs < 4294967296 := crcOn_lt _ _
set_option maxHeartbeats 400000 in
set_option maxRecDepth 100000 in
theorem frameSum_any (n cap b off : Nat) (xs : List Nat) (w : World) (h9 : 9 ≤ xs.length) (hn : n = xs.length) (hnc : n ≤ cap) (hl : n ≤ 140737488351232) (hx : ∀ x ∈ xs, x < 256) (hr : Row w (some ⟨b, off, none⟩) xs) (hT : Tab w) :
    Calls Tryd.prog 33 #[.slice (some ⟨b, off, none⟩) n cap] w fun e w' => e = .returned (.int .u32 ((fsum xs : Nat) : Int)) ∧ ∃ m, w' = w.drewN m := by
  have HX : Hid (∀ x ∈ xs, x < 256) := hx
  have HR : Hid (Row w (some ⟨b, off, none⟩) xs) := hr
  have HT : Hid (Tab w) := hT
  have HN : Hid (n = xs.length) := hn
  have h9n : 9 ≤ n := by omega
  clear hx hr hT hn h9
  have hc8 : ¬ cap = 8 := by omega
  have hc4 : (4 : Int) ≤ (cap : Int) := by omega
  have hn8 : (8 : Int) ≤ (n : Int) := by omega
  go_enter Tryd.func33, Tryd.ntmps33
  go_wp2
  go_quiet (first
    | (go_at_call 28; exact Calls.quiet_of_same (crc_n 4 cap _ (xs.take 4) _ (by have := HN.out; simp; omega) (by omega) (lt_take HX.out 4) (HR.out.takeN 4) HT.out))
    | (go_at_call 38; exact Calls.quiet_of_same (crcOn_n _ (n - 8) (cap - 8) _ (xs.drop 8) _ (crcOn_lt _ _) (by have := HN.out; simp; omega) (by omega) (lt_drop HX.out 8) (HR.out.dropN 8) HT.out)))
  go_wp2
  go_ret
  exact ⟨rfl, nq, rfl⟩

def byteAt (v k : Nat) : Nat := v / 256 ^ k % 256
def putK (xs : List Nat) (off v : Nat) : Nat → List Nat
  | 0 => xs
  | k + 1 => (putK xs off v k).set (off + k) (byteAt v k)
theorem putK_length (xs : List Nat) (off v k : Nat) : (putK xs off v k).length = xs.length := by
  induction k with
  | zero => rfl
  | succ k ih => simp [putK, ih]

theorem grownBy_setCell (w : World) (g i : Nat) (v : Value) : w.grownBy (w.setCell ⟨g, i, none⟩ v) (some g) :=
  ⟨rfl, rfl, rfl, by simp [World.setCell], fun k _ hk => Below.heap_setCell _ _ _ _ (fun h => hk (by rw [h]))⟩
theorem grownBy_trans {a b c : World} {r : Option Nat} (h : a.grownBy b r) (k : b.grownBy c r) : a.grownBy c r :=
  ⟨k.os.trans h.os, k.tape.trans h.tape, k.output.trans h.output, Nat.le_trans h.size k.size, fun i hi hr => (k.block i (Nat.lt_of_lt_of_le hi h.size) hr).trans (h.block i hi hr)⟩

theorem put_step {w wr : World} {g off v k : Nat} {xs : List Nat} (h : Hid (Blk wr g (putK xs off v k) ∧ w.grownBy wr (some g) ∧ wr.heap.size = w.heap.size)) (x : Int) (hx : x = ((byteAt v k : Nat) : Int)) :
    Hid (Blk (wr.setCell ⟨g, off + k, none⟩ (.int .u8 x)) g (putK xs off v (k + 1)) ∧ w.grownBy (wr.setCell ⟨g, off + k, none⟩ (.int .u8 x)) (some g) ∧ (wr.setCell ⟨g, off + k, none⟩ (.int .u8 x)).heap.size = w.heap.size) := by
  subst hx
  exact ⟨h.out.1.set (off + k) (byteAt v k), grownBy_trans h.out.2.1 (grownBy_setCell _ _ _ _), by rw [← h.out.2.2]; simp [World.setCell]⟩

set_option maxHeartbeats 400000 in
set_option maxRecDepth 100000 in
theorem putWord_any (g off n cap v : Nat) (xs : List Nat) (w : World) (h4 : 4 ≤ n) (hn : n ≤ 140737488351232) (hoff : off + 4 ≤ xs.length) (hv : v < 4294967296) (hb : Blk w g xs) :
    Calls Tryd.prog 34 #[.slice (some ⟨g, off, none⟩) n cap, .int .u32 (v : Int)] w fun e w' => e = .returned (.tuple #[]) ∧ Hid (Blk w' g (putK xs off v 4) ∧ w.grownBy w' (some g) ∧ w'.heap.size = w.heap.size) := by
  have HB : Hid (Blk w g xs) := hb
  clear hb
  go_enter Tryd.func34, Tryd.ntmps34
  go_wp2
  go_loopw [5] (fun i wr => ∃ k : Nat, k ≤ 4 ∧ i = .int .i64 k ∧ Hid (Blk wr g (putK xs off v k) ∧ w.grownBy wr (some g) ∧ wr.heap.size = w.heap.size)) (fun i _ => 4 - (intOf i).toNat)
  case atStart => exact ⟨0, Nat.zero_le _, rfl, HB.out, World.grownBy.refl _ _, rfl⟩
  case round =>
    obtain ⟨k, hk, rfl, HR⟩ := hrel
    clear HB
    by_cases hlt : k < 4
    · have hf := HR.out.1.frozen (off + k)
      have hc := HR.out.1.cell (off + k) (by rw [putK_length]; omega)
      have hkn : (k : Int) < (n : Int) := by omega
      rcases (show k = 0 ∨ k = 1 ∨ k = 2 ∨ k = 3 by omega) with rfl | rfl | rfl | rfl
      · simp only [Nat.add_zero] at hf hc
        go_wp2
        go_roundw
        case rel => exact ⟨1, by omega, rfl, put_step HR _ (by simp only [byteAt]; omega)⟩
        case measure => simp [intOf]
      · go_wp2
        go_roundw
        case rel => exact ⟨2, by omega, rfl, put_step HR _ (by simp only [byteAt]; omega)⟩
        case measure => simp [intOf]
      · go_wp2
        go_roundw
        case rel => exact ⟨3, by omega, rfl, put_step HR _ (by simp only [byteAt]; omega)⟩
        case measure => simp [intOf]
      · go_wp2
        go_roundw
        case rel => exact ⟨4, by omega, rfl, put_step HR _ (by simp only [byteAt]; omega)⟩
        case measure => simp [intOf]
    · obtain rfl : k = 4 := by omega
      go_wp2
      go_end0
      exact ⟨rfl, HR⟩

end Go.Proofs.YtmgppjfohabdmabDoor
