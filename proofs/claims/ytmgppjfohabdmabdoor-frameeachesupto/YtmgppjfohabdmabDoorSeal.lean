/- The contract of frame.Seal: every kind and every load; the table's cells are a condition. -/
import Derived.Test.YtmgppjfohabdmabDoorParts
import Derived.Deep.RegionWith
import Derived.Deep.DeepCutAuto
namespace Go.Proofs.YtmgppjfohabdmabDoor
open Go.RowKit

def four (v : Nat) : List Nat := [byteAt v 0, byteAt v 1, byteAt v 2, byteAt v 3]
theorem four_length (v : Nat) : (four v).length = 4 := rfl
theorem byteAt_lt (v k : Nat) : byteAt v k < 256 := Nat.mod_lt _ (by decide)
theorem four_lt (v : Nat) : ∀ x ∈ four v, x < 256 := by
  intro x hx
  simp only [four, List.mem_cons, List.not_mem_nil, or_false] at hx
  rcases hx with rfl | rfl | rfl | rfl <;> exact byteAt_lt _ _
def fsumOf (kind : Nat) (load : List Nat) : Nat := crcOn (crcOn 0 (four load.length)) (kind :: load)
def sealed (kind : Nat) (load : List Nat) : List Nat := four load.length ++ (four (fsumOf kind load) ++ (kind :: load))
theorem sealed_length (kind : Nat) (load : List Nat) : (sealed kind load).length = 9 + load.length := by simp [sealed, four]; omega
theorem sealed_lt {kind : Nat} {load : List Nat} (hk : kind < 256) (hl : ∀ x ∈ load, x < 256) : ∀ x ∈ sealed kind load, x < 256 :=
  lt_append (four_lt _) (lt_append (four_lt _) (fun x hx => by rcases List.mem_cons.1 hx with rfl | h; · exact hk
                                                               · exact hl x h))
theorem seal_head (n kind : Nat) : ((putK (List.replicate (9 + n) 0) 0 n 4).set 8 kind) = four n ++ ([0, 0, 0, 0] ++ (kind :: List.replicate n 0)) := by
  have : List.replicate (9 + n) 0 = 0 :: 0 :: 0 :: 0 :: 0 :: 0 :: 0 :: 0 :: 0 :: List.replicate n 0 := by
    rw [Nat.add_comm]; simp [List.replicate_succ]
  rw [this]
  simp [putK, four]
theorem seal_body (n kind : Nat) (load : List Nat) : (four n ++ ([0, 0, 0, 0] ++ (kind :: List.replicate n 0))).take 9 ++ load ++ (four n ++ ([0, 0, 0, 0] ++ (kind :: List.replicate n 0))).drop (9 + n) = four n ++ ([0, 0, 0, 0] ++ (kind :: load)) := by
  rw [List.drop_eq_nil_of_le (by simp [four]; omega)]
  simp [four]
theorem seal_sum (kind : Nat) (load : List Nat) : fsum (four load.length ++ ([0, 0, 0, 0] ++ (kind :: load))) = fsumOf kind load := by
  simp [fsum, fsumOf, four]
theorem seal_tail (n s kind : Nat) (load : List Nat) : putK (four n ++ ([0, 0, 0, 0] ++ (kind :: load))) 4 s 4 = four n ++ (four s ++ (kind :: load)) := by
  simp [putK, four]

theorem seal_zero (cap : Nat) (ao : Option Addr) (n : Nat) (w : World) :
    Calls Tryd.prog 26 #[.int .u8 0, .slice ao n cap] w fun e w' => e = .returned (.tuple #[.slice none 0 0, .int .i64 13]) ∧ w' = w := by
  go_enter Tryd.func26, Tryd.ntmps26
  go_wp2
  go_ret2
  exact ⟨rfl, rfl⟩
theorem seal_long (cap kind : Nat) (ao : Option Addr) (n : Nat) (w : World) (hk : 0 < kind) (hn : 2097152 < n) (hl : n ≤ 140737488351232) :
    Calls Tryd.prog 26 #[.int .u8 (kind : Int), .slice ao n cap] w fun e w' => e = .returned (.tuple #[.slice none 0 0, .int .i64 1]) ∧ w' = w := by
  have hk0 : ((kind : Int) == 0) = false := by rw [beq_eq_false_iff_ne]; omega
  go_enter Tryd.func26, Tryd.ntmps26
  go_wp2
  go_ret2
  exact ⟨rfl, rfl⟩
set_option maxHeartbeats 800000 in
set_option maxRecDepth 100000 in
theorem seal_any (cap kind : Nat) (ao : Option Addr) (n : Nat) (xs : List Nat) (w : World) (hk : 0 < kind) (hk2 : kind < 256) (hn : n = xs.length) (hn2 : n ≤ 2097152) (hx : ∀ x ∈ xs, x < 256) (hr : Row w ao xs) (hT : Tab w) :
    Calls Tryd.prog 26 #[.int .u8 (kind : Int), .slice ao n cap] w fun e w' => e = .returned (.tuple #[.slice (some ⟨w.heap.size, 0, none⟩) (9 + n) (9 + n), .int .i64 0]) ∧ Hid (Blk w' w.heap.size (sealed kind xs) ∧ Below w.heap.size w w') := by
  have HX : Hid (∀ x ∈ xs, x < 256) := hx
  have HR : Hid (Row w ao xs) := hr
  have HT : Hid (Tab w) := hT
  have HN : Hid (n = xs.length) := hn
  clear hx hr hT hn
  have hk0 : ((kind : Int) == 0) = false := by rw [beq_eq_false_iff_ne]; omega
  go_enter Tryd.func26, Tryd.ntmps26
  go_wp2_with (first | (at_make; refine wpList_make_bytes rfl _ _ rfl .i64 .i64 _ _ (9 + n) (9 + n) rfl rfl (by omega) (by omega) (by omega) (by omega) ?_) | fail)
  rintro w1 hb1 hbel1 hs1
  have HB1 : Hid (Blk w1 w.heap.size (List.replicate (9 + n) 0)) := hb1
  have HL1 : Hid (Below w.heap.size w w1) := hbel1
  clear hb1 hbel1
  go_wp2_with fail
  refine (putWord_any w.heap.size 0 (9 + n) (9 + n) n (List.replicate (9 + n) 0) w1 (by omega) (by omega) (by simp; omega) (by omega) HB1.out).mono ?_
  rintro e w2 ⟨rfl, h2⟩
  have HB2 : Hid (Blk w2 w.heap.size (putK (List.replicate (9 + n) 0) 0 n 4)) := h2.out.1
  have HL2 : Hid (Below w.heap.size w w2) := HL1.out.grown h2.out.2.1 (by omega) (fun k hk => by cases hk; exact Nat.le_refl _)
  have hs2 : w2.heap.size = w.heap.size + 1 := by rw [h2.out.2.2, hs1]
  have hc8 := HB2.out.cell 8 (by rw [putK_length]; simp; omega)
  have hf8 := HB2.out.frozen 8
  clear h2 HB1 HL1 hs1
  have h8 : (8 : Int) < 9 + (n : Int) := by omega
  obtain ⟨cur, hcur⟩ : ∃ l, l = four n ++ ([0, 0, 0, 0] ++ (kind :: List.replicate n 0)) := ⟨_, rfl⟩
  have HB3 : Hid (Blk (w2.setCell ⟨w.heap.size, 8, none⟩ (.int .u8 (kind : Int))) w.heap.size cur) := by
    show Blk _ _ _
    rw [hcur, ← seal_head]; exact HB2.out.set 8 kind
  have HL3 : Hid (Below w.heap.size w (w2.setCell ⟨w.heap.size, 8, none⟩ (.int .u8 (kind : Int)))) := HL2.out.setCell (Nat.le_refl _) _
  have hcl : cur.length = 9 + n := by rw [hcur]; simp [four]; omega
  have HC : Hid (cur.take 9 ++ xs ++ cur.drop (9 + n) = four n ++ ([0, 0, 0, 0] ++ (kind :: xs))) := by
    show _ = _
    rw [hcur]; exact seal_body n kind xs
  obtain ⟨dp, hsl, hdp⟩ := slice_from w.heap.size 0 (9 + n) (9 + n) n n 9 9 rfl (by omega) (by omega) (by omega)
  have HD : Hid (9 < 9 + n → dp = some ⟨w.heap.size, 0 + 9, none⟩) := hdp
  clear hdp hcur
  go_wp2_with (refine wpList_copy_bytes rfl _ _ rfl dp ao n n n cap rfl rfl w.heap.size 9 cur xs HN.out (Nat.le_refl _) HB3.out (fun h => HD.out (by omega)) (HR.out.keep HL3.out) (by omega) w.heap.size (Nat.le_refl _) ?_)
  rintro w4 k4 hb4 hbel4
  obtain ⟨ys, hys⟩ : ∃ l, l = four n ++ ([0, 0, 0, 0] ++ (kind :: xs)) := ⟨_, rfl⟩
  have HB4 : Hid (Blk w4 w.heap.size ys) := by
    show Blk _ _ _
    rw [hys, ← HC.out]; first | exact hb4 | simpa using hb4
  have HL4 : Hid (Below w.heap.size w w4) := HL3.out.trans hbel4
  have HT4 : Hid (Tab w4) := HT.out.keep HL4.out
  have hyl : ys.length = 9 + n := by rw [hys]; simp [four, HN.out.symm]; omega
  have HYL : Hid (∀ x ∈ ys, x < 256) := by
    show ∀ x ∈ ys, x < 256
    rw [hys]
    refine lt_append (four_lt _) (lt_append (by decide) (fun x hx => ?_))
    rcases List.mem_cons.1 hx with rfl | h
    · exact hk2
    · exact HX.out x h
  have HYS : Hid (putK ys 4 (fsum ys) 4 = sealed kind xs) := by
    show _ = _
    have hn := HN.out
    rw [hys, hn, seal_sum, seal_tail]; rfl
  clear hys hb4 hbel4 HB3 HL3 HB2 HL2 HC HD hsl hcl hc8 hf8
  have hn4 : (4 : Int) ≤ 9 + (n : Int) := by omega
  have hc4 : ¬ 9 + n = 4 := by omega
  go_wp2_with fail
  go_region_with (first
    | (go_at_call 33; refine (frameSum_any (9 + n) (9 + n) w.heap.size 0 ys _ (by omega) (by omega) (Nat.le_refl _) (by omega) HYL.out (by exact HB4.out.row) (by exact HT4.out)).mono ?_; rintro e w5 ⟨rfl, m5, rfl⟩)
    | (go_at_call 34; refine (putWord_any w.heap.size 4 _ _ (fsum ys) ys _ (by omega) (by omega) (by omega) (fsum_lt _) (by exact HB4.out)).mono ?_; rintro e w6 ⟨rfl, h6⟩))
  have HB6 : Hid (Blk w6 w.heap.size (sealed kind xs)) := by show Blk _ _ _; rw [← HYS.out]; exact h6.out.1
  have HL6 : Hid (Below w.heap.size w w6) := by
    have hg := h6.out.2.1
    have hs := HL4.out.size
    exact HL4.out.trans ⟨hg.os, hg.tape, hg.output, hg.size, fun k hk => hg.block k (by first | omega | (simp; omega)) (fun e => by cases e; omega)⟩
  clear h6
  go_wp2
  go_ret2
  exact ⟨rfl, HB6.out, HL6.out⟩
end Go.Proofs.YtmgppjfohabdmabDoor
