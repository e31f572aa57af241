/- The contract of the laws' live: it answers true in every world that holds the table. -/
import Derived.Test.YtmgppjfohabdmabDoorOpenFn
import Derived.Lib.SlBytesConst
namespace Go.Proofs.YtmgppjfohabdmabDoor
open Go.RowKit

theorem open_good (n cap b off : Nat) (xs : List Nat) (w : World) (hn : n = xs.length) (hnc : n ≤ cap) (hl : n ≤ 140737488351232) (hx : ∀ x ∈ xs, x < 256) (hr : Row w (some ⟨b, off, none⟩) xs) (hT : Tab w) (hok : openErr xs = 0) :
    Calls Tryd.prog 25 #[.slice (some ⟨b, off, none⟩) n cap] w fun e w' => ∃ g, e = .returned (.tuple #[.agg #[.int .u8 ((xs.getD 8 0 : Nat) : Int), .slice (some ⟨g, 0, none⟩) (num4 xs) (num4 xs)], .int .i64 ((9 + num4 xs : Nat) : Int), .int .i64 0]) ∧ Hid (w.heap.size ≤ g ∧ g < w'.heap.size ∧ Blk w' g (openLoad xs) ∧ Below w.heap.size w w') := by
  unfold openErr at hok
  split at hok
  · cases hok
  · split at hok
    · cases hok
    · split at hok
      · cases hok
      · split at hok
        · cases hok
        · split at hok
          · cases hok
          · rename_i h1 h2 h3 h4 h5
            exact open_ok n cap b off xs w hn hnc (by omega) hl hx hr hT (by omega) (by omega) (Decidable.not_not.1 h4) h5
theorem open_bad (n cap : Nat) (ao : Option Addr) (xs : List Nat) (w : World) (hn : n = xs.length) (hnc : n ≤ cap) (hl : n ≤ 140737488351232) (hx : ∀ x ∈ xs, x < 256) (hr : Row w ao xs) (hT : Tab w) (hbad : openErr xs ≠ 0) :
    Calls Tryd.prog 25 #[.slice ao n cap] w fun e w' => OpenBad e (openErr xs) ∧ Hid (Below w.heap.size w w') := by
  unfold openErr at hbad ⊢
  by_cases h1 : xs.length < 9
  · rw [if_pos h1]; exact open_short n cap ao w (by omega)
  · rw [if_neg h1]
    rw [if_neg h1] at hbad
    obtain ⟨b, off, rfl⟩ := hr.form (by omega)
    by_cases h2 : 2097152 < num4 xs
    · rw [if_pos h2]; exact open_long n cap b off xs w hn (by omega) hl hx hr h2
    · rw [if_neg h2]
      rw [if_neg h2] at hbad
      by_cases h3 : xs.length < 9 + num4 xs
      · rw [if_pos h3]; exact open_torn n cap b off xs w hn (by omega) hl hx hr (by omega) (by omega)
      · rw [if_neg h3]
        rw [if_neg h3] at hbad
        by_cases h4 : num4 (xs.drop 4) ≠ fsum (xs.take (9 + num4 xs))
        · rw [if_pos h4]; exact open_sum n cap b off xs w hn hnc (by omega) hl hx hr hT (by omega) (by omega) h4
        · rw [if_neg h4]
          rw [if_neg h4] at hbad
          by_cases h5 : xs.getD 8 0 = 0
          · rw [if_pos h5]; exact open_kind n cap b off xs w hn hnc (by omega) hl hx hr hT (by omega) (by omega) (Decidable.not_not.1 h4) h5
          · rw [if_neg h5] at hbad; exact absurd rfl hbad

theorem seal_n (cap kind : Nat) (ki : Int) (hki : ki = (kind : Int)) (ao : Option Addr) (n : Nat) (xs : List Nat) (w : World) (hk : 0 < kind) (hk2 : kind < 256) (hn : n = xs.length) (hn2 : n ≤ 2097152) (hx : ∀ x ∈ xs, x < 256) (hr : Row w ao xs) (hT : Tab w) :
    Calls Tryd.prog 26 #[.int .u8 ki, .slice ao n cap] w fun e w' => e = .returned (.tuple #[.slice (some ⟨w.heap.size, 0, none⟩) (9 + n) (9 + n), .int .i64 0]) ∧ Hid (Blk w' w.heap.size (sealed kind xs) ∧ Below w.heap.size w w') := by
  subst hki; exact seal_any cap kind ao n xs w hk hk2 hn hn2 hx hr hT
theorem live_ok : openErr (sealed 7 [97, 98]) = 0 := by decide +kernel
theorem live_bad : openErr ((sealed 7 [97, 98]).set 9 120) = 12 := by decide +kernel
theorem live_crc : crcOn 0 [49, 50, 51, 52, 53, 54, 55, 56, 57] = 3421780262 := by decide +kernel
theorem live_kind : (sealed 7 [97, 98]).getD 8 0 = 7 := by decide +kernel
theorem live_num : num4 (sealed 7 [97, 98]) = 2 := by decide +kernel
theorem live_load : openLoad (sealed 7 [97, 98]) = [97, 98] := by decide +kernel

theorem row_ab (w : World) : Row (w.alloc (.cells #[.int .u8 97, .int .u8 98] 5 (2, 3))) (some ⟨w.heap.size, 0, none⟩) [97, 98] := by
  refine .inr ⟨_, _, rfl, fun i hi => ?_⟩
  rw [World.cell?_alloc_mark]
  rcases (show i = 0 ∨ i = 1 by simp at hi; omega) with rfl | rfl <;> rfl
theorem row_nine (w : World) : Row (w.alloc (.cells #[.int .u8 49, .int .u8 50, .int .u8 51, .int .u8 52, .int .u8 53, .int .u8 54, .int .u8 55, .int .u8 56, .int .u8 57] 5 (9, 10))) (some ⟨w.heap.size, 0, none⟩) [49, 50, 51, 52, 53, 54, 55, 56, 57] := by
  refine .inr ⟨_, _, rfl, fun i hi => ?_⟩
  rw [World.cell?_alloc_mark]
  rcases (show i = 0 ∨ i = 1 ∨ i = 2 ∨ i = 3 ∨ i = 4 ∨ i = 5 ∨ i = 6 ∨ i = 7 ∨ i = 8 by simp at hi; omega) with rfl | rfl | rfl | rfl | rfl | rfl | rfl | rfl | rfl <;> rfl
theorem new_cell {W : World} {n j : Nat} {cs : Array Value} {t : TypeId} {v : Value} (hn : W.heap.size = n) (hj : cs[j]? = some v) : (W.alloc (.cells cs t)).cell? ⟨n, j, none⟩ = some v := by
  subst hn
  simp [hj]
theorem live_lt : ∀ x ∈ sealed 7 [97, 98], x < 256 := sealed_lt (by decide) (by decide)
theorem live_open (w : World) (g : Nat) (hk : Blk w g (sealed 7 [97, 98])) (hT : Tab w) :
    Calls Tryd.prog 25 #[.slice (some ⟨g, 0, none⟩) 11 11] w fun e w' => ∃ g2, e = .returned (.tuple #[.agg #[.int .u8 7, .slice (some ⟨g2, 0, none⟩) 2 2], .int .i64 11, .int .i64 0]) ∧ Hid (w.heap.size ≤ g2 ∧ g2 < w'.heap.size ∧ Blk w' g2 [97, 98] ∧ Below w.heap.size w w') := by
  have h := open_good 11 11 g 0 (sealed 7 [97, 98]) w (by rw [sealed_length]; rfl) (by decide) (by decide) live_lt hk.row hT live_ok
  rw [live_kind, live_num, live_load] at h
  exact h
theorem live_open2 (w : World) (g : Nat) (hk : Blk w g ((sealed 7 [97, 98]).set 9 120)) (hT : Tab w) :
    Calls Tryd.prog 25 #[.slice (some ⟨g, 0, none⟩) 11 11] w fun e w' => e = .returned (.tuple #[.agg #[.int .u8 0, .slice none 0 0], .int .i64 0, .int .i64 12]) ∧ Hid (Below w.heap.size w w') := by
  have h := open_bad 11 11 (some ⟨g, 0, none⟩) ((sealed 7 [97, 98]).set 9 120) w (by rw [List.length_set, sealed_length]; rfl) (by decide) (by decide) (by decide +kernel) hk.row hT (by rw [live_bad]; decide)
  rw [live_bad] at h
  exact h
set_option maxHeartbeats 800000 in
set_option maxRecDepth 100000 in
theorem live_true (w : World) (hT : Tab w) : Calls Tryd.prog 17 #[] w fun e w' => e = .returned (.bool true) ∧ Below w.heap.size w w' := by
  have HT : Hid (Tab w) := hT
  clear hT
  have kc := fun (w : World) (C : Array Value) (n c : Nat) => Lib.run_convert_bytes_const (P := Tryd.prog) w 22 5 C n c Tryd.underlying22 Tryd.underlying5
  go_enter Tryd.func17, Tryd.ntmps17
  go_wp2_with fail
  refine (seal_n 2 7 7 rfl (some ⟨w.heap.size, 0, none⟩) 2 [97, 98] _ (by decide) (by decide) rfl (by decide) (by decide) (by exact row_ab w) (by exact HT.out.keep ((Below.refl _ _).alloc (Nat.le_refl _) _))).mono ?_
  rintro e w1 ⟨rfl, h1⟩
  have hb1 : Below w.heap.size w w1 := ((Below.refl _ _).alloc (Nat.le_refl _) _).trans (h1.out.2.mono (by simp))
  have hk1 : Blk w1 (w.heap.size + 1) (sealed 7 [97, 98]) := by simpa using h1.out.1
  have HK1 : Hid (Blk w1 (w.heap.size + 1) (sealed 7 [97, 98])) := hk1
  have HB1 : Hid (Below w.heap.size w w1) := hb1
  have HT1 : Hid (Tab w1) := HT.out.keep hb1
  clear h1 hb1 hk1
  go_wp2_with (go_at_call 12; refine (num_any _ _).mono ?_; rintro e w' ⟨rfl, rfl⟩)
  refine (live_open w' (w.heap.size + 1) HK1.out HT1.out).mono ?_
  rintro e w2 ⟨g2, rfl, h2⟩
  have hs1 := HB1.out.size
  have HK2 : Hid (Blk w2 (w.heap.size + 1) (sealed 7 [97, 98])) := HK1.out.keep h2.out.2.2.2
  have HB2 : Hid (Below w.heap.size w w2) := HB1.out.trans (h2.out.2.2.2.mono hs1)
  have HG2 : Hid (Blk w2 g2 [97, 98] ∧ w.heap.size + 1 ≠ g2) := ⟨h2.out.2.2.1, fun h => by have a := h2.out.1; have b := HK1.out.lt; omega⟩
  have hlt2 : w.heap.size + 1 < w2.heap.size := HK2.out.lt
  have hlg2 : g2 < w2.heap.size := h2.out.2.1
  have hc9 := fun o => (HK2.out.keep ((Below.refl w2.heap.size w2).alloc (Nat.le_refl _) o)).cell 9 (by rw [sealed_length]; decide)
  have hf9 := fun o => (HK2.out.keep ((Below.refl w2.heap.size w2).alloc (Nat.le_refl _) o)).frozen 9
  clear h2 HK1
  go_wp2_with fail
  have hbs : Below w.heap.size w (w2.setCell ⟨w.heap.size + 1, 9, none⟩ (.int .u8 120)) := HB2.out.setCell (by simp) _
  have hba : Below (w2.setCell ⟨w.heap.size + 1, 9, none⟩ (.int .u8 120)).heap.size (w2.setCell ⟨w.heap.size + 1, 9, none⟩ (.int .u8 120)) ((w2.setCell ⟨w.heap.size + 1, 9, none⟩ (.int .u8 120)).alloc (.cells #[.int .u8 7, .slice (some ⟨g2, 0, none⟩) 2 2] 43)) := (Below.refl _ _).alloc (Nat.le_refl _) _
  have hsz : (w2.setCell ⟨w.heap.size + 1, 9, none⟩ (.int .u8 120)).heap.size = w2.heap.size := by simp [World.setCell]
  refine (live_open2 _ (w.heap.size + 1) (by exact (HK2.out.set 9 120).keep hba) (by exact (HT.out.keep hbs).keep hba)).mono ?_
  rintro e w4 ⟨rfl, h4⟩
  have hbw : Below w.heap.size w ((w2.setCell ⟨w.heap.size + 1, 9, none⟩ (.int .u8 120)).alloc (.cells #[.int .u8 7, .slice (some ⟨g2, 0, none⟩) 2 2] 43)) := hbs.alloc (by omega) _
  have HB4 : Hid (Below w.heap.size w w4) := hbw.trans (h4.out.mono (by simp; omega))
  have k0 : w4.cell? ⟨w2.heap.size, 0, none⟩ = some (.int .u8 7) := cell_kept (new_cell hsz rfl) h4.out
  have k1 : w4.cell? ⟨w2.heap.size, 1, none⟩ = some (.slice (some ⟨g2, 0, none⟩) 2 2) := cell_kept (new_cell hsz rfl) h4.out
  have hs4 : w2.heap.size < w4.heap.size := World.block_lt_of_cell? w4 _ k0
  have HG4 : Hid (Blk w4 g2 [97, 98]) := ((HG2.out.1.other ⟨w.heap.size + 1, 9, none⟩ (.int .u8 120) (fun h => HG2.out.2 h.symm)).keep hba).keep h4.out
  have hcv : ∀ o, (convert 22 9 (.slice (some ⟨g2, 0, none⟩) 2 2)).run Tryd.prog (w4.alloc o) = .ok (.string (bstr [97, 98])) (w4.alloc o) := fun o => conv_row (xs := [97, 98]) 2 (HG4.out.row.keep ((Below.refl _ _).alloc (Nat.le_refl _) o))
  have HT4 : Hid (Tab w4) := HT.out.keep HB4.out
  clear h4 hbw hba hbs hsz hc9 hf9 HT1 HB1 HK2 HB2 HG2 HG4
  have hse : ((bstr [97, 98]).toList == [97, 98]) = true := by simp [bstr]
  have kc2 : ∀ (o : Obj) (C : Array Value) (n c : Nat), (convert 22 22 (.slice (some ⟨w4.heap.size + 1, 0, none⟩) n c)).run Tryd.prog ((w4.alloc o).alloc (.cells C 5)) = .ok (.slice (some ⟨w4.heap.size + 1, 0, none⟩) n c) ((w4.alloc o).alloc (.cells C 5 (C.size, C.size + 1))) := fun o C n c => by
    have := kc (w4.alloc o) C n c
    rw [World.size_alloc] at this
    exact this
  clear kc
  go_wp2_with (go_at_call 12; refine (num_any _ _).mono ?_; rintro e w5 ⟨rfl, rfl⟩)
  refine (crc_n 9 9 _ [49, 50, 51, 52, 53, 54, 55, 56, 57] _ rfl (by decide) (by decide) (by have := row_nine (w4.alloc (.cells #[.int .u8 0, .slice none 0 0] 43)); rw [World.size_alloc] at this; exact this) (by exact (HT4.out.keep ((Below.refl _ _).alloc (Nat.le_refl _) _)).keep ((Below.refl _ _).alloc (Nat.le_refl _) _))).mono ?_
  rintro e w6 ⟨rfl, rfl⟩
  rw [live_crc]
  go_wp2
  go_ret
  exact ⟨rfl, (HB4.out.alloc (by have := HB4.out.size; omega) _).alloc (by have := HB4.out.size; simp; omega) _⟩
end Go.Proofs.YtmgppjfohabdmabDoor
