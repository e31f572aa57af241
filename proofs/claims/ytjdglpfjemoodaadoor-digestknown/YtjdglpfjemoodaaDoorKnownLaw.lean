/- The walk of the law DigestKnown: it returns true and turns nothing old; the table of roots is a condition. -/
import Derived.Test.YtjdglpfjemoodaaDoorKnownMath
import Derived.Test.YtjdglpfjemoodaaDoorGuarded
namespace Go.Proofs.YtjdglpfjemoodaaDoor
open Go.RowKit

theorem parts_after1 (w : World) (k x : List Nat) (a b c d n : Nat) (hn : n = x.length) (hx : ∀ y ∈ x, y < 256) :
    Row (((w.alloc (.cells (k.map bv).toArray 5 (a, b))).alloc (.cells (x.map bv).toArray 5 (c, d))).alloc (.cells #[.slice (some ⟨w.heap.size + 1, 0, none⟩) n n] 26)) (some ⟨w.heap.size, 0, none⟩) k ∧
    Parts (((w.alloc (.cells (k.map bv).toArray 5 (a, b))).alloc (.cells (x.map bv).toArray 5 (c, d))).alloc (.cells #[.slice (some ⟨w.heap.size + 1, 0, none⟩) n n] 26)) (some ⟨w.heap.size + 1 + 1, 0, none⟩) [x] ∧
    Below w.heap.size w (((w.alloc (.cells (k.map bv).toArray 5 (a, b))).alloc (.cells (x.map bv).toArray 5 (c, d))).alloc (.cells #[.slice (some ⟨w.heap.size + 1, 0, none⟩) n n] 26)) := by
  have r2 := row_mark (w.alloc (.cells (k.map bv).toArray 5 (a, b))) x c d
  rw [World.size_alloc] at r2
  refine ⟨((row_mark w k a b).keep (below_new _ _)).keep (below_new _ _), parts_one _ x n n _ _ hn (Nat.le_refl _) hx r2 (by simp), (((Below.refl _ _).alloc (Nat.le_refl _) _).alloc (by simp) _).alloc (by simp; omega) _⟩
theorem parts_after2 (w : World) (k x y : List Nat) (a b c d e f n m : Nat) (hn : n = x.length) (hx : ∀ z ∈ x, z < 256) (hm : m = y.length) (hy : ∀ z ∈ y, z < 256) :
    Row ((((w.alloc (.cells (k.map bv).toArray 5 (a, b))).alloc (.cells (x.map bv).toArray 5 (c, d))).alloc (.cells (y.map bv).toArray 5 (e, f))).alloc (.cells #[.slice (some ⟨w.heap.size + 1, 0, none⟩) n n, .slice (some ⟨w.heap.size + 1 + 1, 0, none⟩) m m] 26)) (some ⟨w.heap.size, 0, none⟩) k ∧
    Parts ((((w.alloc (.cells (k.map bv).toArray 5 (a, b))).alloc (.cells (x.map bv).toArray 5 (c, d))).alloc (.cells (y.map bv).toArray 5 (e, f))).alloc (.cells #[.slice (some ⟨w.heap.size + 1, 0, none⟩) n n, .slice (some ⟨w.heap.size + 1 + 1, 0, none⟩) m m] 26)) (some ⟨w.heap.size + 1 + 1 + 1, 0, none⟩) [x, y] ∧
    Below w.heap.size w ((((w.alloc (.cells (k.map bv).toArray 5 (a, b))).alloc (.cells (x.map bv).toArray 5 (c, d))).alloc (.cells (y.map bv).toArray 5 (e, f))).alloc (.cells #[.slice (some ⟨w.heap.size + 1, 0, none⟩) n n, .slice (some ⟨w.heap.size + 1 + 1, 0, none⟩) m m] 26)) := by
  have r2 := row_mark (w.alloc (.cells (k.map bv).toArray 5 (a, b))) x c d
  rw [World.size_alloc] at r2
  have r3 := row_mark ((w.alloc (.cells (k.map bv).toArray 5 (a, b))).alloc (.cells (x.map bv).toArray 5 (c, d))) y e f
  rw [World.size_alloc, World.size_alloc] at r3
  refine ⟨(((row_mark w k a b).keep (below_new _ _)).keep (below_new _ _)).keep (below_new _ _), parts_two _ x y n n m m _ _ _ hn (Nat.le_refl _) hx (r2.keep (below_new _ _)) hm (Nat.le_refl _) hy r3 (by simp), ((((Below.refl _ _).alloc (Nat.le_refl _) _).alloc (by simp) _).alloc (by simp; omega) _).alloc (by simp; omega) _⟩

set_option maxHeartbeats 4000000 in
set_option maxRecDepth 100000 in
theorem digestKnown_walk (w : World) (hT : Roots w 0) : Calls Tryd.prog 3 #[] w fun e w' => e = .returned (.bool true) ∧ Below w.heap.size w w' := by
  have HT : Hid (Roots w 0) := hT
  clear hT
  have kc := fun (w : World) (C : Array Value) (n c : Nat) => Lib.run_convert_bytes_const (P := Tryd.prog) w 26 5 C n c Tryd.underlying26 Tryd.underlying5
  have hk0 := known0
  have hk2 := known2
  have hk3 := known3
  have hk4 := known4
  have hk5 := known5
  have L0 := hide (sha_length [])
  have L2 := hide (sha_length two56)
  have L3 : Hid ((macOf [74, 101, 102, 101] [[119, 104, 97, 116, 32, 100, 111, 32, 121, 97, 32, 119, 97, 110, 116, 32, 102, 111, 114, 32, 110, 111, 116, 104, 105, 110, 103, 63]]).length = 32) := sha_length _
  have L4 : Hid ((macOf [107, 101, 121] [[84, 104, 101, 32, 113, 117, 105, 99, 107, 32, 98, 114, 111, 119, 110, 32, 102, 111, 120, 32], [106, 117, 109, 112, 115, 32, 111, 118, 101, 114, 32, 116, 104, 101, 32, 108, 97, 122, 121, 32, 100, 111, 103]]).length = 32) := sha_length _
  have X0 := hide (sha_lt [])
  have X2 := hide (sha_lt two56)
  have X3 : Hid (∀ x ∈ macOf [74, 101, 102, 101] [[119, 104, 97, 116, 32, 100, 111, 32, 121, 97, 32, 119, 97, 110, 116, 32, 102, 111, 114, 32, 110, 111, 116, 104, 105, 110, 103, 63]], x < 256) := sha_lt _
  have X4 : Hid (∀ x ∈ macOf [107, 101, 121] [[84, 104, 101, 32, 113, 117, 105, 99, 107, 32, 98, 114, 111, 119, 110, 32, 102, 111, 120, 32], [106, 117, 109, 112, 115, 32, 111, 118, 101, 114, 32, 116, 104, 101, 32, 108, 97, 122, 121, 32, 100, 111, 103]], x < 256) := sha_lt _
  generalize h0 : sha [] = s0 at *
  generalize h2 : sha two56 = s2 at *
  generalize h3 : macOf [74, 101, 102, 101] [[119, 104, 97, 116, 32, 100, 111, 32, 121, 97, 32, 119, 97, 110, 116, 32, 102, 111, 114, 32, 110, 111, 116, 104, 105, 110, 103, 63]] = s3 at *
  generalize h4 : macOf [107, 101, 121] [[84, 104, 101, 32, 113, 117, 105, 99, 107, 32, 98, 114, 111, 119, 110, 32, 102, 111, 120, 32], [106, 117, 109, 112, 115, 32, 111, 118, 101, 114, 32, 116, 104, 101, 32, 108, 97, 122, 121, 32, 100, 111, 103]] = s4 at *
  generalize h5 : b64of [251, 255] = s5 at *
  replace h0 := hide h0
  replace h2 := hide h2
  replace h3 := hide h3
  replace h4 := hide h4
  replace h5 := hide h5
  generalize ht0 : bstr (hexOf s0) = t0 at *
  generalize ht2 : bstr (hexOf s2) = t2 at *
  generalize ht3 : bstr (hexOf s3) = t3 at *
  generalize ht4 : bstr (hexOf s4) = t4 at *
  generalize ht5 : bstr s5 = t5 at *
  replace ht0 := hide ht0
  replace ht2 := hide ht2
  replace ht3 := hide ht3
  replace ht4 := hide ht4
  replace ht5 := hide ht5
  go_enter Tryd.func3, Tryd.ntmps3
  go_wp2_with fail
  refine (live_true w HT.out).mono ?_
  rintro e w1 ⟨rfl, h1⟩
  have HB1 : Hid (Below w.heap.size w w1) := h1
  have hs1 := HB1.out.size
  clear h1
  go_wp2_with fail
  refine (sum_any 0 0 none [] w1 (by decide) rfl (by decide) (by simp) (.inl rfl) (HT.out.keep HB1.out)).mono ?_
  rintro e w2 ⟨rfl, hb2⟩
  rw [h0.out]
  have HB2 : Hid (Below w.heap.size w w2) := HB1.out.trans (hb2.mono hs1)
  have hs2 := HB2.out.size
  clear hb2
  go_wp2_with fail
  refine (text_any s0 w2 L0.out X0.out).mono ?_
  rintro e w3 ⟨rfl, hb3⟩
  rw [ht0.out]
  have HB3 : Hid (Below w.heap.size w w3) := HB2.out.trans (hb3.mono hs2)
  have hs3 := HB3.out.size
  clear hb3
  go_wp2_with fail
  refine (sum_any 56 56 (some ⟨w3.heap.size, 0, none⟩) two56 _ (by decide) rfl (by decide) two56_lt (by exact row_mark w3 two56 56 57) (by exact (HT.out.keep HB3.out).keep (below_mark w3 _ _ _))).mono ?_
  rintro e w4 ⟨rfl, hb4⟩
  rw [h2.out]
  have HB4 : Hid (Below w.heap.size w w4) := (HB3.out.trans ((below_mark w3 _ _ _).mono hs3)).trans (hb4.mono (by simp; omega))
  have hs4 := HB4.out.size
  clear hb4
  have HCw5 : Hid ((Tryd.prog.info? 24).map (·.size) = some (s2.map bv).toArray.size) := by show _ = _; rw [size24]; simp [L2.out]
  go_upto_region 4 with (first | (refine wpList_store_row rfl 24 _ _ rfl w4.heap.size (s2.map bv).toArray rfl rfl 24 _ (Bl.new w4 _ _) HCw5.out (by simp [L2.out]) (all_oneCell_toArray (bv_one _)) ?_) | fail)
  obtain ⟨w5, hqw5⟩ : ∃ x, x = (w4.alloc (Obj.cells #[.int .u8 0, .int .u8 0, .int .u8 0, .int .u8 0, .int .u8 0, .int .u8 0, .int .u8 0, .int .u8 0, .int .u8 0, .int .u8 0, .int .u8 0, .int .u8 0, .int .u8 0, .int .u8 0, .int .u8 0, .int .u8 0, .int .u8 0, .int .u8 0, .int .u8 0, .int .u8 0, .int .u8 0, .int .u8 0, .int .u8 0, .int .u8 0, .int .u8 0, .int .u8 0, .int .u8 0, .int .u8 0, .int .u8 0, .int .u8 0, .int .u8 0, .int .u8 0] 24)).setRow w4.heap.size (s2.map bv).toArray := ⟨_, rfl⟩
  rw [← hqw5]
  have HGw5 : Hid (Bl w5 w4.heap.size (s2.map bv) 24) := by rw [hqw5]; exact (Bl.new w4 _ _).setRow _
  have HSw5 : Hid (Below w4.heap.size w4 w5) := by rw [hqw5]; exact below_setRow (below_new w4 _) (Nat.le_refl _) _
  clear hqw5
  have HB5 : Hid (Below w.heap.size w w5) := HB4.out.trans (HSw5.out.mono hs4)
  have hs5 := HB5.out.size
  have kd := fun (o : Obj) (C : Array Value) (n c : Nat) => kc (w5.alloc o) C n c
  simp only [World.size_alloc] at kd
  go_wp2_with fail
  refine (mac_any 4 4 1 1 (some ⟨w5.heap.size, 0, none⟩) (some ⟨w5.heap.size + 1 + 1, 0, none⟩) [74, 101, 102, 101] [[119, 104, 97, 116, 32, 100, 111, 32, 121, 97, 32, 119, 97, 110, 116, 32, 102, 111, 114, 32, 110, 111, 116, 104, 105, 110, 103, 63]] _ rfl (by decide) (by decide) (by decide) (by exact (parts_after1 w5 [74, 101, 102, 101] [119, 104, 97, 116, 32, 100, 111, 32, 121, 97, 32, 119, 97, 110, 116, 32, 102, 111, 114, 32, 110, 111, 116, 104, 105, 110, 103, 63] 4 5 28 29 28 rfl (by decide)).1) rfl (by decide) (by decide) (by exact (parts_after1 w5 [74, 101, 102, 101] [119, 104, 97, 116, 32, 100, 111, 32, 121, 97, 32, 119, 97, 110, 116, 32, 102, 111, 114, 32, 110, 111, 116, 104, 105, 110, 103, 63] 4 5 28 29 28 rfl (by decide)).2.1) (by exact (HT.out.keep HB5.out).keep (parts_after1 w5 [74, 101, 102, 101] [119, 104, 97, 116, 32, 100, 111, 32, 121, 97, 32, 119, 97, 110, 116, 32, 102, 111, 114, 32, 110, 111, 116, 104, 105, 110, 103, 63] 4 5 28 29 28 rfl (by decide)).2.2)).mono ?_
  rintro e w6 ⟨rfl, hb6⟩
  rw [h3.out]
  have H56 : Hid (Below w5.heap.size w5 w6) := (parts_after1 w5 [74, 101, 102, 101] [119, 104, 97, 116, 32, 100, 111, 32, 121, 97, 32, 119, 97, 110, 116, 32, 102, 111, 114, 32, 110, 111, 116, 104, 105, 110, 103, 63] 4 5 28 29 28 rfl (by decide)).2.2.trans (hb6.mono (by simp; omega))
  clear hb6 kd
  have HB6 : Hid (Below w.heap.size w w6) := HB5.out.trans (H56.out.mono hs5)
  have hs6 := HB6.out.size
  have HG6 : Hid (Bl w6 w4.heap.size (s2.map bv) 24) := HGw5.out.keep H56.out
  have HCw7 : Hid ((Tryd.prog.info? 24).map (·.size) = some (s3.map bv).toArray.size) := by show _ = _; rw [size24]; simp [L3.out]
  go_upto_region 5 with (first | (refine wpList_store_row rfl 24 _ _ rfl w6.heap.size (s3.map bv).toArray rfl rfl 24 _ (Bl.new w6 _ _) HCw7.out (by simp [L3.out]) (all_oneCell_toArray (bv_one _)) ?_) | fail)
  obtain ⟨w7, hqw7⟩ : ∃ x, x = (w6.alloc (Obj.cells #[.int .u8 0, .int .u8 0, .int .u8 0, .int .u8 0, .int .u8 0, .int .u8 0, .int .u8 0, .int .u8 0, .int .u8 0, .int .u8 0, .int .u8 0, .int .u8 0, .int .u8 0, .int .u8 0, .int .u8 0, .int .u8 0, .int .u8 0, .int .u8 0, .int .u8 0, .int .u8 0, .int .u8 0, .int .u8 0, .int .u8 0, .int .u8 0, .int .u8 0, .int .u8 0, .int .u8 0, .int .u8 0, .int .u8 0, .int .u8 0, .int .u8 0, .int .u8 0] 24)).setRow w6.heap.size (s3.map bv).toArray := ⟨_, rfl⟩
  rw [← hqw7]
  have HGw7 : Hid (Bl w7 w6.heap.size (s3.map bv) 24) := by rw [hqw7]; exact (Bl.new w6 _ _).setRow _
  have HSw7 : Hid (Below w6.heap.size w6 w7) := by rw [hqw7]; exact below_setRow (below_new w6 _) (Nat.le_refl _) _
  clear hqw7
  have HB7 : Hid (Below w.heap.size w w7) := HB6.out.trans (HSw7.out.mono hs6)
  have hs7 := HB7.out.size
  have HG7 : Hid (Bl w7 w4.heap.size (s2.map bv) 24) := HG6.out.keep HSw7.out
  clear HG6 HGw5 H56
  have kd := fun (o : Obj) (C : Array Value) (n c : Nat) => kc (w7.alloc o) C n c
  simp only [World.size_alloc] at kd
  have ke := fun (o p : Obj) (C : Array Value) (n c : Nat) => kc ((w7.alloc o).alloc p) C n c
  simp only [World.size_alloc] at ke
  go_wp2_with fail
  refine (mac_any 3 3 2 2 (some ⟨w7.heap.size, 0, none⟩) (some ⟨w7.heap.size + 1 + 1 + 1, 0, none⟩) [107, 101, 121] [[84, 104, 101, 32, 113, 117, 105, 99, 107, 32, 98, 114, 111, 119, 110, 32, 102, 111, 120, 32], [106, 117, 109, 112, 115, 32, 111, 118, 101, 114, 32, 116, 104, 101, 32, 108, 97, 122, 121, 32, 100, 111, 103]] _ rfl (by decide) (by decide) (by decide) (by exact (parts_after2 w7 [107, 101, 121] [84, 104, 101, 32, 113, 117, 105, 99, 107, 32, 98, 114, 111, 119, 110, 32, 102, 111, 120, 32] [106, 117, 109, 112, 115, 32, 111, 118, 101, 114, 32, 116, 104, 101, 32, 108, 97, 122, 121, 32, 100, 111, 103] 3 4 20 21 23 24 20 23 rfl (by decide) rfl (by decide)).1) rfl (by decide) (by decide) (by exact (parts_after2 w7 [107, 101, 121] [84, 104, 101, 32, 113, 117, 105, 99, 107, 32, 98, 114, 111, 119, 110, 32, 102, 111, 120, 32] [106, 117, 109, 112, 115, 32, 111, 118, 101, 114, 32, 116, 104, 101, 32, 108, 97, 122, 121, 32, 100, 111, 103] 3 4 20 21 23 24 20 23 rfl (by decide) rfl (by decide)).2.1) (by exact (HT.out.keep HB7.out).keep (parts_after2 w7 [107, 101, 121] [84, 104, 101, 32, 113, 117, 105, 99, 107, 32, 98, 114, 111, 119, 110, 32, 102, 111, 120, 32] [106, 117, 109, 112, 115, 32, 111, 118, 101, 114, 32, 116, 104, 101, 32, 108, 97, 122, 121, 32, 100, 111, 103] 3 4 20 21 23 24 20 23 rfl (by decide) rfl (by decide)).2.2)).mono ?_
  rintro e w8 ⟨rfl, hb8⟩
  rw [h4.out]
  have H78 : Hid (Below w7.heap.size w7 w8) := (parts_after2 w7 [107, 101, 121] [84, 104, 101, 32, 113, 117, 105, 99, 107, 32, 98, 114, 111, 119, 110, 32, 102, 111, 120, 32] [106, 117, 109, 112, 115, 32, 111, 118, 101, 114, 32, 116, 104, 101, 32, 108, 97, 122, 121, 32, 100, 111, 103] 3 4 20 21 23 24 20 23 rfl (by decide) rfl (by decide)).2.2.trans (hb8.mono (by simp; omega))
  clear hb8 kd ke kc
  have HB8 : Hid (Below w.heap.size w w8) := HB7.out.trans (H78.out.mono hs7)
  have hs8 := HB8.out.size
  have HCw9 : Hid ((Tryd.prog.info? 24).map (·.size) = some (s4.map bv).toArray.size) := by show _ = _; rw [size24]; simp [L4.out]
  go_upto_region 6 with (first | (refine wpList_store_row rfl 24 _ _ rfl w8.heap.size (s4.map bv).toArray rfl rfl 24 _ (Bl.new w8 _ _) HCw9.out (by simp [L4.out]) (all_oneCell_toArray (bv_one _)) ?_) | fail)
  obtain ⟨w9, hqw9⟩ : ∃ x, x = (w8.alloc (Obj.cells #[.int .u8 0, .int .u8 0, .int .u8 0, .int .u8 0, .int .u8 0, .int .u8 0, .int .u8 0, .int .u8 0, .int .u8 0, .int .u8 0, .int .u8 0, .int .u8 0, .int .u8 0, .int .u8 0, .int .u8 0, .int .u8 0, .int .u8 0, .int .u8 0, .int .u8 0, .int .u8 0, .int .u8 0, .int .u8 0, .int .u8 0, .int .u8 0, .int .u8 0, .int .u8 0, .int .u8 0, .int .u8 0, .int .u8 0, .int .u8 0, .int .u8 0, .int .u8 0] 24)).setRow w8.heap.size (s4.map bv).toArray := ⟨_, rfl⟩
  rw [← hqw9]
  have HGw9 : Hid (Bl w9 w8.heap.size (s4.map bv) 24) := by rw [hqw9]; exact (Bl.new w8 _ _).setRow _
  have HSw9 : Hid (Below w8.heap.size w8 w9) := by rw [hqw9]; exact below_setRow (below_new w8 _) (Nat.le_refl _) _
  clear hqw9
  have HB9 : Hid (Below w.heap.size w w9) := HB8.out.trans (HSw9.out.mono hs8)
  have hs9 := HB9.out.size
  have HG9 : Hid (Bl w9 w4.heap.size (s2.map bv) 24) := (HG7.out.keep H78.out).keep HSw9.out
  have HJ9 : Hid (Bl w9 w6.heap.size (s3.map bv) 24) := (HGw7.out.keep H78.out).keep HSw9.out
  have HF9 : Hid (Bl w9 w8.heap.size (s4.map bv) 24) := HGw9.out
  clear HG7 H78 HGw7 HGw9 HSw5 HSw7 HSw9
  go_wp2_with (first | (refine wpList_load_row rfl 24 _ rfl w4.heap.size rfl 24 (s2.map bv).toArray (0, 0) _ HG9.out Tryd.underlying24 rfl HCw5.out ?_) | fail)
  refine (text_any s2 w9 L2.out X2.out).mono ?_
  rintro e w10 ⟨rfl, hb10⟩
  rw [ht2.out]
  have HB10 : Hid (Below w.heap.size w w10) := HB9.out.trans (hb10.mono hs9)
  have hs10 := HB10.out.size
  have HJ10 : Hid (Bl w10 w6.heap.size (s3.map bv) 24) := HJ9.out.keep hb10
  have HF10 : Hid (Bl w10 w8.heap.size (s4.map bv) 24) := HF9.out.keep hb10
  clear hb10
  go_wp2_with (first | (refine wpList_load_row_g (by rfl) 24 _ rfl w6.heap.size rfl 24 (s3.map bv).toArray (0, 0) _ _ HJ10.out Tryd.underlying24 HCw7.out ?_) | fail)
  refine (text_any s3 w10 L3.out X3.out).mono ?_
  rintro e w11 ⟨rfl, hb11⟩
  rw [ht3.out]
  have HB11 : Hid (Below w.heap.size w w11) := HB10.out.trans (hb11.mono hs10)
  have hs11 := HB11.out.size
  have HF11 : Hid (Bl w11 w8.heap.size (s4.map bv) 24) := HF10.out.keep hb11
  clear hb11
  go_wp2_with (first | (refine wpList_load_row_g (by rfl) 24 _ rfl w8.heap.size rfl 24 (s4.map bv).toArray (0, 0) _ _ HF11.out Tryd.underlying24 HCw9.out ?_) | fail)
  refine (text_any s4 w11 L4.out X4.out).mono ?_
  rintro e w12 ⟨rfl, hb12⟩
  rw [ht4.out]
  have HB12 : Hid (Below w.heap.size w w12) := HB11.out.trans (hb12.mono hs11)
  have hs12 := HB12.out.size
  clear hb12
  go_wp2_with fail
  refine (base64_any 2 2 (some ⟨w12.heap.size, 0, none⟩) [251, 255] _ (by decide) rfl (by decide) (by exact row_two w12 251 255)).mono ?_
  rintro e w13 ⟨rfl, hb13⟩
  rw [h5.out, ht5.out]
  have HB13 : Hid (Below w.heap.size w w13) := HB12.out.trans (((below_new w12 _).trans (hb13.mono (by simp))).mono hs12)
  clear hb13
  go_wp2_with fail
  go_ret
  exact ⟨rfl, HB13.out⟩
end Go.Proofs.YtjdglpfjemoodaaDoor
