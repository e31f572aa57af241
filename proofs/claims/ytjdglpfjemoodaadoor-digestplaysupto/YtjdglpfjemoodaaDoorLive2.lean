/- The contracts of the laws' text and live: live answers true in every world that holds the table of roots. -/
import Derived.Test.YtjdglpfjemoodaaDoorSumMath
import Derived.Test.YtjdglpfjemoodaaDoorB64Math
import Derived.Lib.SlBytesConst
namespace Go.Proofs.YtjdglpfjemoodaaDoor
open Go.RowKit

theorem row_mark (w : World) (xs : List Nat) (a b : Nat) : Row (w.alloc (.cells (xs.map bv).toArray 5 (a, b))) (some ⟨w.heap.size, 0, none⟩) xs := .inr ⟨_, _, rfl, fun i hi => by
  rw [cell_of_row _ _ _ _ _ (a, b) (heap_alloc_new w _)]; simp [hi, bv]⟩
theorem below_mark (w : World) (xs : Array Value) (t : TypeId) (m : Nat × Nat) : Below w.heap.size w (w.alloc (.cells xs t m)) := below_new w _
set_option maxRecDepth 100000 in
theorem text_any (xs : List Nat) (w : World) (hl : xs.length = 32) (hx : ∀ x ∈ xs, x < 256) : Calls Tryd.prog 10 #[.agg (xs.map bv).toArray] w fun e w' => e = .returned (.string (bstr (hexOf xs))) ∧ Below w.heap.size w w' := by
  have HL : Hid (32 = xs.length) := hl.symm
  have HX : Hid (∀ x ∈ xs, x < 256) := hx
  clear hl hx
  have hsl := fun W => arr_all 24 32 Tryd.underlying24 w.heap.size 0 (by decide) W
  go_enter Tryd.func10, Tryd.ntmps10
  go_wp2_with fail
  refine (refHex_any 32 32 (some ⟨w.heap.size, 0, none⟩) xs _ (by decide) HL.out HX.out (Bl.new w _ _).row).mono ?_
  rintro e w1 ⟨rfl, h1⟩
  have HB : Hid (Below w.heap.size w w1) := (below_new w _).trans (h1.mono (by simp))
  clear h1
  go_wp2
  go_ret
  exact ⟨rfl, HB.out⟩

theorem hex_abc : ((bstr (hexOf (sha [97, 98, 99]))).toList == [98, 97, 55, 56, 49, 54, 98, 102, 56, 102, 48, 49, 99, 102, 101, 97, 52, 49, 52, 49, 52, 48, 100, 101, 53, 100, 97, 101, 50, 50, 50, 51, 98, 48, 48, 51, 54, 49, 97, 51, 57, 54, 49, 55, 55, 97, 57, 99, 98, 52, 49, 48, 102, 102, 54, 49, 102, 50, 48, 48, 49, 53, 97, 100]) = true := by rw [sha_abc]; decide +kernel
set_option maxHeartbeats 1000000 in
set_option maxRecDepth 100000 in
theorem live_true (w : World) (hT : Roots w 0) : Calls Tryd.prog 9 #[] w fun e w' => e = .returned (.bool true) ∧ Below w.heap.size w w' := by
  have HT : Hid (Roots w 0) := hT
  have h00 : 0 < w.heap.size := hT.lt
  clear hT
  have kc := fun (w : World) (C : Array Value) (n c : Nat) => Lib.run_convert_bytes_const (P := Tryd.prog) w 26 5 C n c Tryd.underlying26 Tryd.underlying5
  have htx := hex_abc
  have HTL : Hid ((sha [97, 98, 99]).length = 32) := sha_length _
  have HTB : Hid (∀ x ∈ sha [97, 98, 99], x < 256) := sha_lt _
  have HTE : Hid (total first8 0 ([] ++ [97, 98] ++ [99]) = sha [97, 98, 99]) := rfl
  generalize hsm : sha [97, 98, 99] = sm at *
  replace hsm := hide hsm
  have HTX : Hid (∃ TX, TX = bstr (hexOf sm) ∧ (TX.toList == [98, 97, 55, 56, 49, 54, 98, 102, 56, 102, 48, 49, 99, 102, 101, 97, 52, 49, 52, 49, 52, 48, 100, 101, 53, 100, 97, 101, 50, 50, 50, 51, 98, 48, 48, 51, 54, 49, 97, 51, 57, 54, 49, 55, 55, 97, 57, 99, 98, 52, 49, 48, 102, 102, 54, 49, 102, 50, 48, 48, 49, 53, 97, 100]) = true) := ⟨_, rfl, htx⟩
  clear htx
  obtain ⟨TX, htx, htq⟩ := HTX.out
  replace htx := hide htx
  have h0a : ((bstr (hexOf [10, 255])).toList == [48, 97, 102, 102]) = true := by decide +kernel
  have hfo : ((bstr [102, 111, 111]).toList == [102, 111, 111]) = true := by decide +kernel
  go_enter Tryd.func9, Tryd.ntmps9
  go_wp2_with fail
  refine (newState_any w).mono ?_
  rintro e w1 ⟨g, rfl, h1⟩
  have hg : w.heap.size ≤ g := h1.out.1
  have hgl : g < w1.heap.size := h1.out.2.1
  have HS1 : Hid (HState w1 g first8 0 []) := h1.out.2.2.1
  have HB1 : Hid (Below w.heap.size w w1) := h1.out.2.2.2
  have hs1 := HB1.out.size
  clear h1
  go_wp2_with fail
  refine (writeState_any g 2 2 0 (some ⟨w1.heap.size, 0, none⟩) [97, 98] first8 [] _ (by exact HS1.out.keep (below_mark w1 _ _ _)) (by decide) (by decide) (by exact row_mark w1 [97, 98] 2 3) (fun _ a ha => by cases ha; simp; omega) rfl (by decide) (by exact (HT.out.keep HB1.out).keep (below_mark w1 _ _ _)) (by omega)).mono ?_
  rintro e w2 ⟨rfl, h2⟩
  have HB2 : Hid (Below w.heap.size w w2) := (HB1.out.trans ((below_mark w1 _ _ _).mono hs1)).trans (h2.out.2.below hg (by simp; omega))
  have HS2 : Hid (HState w2 g first8 0 ([] ++ [97, 98])) := h2.out.1
  have hgl2 : g < w2.heap.size := HS2.out.lt
  have hs2 := HB2.out.size
  clear h2 HS1
  go_wp2_with fail
  refine (writeState_any g 1 1 0 (some ⟨w2.heap.size, 0, none⟩) [99] first8 ([] ++ [97, 98]) _ (by exact HS2.out.keep (below_mark w2 _ _ _)) (by decide) (by decide) (by exact row_mark w2 [99] 1 2) (fun _ a ha => by cases ha; simp; omega) rfl (by decide) (by exact (HT.out.keep HB2.out).keep (below_mark w2 _ _ _)) (by omega)).mono ?_
  rintro e w3 ⟨rfl, h3⟩
  have HB3 : Hid (Below w.heap.size w w3) := (HB2.out.trans ((below_mark w2 _ _ _).mono hs2)).trans (h3.out.2.below hg (by simp; omega))
  have HS3 : Hid (HState w3 g first8 0 ([] ++ [97, 98] ++ [99])) := h3.out.1
  have hgl3 : g < w3.heap.size := HS3.out.lt
  have hs3 := HB3.out.size
  clear h3 HS2
  go_wp2_with fail
  refine (fromBase64_any _ w3).mono ?_
  rintro e w4 ⟨ro, rn, rc, rfl, h4⟩
  rw [show fb64 (sbytes { data := #[90, 109, 57, 118] }) = ([102, 111, 111], 0, 0) from fb64_foo] at h4 ⊢
  obtain ⟨h4n, h4c, h4o, h4b⟩ := h4.out
  dsimp only at h4n h4o ⊢
  have h4n' : rn = 3 := h4n
  subst h4n'
  have HB4 : Hid (Below w.heap.size w w4) := HB3.out.trans (h4b.mono hs3)
  have HS4 : Hid (HState w4 g first8 0 ([] ++ [97, 98] ++ [99])) := HS3.out.keep h4b
  have HO4 : Hid (Own w4 w3.heap.size (.slice ro 3 rc) [102, 111, 111]) := h4o
  have hs4 := HB4.out.size
  clear h4 h4n h4o h4b HS3
  go_wp2_with fail
  refine (sum_any 3 3 (some ⟨w4.heap.size, 0, none⟩) [97, 98, 99] _ (by decide) rfl (by decide) (by decide) (by exact row_mark w4 [97, 98, 99] 3 4) (by exact (HT.out.keep HB4.out).keep (below_mark w4 _ _ _))).mono ?_
  rintro e w5 ⟨rfl, h5⟩
  rw [hsm.out]
  have h45 : Below w4.heap.size w4 w5 := (below_mark w4 _ _ _).trans (h5.mono (by simp))
  have HB5 : Hid (Below w.heap.size w w5) := HB4.out.trans (h45.mono hs4)
  have HS5 : Hid (HState w5 g first8 0 ([] ++ [97, 98] ++ [99])) := HS4.out.keep h45
  have HO5 : Hid (Own w5 w3.heap.size (.slice ro 3 rc) [102, 111, 111]) := HO4.out.keep h45
  have hs5 := HB5.out.size
  clear h5 h45 HS4 HO4
  go_wp2_with fail
  refine (text_any sm w5 HTL.out HTB.out).mono ?_
  rintro e w6 ⟨rfl, h6⟩
  rw [← htx.out]
  have HB6 : Hid (Below w.heap.size w w6) := HB5.out.trans (h6.mono hs5)
  have HS6 : Hid (HState w6 g first8 0 ([] ++ [97, 98] ++ [99])) := HS5.out.keep h6
  have HO6 : Hid (Own w6 w3.heap.size (.slice ro 3 rc) [102, 111, 111]) := HO5.out.keep h6
  have hs6 := HB6.out.size
  clear h6 HS5 HO5
  go_wp2_with fail
  refine (sumState_any g 0 first8 _ w6 HS6.out (HT.out.keep HB6.out)).mono ?_
  rintro e w7 ⟨rfl, h7⟩
  rw [HTE.out]
  have HB7 : Hid (Below w.heap.size w w7) := HB6.out.trans (h7.mono hs6)
  have HS7 : Hid (HState w7 g first8 0 ([] ++ [97, 98] ++ [99])) := HS6.out.keep h7
  have HO7 : Hid (Own w7 w3.heap.size (.slice ro 3 rc) [102, 111, 111]) := HO6.out.keep h7
  have hs7 := HB7.out.size
  clear h7 HS6 HO6
  go_wp2_with fail
  refine (text_any sm w7 HTL.out HTB.out).mono ?_
  rintro e w8 ⟨rfl, h8⟩
  rw [← htx.out]
  have HB8 : Hid (Below w.heap.size w w8) := HB7.out.trans (h8.mono hs7)
  have HS8 : Hid (HState w8 g first8 0 ([] ++ [97, 98] ++ [99])) := HS7.out.keep h8
  have HO8 : Hid (Own w8 w3.heap.size (.slice ro 3 rc) [102, 111, 111]) := HO7.out.keep h8
  have hs8 := HB8.out.size
  clear h8 HS7 HO7
  go_wp2_with fail
  refine (size_any g 3 w8 (by decide) (by exact HS8.out.1.size)).mono ?_
  rintro e w9 ⟨rfl, rfl⟩
  go_wp2_with fail
  refine (hex_any 2 2 (some ⟨w9.heap.size, 0, none⟩) [10, 255] _ (by decide) rfl (by decide) (by exact row_two w9 10 255)).mono ?_
  rintro e w10 ⟨rfl, h10⟩
  have h910 : Below w9.heap.size w9 w10 := (below_new w9 _).trans (h10.mono (by simp))
  have HB10 : Hid (Below w.heap.size w w10) := HB8.out.trans (h910.mono hs8)
  have HO10 : Hid (Own w10 w3.heap.size (.slice ro 3 rc) [102, 111, 111]) := HO8.out.keep h910
  have hcv : (convert 26 9 (.slice ro 3 rc)).run Tryd.prog w10 = .ok (.string (bstr [102, 111, 111])) w10 := by
    obtain ⟨ao, c, he, _, hr⟩ := HO10.out.read
    cases he
    exact conv_row rc hr
  clear h10 h910 HS8 HO8
  go_wp2_with (go_at_call 34; refine (num_any _ _).mono ?_; rintro e w11 ⟨rfl, rfl⟩)
  go_ret
  exact ⟨rfl, HB10.out⟩
end Go.Proofs.YtjdglpfjemoodaaDoor
