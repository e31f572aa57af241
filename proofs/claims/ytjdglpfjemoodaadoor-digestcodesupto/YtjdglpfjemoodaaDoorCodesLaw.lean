/- The walk of the law DigestCodes: for every row of bytes and every text it returns true and turns nothing old; the table of roots is a condition. -/
import Derived.Test.YtjdglpfjemoodaaDoorReadFn
import Derived.Test.YtjdglpfjemoodaaDoorLive2
import Derived.Test.YtjdglpfjemoodaaDoorRows1
namespace Go.Proofs.YtjdglpfjemoodaaDoor
open Go.RowKit

theorem slice_hi3 (g off n cap m : Nat) (i : Int) (hi : i = (m : Int)) (hm : m ≤ cap) (h0 : 0 < cap) (w : World) : (Instr.slice 26 (.slice (some ⟨g, off, none⟩) n cap) none (some (.int .i64 i)) none).run Tryd.prog w = .ok (.slice (some ⟨g, off, none⟩) m cap) w := by
  subst hi
  rw [run_slice_h w 26 (some ⟨g, off, none⟩) n cap underBytes .i64 (m : Int) (by omega) (by omega), sizeRun]
  simp [Result.andThen, sliced, add_none, show ¬ cap = 0 by omega]
theorem fb64_lt (l : List Nat) : ∀ x ∈ (fb64 l).1, x < 256 := by
  unfold fb64
  split
  · simp
  · split
    · simp
    · split
      · simp
      · split
        · simp
        · exact b64run_lt l
theorem fhex_lt (l : List Nat) : ∀ x ∈ (fhex l).1, x < 256 := by
  unfold fhex
  split
  · simp
  · split
    · simp
    · split
      · simp
      · exact d16_lt _ (vals16_lt l)

set_option maxHeartbeats 4000000 in
set_option maxRecDepth 100000 in
theorem digestCodes_walk (n cap : Nat) (ao : Option Addr) (xs : List Nat) (s : ByteArray) (w : World) (hl : n ≤ 1048576) (hn : n = xs.length) (hx : ∀ x ∈ xs, x < 256) (hr : Row w ao xs) (hT : Roots w 0) :
    Calls Tryd.prog 7 #[.slice ao n cap, .string s] w fun e w' => e = .returned (.bool true) ∧ Below w.heap.size w w' := by
  have HN : Hid (n = xs.length) := hn
  have HX : Hid (∀ x ∈ xs, x < 256) := hx
  have HR : Hid (Row w ao xs) := hr
  have HT : Hid (Roots w 0) := hT
  have HX1 : Hid (∀ x ∈ (fb64 (sbytes s)).1, x < 256) := fb64_lt _
  have HX2 : Hid (∀ x ∈ (fhex (sbytes s)).1, x < 256) := fhex_lt _
  clear hx hr hT
  go_enter Tryd.func7, Tryd.ntmps7
  go_wp2_with fail
  rw [hn]
  refine (lent_row cap ao xs w (by omega) HR.out).mono ?_
  rw [← hn]
  clear hn
  rintro e w1 ⟨g, c, rfl, h1⟩
  obtain ⟨hc1, hg1, hgl1, _, hrow1, hb1⟩ := h1.out
  have HR1 : Hid (Row w1 (some ⟨g, 0, none⟩) (xs ++ marks 64)) := hrow1
  have HB1 : Hid (Below w.heap.size w w1) := hb1
  have hs1 := HB1.out.size
  clear h1 hrow1 hb1
  have hsl := slice_hi3 g 0 (n + 64) c n (n : Int) rfl (by omega) (by omega)
  go_wp2_with fail
  refine (base64_any n c (some ⟨g, 0, none⟩) xs w1 (by omega) HN.out HX.out HR1.out.take).mono ?_
  rintro e w2 ⟨rfl, h2⟩
  have HB2 : Hid (Below w.heap.size w w2) := HB1.out.trans (h2.mono hs1)
  have HR2 : Hid (Row w2 (some ⟨g, 0, none⟩) (xs ++ marks 64)) := HR1.out.keep h2
  have hs2 := HB2.out.size
  clear h2
  generalize ht1 : bstr (b64of xs) = t1
  replace ht1 := hide ht1
  go_wp2_with fail
  refine (refBase64_any n cap ao xs w2 (by omega) HN.out HX.out (HR.out.keep HB2.out)).mono ?_
  rintro e w3 ⟨rfl, h3⟩
  rw [ht1.out]
  have HB3 : Hid (Below w.heap.size w w3) := HB2.out.trans (h3.mono hs2)
  have HR3 : Hid (Row w3 (some ⟨g, 0, none⟩) (xs ++ marks 64)) := HR2.out.keep h3
  have hs3 := HB3.out.size
  clear h3
  go_wp2_with fail
  refine (hex_any n c (some ⟨g, 0, none⟩) xs w3 (by omega) HN.out HX.out HR3.out.take).mono ?_
  rintro e w4 ⟨rfl, h4⟩
  have HB4 : Hid (Below w.heap.size w w4) := HB3.out.trans (h4.mono hs3)
  have HR4 : Hid (Row w4 (some ⟨g, 0, none⟩) (xs ++ marks 64)) := HR3.out.keep h4
  have hs4 := HB4.out.size
  clear h4
  generalize ht2 : bstr (hexOf xs) = t2
  replace ht2 := hide ht2
  go_wp2_with fail
  refine (refHex_any n cap ao xs w4 (by omega) HN.out HX.out (HR.out.keep HB4.out)).mono ?_
  rintro e w5 ⟨rfl, h5⟩
  rw [ht2.out]
  have HB5 : Hid (Below w.heap.size w w5) := HB4.out.trans (h5.mono hs4)
  have HR5 : Hid (Row w5 (some ⟨g, 0, none⟩) (xs ++ marks 64)) := HR4.out.keep h5
  have hs5 := HB5.out.size
  clear h5
  go_wp2_with fail
  rw [HN.out]
  refine (kept_true (xs.length + 64) c cap g 0 ao xs w5 (by rw [← HN.out]; omega) rfl (by rw [← HN.out]; omega) HR5.out (HR.out.keep HB5.out) HX.out).mono ?_
  rw [← HN.out]
  rintro e w5 ⟨rfl, rfl⟩
  clear HR1 HR2 HR3 HR4 HR5 hsl ht1 ht2 hc1 hg1 hgl1
  go_wp2_with fail
  refine (fromBase64_any s w5).mono ?_
  rintro e w6 ⟨ro6, rn6, rc6, rfl, h6⟩
  have HB6 : Hid (Below w.heap.size w w6) := HB5.out.trans (h6.out.2.2.2.mono hs5)
  have hs6 := HB6.out.size
  obtain ⟨a0, c0, e0, _, r0⟩ := h6.out.2.2.1.read
  cases e0
  have HR6 : Hid (Row w6 ro6 (fb64 (sbytes s)).1) := r0
  clear h6 r0
  go_wp2_with fail
  refine (refFrom64_any s w6).mono ?_
  rintro e w7 ⟨ro7, rn7, rc7, rfl, h7⟩
  have HB7 : Hid (Below w.heap.size w w7) := HB6.out.trans (h7.out.2.2.2.mono hs6)
  have hs7 := HB7.out.size
  have HR67 : Hid (Row w7 ro6 (fb64 (sbytes s)).1) := HR6.out.keep h7.out.2.2.2
  obtain ⟨a0, c0, e0, _, r0⟩ := h7.out.2.2.1.read
  cases e0
  have HR7 : Hid (Row w7 ro7 (fb64 (sbytes s)).1) := r0
  clear h7 r0 HR6
  generalize (fb64 (sbytes s)).1 = a1 at *
  generalize (fb64 (sbytes s)).2.1 = e1 at *
  generalize (fb64 (sbytes s)).2.2 = p1 at *
  go_wp2_with (go_at_call 34; refine (num_any _ _).mono ?_; rintro e w11 ⟨rfl, rfl⟩)
  refine (same_any _ _ ro6 ro7 a1 a1 _ HR67.out HR7.out HX1.out HX1.out).mono ?_
  rintro e w7 ⟨rfl, rfl⟩
  simp only [decide_true]
  clear HR67 HR7 HX1
  go_wp2_with fail
  refine (fromHex_any s w7).mono ?_
  rintro e w8 ⟨ro8, rn8, rc8, rfl, h8⟩
  have HB8 : Hid (Below w.heap.size w w8) := HB7.out.trans (h8.out.2.2.2.mono hs7)
  have hs8 := HB8.out.size
  obtain ⟨a0, c0, e0, _, r0⟩ := h8.out.2.2.1.read
  cases e0
  have HR8 : Hid (Row w8 ro8 (fhex (sbytes s)).1) := r0
  clear h8 r0
  go_wp2_with fail
  refine (refFrom16_any s w8).mono ?_
  rintro e w9 ⟨ro9, rn9, rc9, rfl, h9⟩
  have HB9 : Hid (Below w.heap.size w w9) := HB8.out.trans (h9.out.2.2.2.mono hs8)
  have hs9 := HB9.out.size
  have HR89 : Hid (Row w9 ro8 (fhex (sbytes s)).1) := HR8.out.keep h9.out.2.2.2
  obtain ⟨a0, c0, e0, _, r0⟩ := h9.out.2.2.1.read
  cases e0
  have HR9 : Hid (Row w9 ro9 (fhex (sbytes s)).1) := r0
  clear h9 r0 HR8
  generalize (fhex (sbytes s)).1 = a2 at *
  generalize (fhex (sbytes s)).2.1 = e2 at *
  generalize (fhex (sbytes s)).2.2 = p2 at *
  go_wp2_with fail
  refine (live_true w9 (HT.out.keep HB9.out)).mono ?_
  rintro e w10 ⟨rfl, h10⟩
  have HB10 : Hid (Below w.heap.size w w10) := HB9.out.trans (h10.mono hs9)
  have HR10 : Hid (Row w10 ro8 a2) := HR89.out.keep h10
  have HR11 : Hid (Row w10 ro9 a2) := HR9.out.keep h10
  clear h10 HR89 HR9
  go_wp2_with (go_at_call 34; refine (num_any _ _).mono ?_; rintro e w11 ⟨rfl, rfl⟩)
  refine (same_any _ _ ro8 ro9 a2 a2 _ HR10.out HR11.out HX2.out HX2.out).mono ?_
  rintro e w10 ⟨rfl, rfl⟩
  simp only [decide_true]
  go_wp2
  go_ret
  exact ⟨rfl, HB10.out⟩
end Go.Proofs.YtjdglpfjemoodaaDoor
