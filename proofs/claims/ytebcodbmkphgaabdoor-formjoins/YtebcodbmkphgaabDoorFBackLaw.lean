/- The walk of the law FormBack: every text and every list of pairs up to a size: true, and nothing old turns. -/
import Derived.Test.YtebcodbmkphgaabDoorLiveFn
import Derived.Test.YtebcodbmkphgaabDoorParseM
import Derived.Test.YtebcodbmkphgaabDoorPrintFn
import Derived.Test.YtebcodbmkphgaabDoorPairsFn
namespace Go.Proofs.YtebcodbmkphgaabDoor
open Go.RowKit

theorem parOut_long {l : List Two} (h : 16384 < (prt l).length) : parOut (prt l) = ([], 1, 0) := by unfold parOut; rw [if_pos h]
theorem parOut_many {l : List Two} (h : (prt l).length ≤ 16384) (hb : ∀ q ∈ l, bytes2 q) (h2 : 64 < l.length) : ∃ p, parOut (prt l) = ([], 32, p) := by
  obtain ⟨p, hp⟩ := (parse_prt l 0 [] hb (by simp)).2 (by simpa using h2)
  exact ⟨p, by unfold parOut; rw [if_neg (by omega), hp]; rfl⟩
theorem parOut_back {l : List Two} (h : (prt l).length ≤ 16384) (hb : ∀ q ∈ l, bytes2 q) (h2 : l.length ≤ 64) : parOut (prt l) = (l, 0, 0) := by
  have hp := (parse_prt l 0 [] hb (by simp)).1 (by simpa using h2)
  unfold parOut; rw [if_neg (by omega), hp]; rfl

set_option linter.unusedSimpArgs false in
set_option maxHeartbeats 1600000 in
set_option maxRecDepth 100000 in
theorem formBack_walk (n c : Nat) (ao : Option Addr) (s : ByteArray) (l : List Two) (w : World) (hn : n = l.length) (hs : s.size ≤ 35184372088832) (hl : tot2 l ≤ 1099511627776) (hb : ∀ q ∈ l, bytes2 q) (hr : PRow w ao l) (hM : MaxL w) :
    Calls Tryd.prog 3 #[.string s, .slice ao n c] w fun e w' => e = .returned (.bool true) ∧ Below w.heap.size w w' := by
  have hl3 := tot2_len l
  have HM : Hid (MaxL w) := hM
  have HL : Hid (tot2 l ≤ 1099511627776) := hl
  have HS : Hid (s.size ≤ 35184372088832) := hs
  have HN : Hid (n = l.length) := hn
  have HR : Hid (PRow w ao l) := hr
  have HB2 : Hid (∀ q ∈ l, bytes2 q) := hb
  have hnb : n ≤ 1099511627776 := by omega
  have HE : Hid (unRes (un (sbytes (bstr (esc (sbytes s)))) 0) = .tuple #[.string s, .int .i64 0, .int .i64 0]) := by
    show _ = _
    rw [sbytes_bstr (esc_lt (sbytes_lt s)), un_esc_all (sbytes_lt s), unRes, bstr_sbytes]
  obtain ⟨t, HT⟩ : ∃ t, Hid (t = bstr (prt l)) := ⟨_, rfl⟩
  have HTZ : Hid (t.size = (prt l).length) := by show _ = _; rw [HT.out, bstr_size]
  have HTB : Hid (sbytes t = prt l) := by show _ = _; rw [HT.out, sbytes_bstr (prt_lt l HB2.out)]
  have HTL : Hid (t.size ≤ 9223372036854775807) := by
    show _ ≤ _
    have := prt_len l
    have := HL.out
    rw [HTZ.out]; omega
  clear hn hr hb hl hl3 hM hs
  go_enter Tryd.func3, Tryd.ntmps3
  go_wp2_with fail
  refine (escape_any s w HS.out).mono ?_
  rintro e w1 ⟨rfl, hb1⟩
  have HB1 : Hid (Below w.heap.size w w1) := hb1
  have hs1 := HB1.out.size
  clear hb1
  go_wp2_with fail
  refine (unescape_any _ w1 (by rw [bstr_size]; have := (esc_len (sbytes s)).2; rw [sbytes_length] at this; have := HS.out; omega)).mono ?_
  rintro e w2 ⟨rfl, hb2⟩
  rw [HE.out]
  have HBw2 : Hid (Below w.heap.size w w2) := HB1.out.trans (hb2.mono hs1)
  have hs2 := HBw2.out.size
  clear hb2 HE
  go_wp2_with (go_at_call 9; refine (num_any _ _).mono ?_; rintro e wn ⟨rfl, rfl⟩)
  refine (live_true _ (HM.out.keep HBw2.out)).mono ?_
  rintro e w3 ⟨rfl, hb3⟩
  have HB3 : Hid (Below w.heap.size w w3) := HBw2.out.trans (hb3.mono hs2)
  have hs3 := HB3.out.size
  clear hb3
  go_wp2_with fail
  refine (print_any n c ao l w3 HN.out HL.out HB2.out (HR.out.keep HB3.out)).mono ?_
  rintro e w4 ⟨rfl, hb4⟩
  rw [← HT.out]
  have HB4 : Hid (Below w.heap.size w w4) := HB3.out.trans (hb4.mono hs3)
  have hs4 := HB4.out.size
  clear hb4
  go_wp2_with fail
  by_cases hN : 16384 < t.size
  · refine (parse_m t [] 1 0 0 w4 (by rw [HTB.out]; exact parOut_long (by rw [← HTZ.out]; exact hN)) rfl HTL.out (HM.out.keep HB4.out)).mono ?_
    rintro e w5 ⟨f5, c5, rfl, h5⟩
    have HB5 : Hid (Below w.heap.size w w5) := HB4.out.trans (h5.out.2.mono hs4)
    clear h5
    have hNi : (16384 : Int) < (t.size : Int) := by omega
    go_wp2_with (go_at_call 9; refine (num_any _ _).mono ?_; rintro e wn ⟨rfl, rfl⟩)
    go_ret
    exact ⟨rfl, HB5.out⟩
  · have hNi : (t.size : Int) ≤ 16384 := by omega
    have HNl : Hid ((prt l).length ≤ 16384) := by show _ ≤ _; rw [← HTZ.out]; omega
    by_cases hm : 64 < n
    · obtain ⟨p, HP⟩ : ∃ p, Hid (parOut (prt l) = ([], 32, p)) := parOut_many HNl.out HB2.out (by rw [← HN.out]; exact hm)
      refine (parse_m t [] 32 p 0 w4 (by rw [HTB.out]; exact HP.out) rfl HTL.out (HM.out.keep HB4.out)).mono ?_
      rintro e w5 ⟨f5, c5, rfl, h5⟩
      have HB5 : Hid (Below w.heap.size w w5) := HB4.out.trans (h5.out.2.mono hs4)
      clear h5
      have hmi : (64 : Int) < (n : Int) := by omega
      go_wp2_with (go_at_call 9; refine (num_any _ _).mono ?_; rintro e wn ⟨rfl, rfl⟩)
      go_ret
      exact ⟨rfl, HB5.out⟩
    · have hmi : (n : Int) ≤ 64 := by omega
      refine (parse_m t l 0 0 n w4 (by rw [HTB.out]; exact parOut_back HNl.out HB2.out (by rw [← HN.out]; omega)) HN.out HTL.out (HM.out.keep HB4.out)).mono ?_
      rintro e w5 ⟨f5, c5, rfl, h5⟩
      have HB5 : Hid (Below w.heap.size w w5) := HB4.out.trans (h5.out.2.mono hs4)
      have HR5 : Hid (PRow w5 f5 l) := h5.out.1.row
      clear h5
      go_wp2_with (go_at_call 9; refine (num_any _ _).mono ?_; rintro e wn ⟨rfl, rfl⟩)
      refine (pairs_true n c5 c f5 ao l _ HN.out (by omega) HR5.out (HR.out.keep HB5.out)).mono ?_
      rintro e w6 ⟨rfl, k6, rfl⟩
      go_wp2
      go_ret
      exact ⟨rfl, below_drewN HB5.out _⟩
end Go.Proofs.YtebcodbmkphgaabDoor
