/- Handle whatever is asked, Match; the document's Handle and Match. -/
import Derived.Test.YtonnnolnkjahgaaDoorCHandle
import Derived.Test.YtonnnolnkjahgaaDoorRefTotal
import Derived.Lib.AppendStr
namespace Go.Proofs.YtonnnolnkjahgaaDoor
open Go.RowKit Go.Shelf

theorem hdl_bad {k : Int} {l : List Nat} (h1 : k ≠ 1) (h2 : k ≠ 2) : hdlT k l = [] ∧ hdlE k l = 2 := by unfold hdlT hdlE; rw [if_pos ⟨h1, h2⟩, if_pos ⟨h1, h2⟩]; exact ⟨rfl, rfl⟩
theorem hdl_long {k : Int} {l : List Nat} (h : k = 1 ∨ k = 2) (hl : 64 < l.length) : hdlT k l = [] ∧ hdlE k l = 1 := by
  have hn : ¬ (k ≠ 1 ∧ k ≠ 2) := by omega
  unfold hdlT hdlE; rw [if_neg hn, if_neg hn, if_pos hl, if_pos hl]; exact ⟨rfl, rfl⟩
theorem hdl_ok {k : Nat} {l : List Nat} (h : k = 1 ∨ k = 2) (hl : l.length ≤ 64) : hdlT (k : Int) l = sha (k :: l) ∧ hdlE (k : Int) l = 0 := by
  have hn : ¬ ((k : Int) ≠ 1 ∧ (k : Int) ≠ 2) := by omega
  unfold hdlT hdlE; rw [if_neg hn, if_neg hn, if_neg (by omega), if_neg (by omega), Int.toNat_natCast]; exact ⟨rfl, rfl⟩
theorem handle_any (k : Int) (s : ByteArray) (w : World) (hT : Roots w 2) : Calls Tryd.prog 19 #[.int .i64 k, .string s] w fun e w' => e = .returned (.tuple #[.string (bstr (hdlT k (sbytes s))), .int .i64 ((hdlE k (sbytes s) : Nat) : Int)]) ∧ Below w.heap.size w w' := by
  have hsl := sbytes_length s
  by_cases h : k = 1 ∨ k = 2
  · by_cases hl : s.size ≤ 64
    · obtain ⟨n, rfl⟩ : ∃ n : Nat, k = (n : Int) := ⟨k.toNat, by omega⟩
      have hn : n = 1 ∨ n = 2 := by omega
      obtain ⟨e1, e2⟩ := hdl_ok (k := n) (l := sbytes s) hn (by omega)
      rw [e1, e2]
      exact handleOk_any n s w hn hl hT
    · obtain ⟨e1, e2⟩ := hdl_long (k := k) (l := sbytes s) h (by omega)
      rw [e1, e2]
      refine (handleLong_any k s w h (by omega)).mono ?_
      rintro e w' ⟨rfl, rfl⟩
      exact ⟨rfl, Below.refl _ _⟩
  · obtain ⟨e1, e2⟩ := hdl_bad (k := k) (l := sbytes s) (by omega) (by omega)
    rw [e1, e2]
    refine (handleBad_any k s w (by omega) (by omega)).mono ?_
    rintro e w' ⟨rfl, rfl⟩
    exact ⟨rfl, Below.refl _ _⟩
/-- Is it the handle? -/
def matB (k : Int) (l h : List Nat) : Bool := hdlE k l == 0 && decide (hdlT k l = h)
theorem hdlT_lt (k : Int) (l : List Nat) : ∀ x ∈ hdlT k l, x < 256 := by
  unfold hdlT
  split
  · intro x hx; cases hx
  · split
    · intro x hx; cases hx
    · exact sha_lt _
theorem hdlT_len (k : Int) (l : List Nat) : (hdlT k l).length ≤ 32 := by
  unfold hdlT
  split
  · simp
  · split
    · simp
    · rw [sha_length]; omega
set_option maxHeartbeats 1000000 in
set_option maxRecDepth 100000 in
theorem match_any (k : Int) (s t : ByteArray) (w : World) (hT : Roots w 2) : Calls Tryd.prog 21 #[.int .i64 k, .string s, .string t] w fun e w' => e = .returned (.bool (matB k (sbytes s) (sbytes t))) ∧ Below w.heap.size w w' := by
  have HH := hide (handle_any k s w hT)
  have HB := hide (hdlT_lt k (sbytes s))
  have HLN := hide (hdlT_len k (sbytes s))
  have HCT := hide conv_text
  by_cases he : hdlE k (sbytes s) = 0
  · have HM : Hid (matB k (sbytes s) (sbytes t) = decide (hdlT k (sbytes s) = sbytes t)) := hide (by unfold matB; rw [he]; rfl)
    rw [HM.out]
    rw [he] at HH
    have HDS := hide (fun n m c d ao bo W hn hm hx hy => dsame_any n m c d ao bo (hdlT k (sbytes s)) (sbytes t) W hn hm (by have := HLN.out; omega) hx hy HB.out (sbytes_lt t))
    have HTL := hide (sbytes_length t)
    have HSB := hide (sbytes_bstr HB.out)
    have HSZ := hide (bstr_size (hdlT k (sbytes s)))
    clear hT he HM
    generalize bstr (hdlT k (sbytes s)) = S at *
    generalize hdlT k (sbytes s) = kk at *
    go_enter Tryd.func21, Tryd.ntmps21
    go_upto_region 2 with (first
      | (go_at_call 19; refine HH.out.mono ?_; rintro e w1 ⟨rfl, h1⟩; have H1 := hide h1; clear h1))
    obtain ⟨c2, w2, hcv2, hr2, hb2, -⟩ := HCT.out w1 S
    obtain ⟨c3, w3, hcv3, hr3, hb3, -⟩ := HCT.out w2 t
    have HB3 : Hid (Below w.heap.size w w3) := hide ((H1.out.trans (hb2.mono H1.out.size)).trans (hb3.mono (Nat.le_trans H1.out.size hb2.size)))
    rw [HSB.out] at hr2
    have HDC := hide (HDS.out S.size t.size c2 c3 _ _ w3 HSZ.out HTL.out.symm (hr2.keep hb3) hr3)
    clear hr2 hr3 hb2 hb3
    go_wp2_with (first
      | (go_at_call 43; refine HDC.out.mono ?_; rintro e w4 ⟨rfl, n4, rfl⟩))
    go_ret
    exact ⟨rfl, below_drewN HB3.out _⟩
  · have HM : Hid (matB k (sbytes s) (sbytes t) = false) := hide (by unfold matB; simp [he])
    rw [HM.out]
    have he' : (((hdlE k (sbytes s) : Nat) : Int) == 0) = false := by simpa using he
    clear hT he HM
    generalize bstr (hdlT k (sbytes s)) = S at *
    generalize hdlE k (sbytes s) = E at *
    go_enter Tryd.func21, Tryd.ntmps21
    go_wp2_with (first
      | (go_at_call 19; refine HH.out.mono ?_; rintro e w1 ⟨rfl, h1⟩; have H1 := hide h1; clear h1))
    go_ret
    exact ⟨rfl, H1.out⟩
end Go.Proofs.YtonnnolnkjahgaaDoor
