/- What is typed: the closure that asks for marks; the contract of Normal. -/
import Derived.Test.YtonnnolnkjahgabDoorCLet
namespace Go.Proofs.YtonnnolnkjahgabDoor
open Go.RowKit Go.Shelf

theorem indexByte_mem (l : List UInt8) (c : UInt8) : (0 ≤ Lib.indexByte l c) ↔ c ∈ l := by
  induction l with
  | nil => simp [Lib.indexByte]
  | cons b l ih =>
    have hg := Lib.indexByte_ge l c
    unfold Lib.indexByte
    by_cases h : b = c
    · simp [h]
    · rw [if_neg (by simpa using h)]
      by_cases h2 : Lib.indexByte l c = -1
      · rw [if_pos (by simpa using h2)]
        rw [h2] at ih
        have : ¬ c ∈ l := fun hm => by have := ih.2 hm; omega
        simp [this, Ne.symm h]
      · rw [if_neg (by simpa using h2)]
        have : c ∈ l := ih.1 (by omega)
        simp [this]
        omega
theorem mark_is (c : Nat) (hc : c < 256) : decide (0 ≤ Lib.indexByte [32, 45, 95, 46, 47] (UInt8.ofNat c)) = isMark c := by
  unfold isMark
  rw [Bool.eq_iff_iff, decide_eq_true_eq, indexByte_mem, List.contains_iff_mem, show ([32, 45, 95, 46, 47] : List UInt8) = marks5.map UInt8.ofNat from rfl, List.mem_map]
  have hm : ∀ x ∈ marks5, x < 256 := by decide
  constructor
  · rintro ⟨x, hx, e⟩
    rw [← ofNat_inj (hm x hx) hc e]
    exact hx
  · exact fun h => ⟨c, h, rfl⟩
theorem ret_bool {a b : Bool} (h : a = b) : Ending.returned (.bool a) = .returned (.bool b) := by rw [h]
set_option maxHeartbeats 400000 in
set_option maxRecDepth 100000 in
theorem passed_any (c g : Nat) (w : World) (hc : c < 256) (hg : w.cell? ⟨g, 0, none⟩ = some (.string { data := #[32, 45, 95, 46, 47] })) :
    Calls Tryd.prog 33 #[.int .u8 (c : Int), .pointer (some ⟨g, 0, none⟩)] w fun e w' => e = .returned (.bool (isMark c)) ∧ w' = w := by
  have HB := hide (mark_is c hc)
  clear hc
  go_enter Tryd.func33, Tryd.ntmps33
  go_wp2_with fail
  refine (Any.strings_IndexByte lays137 _ _ _).mono ?_
  rintro e wx ⟨rfl, hwx⟩
  have hwy := hwx.symm
  subst hwy
  clear hwx
  rw [show (c : Int).toNat.toUInt8 = UInt8.ofNat c from rfl]
  generalize Lib.indexByte [32, 45, 95, 46, 47] (UInt8.ofNat c) = z at *
  go_wp2
  go_ret
  exact ⟨ret_bool HB.out, rfl⟩
theorem oneOf_any (w : World) : Calls Tryd.prog 26 #[.string { data := #[32, 45, 95, 46, 47] }] w fun e w' => e = .returned (.func (.func 33) #[] #[.pointer (some ⟨w.heap.size, 0, none⟩)]) ∧ w' = w.alloc (.cells #[.string { data := #[32, 45, 95, 46, 47] }] 9) := by
  go_enter Tryd.func26, Tryd.ntmps26
  go_wp2
  go_ret
  exact ⟨rfl, rfl⟩
/-- What is kept of what was typed. -/
def keepT (l : List Nat) : List Nat := (l.filter fun c => !isMark c).map capN
theorem keepT_snoc (l : List Nat) (c : Nat) : keepT (l ++ [c]) = if isMark c then keepT l else keepT l ++ [capN c] := by
  unfold keepT
  rw [List.filter_append, List.map_append]
  by_cases h : isMark c <;> simp [h]
theorem capN_lt {c : Nat} (h : c < 256) : capN c < 256 := by unfold capN; split <;> omega
theorem keepT_lt {l : List Nat} (h : ∀ x ∈ l, x < 256) : ∀ x ∈ keepT l, x < 256 := by
  intro x hx
  obtain ⟨y, hy, rfl⟩ := List.mem_map.1 hx
  exact capN_lt (h y (List.mem_filter.1 hy).1)
theorem keepT_length (l : List Nat) : (keepT l).length ≤ l.length := by
  unfold keepT
  rw [List.length_map]
  exact List.length_filter_le _ _
/-- What Normal answers: the text and the error. -/
def normT (l : List Nat) : List Nat := if 64 < l.length then [] else if isCode (keepT l) then keepT l else []
def normE (l : List Nat) : Nat := if 64 < l.length then 1 else if isCode (keepT l) then 0 else 91
theorem bstr_nil : bstr [] = { data := #[] } := rfl
set_option maxHeartbeats 1000000 in
set_option maxRecDepth 100000 in
theorem normal_any (s : ByteArray) (w : World) (hT : Lets w) :
    Calls Tryd.prog 18 #[.string s] w fun e w' => e = .returned (.tuple #[.string (bstr (normT (sbytes s))), .int .i64 ((normE (sbytes s) : Nat) : Int)]) ∧ Below w.heap.size w w' := by
  have hsl := sbytes_length s
  by_cases h64 : 64 < s.size
  · have h64' : (64 : Int) < (s.size : Int) := by omega
    rw [show normT (sbytes s) = [] by unfold normT; rw [hsl, if_pos h64], show normE (sbytes s) = 1 by unfold normE; rw [hsl, if_pos h64], bstr_nil]
    clear hT hsl h64
    go_enter Tryd.func18, Tryd.ntmps18
    go_wp2
    go_ret2
    exact ⟨rfl, Below.refl _ _⟩
  · have h64' : ¬ (64 : Int) < (s.size : Int) := by omega
    have HXS := hide (sbytes_lt s)
    have hix := str_index s
    have HO := hide (oneOf_any w)
    have HB1 := hide (below_new w (.cells #[.string { data := #[32, 45, 95, 46, 47] }] 9))
    have HT1 := hide (hT.keep HB1.out)
    have HG1 := hide (Bl.new w #[.string { data := #[32, 45, 95, 46, 47] }] 9)
    have HCD : Hid (∀ W, Lets W → Calls Tryd.prog 28 #[.string (bstr (keepT (sbytes s)))] W fun e w' => e = .returned (.bool (isCode (keepT (sbytes s)))) ∧ w' = W) := hide fun W hW => by
      have := isUserCode_any (bstr (keepT (sbytes s))) W hW
      rw [sbytes_bstr (keepT_lt (sbytes_lt s))] at this
      exact this
    have HKL : Hid (∀ k, (keepT ((sbytes s).take k)).length ≤ 64) := hide fun k => by
      have h1 := keepT_length ((sbytes s).take k)
      rw [List.length_take] at h1
      omega
    have HNT : Hid (normT (sbytes s) = if isCode (keepT (sbytes s)) then keepT (sbytes s) else []) := hide (by unfold normT; rw [hsl, if_neg h64])
    have HNE : Hid (normE (sbytes s) = if isCode (keepT (sbytes s)) then 0 else 91) := hide (by unfold normE; rw [hsl, if_neg h64])
    have HTK : Hid ((sbytes s).take s.size = sbytes s) := hide (by rw [← hsl, List.take_length])
    have HST : Hid (∀ k, k < s.size → keepT ((sbytes s).take (k + 1)) = if isMark ((sbytes s).getD k 0) then keepT ((sbytes s).take k) else keepT ((sbytes s).take k) ++ [capN ((sbytes s).getD k 0)]) := hide fun k hk => by rw [stake_getD (by rw [hsl]; exact hk), keepT_snoc]
    generalize normT (sbytes s) = NT at *
    generalize normE (sbytes s) = NE at *
    have HN64 : Hid (s.size ≤ 64) := hide (by omega)
    generalize sbytes s = l at *
    generalize hn : s.size = n at *
    clear hT hsl h64
    go_enter Tryd.func18, Tryd.ntmps18
    go_wp2_with (first
      | (go_at_call 26; refine HO.out.mono ?_; rintro e w1 ⟨rfl, rfl⟩))
    obtain ⟨w1, hw1⟩ : ∃ w1, w1 = w.alloc (.cells #[.string { data := #[32, 45, 95, 46, 47] }] 9) := ⟨_, rfl⟩
    obtain ⟨g, hg⟩ : ∃ g, g = w.heap.size := ⟨_, rfl⟩
    rw [← hw1] at HB1 HT1 HG1 ⊢
    rw [← hg] at HG1 ⊢
    clear hw1
    have HGB : Hid (g < w1.heap.size) := hide HG1.out.lt
    clear hg HO
    go_loopw [5, 14] (fun v a wr => ∃ k : Nat, k ≤ n ∧ a = .int .i64 k ∧ Hid (Own wr w1.heap.size v (keepT (l.take k))) ∧ Hid (Below w1.heap.size w1 wr)) (fun _ a _ => n - (intOf a).toNat)
    case atStart => exact ⟨0, Nat.zero_le _, rfl, own_nil _ _, hide (Below.refl _ _)⟩
    case round =>
      obtain ⟨k, hk, rfl, HOW, HB⟩ := hrel
      have hs := HB.out.size
      by_cases hlt : k < n
      · have hlt' : (k : Int) < (n : Int) := by omega
        have hx := hix k (by first | exact hlt | omega)
        have HSTK := hide (HST.out k hlt)
        have hxl : l.getD k 0 < 256 := lt_get HXS.out k
        have cg : wr.cell? ⟨g, 0, none⟩ = some (.string { data := #[32, 45, 95, 46, 47] }) := (HG1.out.below HB.out HGB.out).cell 0
        have HPS := hide (passed_any (l.getD k 0) g wr hxl cg)
        have HCP := hide (capital_any (l.getD k 0) wr hxl)
        have hwri : IntKind.i64.wrap ((k : Int) + 1) = ((k + 1 : Nat) : Int) := by have := HN64.out; rw [IntKind.wrap_i64]; omega
        have HLT := hide hlt
        have HKK := hide (HKL.out k)
        generalize keepT (l.take k) = kt at *
        generalize l.getD k 0 = c at *
        clear hix hk hlt hxl
        cases hm : isMark c with
        | true =>
          rw [hm] at HPS HSTK
          clear hm
          go_wp2_with (first
            | (go_at_call 33; refine HPS.out.mono ?_; rintro e wx ⟨rfl, hwx⟩; have hwy := hwx.symm; subst hwy; clear hwx))
          go_roundw
          case rel => exact ⟨k + 1, HLT.out, by first | rfl | simp, by rw [HSTK.out]; exact HOW, HB⟩
          case measure => have := HLT.out; simp [intOf]; omega
        | false =>
          rw [hm] at HPS HSTK
          clear hm
          generalize capN c = d at *
          go_wp2_with (first
            | (go_at_call 33; refine HPS.out.mono ?_; rintro e wx ⟨rfl, hwx⟩; have hwy := hwx.symm; subst hwy; clear hwx)
            | (go_at_call 27; refine HCP.out.mono ?_; rintro e wx ⟨rfl, hwx⟩; have hwy := hwx.symm; subst hwy; clear hwx)
            | (at_builtin; refine wpList_append_bytes rfl _ _ rfl w1.heap.size _ kt rfl (HOW.out.alloc _) (some ⟨wr.heap.size, 0, none⟩) 1 1 [d] rfl rfl (row_one _ _) (by have := HKK.out; simp; omega) (by simp; omega) ?_))
          rintro v1 w2 hown1 hgr1
          have HB2 : Hid (Below w1.heap.size w1 w2) := (HB.out.alloc hs _).grown hgr1 (by simp; omega) HOW.out.ge
          have HO2 : Hid (Own w2 w1.heap.size v1 (kt ++ [d])) := hown1
          clear hown1 hgr1
          go_wp2
          go_roundw
          case rel => exact ⟨k + 1, HLT.out, by first | rfl | simp, by rw [HSTK.out]; exact HO2, HB2⟩
          case measure => have := HLT.out; simp [intOf]; omega
      · have hlt' : ¬ (k : Int) < (n : Int) := by omega
        obtain rfl : k = n := by omega
        rw [HTK.out] at HOW
        obtain ⟨vo, vc, rfl, -, hro⟩ := HOW.out.read
        have hcv := conv_row vc hro
        have HL2 := hide (HT1.out.keep HB.out)
        have HBB := hide (HB1.out.trans (HB.out.mono HB1.out.size))
        have HCD2 := hide (HCD.out wr HL2.out)
        generalize keepT l = kt at *
        clear hk hro HOW hix hlt
        generalize kt.length = kl at *
        cases hc : isCode kt with
        | true =>
          rw [hc] at HCD2 HNT HNE
          clear hc
          go_wp2_with (first
            | (go_at_call 28; refine HCD2.out.mono ?_; rintro e wx ⟨rfl, hwx⟩; have hwy := hwx.symm; subst hwy; clear hwx))
          go_ret2
          exact ⟨by rw [HNT.out, HNE.out]; rfl, HBB.out⟩
        | false =>
          rw [hc] at HCD2 HNT HNE
          clear hc
          go_wp2_with (first
            | (go_at_call 28; refine HCD2.out.mono ?_; rintro e wx ⟨rfl, hwx⟩; have hwy := hwx.symm; subst hwy; clear hwx))
          go_ret2
          exact ⟨by rw [HNT.out, HNE.out]; rfl, HBB.out⟩
end Go.Proofs.YtonnnolnkjahgabDoor
