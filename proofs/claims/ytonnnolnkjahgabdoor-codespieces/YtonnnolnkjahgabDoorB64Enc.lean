/- The contract of digest.Base64: for every row of bytes. -/
import Derived.Test.YtonnnolnkjahgabDoorHexFn
namespace Go.Proofs.YtonnnolnkjahgabDoor
open Go.RowKit

def lets64 : List Nat := [65, 66, 67, 68, 69, 70, 71, 72, 73, 74, 75, 76, 77, 78, 79, 80, 81, 82, 83, 84, 85, 86, 87, 88, 89, 90, 97, 98, 99, 100, 101, 102, 103, 104, 105, 106, 107, 108, 109, 110, 111, 112, 113, 114, 115, 116, 117, 118, 119, 120, 121, 122, 48, 49, 50, 51, 52, 53, 54, 55, 56, 57, 45, 95]
def lt64 (n : Nat) : Nat := lets64.getD n 0
theorem lt64_lt : ∀ n, n < 64 → lt64 n < 256 := by decide
/-- A group's letter: the low six bits of a word. -/
def grp (v : Nat) : Nat := lt64 (an32 v 63)
theorem an63_lt (v : Nat) : an32 v 63 < 64 := by
  unfold an32
  exact Nat.and_lt_two_pow (n := 6) _ (by decide)
theorem grp_lt (v : Nat) : grp v < 256 := lt64_lt _ (an63_lt v)
structure E64 where
  bits : Nat
  count : Nat
  out : List Nat
def e64step (s : E64) (x : Nat) : E64 :=
  let b := o32 (s.bits * 256 % 4294967296) x
  if 4 ≤ s.count then ⟨b, s.count - 4, s.out ++ [grp (b / 2 ^ (s.count + 2))] ++ [grp (b / 2 ^ (s.count - 4))]⟩ else ⟨b, s.count + 2, s.out ++ [grp (b / 2 ^ (s.count + 2))]⟩
def e64run (l : List Nat) : E64 := l.foldl e64step ⟨0, 0, []⟩
theorem e64run_snoc (l : List Nat) (x : Nat) : e64run (l ++ [x]) = e64step (e64run l) x := by simp [e64run]
/-- The text's bytes. -/
def b64of (l : List Nat) : List Nat := if 0 < (e64run l).count then (e64run l).out ++ [grp ((e64run l).bits * 2 ^ (6 - (e64run l).count) % 4294967296)] else (e64run l).out
theorem e64_inv (l : List Nat) : (e64run l).count < 6 ∧ (e64run l).count % 2 = 0 ∧ (e64run l).bits < 4294967296 ∧ (e64run l).out.length ≤ 2 * l.length := by
  have : ∀ (v : List Nat) (s : E64) (m : Nat), (s.count < 6 ∧ s.count % 2 = 0 ∧ s.bits < 4294967296 ∧ s.out.length ≤ 2 * m) → ((v.foldl e64step s).count < 6 ∧ (v.foldl e64step s).count % 2 = 0 ∧ (v.foldl e64step s).bits < 4294967296 ∧ (v.foldl e64step s).out.length ≤ 2 * (m + v.length)) := by
    intro v
    induction v with
    | nil => intro s m h; simpa using h
    | cons n v ih =>
      intro s m h
      have h2 := ih (e64step s n) (m + 1) (by
        obtain ⟨h1, h2, h3, h4⟩ := h
        unfold e64step
        split
        · refine ⟨?_, ?_, o32_lt _ _, ?_⟩
          · show s.count - 4 < 6; omega
          · show (s.count - 4) % 2 = 0; omega
          · simp; omega
        · refine ⟨?_, ?_, o32_lt _ _, ?_⟩
          · show s.count + 2 < 6; omega
          · show (s.count + 2) % 2 = 0; omega
          · simp; omega)
      simp only [List.length_cons, List.foldl_cons]
      rw [show m + (v.length + 1) = m + 1 + v.length by omega]
      exact h2
  have h := this l ⟨0, 0, []⟩ 0 (by decide)
  rw [Nat.zero_add] at h
  exact h
theorem b64of_ff : b64of [251, 255] = [45, 95, 56] := by decide
def letd : ByteArray := { data := #[65, 66, 67, 68, 69, 70, 71, 72, 73, 74, 75, 76, 77, 78, 79, 80, 81, 82, 83, 84, 85, 86, 87, 88, 89, 90, 97, 98, 99, 100, 101, 102, 103, 104, 105, 106, 107, 108, 109, 110, 111, 112, 113, 114, 115, 116, 117, 118, 119, 120, 121, 122, 48, 49, 50, 51, 52, 53, 54, 55, 56, 57, 45, 95] }
theorem letd_get : ∀ n, n < 64 → letd.data.toList[n]? = some (UInt8.ofNat (lt64 n)) := by decide
theorem let_index (n : Nat) (hn : n < 64) (w : World) : (Instr.index 9 (.string { data := #[65, 66, 67, 68, 69, 70, 71, 72, 73, 74, 75, 76, 77, 78, 79, 80, 81, 82, 83, 84, 85, 86, 87, 88, 89, 90, 97, 98, 99, 100, 101, 102, 103, 104, 105, 106, 107, 108, 109, 110, 111, 112, 113, 114, 115, 116, 117, 118, 119, 120, 121, 122, 48, 49, 50, 51, 52, 53, 54, 55, 56, 57, 45, 95] }) (.int .u32 (n : Int))).run Tryd.prog w = .ok (.int .u8 ((lt64 n : Nat) : Int)) w := by
  rw [run_index_string w 9 _ .u32 (n : Int) Tryd.underlying9, dif_pos ⟨by omega, by show (n : Int) < 64; omega⟩]
  have h := letd_get n hn
  have h2 : ∀ m (hm : m < letd.size), letd.data.toList[m]? = some letd[m] := fun m hm => by
    rw [List.getElem?_eq_getElem (by simpa using hm)]; rfl
  have h3 := h2 n hn
  rw [h] at h3
  have h4 := Option.some.inj h3
  show Result.ok (Value.int .u8 ((letd[n]'hn).toNat : Int)) w = _
  rw [← h4]
  have := lt64_lt n hn
  simp [Nat.mod_eq_of_lt this]

set_option linter.unusedSimpArgs false in
set_option maxHeartbeats 2000000 in
set_option maxRecDepth 100000 in
theorem base64_any (n cap : Nat) (ao : Option Addr) (xs : List Nat) (w : World) (hl : n ≤ 17592186044416) (hn : n = xs.length) (hx : ∀ x ∈ xs, x < 256) (hr : Row w ao xs) :
    Calls Tryd.prog 32 #[.slice ao n cap] w fun e w' => e = .returned (.string (bstr (b64of xs))) ∧ Below w.heap.size w w' := by
  have HX : Hid (∀ x ∈ xs, x < 256) := hx
  have HR : Hid (Row w ao xs) := hr
  have HN : Hid (n = xs.length) := hn
  clear hx hr hn
  have hli := let_index
  generalize hBE : b64of xs = BO at *
  have HBE : Hid (b64of xs = BO) := hBE
  clear hBE
  go_enter Tryd.func32, Tryd.ntmps32
  go_wp2_with (first | (at_make; refine wpList_make_bytes rfl _ _ rfl .i64 .i64 _ _ 0 ((8 * n + 5) / 6) rfl rfl rfl (by omega) (by omega) (by omega) ?_) | fail)
  rintro w1 hb1 hbel1 hs1
  have HO1 : Hid (Own w1 w.heap.size (.slice (some ⟨w.heap.size, 0, none⟩) 0 ((8 * n + 5) / 6)) (e64run (xs.take 0)).out) := by
    have := Blk.own (xs := []) (ys := List.replicate ((8 * n + 5) / 6) 0) (n := 0) (c := (8 * n + 5) / 6) hb1 rfl (by simp) (Nat.le_refl _) (by unfold maxLen; omega)
    exact this
  have HB1 : Hid (Below w.heap.size w w1) := hbel1
  clear hb1 hbel1 hs1
  go_wp2
  go_loopw [3, 4, 5, 16] (fun v b c i wr => ∃ k : Nat, k ≤ n ∧ i = .int .i64 k ∧ b = .int .u32 (((e64run (xs.take k)).bits : Nat) : Int) ∧ c = .int .u64 (((e64run (xs.take k)).count : Nat) : Int) ∧ Hid (Own wr w.heap.size v (e64run (xs.take k)).out) ∧ Hid (Below w.heap.size w wr)) (fun _ _ _ i _ => n - (intOf i).toNat)
  case atStart => exact ⟨0, Nat.zero_le _, rfl, rfl, rfl, HO1, HB1⟩
  case round =>
    clear HO1 HB1
    obtain ⟨k, hk, rfl, rfl, rfl, HO, HB⟩ := hrel
    obtain ⟨hcn, hc2, hbt, hol⟩ := e64_inv (xs.take k)
    have HOL : Hid ((e64run (xs.take k)).out.length ≤ 2 * k) := by rw [List.length_take] at hol; show _ ≤ _; omega
    clear hol
    have hs := HB.out.size
    by_cases hlt : k < n
    · obtain ⟨b, off, rfl⟩ := HR.out.form (by rw [← HN.out]; omega)
      have c0 : wr.cell? ⟨b, off + k, none⟩ = some (.int .u8 ((xs.getD k 0 : Nat) : Int)) := (HR.out.keep HB.out).cell k (by rw [← HN.out]; exact hlt)
      have hxk := lt_get HX.out k
      have HST : Hid (e64run (xs.take (k + 1)) = e64step (e64run (xs.take k)) (xs.getD k 0)) := by show _ = _; rw [take_getD (by rw [← HN.out]; exact hlt), e64run_snoc]
      generalize xs.getD k 0 = x at *
      generalize e64run (xs.take k) = st at *
      obtain ⟨sb, sc, so⟩ := st
      dsimp only at hcn hc2 hbt HOL HO ⊢
      have HS2 : Hid (4 ≤ sc → e64step ⟨sb, sc, so⟩ x = ⟨o32 (sb * 256 % 4294967296) x, sc - 4, so ++ [grp (o32 (sb * 256 % 4294967296) x / 2 ^ (sc + 2))] ++ [grp (o32 (sb * 256 % 4294967296) x / 2 ^ (sc - 4))]⟩) := fun h2 => by unfold e64step; rw [if_pos h2]
      have HS3 : Hid (¬ 4 ≤ sc → e64step ⟨sb, sc, so⟩ x = ⟨o32 (sb * 256 % 4294967296) x, sc + 2, so ++ [grp (o32 (sb * 256 % 4294967296) x / 2 ^ (sc + 2))]⟩) := fun h2 => by unfold e64step; rw [if_neg h2]
      have hm : ((sb : Int) * 256) % 4294967296 = ((sb * 256 % 4294967296 : Nat) : Int) := by omega
      have fo := wo
      generalize sb * 256 % 4294967296 = sm at *
      generalize hO : o32 sm x = ob at *
      rcases (show sc = 0 ∨ sc = 2 ∨ sc = 4 by omega) with rfl | rfl | rfl
      · have HE1 : Hid (Own wr w.heap.size u3 so) := HO
        have HST1 := hide (HS3.out (by decide))
        simp only [Nat.reducePow, Nat.reduceAdd, Nat.reduceSub, Nat.div_one] at HST1
        have hq1 : bits BinOp.and IntKind.u32 ((ob : Int) / 4) 63 = ((an32 (ob / 4) 63 : Nat) : Int) := by rw [show ((ob : Int) / 4) = ((ob / 4 : Nat) : Int) by omega]; exact wa _ 63
        have hi1 := hli (an32 (ob / 4) 63) (an63_lt _)
        have hg1 := grp_lt (ob / 4)
        change ∀ W, _ = Result.ok (Value.int .u8 ((grp (ob / 4) : Nat) : Int)) W at hi1
        generalize an32 (ob / 4) 63 = n1 at hq1 hi1
        generalize grp (ob / 4) = g1 at *
        clear hli
        go_wp2_with fail
        go_loopw [3, 5] (fun v c wx => ((c = .int .u64 8 ∧ Hid (Own wx w.heap.size v so)) ∨ (c = .int .u64 2 ∧ Hid (Own wx w.heap.size v (so ++ [g1])))) ∧ Hid (Below w.heap.size w wx)) (fun _ c _ => (intOf c).toNat)
        case atStart => exact ⟨.inl ⟨rfl, HE1⟩, HB⟩
        case round =>
          clear HE1 HO HB hs c0
          obtain ⟨hst, HB⟩ := hrel
          have hs := HB.out.size
          rcases hst with ⟨rfl, HO⟩ | ⟨rfl, HO⟩
          · go_wp2_with (first | (at_builtin; refine wpList_append_bytes rfl _ _ rfl w.heap.size _ (so) rfl (HO.out.alloc _) (some ⟨wr.heap.size, 0, none⟩) 1 1 [g1] rfl rfl (row_one _ _) (by have := HOL.out; simp; omega) (by simp; omega) ?_) | fail)
            rintro v1 w2 hown1 hgr1
            have HB2 : Hid (Below w.heap.size w w2) := (HB.out.alloc hs _).grown hgr1 (by simp; omega) HO.out.ge
            have HO2 : Hid (Own w2 w.heap.size v1 (so ++ [g1])) := by first | exact hown1 | (rw [List.append_assoc]; exact hown1)
            clear hown1 hgr1
            go_wp2
            go_roundw
            case rel => exact ⟨.inr ⟨rfl, HO2⟩, HB2⟩
            case measure => simp [intOf]
          · go_wp2
            go_roundw
            case rel => exact ⟨k + 1, by omega, by go_num, by rw [HST.out, HST1.out], by rw [HST.out, HST1.out]; rfl, by rw [HST.out, HST1.out]; exact HO, HB⟩
            case measure => simp [intOf]; omega
      · have HE1 : Hid (Own wr w.heap.size u3 so) := HO
        have HST1 := hide (HS3.out (by decide))
        simp only [Nat.reducePow, Nat.reduceAdd, Nat.reduceSub, Nat.div_one] at HST1
        have hq1 : bits BinOp.and IntKind.u32 ((ob : Int) / 16) 63 = ((an32 (ob / 16) 63 : Nat) : Int) := by rw [show ((ob : Int) / 16) = ((ob / 16 : Nat) : Int) by omega]; exact wa _ 63
        have hi1 := hli (an32 (ob / 16) 63) (an63_lt _)
        have hg1 := grp_lt (ob / 16)
        change ∀ W, _ = Result.ok (Value.int .u8 ((grp (ob / 16) : Nat) : Int)) W at hi1
        generalize an32 (ob / 16) 63 = n1 at hq1 hi1
        generalize grp (ob / 16) = g1 at *
        clear hli
        go_wp2_with fail
        go_loopw [3, 5] (fun v c wx => ((c = .int .u64 10 ∧ Hid (Own wx w.heap.size v so)) ∨ (c = .int .u64 4 ∧ Hid (Own wx w.heap.size v (so ++ [g1])))) ∧ Hid (Below w.heap.size w wx)) (fun _ c _ => (intOf c).toNat)
        case atStart => exact ⟨.inl ⟨rfl, HE1⟩, HB⟩
        case round =>
          clear HE1 HO HB hs c0
          obtain ⟨hst, HB⟩ := hrel
          have hs := HB.out.size
          rcases hst with ⟨rfl, HO⟩ | ⟨rfl, HO⟩
          · go_wp2_with (first | (at_builtin; refine wpList_append_bytes rfl _ _ rfl w.heap.size _ (so) rfl (HO.out.alloc _) (some ⟨wr.heap.size, 0, none⟩) 1 1 [g1] rfl rfl (row_one _ _) (by have := HOL.out; simp; omega) (by simp; omega) ?_) | fail)
            rintro v1 w2 hown1 hgr1
            have HB2 : Hid (Below w.heap.size w w2) := (HB.out.alloc hs _).grown hgr1 (by simp; omega) HO.out.ge
            have HO2 : Hid (Own w2 w.heap.size v1 (so ++ [g1])) := by first | exact hown1 | (rw [List.append_assoc]; exact hown1)
            clear hown1 hgr1
            go_wp2
            go_roundw
            case rel => exact ⟨.inr ⟨rfl, HO2⟩, HB2⟩
            case measure => simp [intOf]
          · go_wp2
            go_roundw
            case rel => exact ⟨k + 1, by omega, by go_num, by rw [HST.out, HST1.out], by rw [HST.out, HST1.out]; rfl, by rw [HST.out, HST1.out]; exact HO, HB⟩
            case measure => simp [intOf]; omega
      · have HE1 : Hid (Own wr w.heap.size u3 so) := HO
        have HST1 := hide (HS2.out (by decide))
        simp only [Nat.reducePow, Nat.reduceAdd, Nat.reduceSub, Nat.div_one] at HST1
        have hq1 : bits BinOp.and IntKind.u32 ((ob : Int) / 64) 63 = ((an32 (ob / 64) 63 : Nat) : Int) := by rw [show ((ob : Int) / 64) = ((ob / 64 : Nat) : Int) by omega]; exact wa _ 63
        have hi1 := hli (an32 (ob / 64) 63) (an63_lt _)
        have hg1 := grp_lt (ob / 64)
        change ∀ W, _ = Result.ok (Value.int .u8 ((grp (ob / 64) : Nat) : Int)) W at hi1
        generalize an32 (ob / 64) 63 = n1 at hq1 hi1
        generalize grp (ob / 64) = g1 at *
        have hq2 : bits BinOp.and IntKind.u32 (ob : Int) 63 = ((an32 ob 63 : Nat) : Int) := wa _ 63
        have hi2 := hli (an32 ob 63) (an63_lt _)
        have hg2 := grp_lt ob
        change ∀ W, _ = Result.ok (Value.int .u8 ((grp ob : Nat) : Int)) W at hi2
        generalize an32 ob 63 = n2 at hq2 hi2
        generalize grp ob = g2 at *
        clear hli
        go_wp2_with fail
        go_loopw [3, 5] (fun v c wx => ((c = .int .u64 12 ∧ Hid (Own wx w.heap.size v so)) ∨ (c = .int .u64 6 ∧ Hid (Own wx w.heap.size v (so ++ [g1]))) ∨ (c = .int .u64 0 ∧ Hid (Own wx w.heap.size v (so ++ [g1] ++ [g2])))) ∧ Hid (Below w.heap.size w wx)) (fun _ c _ => (intOf c).toNat)
        case atStart => exact ⟨.inl ⟨rfl, HE1⟩, HB⟩
        case round =>
          clear HE1 HO HB hs c0
          obtain ⟨hst, HB⟩ := hrel
          have hs := HB.out.size
          rcases hst with ⟨rfl, HO⟩ | ⟨rfl, HO⟩ | ⟨rfl, HO⟩
          · go_wp2_with (first | (at_builtin; refine wpList_append_bytes rfl _ _ rfl w.heap.size _ (so) rfl (HO.out.alloc _) (some ⟨wr.heap.size, 0, none⟩) 1 1 [g1] rfl rfl (row_one _ _) (by have := HOL.out; simp; omega) (by simp; omega) ?_) | fail)
            rintro v1 w2 hown1 hgr1
            have HB2 : Hid (Below w.heap.size w w2) := (HB.out.alloc hs _).grown hgr1 (by simp; omega) HO.out.ge
            have HO2 : Hid (Own w2 w.heap.size v1 (so ++ [g1])) := by first | exact hown1 | (rw [List.append_assoc]; exact hown1)
            clear hown1 hgr1
            go_wp2
            go_roundw
            case rel => exact ⟨.inr (.inl ⟨rfl, HO2⟩), HB2⟩
            case measure => simp [intOf]
          · go_wp2_with (first | (at_builtin; refine wpList_append_bytes rfl _ _ rfl w.heap.size _ (so ++ [g1]) rfl (HO.out.alloc _) (some ⟨wr.heap.size, 0, none⟩) 1 1 [g2] rfl rfl (row_one _ _) (by have := HOL.out; simp; omega) (by simp; omega) ?_) | fail)
            rintro v1 w2 hown1 hgr1
            have HB2 : Hid (Below w.heap.size w w2) := (HB.out.alloc hs _).grown hgr1 (by simp; omega) HO.out.ge
            have HO2 : Hid (Own w2 w.heap.size v1 (so ++ [g1] ++ [g2])) := by first | exact hown1 | (rw [List.append_assoc]; exact hown1)
            clear hown1 hgr1
            go_wp2
            go_roundw
            case rel => exact ⟨.inr (.inr ⟨rfl, HO2⟩), HB2⟩
            case measure => simp [intOf]
          · go_wp2
            go_roundw
            case rel => exact ⟨k + 1, by omega, by go_num, by rw [HST.out, HST1.out], by rw [HST.out, HST1.out]; rfl, by rw [HST.out, HST1.out]; exact HO, HB⟩
            case measure => simp [intOf]; omega
    · have HT : Hid (xs.take k = xs) := by show _ = _; rw [List.take_of_length_le (by rw [← HN.out]; omega)]
      rw [HT.out] at HO hcn hc2 hbt HOL ⊢
      generalize hst : e64run xs = st at *
      have HRUN : Hid (e64run xs = st) := hst
      clear hst
      obtain ⟨sb, sc, so⟩ := st
      dsimp only at hcn hc2 hbt HOL HO ⊢
      rcases (show sc = 0 ∨ sc = 2 ∨ sc = 4 by omega) with rfl | rfl | rfl
      · obtain rfl : BO = so := by have := HBE.out; simp only [b64of, HRUN.out] at this; exact this.symm
        obtain ⟨ao1, c1, rfl, hle, hr1⟩ := HO.out.read
        have cv := conv_row c1 hr1
        clear hr1 hli
        go_wp2
        go_ret
        exact ⟨rfl, HB.out⟩
      · have HBO : Hid (BO = so ++ [grp (sb * 16 % 4294967296)]) := by have := HBE.out; simp only [b64of, HRUN.out] at this; exact this.symm
        have hm : ((sb : Int) * 16) % 4294967296 = ((sb * 16 % 4294967296 : Nat) : Int) := by omega
        have hq1 := wa (sb * 16 % 4294967296) 63
        have hi1 := hli (an32 (sb * 16 % 4294967296) 63) (an63_lt _)
        have hg1 := grp_lt (sb * 16 % 4294967296)
        change ∀ W, _ = Result.ok (Value.int .u8 ((grp (sb * 16 % 4294967296) : Nat) : Int)) W at hi1
        generalize sb * 16 % 4294967296 = sm at *
        have hq2 : bits BinOp.and IntKind.u32 (sm : Int) 63 = ((an32 sm 63 : Nat) : Int) := hq1
        clear hq1
        generalize an32 sm 63 = n1 at *
        generalize grp sm = g1 at *
        clear hli
        go_wp2_with (first | (at_builtin; refine wpList_append_bytes rfl _ _ rfl w.heap.size _ so rfl (HO.out.alloc _) (some ⟨wr.heap.size, 0, none⟩) 1 1 [g1] rfl rfl (row_one _ _) (by have := HOL.out; simp; omega) (by simp; omega) ?_) | fail)
        rintro v1 w2 hown1 hgr1
        have HB2 : Hid (Below w.heap.size w w2) := (HB.out.alloc hs _).grown hgr1 (by simp; omega) HO.out.ge
        obtain ⟨ao1, c1, rfl, hle, hr1⟩ := hown1.read
        have cv := conv_row c1 hr1
        obtain ⟨m, hm⟩ : ∃ m, m = (so ++ [g1]).length := ⟨_, rfl⟩
        rw [← hm] at cv ⊢
        clear hr1 hown1 hgr1 hle hm
        go_wp2
        go_ret
        exact ⟨by rw [HBO.out]; rfl, HB2.out⟩
      · have HBO : Hid (BO = so ++ [grp (sb * 4 % 4294967296)]) := by have := HBE.out; simp only [b64of, HRUN.out] at this; exact this.symm
        have hm : ((sb : Int) * 4) % 4294967296 = ((sb * 4 % 4294967296 : Nat) : Int) := by omega
        have hq1 := wa (sb * 4 % 4294967296) 63
        have hi1 := hli (an32 (sb * 4 % 4294967296) 63) (an63_lt _)
        have hg1 := grp_lt (sb * 4 % 4294967296)
        change ∀ W, _ = Result.ok (Value.int .u8 ((grp (sb * 4 % 4294967296) : Nat) : Int)) W at hi1
        generalize sb * 4 % 4294967296 = sm at *
        have hq2 : bits BinOp.and IntKind.u32 (sm : Int) 63 = ((an32 sm 63 : Nat) : Int) := hq1
        clear hq1
        generalize an32 sm 63 = n1 at *
        generalize grp sm = g1 at *
        clear hli
        go_wp2_with (first | (at_builtin; refine wpList_append_bytes rfl _ _ rfl w.heap.size _ so rfl (HO.out.alloc _) (some ⟨wr.heap.size, 0, none⟩) 1 1 [g1] rfl rfl (row_one _ _) (by have := HOL.out; simp; omega) (by simp; omega) ?_) | fail)
        rintro v1 w2 hown1 hgr1
        have HB2 : Hid (Below w.heap.size w w2) := (HB.out.alloc hs _).grown hgr1 (by simp; omega) HO.out.ge
        obtain ⟨ao1, c1, rfl, hle, hr1⟩ := hown1.read
        have cv := conv_row c1 hr1
        obtain ⟨m, hm⟩ : ∃ m, m = (so ++ [g1]).length := ⟨_, rfl⟩
        rw [← hm] at cv ⊢
        clear hr1 hown1 hgr1 hle hm
        go_wp2
        go_ret
        exact ⟨by rw [HBO.out]; rfl, HB2.out⟩
end Go.Proofs.YtonnnolnkjahgabDoor
