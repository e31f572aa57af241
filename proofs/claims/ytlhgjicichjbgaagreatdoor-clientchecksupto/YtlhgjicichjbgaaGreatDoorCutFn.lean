/- The contracts of strings.Cut at a separator of one byte, and of parsePair: for every text up to a size. -/
import Derived.Test.YtlhgjicichjbgaaGreatDoorUnescFn
import Derived.Test.YtlhgjicichjbgaaGreatDoorBodyMath
import Derived.Test.YtlhgjicichjbgaaGreatDoorShelf
import Derived.Lib.IndexBytes
namespace Go.Proofs.YtlhgjicichjbgaaGreatDoor
open Go.RowKit

/-- The library's own number that strings.Cut may read: whatever it is. -/
def MaxL (w : World) : Prop := ∃ m : Int, w.cell? ⟨lays145_ren.g 1, 0, none⟩ = some (.int .i64 m)
theorem MaxL.keep {w w' : World} (h : MaxL w) (hb : Below w.heap.size w w') : MaxL w' := by
  obtain ⟨m, hm⟩ := h
  exact ⟨m, cell_kept hm hb⟩
theorem index_upTo (c : UInt8) : ∀ l : List UInt8, ((upTo c.toNat (l.map UInt8.toNat)).length = l.length ∧ Lib.index l [c] = -1) ∨ ((upTo c.toNat (l.map UInt8.toNat)).length < l.length ∧ Lib.index l [c] = ((upTo c.toNat (l.map UInt8.toNat)).length : Nat))
  | [] => .inl ⟨rfl, rfl⟩
  | b :: l => by
    rw [Lib.index_one, List.map_cons]
    by_cases h : b = c
    · subst h
      right
      rw [upTo_hit]
      exact ⟨by simp, by simp [Lib.indexByte]⟩
    · have hn : b.toNat ≠ c.toNat := fun e => h (UInt8.toNat_inj.1 e)
      rw [upTo_miss _ hn]
      have hb : (b == c) = false := by simpa using h
      have ih := index_upTo c l
      rw [Lib.index_one] at ih
      rcases ih with ⟨h1, h2⟩ | ⟨h1, h2⟩
      · left
        exact ⟨by simp [h1], by simp [Lib.indexByte, hb, h2]⟩
      · right
        refine ⟨by simp [h1], ?_⟩
        have : ¬ ((upTo c.toNat (l.map UInt8.toNat)).length : Int) = -1 := by omega
        simp [Lib.indexByte, hb, h2, this]
theorem bstr_take (s : ByteArray) (k : Nat) : (⟨(s.data.toList.take k).toArray⟩ : ByteArray) = bstr ((sbytes s).take k) := by
  unfold bstr sbytes
  rw [← List.map_take, ofNat_toNat]
theorem bstr_drop (s : ByteArray) (k : Nat) : (⟨(s.data.toList.drop k).toArray⟩ : ByteArray) = bstr ((sbytes s).drop k) := by
  unfold bstr sbytes
  rw [← List.map_drop, ofNat_toNat]
theorem cut_eq (s : ByteArray) (c : UInt8) : (⟨(Lib.cut s.data.toList [c]).1.toArray⟩ : ByteArray) = bstr (upTo c.toNat (sbytes s)) ∧ (⟨(Lib.cut s.data.toList [c]).2.1.toArray⟩ : ByteArray) = bstr ((sbytes s).drop ((upTo c.toNat (sbytes s)).length + 1)) := by
  have hz : s.data.toList.length = (sbytes s).length := by simp [sbytes]
  rcases index_upTo c s.data.toList with ⟨h1, h2⟩ | ⟨h1, h2⟩
  · unfold Lib.cut
    rw [h2, if_neg (by omega)]
    have h3 : (upTo c.toNat (sbytes s)).length = (sbytes s).length := by rw [← hz]; exact h1
    refine ⟨?_, ?_⟩
    · rw [upTo_whole h3]; exact (bstr_sbytes s).symm
    · rw [h3, List.drop_eq_nil_of_le (by omega)]; rfl
  · unfold Lib.cut
    rw [h2, if_pos (by omega)]
    refine ⟨?_, ?_⟩
    · show (⟨(s.data.toList.take _).toArray⟩ : ByteArray) = _
      rw [bstr_take, Int.toNat_natCast]
      congr 1
      exact (upTo_take c.toNat (sbytes s)).symm
    · show (⟨(s.data.toList.drop _).toArray⟩ : ByteArray) = _
      rw [bstr_drop, Int.toNat_natCast]
      rfl
theorem cut_any (s : ByteArray) (c : UInt8) (w : World) (hs : s.size < 4294967281) (hM : MaxL w) :
    Calls Tryz.prog 95 #[.string s, .string { data := #[c] }] w fun e w' => ∃ f : Bool, e = .returned (.tuple #[.string (bstr (upTo c.toNat (sbytes s))), .string (bstr ((sbytes s).drop ((upTo c.toNat (sbytes s)).length + 1))), .bool f]) ∧ Below w.heap.size w w' ∧ w'.heap.size = w.heap.size := by
  obtain ⟨m, hm⟩ := hM
  refine Calls.mono (Any.strings_Cut lays145 s { data := #[c] } m w hs hm) ?_
  rintro e w' ⟨rfl, n, rfl⟩
  have := cut_eq s c
  refine ⟨(Lib.cut s.data.toList [c]).2.2, ?_, below_drewN (Below.refl _ _) n, rfl⟩
  rw [← this.1, ← this.2]

def pairRes : Tried Two → Value
  | .ok q => .tuple #[.agg #[.string (bstr q.1), .string (bstr q.2)], .int .i64 0, .int .i64 0]
  | .error (e, p) => .tuple #[.agg #[.string { data := #[] }, .string { data := #[] }], .int .i64 (e : Int), .int .i64 (p : Int)]

set_option maxHeartbeats 1000000 in
set_option maxRecDepth 100000 in
theorem parsePair_any (s : ByteArray) (w : World) (hl : s.size ≤ 16384) (hM : MaxL w) :
    Calls Tryz.prog 145 #[.string s] w fun e w' => e = .returned (pairRes (pairAt (sbytes s) 0)) ∧ Below w.heap.size w w' := by
  obtain ⟨xs, HX⟩ : ∃ xs, Hid (xs = sbytes s) := ⟨_, rfl⟩
  have hxl : xs.length ≤ 16384 := by rw [HX.out, sbytes_length]; exact hl
  have HXB : Hid (∀ x ∈ xs, x < 256) := by rw [HX.out]; exact sbytes_lt s
  have HM : Hid (MaxL w) := hM
  obtain ⟨P, HP⟩ : ∃ P, Hid (P = pairAt xs 0) := ⟨_, rfl⟩
  rw [← HX.out, ← HP.out]
  obtain ⟨a, HA⟩ : ∃ a, Hid (a = upTo 61 xs) := ⟨_, rfl⟩
  obtain ⟨b, HB⟩ : ∃ b, Hid (b = xs.drop (a.length + 1)) := ⟨_, rfl⟩
  have hal : a.length ≤ 16384 := by have := upTo_le 61 xs; rw [← HA.out] at this; omega
  have hbl : b.length ≤ 16384 := by rw [HB.out, List.length_drop]; omega
  have HAB : Hid (sbytes (bstr a) = a) := by
    refine sbytes_bstr fun x hx => ?_
    rw [HA.out, upTo_take] at hx
    exact HXB.out x (List.mem_of_mem_take hx)
  have HBB : Hid (sbytes (bstr b) = b) := by
    refine sbytes_bstr fun x hx => ?_
    rw [HB.out] at hx
    exact HXB.out x (List.mem_of_mem_drop hx)
  have haz : (bstr a).size = a.length := bstr_size a
  have hbz : (bstr b).size = b.length := bstr_size b
  clear hM
  go_enter Tryz.func145, Tryz.ntmps145
  go_wp2_with fail
  refine (cut_any s 61 _ (by omega) (HM.out.keep (below_new _ _))).mono ?_
  rintro e w1 ⟨f, rfl, hb1, _⟩
  rw [← HX.out, show UInt8.toNat 61 = 61 from rfl, ← HA.out, ← HB.out]
  have HB1 : Hid (Below (w.heap.size + 1) (w.alloc (Obj.cells #[Value.string { data := #[] }, Value.string { data := #[] }] 63)) w1) := by
    have := hb1; simp at this; exact this
  clear hb1
  have hs1 : w.heap.size + 1 ≤ w1.heap.size := by have := HB1.out.size; simp at this; omega
  go_wp2_with fail
  refine (unescape_any (bstr a) w1 (by omega)).mono ?_
  rintro e w2 ⟨rfl, hb2⟩
  have HB2 : Hid (Below (w.heap.size + 1) (w.alloc (Obj.cells #[Value.string { data := #[] }, Value.string { data := #[] }] 63)) w2) := HB1.out.trans (hb2.mono hs1)
  have hs2 : w.heap.size + 1 ≤ w2.heap.size := by have := HB2.out.size; simp at this; omega
  rw [HAB.out]
  clear hb2 HB1
  cases hu : un a 0 with
  | error ep =>
    obtain ⟨e0, p0⟩ := ep
    have HD : Hid (P = .error (e0, p0)) := by
      show _ = _
      rw [HP.out]; unfold pairAt; rw [← HA.out, hu]
    obtain ⟨he0, _, hp0⟩ := un_err _ _ _ _ _ (Nat.le_refl _) hu
    have hne : ((e0 : Int) != 0) = true := by rw [bne_iff_ne]; omega
    clear hu
    simp only [unRes]
    have c0 : w2.cell? ⟨w.heap.size, 0, none⟩ = some (.string { data := #[] }) := by rw [HB2.out.cell (p := ⟨w.heap.size, 0, none⟩) (by simp)]; simp
    have c1 : w2.cell? ⟨w.heap.size, 1, none⟩ = some (.string { data := #[] }) := by rw [HB2.out.cell (p := ⟨w.heap.size, 1, none⟩) (by simp)]; simp
    have f0 : w2.frozen? ⟨w.heap.size, 0, none⟩ = false := by rw [HB2.out.frozen (p := ⟨w.heap.size, 0, none⟩) (by simp)]; simp
    have f1 : w2.frozen? ⟨w.heap.size, 1, none⟩ = false := by rw [HB2.out.frozen (p := ⟨w.heap.size, 1, none⟩) (by simp)]; simp
    go_wp2
    refine bodyPost_ret (v := .tuple #[.agg #[.string { data := #[] }, .string { data := #[] }], .int .i64 (e0 : Int), .int .i64 (p0 : Int)]) (by simp [results, Tryz.results145, go_sem, c0, c1]) rfl ⟨by rw [HD.out]; first | rfl | (simp [pairRes]), ?_⟩
    exact ((((below_new _ _).trans (HB2.out.mono (by omega))).setCell (Nat.le_refl _) _).setCell (Nat.le_refl _) _)
  | ok n =>
    have HU : Hid (un a 0 = .ok n) := hu
    clear hu
    simp only [unRes]
    go_wp2_with fail
    refine (unescape_any (bstr b) w2 (by omega)).mono ?_
    rintro e w3 ⟨rfl, hb3⟩
    have HB3 : Hid (Below (w.heap.size + 1) (w.alloc (Obj.cells #[Value.string { data := #[] }, Value.string { data := #[] }] 63)) w3) := HB2.out.trans (hb3.mono hs2)
    rw [HBB.out]
    clear hb3 HB2
    cases hv : un b 0 with
    | error ep =>
      obtain ⟨e0, p0⟩ := ep
      have HD : Hid (P = .error (e0, a.length + 1 + p0)) := by
        show _ = _
        rw [HP.out]; unfold pairAt; rw [← HA.out, HU.out]
        simp only
        rw [← HB.out, un_at, hv]
        simp [shiftP]
      obtain ⟨he0, _, hp0⟩ := un_err _ _ _ _ _ (Nat.le_refl _) hv
      have hne : ((e0 : Int) != 0) = true := by rw [bne_iff_ne]; omega
      clear hv
      simp only [unRes]
      have c0 : w3.cell? ⟨w.heap.size, 0, none⟩ = some (.string { data := #[] }) := by rw [HB3.out.cell (p := ⟨w.heap.size, 0, none⟩) (by simp)]; simp
      have c1 : w3.cell? ⟨w.heap.size, 1, none⟩ = some (.string { data := #[] }) := by rw [HB3.out.cell (p := ⟨w.heap.size, 1, none⟩) (by simp)]; simp
      have f0 : w3.frozen? ⟨w.heap.size, 0, none⟩ = false := by rw [HB3.out.frozen (p := ⟨w.heap.size, 0, none⟩) (by simp)]; simp
      have f1 : w3.frozen? ⟨w.heap.size, 1, none⟩ = false := by rw [HB3.out.frozen (p := ⟨w.heap.size, 1, none⟩) (by simp)]; simp
      go_wp2
      refine bodyPost_ret (v := .tuple #[.agg #[.string { data := #[] }, .string { data := #[] }], .int .i64 (e0 : Int), .int .i64 ((a.length : Int) + 1 + (p0 : Int))]) (by simp [results, Tryz.results145, go_sem, c0, c1]) rfl ⟨by rw [HD.out]; first | rfl | (simp [pairRes]), ?_⟩
      exact ((((below_new _ _).trans (HB3.out.mono (by omega))).setCell (Nat.le_refl _) _).setCell (Nat.le_refl _) _)
    | ok v =>
      have HD : Hid (P = .ok (n, v)) := by
        show _ = _
        rw [HP.out]; unfold pairAt; rw [← HA.out, HU.out]
        simp only
        rw [← HB.out, un_at, hv]
        simp [shiftP]
      clear hv
      simp only [unRes]
      have c0 : w3.cell? ⟨w.heap.size, 0, none⟩ = some (.string { data := #[] }) := by rw [HB3.out.cell (p := ⟨w.heap.size, 0, none⟩) (by simp)]; simp
      have c1 : w3.cell? ⟨w.heap.size, 1, none⟩ = some (.string { data := #[] }) := by rw [HB3.out.cell (p := ⟨w.heap.size, 1, none⟩) (by simp)]; simp
      have f0 : w3.frozen? ⟨w.heap.size, 0, none⟩ = false := by rw [HB3.out.frozen (p := ⟨w.heap.size, 0, none⟩) (by simp)]; simp
      have f1 : w3.frozen? ⟨w.heap.size, 1, none⟩ = false := by rw [HB3.out.frozen (p := ⟨w.heap.size, 1, none⟩) (by simp)]; simp
      go_wp2
      refine bodyPost_ret (v := .tuple #[.agg #[.string (bstr n), .string (bstr v)], .int .i64 0, .int .i64 0]) (by simp [results, Tryz.results145, go_sem, c0, c1]) rfl ⟨by rw [HD.out]; first | rfl | (simp [pairRes]), ?_⟩
      exact ((((below_new _ _).trans (HB3.out.mono (by omega))).setCell (Nat.le_refl _) _).setCell (Nat.le_refl _) _)
end Go.Proofs.YtlhgjicichjbgaaGreatDoor
