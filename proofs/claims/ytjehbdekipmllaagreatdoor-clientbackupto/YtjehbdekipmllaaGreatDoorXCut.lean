/- The contracts of strings.Cut at a separator of one byte, and of parsePair: for every text up to a size. Lists of pairs in memory: two cells a pair. The contract of Parse of the program: for every text. What Parse hands out, with its length by name. -/
import Derived.Test.YtjehbdekipmllaaGreatDoorXUn
import Derived.Test.YtjehbdekipmllaaGreatDoorXMath
import Derived.Test.YtjehbdekipmllaaGreatDoorShelf
import Derived.Test.YtjehbdekipmllaaGreatDoorXBase
import Derived.Lib.IndexBytes
namespace Go.Proofs.YtjehbdekipmllaaGreatDoor
open Go.RowKit

/-- The library's own number that strings.Cut may read: whatever it is. -/
def MaxL (w : World) : Prop := ∃ m : Int, w.cell? ⟨lays145_ren.g 1, 0, none⟩ = some (.int .i64 m)
theorem MaxL.keep {w w' : World} (h : MaxL w) (hb : Below w.heap.size w w') : MaxL w' := by
  obtain ⟨m, hm⟩ := h
  exact ⟨m, cell_kept hm hb⟩
theorem index_upTo (c : UInt8) : ∀ l : List UInt8, ((upTo c.toNat (l.map UInt8.toNat)).length = l.length ∧ Lib.index l [c] = -1) ∨ ((upTo c.toNat (l.map UInt8.toNat)).length < l.length ∧ Lib.index l [c] = ((upTo c.toNat (l.map UInt8.toNat)).length : Nat))
  | [] => .inl ⟨rfl, rfl⟩
  | b :: l => by
    rw [Lib.index_one, List.map_cons]
    by_cases h : b = c
    · subst h
      right
      rw [upTo_hit]
      exact ⟨by simp, by simp [Lib.indexByte]⟩
    · have hn : b.toNat ≠ c.toNat := fun e => h (UInt8.toNat_inj.1 e)
      rw [upTo_miss _ hn]
      have hb : (b == c) = false := by simpa using h
      have ih := index_upTo c l
      rw [Lib.index_one] at ih
      rcases ih with ⟨h1, h2⟩ | ⟨h1, h2⟩
      · left
        exact ⟨by simp [h1], by simp [Lib.indexByte, hb, h2]⟩
      · right
        refine ⟨by simp [h1], ?_⟩
        have : ¬ ((upTo c.toNat (l.map UInt8.toNat)).length : Int) = -1 := by omega
        simp [Lib.indexByte, hb, h2, this]
theorem bstr_take (s : ByteArray) (k : Nat) : (⟨(s.data.toList.take k).toArray⟩ : ByteArray) = bstr ((sbytes s).take k) := by
  unfold bstr sbytes
  rw [← List.map_take, ofNat_toNat]
theorem bstr_drop (s : ByteArray) (k : Nat) : (⟨(s.data.toList.drop k).toArray⟩ : ByteArray) = bstr ((sbytes s).drop k) := by
  unfold bstr sbytes
  rw [← List.map_drop, ofNat_toNat]
theorem cut_eq (s : ByteArray) (c : UInt8) : (⟨(Lib.cut s.data.toList [c]).1.toArray⟩ : ByteArray) = bstr (upTo c.toNat (sbytes s)) ∧ (⟨(Lib.cut s.data.toList [c]).2.1.toArray⟩ : ByteArray) = bstr ((sbytes s).drop ((upTo c.toNat (sbytes s)).length + 1)) := by
  have hz : s.data.toList.length = (sbytes s).length := by simp [sbytes]
  rcases index_upTo c s.data.toList with ⟨h1, h2⟩ | ⟨h1, h2⟩
  · unfold Lib.cut
    rw [h2, if_neg (by omega)]
    have h3 : (upTo c.toNat (sbytes s)).length = (sbytes s).length := by rw [← hz]; exact h1
    refine ⟨?_, ?_⟩
    · rw [upTo_whole h3]; exact (bstr_sbytes s).symm
    · rw [h3, List.drop_eq_nil_of_le (by omega)]; rfl
  · unfold Lib.cut
    rw [h2, if_pos (by omega)]
    refine ⟨?_, ?_⟩
    · show (⟨(s.data.toList.take _).toArray⟩ : ByteArray) = _
      rw [bstr_take, Int.toNat_natCast]
      congr 1
      exact (upTo_take c.toNat (sbytes s)).symm
    · show (⟨(s.data.toList.drop _).toArray⟩ : ByteArray) = _
      rw [bstr_drop, Int.toNat_natCast]
      rfl
theorem cut_any (s : ByteArray) (c : UInt8) (w : World) (hs : s.size < 4294967281) (hM : MaxL w) :
    Calls Tryz.prog 104 #[.string s, .string { data := #[c] }] w fun e w' => ∃ f : Bool, e = .returned (.tuple #[.string (bstr (upTo c.toNat (sbytes s))), .string (bstr ((sbytes s).drop ((upTo c.toNat (sbytes s)).length + 1))), .bool f]) ∧ Below w.heap.size w w' ∧ w'.heap.size = w.heap.size := by
  obtain ⟨m, hm⟩ := hM
  refine Calls.mono (Any.strings_Cut lays145 s { data := #[c] } m w hs hm) ?_
  rintro e w' ⟨rfl, n, rfl⟩
  have := cut_eq s c
  refine ⟨(Lib.cut s.data.toList [c]).2.2, ?_, below_drewN (Below.refl _ _) n, rfl⟩
  rw [← this.1, ← this.2]

def pairRes : Tried Two → Value
  | .ok q => .tuple #[.agg #[.string (bstr q.1), .string (bstr q.2)], .int .i64 0, .int .i64 0]
  | .error (e, p) => .tuple #[.agg #[.string { data := #[] }, .string { data := #[] }], .int .i64 (e : Int), .int .i64 (p : Int)]

set_option maxHeartbeats 1000000 in
set_option maxRecDepth 100000 in
theorem parsePair_any (s : ByteArray) (w : World) (hl : s.size ≤ 16384) (hM : MaxL w) :
    Calls Tryz.prog 105 #[.string s] w fun e w' => e = .returned (pairRes (pairAt (sbytes s) 0)) ∧ Below w.heap.size w w' := by
  obtain ⟨xs, HX⟩ : ∃ xs, Hid (xs = sbytes s) := ⟨_, rfl⟩
  have hxl : xs.length ≤ 16384 := by rw [HX.out, sbytes_length]; exact hl
  have HXB : Hid (∀ x ∈ xs, x < 256) := by rw [HX.out]; exact sbytes_lt s
  have HM : Hid (MaxL w) := hM
  obtain ⟨P, HP⟩ : ∃ P, Hid (P = pairAt xs 0) := ⟨_, rfl⟩
  rw [← HX.out, ← HP.out]
  obtain ⟨a, HA⟩ : ∃ a, Hid (a = upTo 61 xs) := ⟨_, rfl⟩
  obtain ⟨b, HB⟩ : ∃ b, Hid (b = xs.drop (a.length + 1)) := ⟨_, rfl⟩
  have hal : a.length ≤ 16384 := by have := upTo_le 61 xs; rw [← HA.out] at this; omega
  have hbl : b.length ≤ 16384 := by rw [HB.out, List.length_drop]; omega
  have HAB : Hid (sbytes (bstr a) = a) := by
    refine sbytes_bstr fun x hx => ?_
    rw [HA.out, upTo_take] at hx
    exact HXB.out x (List.mem_of_mem_take hx)
  have HBB : Hid (sbytes (bstr b) = b) := by
    refine sbytes_bstr fun x hx => ?_
    rw [HB.out] at hx
    exact HXB.out x (List.mem_of_mem_drop hx)
  have haz : (bstr a).size = a.length := bstr_size a
  have hbz : (bstr b).size = b.length := bstr_size b
  clear hM
  go_enter Tryz.func105, Tryz.ntmps105
  go_wp2_with fail
  refine (cut_any s 61 _ (by omega) (HM.out.keep (below_new _ _))).mono ?_
  rintro e w1 ⟨f, rfl, hb1, _⟩
  rw [← HX.out, show UInt8.toNat 61 = 61 from rfl, ← HA.out, ← HB.out]
  have HB1 : Hid (Below (w.heap.size + 1) (w.alloc (Obj.cells #[Value.string { data := #[] }, Value.string { data := #[] }] 58)) w1) := by
    have := hb1; simp at this; exact this
  clear hb1
  have hs1 : w.heap.size + 1 ≤ w1.heap.size := by have := HB1.out.size; simp at this; omega
  go_wp2_with fail
  refine (unescape_any (bstr a) w1 (by omega)).mono ?_
  rintro e w2 ⟨rfl, hb2⟩
  have HB2 : Hid (Below (w.heap.size + 1) (w.alloc (Obj.cells #[Value.string { data := #[] }, Value.string { data := #[] }] 58)) w2) := HB1.out.trans (hb2.mono hs1)
  have hs2 : w.heap.size + 1 ≤ w2.heap.size := by have := HB2.out.size; simp at this; omega
  rw [HAB.out]
  clear hb2 HB1
  cases hu : un a 0 with
  | error ep =>
    obtain ⟨e0, p0⟩ := ep
    have HD : Hid (P = .error (e0, p0)) := by
      show _ = _
      rw [HP.out]; unfold pairAt; rw [← HA.out, hu]
    obtain ⟨he0, _, hp0⟩ := un_err _ _ _ _ _ (Nat.le_refl _) hu
    have hne : ((e0 : Int) != 0) = true := by rw [bne_iff_ne]; omega
    clear hu
    simp only [unRes]
    have c0 : w2.cell? ⟨w.heap.size, 0, none⟩ = some (.string { data := #[] }) := by rw [HB2.out.cell (p := ⟨w.heap.size, 0, none⟩) (by simp)]; simp
    have c1 : w2.cell? ⟨w.heap.size, 1, none⟩ = some (.string { data := #[] }) := by rw [HB2.out.cell (p := ⟨w.heap.size, 1, none⟩) (by simp)]; simp
    have f0 : w2.frozen? ⟨w.heap.size, 0, none⟩ = false := by rw [HB2.out.frozen (p := ⟨w.heap.size, 0, none⟩) (by simp)]; simp
    have f1 : w2.frozen? ⟨w.heap.size, 1, none⟩ = false := by rw [HB2.out.frozen (p := ⟨w.heap.size, 1, none⟩) (by simp)]; simp
    go_wp2
    refine bodyPost_ret (v := .tuple #[.agg #[.string { data := #[] }, .string { data := #[] }], .int .i64 (e0 : Int), .int .i64 (p0 : Int)]) (by simp [results, Tryz.results105, go_sem, c0, c1]) rfl ⟨by rw [HD.out]; first | rfl | (simp [pairRes]), ?_⟩
    exact ((((below_new _ _).trans (HB2.out.mono (by omega))).setCell (Nat.le_refl _) _).setCell (Nat.le_refl _) _)
  | ok n =>
    have HU : Hid (un a 0 = .ok n) := hu
    clear hu
    simp only [unRes]
    go_wp2_with fail
    refine (unescape_any (bstr b) w2 (by omega)).mono ?_
    rintro e w3 ⟨rfl, hb3⟩
    have HB3 : Hid (Below (w.heap.size + 1) (w.alloc (Obj.cells #[Value.string { data := #[] }, Value.string { data := #[] }] 58)) w3) := HB2.out.trans (hb3.mono hs2)
    rw [HBB.out]
    clear hb3 HB2
    cases hv : un b 0 with
    | error ep =>
      obtain ⟨e0, p0⟩ := ep
      have HD : Hid (P = .error (e0, a.length + 1 + p0)) := by
        show _ = _
        rw [HP.out]; unfold pairAt; rw [← HA.out, HU.out]
        simp only
        rw [← HB.out, un_at, hv]
        simp [shiftP]
      obtain ⟨he0, _, hp0⟩ := un_err _ _ _ _ _ (Nat.le_refl _) hv
      have hne : ((e0 : Int) != 0) = true := by rw [bne_iff_ne]; omega
      clear hv
      simp only [unRes]
      have c0 : w3.cell? ⟨w.heap.size, 0, none⟩ = some (.string { data := #[] }) := by rw [HB3.out.cell (p := ⟨w.heap.size, 0, none⟩) (by simp)]; simp
      have c1 : w3.cell? ⟨w.heap.size, 1, none⟩ = some (.string { data := #[] }) := by rw [HB3.out.cell (p := ⟨w.heap.size, 1, none⟩) (by simp)]; simp
      have f0 : w3.frozen? ⟨w.heap.size, 0, none⟩ = false := by rw [HB3.out.frozen (p := ⟨w.heap.size, 0, none⟩) (by simp)]; simp
      have f1 : w3.frozen? ⟨w.heap.size, 1, none⟩ = false := by rw [HB3.out.frozen (p := ⟨w.heap.size, 1, none⟩) (by simp)]; simp
      go_wp2
      refine bodyPost_ret (v := .tuple #[.agg #[.string { data := #[] }, .string { data := #[] }], .int .i64 (e0 : Int), .int .i64 ((a.length : Int) + 1 + (p0 : Int))]) (by simp [results, Tryz.results105, go_sem, c0, c1]) rfl ⟨by rw [HD.out]; first | rfl | (simp [pairRes]), ?_⟩
      exact ((((below_new _ _).trans (HB3.out.mono (by omega))).setCell (Nat.le_refl _) _).setCell (Nat.le_refl _) _)
    | ok v =>
      have HD : Hid (P = .ok (n, v)) := by
        show _ = _
        rw [HP.out]; unfold pairAt; rw [← HA.out, HU.out]
        simp only
        rw [← HB.out, un_at, hv]
        simp [shiftP]
      clear hv
      simp only [unRes]
      have c0 : w3.cell? ⟨w.heap.size, 0, none⟩ = some (.string { data := #[] }) := by rw [HB3.out.cell (p := ⟨w.heap.size, 0, none⟩) (by simp)]; simp
      have c1 : w3.cell? ⟨w.heap.size, 1, none⟩ = some (.string { data := #[] }) := by rw [HB3.out.cell (p := ⟨w.heap.size, 1, none⟩) (by simp)]; simp
      have f0 : w3.frozen? ⟨w.heap.size, 0, none⟩ = false := by rw [HB3.out.frozen (p := ⟨w.heap.size, 0, none⟩) (by simp)]; simp
      have f1 : w3.frozen? ⟨w.heap.size, 1, none⟩ = false := by rw [HB3.out.frozen (p := ⟨w.heap.size, 1, none⟩) (by simp)]; simp
      go_wp2
      refine bodyPost_ret (v := .tuple #[.agg #[.string (bstr n), .string (bstr v)], .int .i64 0, .int .i64 0]) (by simp [results, Tryz.results105, go_sem, c0, c1]) rfl ⟨by rw [HD.out]; first | rfl | (simp [pairRes]), ?_⟩
      exact ((((below_new _ _).trans (HB3.out.mono (by omega))).setCell (Nat.le_refl _) _).setCell (Nat.le_refl _) _)
end Go.Proofs.YtjehbdekipmllaaGreatDoor
namespace Go.Proofs.YtjehbdekipmllaaGreatDoor
open Go.RowKit

def flat2 (l : List Two) : List Value := l.flatMap fun q => [.string (bstr q.1), .string (bstr q.2)]
theorem flat2_len (l : List Two) : (flat2 l).length = 2 * l.length := by
  induction l with
  | nil => rfl
  | cons q l ih => simp only [flat2, List.flatMap_cons, List.length_append, List.length_cons, List.length_nil] at ih ⊢; omega
theorem flat2_snoc (l : List Two) (q : Two) : flat2 (l ++ [q]) = flat2 l ++ [.string (bstr q.1), .string (bstr q.2)] := by simp [flat2]
theorem flat2_get : ∀ (l : List Two) (i : Nat) (q : Two), l[i]? = some q → (flat2 l)[2 * i]? = some (.string (bstr q.1)) ∧ (flat2 l)[2 * i + 1]? = some (.string (bstr q.2))
  | [], i, q, h => by simp at h
  | p :: l, 0, q, h => by
    simp only [List.getElem?_cons_zero, Option.some.injEq] at h
    subst h
    exact ⟨rfl, rfl⟩
  | p :: l, i + 1, q, h => by
    simp only [List.getElem?_cons_succ] at h
    have := flat2_get l i q h
    simpa [flat2, Nat.mul_succ] using this
theorem flat2_one (l : List Two) : ∀ u ∈ flat2 l, u.oneCell' = true := by
  intro u hu
  obtain ⟨q, _, hu⟩ := List.mem_flatMap.1 hu
  simp only [List.mem_cons, List.not_mem_nil, or_false] at hu
  rcases hu with rfl | rfl <;> rfl

/-- A row of pairs in memory: none, or cells from an address on. -/
def PRow (w : World) (ao : Option Addr) (l : List Two) : Prop :=
  l = [] ∨ ∃ b off, ao = some ⟨b, off, none⟩ ∧ ∀ i q, l[i]? = some q → w.cell? ⟨b, off + 2 * i, none⟩ = some (.string (bstr q.1)) ∧ w.cell? ⟨b, off + 2 * i + 1, none⟩ = some (.string (bstr q.2))
theorem PRow.keep {w w' : World} {ao : Option Addr} {l : List Two} (h : PRow w ao l) (hb : Below w.heap.size w w') : PRow w' ao l := by
  rcases h with h | ⟨b, off, rfl, hc⟩
  · exact .inl h
  · refine .inr ⟨b, off, rfl, fun i q hi => ?_⟩
    obtain ⟨h1, h2⟩ := hc i q hi
    exact ⟨cell_kept h1 hb, cell_kept h2 hb⟩
theorem PRow.form {w : World} {ao : Option Addr} {l : List Two} (h : PRow w ao l) (hne : 0 < l.length) : ∃ b off, ao = some ⟨b, off, none⟩ := by
  rcases h with rfl | ⟨b, off, rfl, _⟩
  · simp at hne
  · exact ⟨b, off, rfl⟩
theorem PRow.cell {w : World} {b off : Nat} {l : List Two} (h : PRow w (some ⟨b, off, none⟩) l) {i : Nat} {q : Two} (hi : l[i]? = some q) : w.cell? ⟨b, off + 2 * i, none⟩ = some (.string (bstr q.1)) ∧ w.cell? ⟨b, off + 2 * i + 1, none⟩ = some (.string (bstr q.2)) := by
  rcases h with rfl | ⟨b', off', h, hc⟩
  · simp at hi
  · cases h; exact hc i q hi

theorem infoPair : (Tryz.prog.info? 58).map (fun i => (i.zero, i.size, i.bytes)) = some (some (.agg #[.string { data := #[] }, .string { data := #[] }]), 2, 32) := by kernel_rfl
/-- A slice of pairs that is the call's own. -/
def POwn (t : TypeId) (w : World) (B : Nat) (v : Value) (l : List Two) : Prop := w.ownsRow B t 2 v l.length (flat2 l)
theorem pown_nil (t : TypeId) (w : World) (B : Nat) : POwn t w B (.slice none 0 0) [] := World.ownsRow_nil _ _ _ _
theorem POwn.keep {t : TypeId} {w w' : World} {B : Nat} {v : Value} {l : List Two} (h : POwn t w B v l) (hb : Below w.heap.size w w') : POwn t w' B v l := by
  refine ⟨h.1, ?_⟩
  rcases h.2 with h2 | ⟨g, cap, cur, e, hg, hh, r⟩
  · exact .inl h2
  · exact .inr ⟨g, cap, cur, e, hg, (hb.block g (Array.getElem?_eq_some_iff.1 hh).1).trans hh, r⟩
theorem POwn.lower {t : TypeId} {w : World} {B B' : Nat} {v : Value} {l : List Two} (h : POwn t w B v l) (hB : B' ≤ B) : POwn t w B' v l := by
  refine ⟨h.1, ?_⟩
  rcases h.2 with h2 | ⟨g, cap, cur, e, hg, r⟩
  · exact .inl h2
  · exact .inr ⟨g, cap, cur, e, Nat.le_trans hB hg, r⟩
theorem POwn.shape {t : TypeId} {w : World} {B : Nat} {v : Value} {l : List Two} (h : POwn t w B v l) : ∃ ao cap, v = .slice ao l.length cap ∧ l.length ≤ cap ∧ PRow w ao l ∧ (∀ a, ao = some a → B ≤ a.block) := by
  rcases h.2 with ⟨rfl, hn⟩ | ⟨g, cap, cur, rfl, hb, hg, hle, _, _, ht⟩
  · exact ⟨none, 0, by rw [hn], by omega, .inl (List.length_eq_zero_iff.1 hn), fun a ha => by cases ha⟩
  · refine ⟨_, cap, rfl, hle, .inr ⟨g, 0, rfl, fun i q hi => ?_⟩, fun a ha => by cases ha; exact hb⟩
    obtain ⟨h1, h2⟩ := flat2_get l i q hi
    have c1 := World.ownsRow.cells h (g := g) rfl (2 * i) _ h1
    have c2 := World.ownsRow.cells h (g := g) rfl (2 * i + 1) _ h2
    rw [add_none] at c1 c2
    exact ⟨c1, c2⟩
theorem POwn.ge {t : TypeId} {w : World} {B : Nat} {v : Value} {l : List Two} (h : POwn t w B v l) : ∀ k, v.ownBlock = some k → B ≤ k := fun k hk => (World.ownsRow.lt h k hk).1
def outOf : Tried (List Two) → List Two × Nat × Nat
  | .ok l => (l, 0, 0)
  | .error (e, p) => ([], e, p)
def parOut (xs : List Nat) : List Two × Nat × Nat := if 16384 < xs.length then ([], 1, 0) else outOf (parse xs 0 [])
theorem bstr_empty {a : List Nat} (h : a.length ≠ 0) : ((bstr a).toList == ([] : List UInt8)) = false := by
  cases a with
  | nil => simp at h
  | cons x a => simp [bstr]
theorem parse_err : ∀ (n : Nat) (l : List Nat) (i : Nat) (acc : List Two) (e p : Nat), l.length ≤ n → parse l i acc = .error (e, p) → e ≠ 0 ∧ e ≤ 32 ∧ 0 < l.length ∧ p < i + l.length
  | n, l, i, acc, e, p, hn, h => by
    by_cases h0 : l.length = 0
    · rw [List.length_eq_zero_iff] at h0; subst h0; rw [parse_nil] at h; cases h
    · obtain ⟨n, rfl⟩ : ∃ m, n = m + 1 := ⟨n - 1, by omega⟩
      have hle := upTo_le 38 l
      by_cases h1 : (upTo 38 l).length = 0
      · rw [parse_empty i acc (by omega) h1] at h
        have := parse_err n _ _ _ _ _ (by rw [List.length_drop]; omega) h
        rw [List.length_drop] at this
        omega
      · by_cases h2 : acc.length = 64
        · rw [parse_many i acc h1 h2] at h; cases h; omega
        · cases h3 : pairAt (upTo 38 l) i with
          | error e' =>
            obtain ⟨e1, p1⟩ := e'
            rw [parse_bad i acc h1 h2 h3] at h
            cases h
            unfold pairAt at h3
            have hle2 := upTo_le 61 (upTo 38 l)
            cases hu : un (upTo 61 (upTo 38 l)) i with
            | error e2 =>
              rw [hu] at h3
              cases h3
              have := un_err _ _ _ _ _ (Nat.le_refl _) hu
              omega
            | ok nn =>
              rw [hu] at h3
              simp only at h3
              cases hv : un ((upTo 38 l).drop ((upTo 61 (upTo 38 l)).length + 1)) (i + (upTo 61 (upTo 38 l)).length + 1) with
              | error e2 =>
                rw [hv] at h3
                cases h3
                have := un_err _ _ _ _ _ (Nat.le_refl _) hv
                rw [List.length_drop] at this
                omega
              | ok v => rw [hv] at h3; cases h3
          | ok q =>
            rw [parse_good i acc h1 h2 h3] at h
            have := parse_err n _ _ _ _ _ (by rw [List.length_drop]; omega) h
            rw [List.length_drop] at this
            omega
end Go.Proofs.YtjehbdekipmllaaGreatDoor
namespace Go.Proofs.YtjehbdekipmllaaGreatDoor
open Go.RowKit


set_option linter.unusedSimpArgs false in
set_option maxHeartbeats 1000000 in
set_option maxRecDepth 100000 in
theorem parse_any (s : ByteArray) (w : World) (hsz : s.size ≤ 9223372036854775807) (hM : MaxL w) :
    Calls Tryz.prog 75 #[.string s] w fun e w' => ∃ v, e = .returned (.tuple #[v, .int .i64 ((parOut (sbytes s)).2.1 : Nat), .int .i64 ((parOut (sbytes s)).2.2 : Nat)]) ∧ Hid (POwn 58 w' w.heap.size v (parOut (sbytes s)).1 ∧ Below w.heap.size w w') := by
  obtain ⟨xs, HX⟩ : ∃ xs, Hid (xs = sbytes s) := ⟨_, rfl⟩
  have HZ : Hid (s.size = xs.length) := by show _ = _; rw [HX.out, sbytes_length]
  have HXB : Hid (∀ x ∈ xs, x < 256) := by rw [HX.out]; exact sbytes_lt s
  have HM : Hid (MaxL w) := hM
  obtain ⟨i0, hi, hz0, hz1, hz2⟩ := info_parts infoPair
  obtain ⟨n, hn⟩ : ∃ n, n = s.size := ⟨_, rfl⟩
  have HN : Hid (n = s.size) := hn
  have hlen : (s.size : Int) = (n : Int) := by rw [hn]
  rw [← hn] at hsz
  rw [← HX.out]
  clear hn hM
  by_cases hbig : 16384 < n
  · have hbi : (16384 : Int) < (n : Int) := by omega
    have HR : Hid (parOut xs = ([], 1, 0)) := by show _ = _; unfold parOut; rw [if_pos (by rw [← HZ.out, ← HN.out]; exact hbig)]
    rw [HR.out]
    go_enter Tryz.func75, Tryz.ntmps75
    go_wp2
    go_step3
    go_wp2
    rw [Exit.noGoto_ret]
    go_ret3
    exact ⟨_, rfl, pown_nil _ _ _, Below.refl _ _⟩
  · obtain ⟨R, HR⟩ : ∃ R, Hid (R = parse xs 0 []) := ⟨_, rfl⟩
    obtain ⟨O, HO⟩ : ∃ O, Hid (O = parOut xs) := ⟨_, rfl⟩
    have HOR : Hid (O = outOf R) := by show _ = _; rw [HO.out, HR.out]; unfold parOut; rw [if_neg (by rw [← HZ.out, ← HN.out]; exact hbig)]
    rw [← HO.out]
    have hbi : (n : Int) ≤ 16384 := by omega
    go_enter Tryz.func75, Tryz.ntmps75
    go_wp2
    go_step3
    go_wp2
    go_step3
    go_wp2
    go_loopw [5, 6, 7, 8] (fun v f q i wr => ∃ (k : Nat) (acc : List Two), (k ≤ n + 1 ∧ acc.length ≤ 64) ∧ f = .int .i64 0 ∧ q = .int .i64 0 ∧ i = .int .i64 k ∧ Hid (POwn 58 wr w.heap.size v acc ∧ Below w.heap.size w wr) ∧ Hid (R = parse (xs.drop k) k acc)) (fun _ _ _ i _ => n + 1 - (intOf i).toNat)
    case atStart => exact ⟨0, [], ⟨by omega, by simp⟩, rfl, rfl, rfl, ⟨pown_nil _ _ _, Below.refl _ _⟩, by show _ = _; rw [List.drop_zero]; exact HR.out⟩
    case round =>
      obtain ⟨k, acc, ⟨hk, hacc⟩, rfl, rfl, rfl, HI, HD⟩ := hrel
      have hs := HI.out.2.size
      obtain ⟨ao, cap, hv, hcap, _, _⟩ := HI.out.1.shape
      obtain ⟨m, hm⟩ : ∃ m, m = acc.length := ⟨_, rfl⟩
      rw [← hm] at hv hcap hacc
      have HV : Hid (m = acc.length) := hm
      subst hv
      clear hm
      by_cases hlt : k < n
      · have hfr := str_from s k (k : Int) rfl (by rw [← HN.out]; omega)
        rw [← HX.out] at hfr
        obtain ⟨ys, HY⟩ : ∃ ys, Hid (ys = xs.drop k) := ⟨_, rfl⟩
        rw [← HY.out] at hfr
        have HYL : Hid (ys.length = n - k) := by show _ = _; rw [HY.out, List.length_drop, ← HZ.out, ← HN.out]
        have HYB : Hid (sbytes (bstr ys) = ys) := by rw [HY.out]; exact sbytes_bstr (lt_drop HXB.out _)
        have hyz : (bstr ys).size ≤ 16384 := by rw [bstr_size, HYL.out]; omega
        obtain ⟨a, HA⟩ : ∃ a, Hid (a = upTo 38 ys) := ⟨_, rfl⟩
        have hal : a.length ≤ n - k := by have := upTo_le 38 ys; rw [← HA.out, HYL.out] at this; exact this
        rw [← HY.out] at HD
        have HDR : Hid (ys.drop (a.length + 1) = xs.drop (k + a.length + 1)) := by show _ = _; rw [HY.out, List.drop_drop]; congr 1
        have HDR1 : Hid (ys.drop 1 = xs.drop (k + 1)) := by show _ = _; rw [HY.out, List.drop_drop]
        have HAB : Hid (sbytes (bstr a) = a) := by
          refine sbytes_bstr fun x hx => ?_
          rw [HA.out, upTo_take] at hx
          rw [HY.out] at hx
          exact HXB.out x (List.mem_of_mem_drop (List.mem_of_mem_take hx))
        have hlaz : ((bstr a).size : Int) = (a.length : Int) := by rw [bstr_size]
        go_wp2_with fail
        refine (cut_any (bstr ys) 38 _ (by omega) (HM.out.keep HI.out.2)).mono ?_
        rintro e w1 ⟨f, rfl, hb1, _⟩
        rw [HYB.out, show UInt8.toNat 38 = 38 from rfl, ← HA.out]
        have HB1 : Hid (Below w.heap.size w w1) := HI.out.2.trans (hb1.mono hs)
        have HP1 : Hid (POwn 58 w1 w.heap.size (.slice ao m cap) acc) := HI.out.1.keep hb1
        have hs1 := HB1.out.size
        clear hb1
        generalize bstr (ys.drop (a.length + 1)) = aft at *
        by_cases ha0 : a.length = 0
        · have HD2 : Hid (R = parse (xs.drop (k + 1)) (k + 1) acc) := by
            show _ = _
            rw [HD.out, parse_empty k acc (by rw [HYL.out]; omega) (by rw [← HA.out]; exact ha0), HDR1.out]
          rw [List.length_eq_zero_iff] at ha0
          subst ha0
          rw [show bstr [] = { data := #[] } from rfl]
          clear HD
          go_wp2
          go_roundw
          case rel => exact ⟨k + 1, acc, ⟨by omega, by rw [← HV.out]; exact hacc⟩, rfl, rfl, by go_num, ⟨HP1.out, HB1.out⟩, HD2⟩
          case measure => simp [intOf]; omega
        · have hpe := bstr_empty ha0
          by_cases hm64 : m = 64
          · have HD2 : Hid (O = ([], 32, k)) := by
              show _ = _
              rw [HOR.out, HD.out, parse_many k acc (by rw [← HA.out]; exact ha0) (by rw [← HV.out]; exact hm64)]
              rfl
            subst hm64
            clear HD
            go_wp2
            rw [Exit.noGoto_ret]
            go_ret3
            exact ⟨.slice none 0 0, by rw [HD2.out]; rfl, by rw [HD2.out]; exact pown_nil _ _ _, HB1.out⟩
          · have hm64i : ((m : Int) == 64) = false := by rw [beq_eq_false_iff_ne]; omega
            go_wp2_with fail
            refine (parsePair_any (bstr a) w1 (by rw [bstr_size]; omega) (HM.out.keep HB1.out)).mono ?_
            rintro e w2 ⟨rfl, hb2⟩
            rw [HAB.out]
            have HB2 : Hid (Below w.heap.size w w2) := HB1.out.trans (hb2.mono hs1)
            have HP2 : Hid (POwn 58 w2 w.heap.size (.slice ao m cap) acc) := HP1.out.keep hb2
            have hs2 := HB2.out.size
            clear hb2
            cases hp : pairAt a 0 with
            | error ep =>
              obtain ⟨e0, p0⟩ := ep
              have hpk : pairAt (upTo 38 ys) k = .error (e0, k + p0) := by rw [← HA.out, pairAt_shift, hp]; rfl
              have hR : parse ys k acc = .error (e0, k + p0) := parse_bad k acc (by rw [← HA.out]; exact ha0) (by rw [← HV.out]; exact hm64) hpk
              have HD2 : Hid (O = ([], e0, k + p0)) := by
                show _ = _
                rw [HOR.out, HD.out, hR]; rfl
              obtain ⟨h1, h2, _, h4⟩ := parse_err _ _ _ _ _ _ (Nat.le_refl _) hR
              rw [HYL.out] at h4
              have hne : ((e0 : Int) != 0) = true := by rw [bne_iff_ne]; omega
              clear HD hp hpk hR
              simp only [pairRes]
              go_wp2
              rw [Exit.noGoto_ret]
              go_ret3
              exact ⟨.slice none 0 0, by rw [HD2.out]; simp, by rw [HD2.out]; exact pown_nil _ _ _, (HB2.out.alloc hs2 _)⟩
            | ok q =>
              have HD2 : Hid (R = parse (xs.drop (k + a.length + 1)) (k + a.length + 1) (acc ++ [q])) := by
                show _ = _
                rw [HD.out, parse_good k acc (by rw [← HA.out]; exact ha0) (by rw [← HV.out]; exact hm64) (q := q) (by rw [← HA.out]; exact pairAt_any hp k), ← HA.out, HDR.out]
              clear HD hp
              simp only [pairRes]
              obtain ⟨qn, hqn⟩ : ∃ b, b = bstr q.1 := ⟨_, rfl⟩
              obtain ⟨qv, hqv⟩ : ∃ b, b = bstr q.2 := ⟨_, rfl⟩
              rw [← hqn, ← hqv]
              have HQ : Hid (qn = bstr q.1 ∧ qv = bstr q.2) := ⟨hqn, hqv⟩
              clear hqn hqv
              go_wp2_with (first | (at_builtin; refine wpList_append_own _ rfl (.tmp 52) (.tmp 54) 59 rfl w.heap.size 58 i0 (.agg #[.string { data := #[] }, .string { data := #[] }]) 2 32 Tryz.underlying59 hi hz0 hz1 hz2 rfl (by decide) _ acc.length (flat2 acc) rfl (World.ownsRow.alloc (World.ownsRow.alloc HP2.out _) _) ⟨w2.heap.size + 1, 0, none⟩ 1 1 [.string qn, .string qv] rfl rfl (two_new _ _ (by simp) _ _ _) (by intro u hu; simp at hu; rcases hu with rfl | rfl <;> rfl) (by unfold maxLen; rw [← HV.out]; omega) (by rw [← HV.out]; omega) (by simp; omega) ?_; intro v3 w3 hown3 hgrow3 hnil3))
              have HI3 : Hid (POwn 58 w3 w.heap.size v3 (acc ++ [q]) ∧ Below w.heap.size w w3) := by
                refine ⟨?_, ((HB2.out.alloc hs2 _).alloc (by simp; omega) _).grown hgrow3 (by simp; omega) HP2.out.ge⟩
                unfold POwn
                rw [List.length_append, flat2_snoc, ← HQ.out.1, ← HQ.out.2]
                exact hown3
              clear hown3 hgrow3 hnil3
              go_roundw
              case rel => exact ⟨k + a.length + 1, acc ++ [q], ⟨by omega, by rw [List.length_append, ← HV.out]; simp; omega⟩, rfl, rfl, by go_num, HI3, HD2⟩
              case measure => simp [intOf]; omega
      · have HD2 : Hid (O = (acc, 0, 0)) := by
          show _ = _
          rw [HOR.out, HD.out, List.drop_eq_nil_of_le (by rw [← HZ.out, ← HN.out]; omega), parse_nil]; rfl
        clear HD
        go_wp2
        rw [Exit.noGoto_ret]
        go_ret3
        exact ⟨.slice ao m cap, by rw [HD2.out]; rfl, by rw [HD2.out]; exact HI.out.1, HI.out.2⟩
end Go.Proofs.YtjehbdekipmllaaGreatDoor
namespace Go.Proofs.YtjehbdekipmllaaGreatDoor
open Go.RowKit

theorem parOut_len (xs : List Nat) : (parOut xs).1.length ≤ 64 ∧ ∀ q ∈ (parOut xs).1, bytes2 q := by
  unfold parOut
  split
  · simp
  · cases h : parse xs 0 [] with
    | ok l => exact parse_lt _ _ _ _ _ (Nat.le_refl _) (by simp) (by simp) h
    | error e => obtain ⟨a, b⟩ := e; simp [outOf]
theorem parse_m (s : ByteArray) (l : List Two) (er pl m : Nat) (w : World) (hO : parOut (sbytes s) = (l, er, pl)) (hm : m = l.length) (hsz : s.size ≤ 9223372036854775807) (hM : MaxL w) :
    Calls Tryz.prog 75 #[.string s] w fun e w' => ∃ fo fc, e = .returned (.tuple #[.slice fo m fc, .int .i64 (er : Int), .int .i64 (pl : Int)]) ∧ Hid (POwn 58 w' w.heap.size (.slice fo m fc) l ∧ Below w.heap.size w w') := by
  subst hm
  refine (parse_any s w hsz hM).mono ?_
  rintro e w' ⟨v, rfl, h⟩
  rw [hO] at h ⊢
  obtain ⟨fo, fc, rfl, _⟩ := h.out.1.shape
  exact ⟨fo, fc, rfl, h⟩
theorem POwn.row {t : TypeId} {w : World} {B n c : Nat} {ao : Option Addr} {l : List Two} (h : POwn t w B (.slice ao n c) l) : PRow w ao l := by
  obtain ⟨a, c', e, _, hr, _⟩ := h.shape
  cases e
  exact hr
end Go.Proofs.YtjehbdekipmllaaGreatDoor
