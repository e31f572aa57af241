/- Lists, requests and responses that are the same, by the law. -/
import Derived.Test.YtaenccjlokiejaaGreatDoorHOurs
namespace Go.Proofs.YtaenccjlokiejaaGreatDoor
open Go.RowKit Go.Shelf

set_option maxHeartbeats 1000000 in
set_option maxRecDepth 100000 in
theorem fields_same (so so2 : Option Addr) (l : List Fl) (n c c2 : Nat) (w : World) (hn : n = l.length) (hnl : n ≤ 4611686018427387904) (h1 : FRow w so l) (h2 : FRow w so2 l) :
    Calls Tryz.prog 27 #[.slice so n c, .slice so2 n c2] w fun e w' => e = .returned (.bool true) ∧ Below w.heap.size w w' := by
  have HN := hide hn
  have H1 := hide h1
  have H2 := hide h2
  have HNL := hide hnl
  clear hn h1 h2 hnl
  go_enter Tryz.func27, Tryz.ntmps27
  go_wp2_with fail
  go_loopw [5] (fun i wr => ∃ k : Nat, k ≤ n ∧ i = .int .i64 (k : Int) ∧ Hid (Below w.heap.size w wr)) (fun i _ => n - (intOf i).toNat)
  case atStart => exact ⟨0, Nat.zero_le _, rfl, Below.refl _ _⟩
  case round =>
    obtain ⟨k, hk, rfl, HBF⟩ := hrel
    by_cases hkn : k < n
    · obtain ⟨f, hf⟩ : ∃ f, l[k]? = some f := ⟨_, List.getElem?_eq_getElem (by rw [← HN.out]; exact hkn)⟩
      obtain ⟨b, off, rfl⟩ := H1.out.form (by have := HN.out; omega)
      obtain ⟨b2, off2, rfl⟩ := H2.out.form (by have := HN.out; omega)
      obtain ⟨y1, y2⟩ := (H1.out.keep HBF.out).cell hf
      obtain ⟨z1, z2⟩ := (H2.out.keep HBF.out).cell hf
      rw [Nat.mul_comm] at y1 y2 z1 z2
      have hkb : (k : Int) + 1 ≤ 4611686018427387904 + 1 := by have := HNL.out; omega
      generalize str f.1 = s1 at *
      generalize str f.2 = s2 at *
      clear hf
      go_wp2_with fail
      go_quiet (fail)
      go_wp2_with fail
      go_roundw
      case rel => exact ⟨k + 1, by omega, by go_num, below_drewN HBF.out _⟩
      case measure => simp [intOf]; omega
    · obtain rfl : k = n := by omega
      go_wp2_with fail
      go_ret
      exact ⟨rfl, HBF.out⟩
/-- A block of four cells, of three. -/
def Q4 (t : TypeId) (w : World) (b : Nat) (x y z u : Value) : Prop := w.heap[b]? = some (.cells #[x, y, z, u] t (0, 0))
theorem Q4.cells {t : TypeId} {w : World} {b : Nat} {x y z u : Value} (h : Q4 t w b x y z u) : w.cell? ⟨b, 0, none⟩ = some x ∧ w.cell? ⟨b, 1, none⟩ = some y ∧ w.cell? ⟨b, 2, none⟩ = some z ∧ w.cell? ⟨b, 3, none⟩ = some u := by
  refine ⟨?_, ?_, ?_, ?_⟩ <;> rw [Lib.cell_of_heap h] <;> rfl
theorem Q4.frozen {t : TypeId} {w : World} {b : Nat} {x y z u : Value} (h : Q4 t w b x y z u) (i : Nat) : w.frozen? ⟨b, i, none⟩ = false := Lib.frozen_of_heap h i
theorem Q4.keep {t : TypeId} {w w' : World} {b : Nat} {x y z u : Value} (h : Q4 t w b x y z u) (hb : Below w.heap.size w w') : Q4 t w' b x y z u := (hb.block b (Array.getElem?_eq_some_iff.1 h).1).trans h
theorem Q4.set2 {t : TypeId} {w : World} {b : Nat} {x y z u : Value} (h : Q4 t w b x y z u) (v : Value) : Q4 t (w.setCell ⟨b, 2, none⟩ v) b x y v u := by
  show _ = _
  rw [setCell_eq_setRow w b 2 _ _ _ _ h, setRow_heap w b _ _ _ _ h]
  rfl
theorem Q4.put {t : TypeId} {w : World} {b : Nat} {x y z u : Value} (h : Q4 t w b x y z u) (x' y' z' u' : Value) : Q4 t (put4 w b x' y' z' u') b x' y' z' u' := by
  have s0 : Q4 t (w.setCell ⟨b, 0, none⟩ x') b x' y z u := by show _ = _; rw [setCell_eq_setRow w b 0 _ _ _ _ h, setRow_heap w b _ _ _ _ h]; rfl
  have s1 : Q4 t ((w.setCell ⟨b, 0, none⟩ x').setCell ⟨b, 1, none⟩ y') b x' y' z u := by show _ = _; rw [setCell_eq_setRow _ b 1 _ _ _ _ s0, setRow_heap _ b _ _ _ _ s0]; rfl
  have s2 := s1.set2 z'
  show _ = _
  unfold put4
  rw [setCell_eq_setRow _ b 3 _ _ _ _ s2, setRow_heap _ b _ _ _ _ s2]
  rfl
def Q3 (t : TypeId) (w : World) (b : Nat) (x y z : Value) : Prop := w.heap[b]? = some (.cells #[x, y, z] t (0, 0))
theorem Q3.cells {t : TypeId} {w : World} {b : Nat} {x y z : Value} (h : Q3 t w b x y z) : w.cell? ⟨b, 0, none⟩ = some x ∧ w.cell? ⟨b, 1, none⟩ = some y ∧ w.cell? ⟨b, 2, none⟩ = some z := by
  refine ⟨?_, ?_, ?_⟩ <;> rw [Lib.cell_of_heap h] <;> rfl
theorem Q3.frozen {t : TypeId} {w : World} {b : Nat} {x y z : Value} (h : Q3 t w b x y z) (i : Nat) : w.frozen? ⟨b, i, none⟩ = false := Lib.frozen_of_heap h i
theorem Q3.keep {t : TypeId} {w w' : World} {b : Nat} {x y z : Value} (h : Q3 t w b x y z) (hb : Below w.heap.size w w') : Q3 t w' b x y z := (hb.block b (Array.getElem?_eq_some_iff.1 h).1).trans h
theorem Q3.set1 {t : TypeId} {w : World} {b : Nat} {x y z : Value} (h : Q3 t w b x y z) (v : Value) : Q3 t (w.setCell ⟨b, 1, none⟩ v) b x v z := by
  show _ = _
  rw [setCell_eq_setRow w b 1 _ _ _ _ h, setRow_heap w b _ _ _ _ h]
  rfl
theorem Q3.put {t : TypeId} {w : World} {b : Nat} {x y z : Value} (h : Q3 t w b x y z) (x' y' z' : Value) : Q3 t (put3 w b x' y' z') b x' y' z' := by
  have s0 : Q3 t (w.setCell ⟨b, 0, none⟩ x') b x' y z := by show _ = _; rw [setCell_eq_setRow w b 0 _ _ _ _ h, setRow_heap w b _ _ _ _ h]; rfl
  have s1 := s0.set1 y'
  show _ = _
  unfold put3
  rw [setCell_eq_setRow _ b 2 _ _ _ _ s1, setRow_heap _ b _ _ _ _ s1]
  rfl
set_option maxHeartbeats 1000000 in
set_option maxRecDepth 100000 in
theorem request_same (m t b : U) (l : List Fl) (so so2 : Option Addr) (n c c2 : Nat) (w : World) (hn : n = l.length) (hnl : n ≤ 4611686018427387904) (h1 : FRow w so l) (h2 : FRow w so2 l) :
    Calls Tryz.prog 16 #[.agg #[.string (str m), .string (str t), .slice so n c, .string (str b)], .agg #[.string (str m), .string (str t), .slice so2 n c2, .string (str b)]] w fun e w' => e = .returned (.bool true) ∧ Below w.heap.size w w' := by
  generalize str m = sm
  generalize str t = st
  generalize str b = sb
  have HF := hide (fun W a b => fields_same so so2 l n c c2 W hn hnl a b)
  have hx : Q4 27 ((w.alloc (.cells #[.string sm, .string st, .slice so n c, .string sb] 27)).alloc (.cells #[.string sm, .string st, .slice so2 n c2, .string sb] 32)) w.heap.size (.string sm) (.string st) (.slice so n c) (.string sb) := up_at _ (new_at _ _ _ rfl)
  have hy : Q4 32 ((w.alloc (.cells #[.string sm, .string st, .slice so n c, .string sb] 27)).alloc (.cells #[.string sm, .string st, .slice so2 n c2, .string sb] 32)) (w.heap.size + 1) (.string sm) (.string st) (.slice so2 n c2) (.string sb) := new_at _ _ _ (by simp)
  have HB0 : Hid (Below w.heap.size w ((w.alloc (.cells #[.string sm, .string st, .slice so n c, .string sb] 27)).alloc (.cells #[.string sm, .string st, .slice so2 n c2, .string sb] 32))) := (below_new _ _).alloc (by simp) _
  obtain ⟨x0, x1, x2, x3⟩ := hx.cells
  obtain ⟨y0, y1, y2, y3⟩ := hy.cells
  have HF2 := hide (HF.out _ (h1.keep HB0.out) (h2.keep HB0.out))
  clear hx hy HF hn hnl h1 h2
  go_enter Tryz.func16, Tryz.ntmps16
  go_upto_region 1 with fail
  generalize (w.alloc (.cells #[.string sm, .string st, .slice so n c, .string sb] 27)).alloc (.cells #[.string sm, .string st, .slice so2 n c2, .string sb] 32) = w0 at *
  go_wp2_with fail
  refine HF2.out.mono ?_
  rintro e w2 ⟨rfl, hb2⟩
  have HB2 := hide (HB0.out.trans (hb2.mono HB0.out.size))
  clear hb2 HF2
  go_wp2_with fail
  go_ret
  exact ⟨rfl, HB2.out⟩
set_option maxHeartbeats 1000000 in
set_option maxRecDepth 100000 in
theorem response_same (i : Int) (b : U) (l : List Fl) (so so2 : Option Addr) (n c c2 : Nat) (w : World) (hn : n = l.length) (hnl : n ≤ 4611686018427387904) (h1 : FRow w so l) (h2 : FRow w so2 l) :
    Calls Tryz.prog 20 #[.agg #[.int .i64 i, .slice so n c, .string (str b)], .agg #[.int .i64 i, .slice so2 n c2, .string (str b)]] w fun e w' => e = .returned (.bool true) ∧ Below w.heap.size w w' := by
  generalize str b = sb
  have HF := hide (fun W a b => fields_same so so2 l n c c2 W hn hnl a b)
  have hx : Q3 39 ((w.alloc (.cells #[.int .i64 i, .slice so n c, .string sb] 39)).alloc (.cells #[.int .i64 i, .slice so2 n c2, .string sb] 43)) w.heap.size (.int .i64 i) (.slice so n c) (.string sb) := up_at _ (new_at _ _ _ rfl)
  have hy : Q3 43 ((w.alloc (.cells #[.int .i64 i, .slice so n c, .string sb] 39)).alloc (.cells #[.int .i64 i, .slice so2 n c2, .string sb] 43)) (w.heap.size + 1) (.int .i64 i) (.slice so2 n c2) (.string sb) := new_at _ _ _ (by simp)
  have HB0 : Hid (Below w.heap.size w ((w.alloc (.cells #[.int .i64 i, .slice so n c, .string sb] 39)).alloc (.cells #[.int .i64 i, .slice so2 n c2, .string sb] 43))) := (below_new _ _).alloc (by simp) _
  obtain ⟨x0, x1, x2⟩ := hx.cells
  obtain ⟨y0, y1, y2⟩ := hy.cells
  have HF2 := hide (HF.out _ (h1.keep HB0.out) (h2.keep HB0.out))
  clear hx hy HF hn hnl h1 h2
  go_enter Tryz.func20, Tryz.ntmps20
  go_upto_region 1 with fail
  generalize (w.alloc (.cells #[.int .i64 i, .slice so n c, .string sb] 39)).alloc (.cells #[.int .i64 i, .slice so2 n c2, .string sb] 43) = w0 at *
  go_wp2_with fail
  refine HF2.out.mono ?_
  rintro e w2 ⟨rfl, hb2⟩
  have HB2 := hide (HB0.out.trans (hb2.mono HB0.out.size))
  clear hb2 HF2
  go_wp2_with fail
  go_ret
  exact ⟨rfl, HB2.out⟩
end Go.Proofs.YtaenccjlokiejaaGreatDoor
