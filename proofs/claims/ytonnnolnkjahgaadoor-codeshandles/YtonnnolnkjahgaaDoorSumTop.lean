/- The contract of digest.Sum: for every row of bytes its sum; nothing old turns. -/
import Derived.Test.YtonnnolnkjahgaaDoorSumFn
namespace Go.Proofs.YtonnnolnkjahgaaDoor
open Go.RowKit

/-- A Hash that goes on from register r behind past bytes (whole blocks), and took bs since. -/
def HState (w : World) (g : Nat) (r : List Nat) (past : Nat) (bs : List Nat) : Prop := Hsh w g (absorb r bs) (hold bs) (past + bs.length) ∧ past % 64 = 0 ∧ r.length = 8 ∧ ∀ x ∈ bs, x < 256
theorem HState.keep {w w' : World} {g : Nat} {r : List Nat} {past : Nat} {bs : List Nat} (h : HState w g r past bs) (hb : Below w.heap.size w w') : HState w' g r past bs := ⟨h.1.keep hb, h.2⟩
theorem HState.below {w w' : World} {g B : Nat} {r : List Nat} {past : Nat} {bs : List Nat} (h : HState w g r past bs) (hb : Below B w w') (hg : g < B) : HState w' g r past bs := ⟨h.1.below hb hg, h.2⟩
theorem HState.but {w w' : World} {g k : Nat} {r : List Nat} {past : Nat} {bs : List Nat} (h : HState w k r past bs) (hb : But g w w') (hk : k ≠ g) : HState w' k r past bs := ⟨h.1.but hb hk, h.2⟩
theorem HState.lt {w : World} {g : Nat} {r : List Nat} {past : Nat} {bs : List Nat} (h : HState w g r past bs) : g < w.heap.size := h.1.1.lt

theorem newState_any (w : World) : Calls Tryd.prog 49 #[] w fun e w' => ∃ g, e = .returned (.pointer (some ⟨g, 0, none⟩)) ∧ Hid (w.heap.size ≤ g ∧ g < w'.heap.size ∧ HState w' g first8 0 [] ∧ Below w.heap.size w w') := by
  refine (new_any w).mono ?_
  rintro e w' ⟨g, rfl, h⟩
  exact ⟨g, rfl, h.out.1, h.out.2.1, ⟨h.out.2.2.1, rfl, rfl, by simp⟩, h.out.2.2.2⟩
theorem writeState_any (g n cap past : Nat) (ao : Option Addr) (xs r bs : List Nat) (w : World) (hh : HState w g r past bs) (hs : past + bs.length + xs.length < 9223372036854775808) (hx : ∀ x ∈ xs, x < 256) (hr : Row w ao xs) (hao : 0 < n → ∀ a, ao = some a → a.block ≠ g) (hn : n = xs.length) (hnc : n ≤ cap) (hT : Roots w 2) (hg : 2 ≠ g) :
    Calls Tryd.prog 50 #[.pointer (some ⟨g, 0, none⟩), .slice ao n cap] w fun e w' => e = .returned (.tuple #[]) ∧ Hid (HState w' g r past (bs ++ xs) ∧ But g w w') := by
  have e1 : hold (rest bs) = hold bs := by unfold hold; rw [rest_short (l := rest bs) (by rw [rest_length]; omega)]
  refine (write_any g n cap (past + bs.length) ao xs (absorb r bs) (rest bs) w (by rw [e1]; exact hh.1) (by rw [rest_length]; have := hh.2.1; omega) hs hx (rest_lt hh.2.2.2) hr hao hn hnc hT hg).mono ?_
  rintro e w' ⟨rfl, h⟩
  refine ⟨rfl, ⟨?_, hh.2.1, hh.2.2.1, lt_append hh.2.2.2 hx⟩, h.out.2⟩
  have h1 := h.out.1
  have e2 : absorb (absorb r bs) (rest bs ++ xs) = absorb r (bs ++ xs) := by
    conv => rhs; rw [split_rest bs]
    rw [List.append_assoc, absorb_append _ _ _ (head_length bs), absorb_head]
  have e3 : rest (rest bs ++ xs) = rest (bs ++ xs) := by
    have hl := rest_length bs
    have hl2 : (bs ++ xs).length / 64 = bs.length / 64 + (rest bs ++ xs).length / 64 := by rw [List.length_append, List.length_append, hl]; omega
    show (rest bs ++ xs).drop _ = (bs ++ xs).drop _
    have ed : (bs ++ xs).drop (64 * (bs.length / 64)) = rest bs ++ xs := by
      rw [show bs ++ xs = bs.take (64 * (bs.length / 64)) ++ (rest bs ++ xs) by rw [← List.append_assoc, ← split_rest]]
      exact List.drop_left' (by rw [List.length_take]; omega)
    rw [hl2, Nat.mul_add, ← List.drop_drop, ed]
  have e4 : hold (rest bs ++ xs) = hold (bs ++ xs) := by unfold hold; rw [e3]
  rw [e2, e4] at h1
  rw [List.length_append, ← Nat.add_assoc]
  exact h1
theorem sumState_any (g past : Nat) (r bs : List Nat) (w : World) (hh : HState w g r past bs) (hT : Roots w 2) :
    Calls Tryd.prog 51 #[.pointer (some ⟨g, 0, none⟩)] w fun e w' => e = .returned (.agg ((total r past bs).map bv).toArray) ∧ Below w.heap.size w w' := by
  rw [total_fin]
  exact hsum_any g (past + bs.length) (absorb r bs) bs w hh.1 (by have := hh.2.1; omega) hh.2.2.2 hT

set_option maxHeartbeats 1000000 in
set_option maxRecDepth 100000 in
theorem sum_any (n cap : Nat) (ao : Option Addr) (xs : List Nat) (w : World) (hl : n ≤ 281474976710656) (hn : n = xs.length) (hnc : n ≤ cap) (hx : ∀ x ∈ xs, x < 256) (hr : Row w ao xs) (hT : Roots w 2) :
    Calls Tryd.prog 41 #[.slice ao n cap] w fun e w' => e = .returned (.agg ((sha xs).map bv).toArray) ∧ Below w.heap.size w w' := by
  have HX : Hid (∀ x ∈ xs, x < 256) := hx
  have HT : Hid (Roots w 2) := hT
  have HR : Hid (Row w ao xs) := hr
  have HN : Hid (n = xs.length) := hn
  have h00 : 2 < w.heap.size := hT.lt
  have HSL : Hid ((sha xs).length = 32) := sha_length xs
  have HSE : Hid (total first8 0 ([] ++ xs) = sha xs) := rfl
  clear hx hT hr hn
  generalize sha xs = out at *
  go_enter Tryd.func41, Tryd.ntmps41
  go_wp2_with fail
  refine (newState_any _).mono ?_
  rintro e w1 ⟨g, rfl, h1⟩
  have HZ1 : Hid (Bl w1 w.heap.size ((List.replicate 32 0).map bv) 64) := (Bl.new w _ _).keep h1.out.2.2.2
  have HL1 : Hid (Below w.heap.size w w1) := ((Below.refl _ _).alloc (Nat.le_refl _) _).trans (h1.out.2.2.2.mono (by simp))
  have hg : w.heap.size < g := by have := h1.out.1; simp at this; omega
  have HS1 : Hid (HState w1 g first8 0 []) := h1.out.2.2.1
  have hao : Hid (0 < n → ∀ a, ao = some a → a.block ≠ g) := fun h0 a ha => by
    subst ha
    rcases HR.out with h | ⟨b, off, he, hc⟩
    · rw [HN.out, h] at h0; simp at h0
    · cases he
      have := World.block_lt_of_cell? w _ (hc 0 (by rw [← HN.out]; exact h0))
      simp at this ⊢; omega
  clear h1
  go_wp2_with fail
  refine (writeState_any g n cap 0 ao xs first8 [] w1 HS1.out (by rw [← HN.out]; simp; omega) HX.out (HR.out.keep HL1.out) hao.out HN.out hnc (HT.out.keep HL1.out) (by omega)).mono ?_
  rintro e w2 ⟨rfl, h2⟩
  have HZ2 : Hid (Bl w2 w.heap.size ((List.replicate 32 0).map bv) 64) := HZ1.out.but h2.out.2 (by omega)
  have HL2 : Hid (Below w.heap.size w w2) := HL1.out.trans (h2.out.2.below (by omega) HL1.out.size)
  have HS2 : Hid (HState w2 g first8 0 ([] ++ xs)) := h2.out.1
  clear h2
  go_wp2_with fail
  refine (sumState_any g 0 first8 _ w2 HS2.out (HT.out.keep HL2.out)).mono ?_
  rintro e w3 ⟨rfl, h3⟩
  rw [HSE.out]
  have HZ3 : Hid (Bl w3 w.heap.size ((List.replicate 32 0).map bv) 64) := HZ2.out.keep h3
  have HL3 : Hid (Below w.heap.size w w3) := HL2.out.trans (h3.mono HL2.out.size)
  have HC : Hid ((Tryd.prog.info? 64).map (·.size) = some (out.map bv).toArray.size) := by show _ = _; rw [size24]; simp [HSL.out]
  clear h3
  go_wp2_with (first | (refine wpList_store_row rfl 64 _ _ rfl w.heap.size (out.map bv).toArray rfl rfl 64 ((List.replicate 32 0).map bv).toArray HZ3.out HC.out (by simp [HSL.out]) (all_oneCell_toArray (bv_one _)) ?_) | fail)
  refine bodyPost_ret (results_cell_row rfl _ _ w.heap.size 64 (out.map bv).toArray (0, 0) _ rfl (HZ3.out.setRow _) Tryd.underlying64 rfl HC.out) rfl ⟨rfl, below_setRow HL3.out (Nat.le_refl _) _⟩
end Go.Proofs.YtonnnolnkjahgaaDoor
