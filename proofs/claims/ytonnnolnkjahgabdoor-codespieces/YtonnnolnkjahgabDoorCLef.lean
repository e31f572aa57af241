/- Bytes that one owns, from some place of a block on: read, cut at the head, appended to; the frame of a call that writes into some blocks. -/
import Derived.Test.YtonnnolnkjahgabDoorBl
import Derived.Test.YtonnnolnkjahgabDoorSBytes
namespace Go.Proofs.YtonnnolnkjahgabDoor
open Go.RowKit

/-- Of what was there nothing has turned but these blocks. -/
structure Fr (fp : List Nat) (w w' : World) : Prop where
  os : w'.os = w.os
  tape : w'.tape = w.tape
  output : w'.output = w.output
  size : w.heap.size ≤ w'.heap.size
  block : ∀ k, k < w.heap.size → k ∉ fp → w'.heap[k]? = w.heap[k]?
theorem Fr.refl (fp : List Nat) (w : World) : Fr fp w w := ⟨rfl, rfl, rfl, Nat.le_refl _, fun _ _ _ => rfl⟩
theorem Fr.of {fp : List Nat} {w w' : World} (h : Below w.heap.size w w') : Fr fp w w' := ⟨h.os, h.tape, h.output, h.size, fun k hk _ => h.block k hk⟩
theorem Fr.grown {fp : List Nat} {w w' : World} {row : Option Nat} (h : w.grownBy w' row) (hr : ∀ j, row = some j → j ∈ fp) : Fr fp w w' := ⟨h.os, h.tape, h.output, h.size, fun k hk hn => h.block k hk (fun e => hn (hr k e.symm))⟩
theorem Fr.trans {fp fq : List Nat} {a b c : World} (h : Fr fp a b) (k : Fr fq b c) (hq : ∀ x ∈ fq, x ∈ fp ∨ a.heap.size ≤ x) : Fr fp a c :=
  ⟨k.os.trans h.os, k.tape.trans h.tape, k.output.trans h.output, Nat.le_trans h.size k.size, fun x hx hn => (k.block x (Nat.lt_of_lt_of_le hx h.size) (fun e => by
    rcases hq x e with h1 | h1
    · exact hn h1
    · omega)).trans (h.block x hx hn)⟩
theorem Fr.below {fp : List Nat} {a b : World} (h : Fr fp a b) (B : Nat) (hB : B ≤ a.heap.size) (hf : ∀ x ∈ fp, B ≤ x) : Below B a b := ⟨h.os, h.tape, h.output, h.size, fun k hk => h.block k (by omega) (fun e => by have := hf k e; omega)⟩
theorem Fr.setCell (fp : List Nat) (w : World) (g i : Nat) (v : Value) (hg : g ∈ fp) : Fr fp w (w.setCell ⟨g, i, none⟩ v) := ⟨rfl, rfl, rfl, by simp [World.setCell], fun k _ hk => heap_setCell_other w ⟨g, i, none⟩ k v (fun e => hk (e ▸ hg))⟩
theorem Fr.alloc (fp : List Nat) (w : World) (o : Obj) : Fr fp w (w.alloc o) := Fr.of (below_new w o)
theorem Fr.bl {fp : List Nat} {w w' : World} {g : Nat} {cs : List Value} {t : TypeId} (h : Bl w g cs t) (hf : Fr fp w w') (hg : g ∉ fp) : Bl w' g cs t := (hf.block g h.lt hg).trans h
theorem Fr.undrew {fp : List Nat} {w w' : World} (h : Fr fp w.drew w') : Fr fp w w' := ⟨h.os, h.tape, h.output, h.size, h.block⟩

/-- Bytes that one owns: none, or cells of a whole block from a place on. -/
def Lef (w : World) (v : Value) (xs : List Nat) : Prop :=
  (∃ ao, v = .slice ao 0 0 ∧ xs = []) ∨ ∃ g off cap cur, v = .slice (some ⟨g, off, none⟩) xs.length cap ∧ Bl w g cur 5 ∧ xs.length ≤ cap ∧ off + cap ≤ cur.length ∧ cap ≤ maxLen ∧ ∀ i, i < xs.length → cur[off + i]? = some (bv (xs.getD i 0))
theorem lef_nil (w : World) : Lef w (.slice none 0 0) [] := .inl ⟨none, rfl, rfl⟩
theorem Lef.read {w : World} {v : Value} {xs : List Nat} (h : Lef w v xs) : ∃ ao cap, v = .slice ao xs.length cap ∧ xs.length ≤ cap ∧ Row w ao xs := by
  rcases h with ⟨ao, rfl, rfl⟩ | ⟨g, off, cap, cur, rfl, hb, hle, _, _, hc⟩
  · exact ⟨ao, 0, rfl, Nat.le_refl _, .inl rfl⟩
  · exact ⟨_, cap, rfl, hle, .inr ⟨g, off, rfl, fun i hi => by rw [hb.cell]; exact hc i hi⟩⟩
theorem Lef.apart {fp : List Nat} {w w' : World} {v : Value} {xs : List Nat} (h : Lef w v xs) (hf : Fr fp w w') (hn : ∀ g, v.ownBlock = some g → g ∉ fp) : Lef w' v xs := by
  rcases h with h | ⟨g, off, cap, cur, rfl, hb, r⟩
  · exact .inl h
  · exact .inr ⟨g, off, cap, cur, rfl, Fr.bl hb hf (hn g rfl), r⟩
theorem Lef.keep {w w' : World} {v : Value} {xs : List Nat} (h : Lef w v xs) (hb : Below w.heap.size w w') : Lef w' v xs := h.apart (fp := []) (Fr.of hb) (fun _ _ e => by cases e)
/-- A store into a block of another type leaves the bytes alone. -/
theorem Lef.set {w : World} {v : Value} {xs : List Nat} (h : Lef w v xs) {sp : Nat} {cs : List Value} {t : TypeId} (hb : Bl w sp cs t) (ht : t ≠ 5) (i : Nat) (u : Value) : Lef (w.setCell ⟨sp, i, none⟩ u) v xs := by
  rcases h with h | ⟨g, off, cap, cur, rfl, hg, r⟩
  · exact .inl h
  · refine .inr ⟨g, off, cap, cur, rfl, hg.other (fun e => ?_) i u, r⟩
    subst e
    unfold Bl at hb hg
    rw [hb] at hg
    injection hg with hg
    injection hg with _ hg
    exact ht hg
theorem Own.fr {fp : List Nat} {w w' : World} {B : Nat} {v : Value} {xs : List Nat} (h : Own w B v xs) (hf : Fr fp w w') (hn : ∀ b ∈ fp, b < B) : Own w' B v xs := by
  refine ⟨h.1, ?_⟩
  rcases h.2 with h2 | ⟨g, cap, cur, e, hg, hh, r⟩
  · exact .inl h2
  · exact .inr ⟨g, cap, cur, e, hg, (hf.block g (Array.getElem?_eq_some_iff.1 hh).1 (fun e => by have := hn g e; omega)).trans hh, r⟩
theorem Fr.own {fp : List Nat} {w w' : World} {B : Nat} {v : Value} {xs : List Nat} (h : Own w B v xs) (hg : w.grownBy w' v.ownBlock) {w0 : World} (hf : Fr fp w0 w) (hB : w0.heap.size ≤ B) : Fr fp w0 w' :=
  hf.trans (Fr.grown (fp := v.ownBlock.toList) hg (fun j hj => by rw [hj]; simp)) (fun x hx => .inr (by have := h.ge x (by simpa using hx); omega))
theorem Lef.one {w : World} {v : Value} {x : Nat} {xs : List Nat} (h : Lef w v (x :: xs)) : ∃ g off cap, v = .slice (some ⟨g, off, none⟩) (xs.length + 1) cap ∧ xs.length + 1 ≤ cap ∧ cap ≤ maxLen ∧ w.cell? ⟨g, off, none⟩ = some (.int .u8 (x : Int)) ∧ ∀ ao m, (0 < m → ao = some ⟨g, off + 1, none⟩) → m + 1 = cap → Lef w (.slice ao xs.length m) xs := by
  rcases h with ⟨ao, _, h⟩ | ⟨g, off, cap, cur, rfl, hb, hle, hl, hm, hc⟩
  · cases h
  · refine ⟨g, off, cap, rfl, hle, hm, ?_, fun ao m ha hmc => ?_⟩
    · have := hc 0 (by simp)
      rw [hb.cell]
      simpa [bv] using this
    · simp only [List.length_cons] at hle hc
      by_cases h0 : m = 0
      · subst h0
        have : xs = [] := List.eq_nil_of_length_eq_zero (by omega)
        subst this
        exact .inl ⟨ao, rfl, rfl⟩
      · rw [ha (by omega)]
        refine .inr ⟨g, off + 1, m, cur, rfl, hb, by omega, by omega, by omega, fun i hi => ?_⟩
        have := hc (i + 1) (by omega)
        rw [show off + 1 + i = off + (i + 1) by omega, this]
        simp
theorem lef_grown (w : World) (xs ys : List Nat) (cap : Nat) (h : xs.length + ys.length ≤ cap) (hm : cap ≤ maxLen) :
    Lef (w.drew.alloc (.cells ((xs.map bv).toArray ++ (ys.map bv).toArray ++ Builtin.zeroCells (Value.int .u8 0).cells (cap - (xs.length + ys.length))) 5)) (.slice (some ⟨w.heap.size, 0, none⟩) (xs.length + ys.length) cap) (xs ++ ys) := by
  refine .inr ⟨w.heap.size, 0, cap, _, by rw [List.length_append], Bl.new w.drew _ _, by rw [List.length_append]; exact h, ?_, hm, fun i hi => ?_⟩
  · have : (Builtin.zeroCells (Value.int .u8 0).cells (cap - (xs.length + ys.length))).size = cap - (xs.length + ys.length) := by rw [size_zeroCells, show (Value.int IntKind.u8 0).cells.size = 1 from rfl, Nat.mul_one]
    simp [this]
    omega
  · simp only [Array.toList_append]
    rw [← List.map_append, List.getElem?_append_left (by simpa using hi)]
    simp only [Nat.zero_add]
    rw [List.getElem?_map, List.getElem?_eq_getElem hi]
    simp [List.getD, List.getElem?_eq_getElem hi]
theorem run_append_room_at (w : World) (ty : TypeId) (g off n cap : Nat) (cur : List Value) (hg : Bl w g cur 5) (a : Addr) (c : Nat) (ys : List Nat) (hy : ∀ j u, (ys.map bv)[j]? = some u → w.cell? (a.add j) = some u) (hroom : n + ys.length ≤ cap) (hfit : off + n + ys.length ≤ cur.length) :
    (Builtin.append_ #[22, 22] ty #[.slice (some ⟨g, off, none⟩) n cap, .slice (some a) ys.length c]).run Tryd.prog w =
      .ok (.slice (some ⟨g, off, none⟩) (n + ys.length) cap) (w.setRow g (cur.take (off + n) ++ ys.map bv ++ cur.drop (off + n + ys.length)).toArray) := by
  obtain ⟨i0, hi, hz0, hz1, hz2⟩ := info_parts info8
  have hf := run_firstCells_some (P := Tryd.prog) w 1 ys.length a ys.length c (ys.map bv) (by simp) hy
  have hst := run_storeCells_at Tryd.prog g (off + n) 5 (ys.map bv) 0 cur.toArray w hg (by simpa using hfit) (bv_one ys)
  simp only [Nat.add_zero, List.length_map] at hst
  simp [Builtin.append_, run_underlying Tryd.underlying22, sizeOf, typeInfo, hi, hz1, Builtin.lenOf, hroom, hf, add_none, hst]
/-- append(v, ys...) where v is one's own. -/
theorem run_append_lef {w : World} {v : Value} {xs ys : List Nat} (h : Lef w v xs) (ao : Option Addr) (c : Nat) (hy : Row w ao ys) (hsz : xs.length + ys.length ≤ 140737488355328) (ty : TypeId) :
    ∃ v' w', (Builtin.append_ #[22, 22] ty #[v, .slice ao ys.length c]).run Tryd.prog w = .ok v' w' ∧ Lef w' v' (xs ++ ys) ∧ w.grownBy w' v.ownBlock ∧ (v'.ownBlock = v.ownBlock ∨ (v'.ownBlock = some w.heap.size ∧ w.heap.size < w'.heap.size)) := by
  obtain ⟨i0, hi, hz0, hz1, hz2⟩ := info_parts info8
  by_cases hne : ys = []
  · subst hne
    refine ⟨v, w, ?_, by rw [List.append_nil]; exact h, World.grownBy.refl _ _, .inl rfl⟩
    rcases h with ⟨ao', rfl, rfl⟩ | ⟨g, off, cap, cur, rfl, hb, hle, _⟩
    · cases ao <;> simp [Builtin.append_, run_underlying Tryd.underlying22, sizeOf, typeInfo, hi, Builtin.lenOf, Builtin.firstCells, loadCells, loadCellsFrom, storeCells] <;> cases ao' <;> simp
    · cases ao <;> simp [Builtin.append_, run_underlying Tryd.underlying22, sizeOf, typeInfo, hi, Builtin.lenOf, Builtin.firstCells, loadCells, loadCellsFrom, hle, storeCells]
  · have hpos : 0 < ys.length := List.length_pos_iff.2 hne
    obtain ⟨b', o', rfl⟩ := hy.form hpos
    have hcells := hy.cells
    have fits : ∀ n cap, n + ys.length ≤ 140737488355328 → cap < n + ys.length → Builtin.nextslicecap (n + ys.length) cap * i0.bytes ≤ 281474976710656 := fun n cap h1 h2 => growslice_fits h2 (by rw [hz2]; omega)
    rcases h with ⟨ao', rfl, rfl⟩ | ⟨g, off, cap, cur, rfl, hb, hle, hl, hm, hc⟩
    · have hge := grownCap_ge w ys.length 0 5
      have hcm := grownCap_le_maxLen w ys.length 0 5 (by simp at hsz; unfold maxLen; omega)
      have hL := lef_grown w [] ys (grownCap w ys.length 0 5) (by simpa using hge) hcm
      simp only [List.map_nil, List.length_nil, Nat.zero_add, List.nil_append, Array.empty_append] at hL hsz ⊢
      have hgr : ∀ (o : Obj) row, w.grownBy (w.drew.alloc o) row := fun o row => ⟨rfl, rfl, rfl, by simp, fun k hk _ => Below.heap_alloc w.drew _ k hk⟩
      cases ao' with
      | none =>
        have hr := run_append_nil (P := Tryd.prog) w 22 ty 5 i0 (.int .u8 0) Tryd.underlying22 hi hz0 ⟨b', o', none⟩ ys.length c (ys.map bv) (by rw [hz1]; simp) hcells hpos (by omega) (by rw [hz2]; omega)
        exact ⟨_, _, hr, hL, hgr _ _, .inr ⟨rfl, by simp⟩⟩
      | some a' =>
        have hr := run_append_grow (P := Tryd.prog) w 22 ty 5 i0 (.int .u8 0) Tryd.underlying22 hi hz0 a' 0 0 [] (by simp) (by simp) ⟨b', o', none⟩ ys.length c (ys.map bv) (by rw [hz1]; simp) hcells (by omega) (by simp; omega) (fits 0 0 (by omega) (by omega))
        simp only [Nat.zero_add, Array.empty_append] at hr
        exact ⟨_, _, hr, hL, hgr _ _, .inr ⟨rfl, by simp⟩⟩
    · by_cases hroom : xs.length + ys.length ≤ cap
      · have hr := run_append_room_at w ty g off xs.length cap cur hb ⟨b', o', none⟩ c ys hcells hroom (by omega)
        refine ⟨_, _, hr, .inr ⟨g, off, cap, _, by rw [List.length_append], setRow_heap w g cur.toArray _ 5 _ hb, by rw [List.length_append]; exact hroom, ?_, hm, fun i hi => ?_⟩, ⟨rfl, rfl, rfl, by simp, fun k _ hk => setRow_other w g k _ (fun e => hk (by simp [Value.ownBlock, e]))⟩, .inl rfl⟩
        · simp
          omega
        · rw [List.length_append] at hi
          by_cases h1 : i < xs.length
          · rw [List.append_assoc, List.getElem?_append_left (by simp; omega), List.getElem?_take, if_pos (by omega), hc i h1]
            simp [List.getD, List.getElem?_append_left h1]
          · rw [List.append_assoc, List.getElem?_append_right (by simp; omega), List.getElem?_append_left (by simp; omega)]
            simp only [List.length_take]
            rw [show min (off + xs.length) cur.length = off + xs.length by omega, show off + i - (off + xs.length) = i - xs.length by omega, List.getElem?_map]
            rw [List.getElem?_eq_getElem (show i - xs.length < ys.length by omega)]
            simp [List.getD, List.getElem?_append_right (show xs.length ≤ i by omega), List.getElem?_eq_getElem (show i - xs.length < ys.length by omega)]
      · have holds : ∀ j u, (xs.map bv)[j]? = some u → w.cell? ((⟨g, off, none⟩ : Addr).add j) = some u := fun j u hu => by
          have hj : j < xs.length := by have := (List.getElem?_eq_some_iff.1 hu).1; simpa using this
          rw [add_none, hb.cell, hc j hj, ← hu]
          simp [hj]
        have hr := run_append_grow (P := Tryd.prog) w 22 ty 5 i0 (.int .u8 0) Tryd.underlying22 hi hz0 ⟨g, off, none⟩ xs.length cap (xs.map bv) (by rw [hz1]; simp) holds ⟨b', o', none⟩ ys.length c (ys.map bv) (by rw [hz1]; simp) hcells (by omega) (by simp; omega) (fits _ _ hsz (by omega))
        exact ⟨_, _, hr, lef_grown w xs ys _ (grownCap_ge w _ cap 5) (grownCap_le_maxLen w _ cap 5 (by unfold maxLen; omega)), ⟨rfl, rfl, rfl, by simp, fun k hk _ => Below.heap_alloc w.drew _ k hk⟩, .inr ⟨rfl, by simp⟩⟩
end Go.Proofs.YtonnnolnkjahgabDoor
