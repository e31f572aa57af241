/- Whole blocks of bytes; make and copy on them; slices of slices. -/
import Derived.Test.YtlhgjicichjbgaaGreatDoorRowsS
import Derived.Laws.CopyOwn
namespace Go.Proofs.YtlhgjicichjbgaaGreatDoor
open Go.RowKit

/-- A whole block of bytes, not frozen. -/
def Blk (w : World) (g : Nat) (xs : List Nat) : Prop := w.heap[g]? = some (.cells (xs.map bv).toArray 5 (0, 0))
theorem Blk.cell {w : World} {g : Nat} {xs : List Nat} (h : Blk w g xs) (i : Nat) (hi : i < xs.length) : w.cell? ⟨g, i, none⟩ = some (.int .u8 ((xs.getD i 0 : Nat) : Int)) := by
  rw [cell_of_row w g i _ 5 (0, 0) h]
  simp [hi, bv]
theorem Blk.frozen {w : World} {g : Nat} {xs : List Nat} (h : Blk w g xs) (i : Nat) : w.frozen? ⟨g, i, none⟩ = false := by
  simp only [World.frozen?, show w.heap[g]? = _ from h]
  simp
theorem Blk.row {w : World} {g : Nat} {xs : List Nat} (h : Blk w g xs) : Row w (some ⟨g, 0, none⟩) xs := .inr ⟨g, 0, rfl, fun i hi => by rw [Nat.zero_add]; exact h.cell i hi⟩
theorem Blk.lt {w : World} {g : Nat} {xs : List Nat} (h : Blk w g xs) : g < w.heap.size := (Array.getElem?_eq_some_iff.1 h).1
theorem Blk.set {w : World} {g : Nat} {xs : List Nat} (h : Blk w g xs) (i x : Nat) : Blk (w.setCell ⟨g, i, none⟩ (.int .u8 (x : Int))) g (xs.set i x) := by
  show _ = _
  rw [setCell_eq_setRow w g i _ _ _ _ h, setRow_heap w g _ _ _ _ h]
  congr 2
  apply Array.ext'
  simp [List.map_set, bv]
theorem Blk.below {w w' : World} {g B : Nat} {xs : List Nat} (h : Blk w g xs) (hb : Below B w w') (hg : g < B) : Blk w' g xs := (hb.block g hg).trans h
theorem Blk.keep {w w' : World} {g : Nat} {xs : List Nat} (h : Blk w g xs) (hb : Below w.heap.size w w') : Blk w' g xs := h.below hb h.lt
theorem Blk.drewN {w : World} {g : Nat} {xs : List Nat} (h : Blk w g xs) (n : Nat) : Blk (w.drewN n) g xs := h
theorem Blk.own {w : World} {g B n c : Nat} {xs ys : List Nat} (h : Blk w g (xs ++ ys)) (hn : n = xs.length) (hc : c = n + ys.length) (hB : B ≤ g) (hm : c ≤ maxLen) : Own w B (.slice (some ⟨g, 0, none⟩) n c) xs := by
  subst hn; subst hc
  refine ⟨by simp, .inr ⟨g, _, _, rfl, hB, h, by omega, hm, by simp, ?_⟩⟩
  simp

theorem wpList_make_bytes {w : World} {ops : Array Oper} {rest : List Oper} {o : Oper} {a : Act} {Q : Exit → Act → World → Prop} (hg : o.guard = none) (l c : Operand) (hop : o.op = Op.makeSlice 81 l c)
    (kl kc : IntKind) (L C : Int) (n m : Nat) (hl : a.eval l = .int kl L) (hc : a.eval c = .int kc C) (hL : L = (n : Int)) (hC : C = (m : Int)) (hnm : n ≤ m) (hm : m ≤ 281474976710656)
    (hK : ∀ w', Blk w' w.heap.size (List.replicate m 0) → Below w.heap.size w w' → w'.heap.size = w.heap.size + 1 → wpList Tryz.prog ops Q rest (a.put o.dst (.slice (some ⟨w.heap.size, 0, none⟩) n m)) w') :
    wpList Tryz.prog ops Q (o :: rest) a w := by
  obtain ⟨i0, hi, hz0, hz1, hz2⟩ := info_parts info8
  refine wpList_plain hg fun K hK' => ?_
  subst hL
  subst hC
  have hrun := run_make (P := Tryz.prog) w 81 5 i0 (.int .u8 0) Tryz.underlying81 hi hz0 kl kc (n : Int) (m : Int) (by omega) (by omega) (by rw [hz2]; omega) (by omega)
  have e : madeCells (Value.int .u8 0).cells (((m : Int).toNat) * i0.size) = ((List.replicate m 0).map bv).toArray := by
    rw [hz1, Int.toNat_natCast, Nat.mul_one]
    apply Array.ext'
    rw [show (Value.int IntKind.u8 0).cells = #[.int .u8 0] from rfl, toList_madeCells_one]
    simp [bv]
  rw [e] at hrun
  unfold Oper.wp
  simp only [Int.toNat_natCast] at hrun
  simp [execOp, hop, hl, hc, hrun, Result.andThen]
  exact hK' _ _ (hK _ (by unfold Blk; rw [heap_alloc_new w _]; simp) ((Below.refl _ _).alloc (Nat.le_refl _) _) (by simp))

theorem size8 : (Tryz.prog.info? 5).map (·.size) = some 1 := by kernel_rfl
theorem wpList_copy_bytes {w : World} {ops : Array Oper} {rest : List Oper} {o : Oper} {a : Act} {Q : Exit → Act → World → Prop} (hgd : o.guard = none) (d s : Operand)
    (ho : o.op = .call { callee := .builtin .copy, args := #[d, s], argTypes := #[81, 81] }) (dp sp : Option Addr) (dLen dCap n sCap : Nat) (hd : a.eval d = .slice dp dLen dCap) (hs : a.eval s = .slice sp n sCap)
    (g off : Nat) (cur cs : List Nat) (hn : n = cs.length) (hle : n ≤ dLen) (hg : Blk w g cur) (hdp : 0 < n → dp = some ⟨g, off, none⟩) (hsrc : Row w sp cs) (hfit : off + n ≤ cur.length) (B : Nat) (hBg : B ≤ g)
    (h : ∀ w' k, Blk w' g (cur.take off ++ cs ++ cur.drop (off + n)) → Below B w w' → wpList Tryz.prog ops Q rest (a.put o.dst k) w') : wpList Tryz.prog ops Q (o :: rest) a w := by
  subst hn
  refine wpList_copy_splice hgd d s _ _ ho 5 Tryz.underlying81 size8 dp sp dLen dCap cs.length sCap hd hs g off (cur.map bv) 5 hg (cs.map bv) (by simp [Nat.min_eq_left hle]) ?_ (by simpa using hfit) (bv_one cs) B w (Below.refl _ _) hBg ?_
  · intro h0
    have h0' : 0 < cs.length := by simpa using h0
    refine ⟨hdp h0', ?_⟩
    rcases hsrc with rfl | ⟨b, o, rfl, hc⟩
    · simp at h0'
    · exact ⟨_, rfl, Row.cells (.inr ⟨b, o, rfl, hc⟩)⟩
  · intro w' hw hb
    refine h w' _ ?_ hb
    have := hw.out
    simpa [Blk, splice, List.map_append, List.map_take, List.map_drop] using this
theorem elem8 : Tryz.prog.elem 81 = 5 := by kernel_rfl
theorem underBytes : Tryz.prog.underlying 81 = some (.slice (Tryz.prog.elem 81)) := by rw [elem8]; exact Tryz.underlying81
theorem sizeRun (w : World) : (sizeOf (Tryz.prog.elem 81)).run Tryz.prog w = .ok 1 w := by
  obtain ⟨i0, hi, hz0, hz1, hz2⟩ := info_parts info8
  rw [elem8]
  simp [sizeOf, typeInfo, hi, hz1]
theorem slice_from (g off n cap m c lo : Nat) (i : Int) (hi : i = (lo : Int)) (hlo : lo ≤ n) (hm : m = n - lo) (hc : c = cap - lo) :
    ∃ ao, (∀ w, (Instr.slice 81 (.slice (some ⟨g, off, none⟩) n cap) (some (.int .i64 i)) none none).run Tryz.prog w = .ok (.slice ao m c) w) ∧ (lo < cap → ao = some ⟨g, off + lo, none⟩) := by
  subst hi; subst hm; subst hc
  refine ⟨if cap = lo then some ⟨g, off, none⟩ else some ⟨g, off + lo, none⟩, fun w => ?_, fun h => by rw [if_neg (by omega)]⟩
  rw [run_slice_l w 81 (some ⟨g, off, none⟩) n cap underBytes .i64 (lo : Int) (by omega) (by omega), sizeRun]
  simp [Result.andThen, sliced, add_none]

end Go.Proofs.YtlhgjicichjbgaaGreatDoor
