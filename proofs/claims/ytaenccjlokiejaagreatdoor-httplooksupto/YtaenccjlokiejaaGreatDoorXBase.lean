/- Small facts that all texts of this layer share: what stays, what is new. Small laws on rows of bytes in memory, and on texts. Whole blocks of bytes; make and copy on them; slices of slices. The contract of the laws' num. -/
import Derived.Test.YtaenccjlokiejaaGreatDoorProg
import Derived.WalkKit
import Derived.WalkSpells
import Derived.WalkLawsBesides
import Derived.Handy
import Derived.Laws.BitsAllLaws
import Derived.Laws.AppendOwnNone
import Derived.Laws.BytesArg
import Derived.Laws.CopyOwn
namespace Go.Proofs.YtaenccjlokiejaaGreatDoor
open Go.RowKit

theorem hide {p : Prop} (h : p) : Hid p := h
theorem cell_kept {w1 w2 : World} {a : Addr} {v : Value} (h : w1.cell? a = some v) (hb : Below w1.heap.size w1 w2) : w2.cell? a = some v := (hb.cell (World.block_lt_of_cell? w1 a h)).trans h
theorem below_new (w : World) (o : Obj) : Below w.heap.size w (w.alloc o) := (Below.refl _ _).alloc (Nat.le_refl _) _
theorem below_undrewN1 {w w' : World} (h : Below w.drew.heap.size w.drew w') : Below w.heap.size w w' := ⟨h.os, h.tape, h.output, h.size, h.block⟩
theorem add_none (g off k : Nat) : (⟨g, off, none⟩ : Addr).add k = ⟨g, off + k, none⟩ := by unfold Addr.add; split <;> simp_all
theorem one_new (W : World) (n : Nat) (hn : n = W.heap.size) (x : Value) (t : TypeId) : ∀ j u, [x][j]? = some u → (W.alloc (.cells #[x] t)).cell? ((⟨n, 0, none⟩ : Addr).add j) = some u := by
  intro j u h
  subst hn
  rw [add_none, Nat.zero_add]
  match j, h with
  | 0, h => simpa using h
theorem two_new (W : World) (n : Nat) (hn : n = W.heap.size) (x y : Value) (t : TypeId) : ∀ j u, [x, y][j]? = some u → (W.alloc (.cells #[x, y] t)).cell? ((⟨n, 0, none⟩ : Addr).add j) = some u := by
  intro j u h
  subst hn
  rw [add_none, Nat.zero_add]
  match j, h with
  | 0, h => simpa using h
  | 1, h => simpa using h
end Go.Proofs.YtaenccjlokiejaaGreatDoor
namespace Go.Proofs.YtaenccjlokiejaaGreatDoor
open Go.RowKit

/-- A row of bytes in memory: none, or cells from an address on. -/
def Row (w : World) (ao : Option Addr) (xs : List Nat) : Prop :=
  xs = [] ∨ ∃ b off, ao = some ⟨b, off, none⟩ ∧ ∀ i, i < xs.length → w.cell? ⟨b, off + i, none⟩ = some (.int .u8 ((xs.getD i 0 : Nat) : Int))
def bstr (xs : List Nat) : ByteArray := ⟨(xs.map fun n => UInt8.ofNat n).toArray⟩
theorem bstr_eq_nums (xs : List Nat) : bstr xs = strOfNums (xs.map fun n : Nat => (n : Int)) := by simp [bstr, strOfNums]
theorem ofNat_inj {a b : Nat} (ha : a < 256) (hb : b < 256) (h : UInt8.ofNat a = UInt8.ofNat b) : a = b := by
  have := congrArg UInt8.toNat h
  simp at this
  omega
theorem bytes_inj : ∀ (xs ys : List Nat), (∀ x ∈ xs, x < 256) → (∀ y ∈ ys, y < 256) → xs.map (fun n => UInt8.ofNat n) = ys.map (fun n => UInt8.ofNat n) → xs = ys
  | [], [], _, _, _ => rfl
  | [], _ :: _, _, _, h => by simp at h
  | _ :: _, [], _, _, h => by simp at h
  | x :: xs, y :: ys, hx, hy, h => by
    simp only [List.map_cons, List.cons.injEq] at h
    rw [ofNat_inj (hx x (by simp)) (hy y (by simp)) h.1, bytes_inj xs ys (fun z hz => hx z (by simp [hz])) (fun z hz => hy z (by simp [hz])) h.2]
theorem bstr_inj {xs ys : List Nat} (hx : ∀ x ∈ xs, x < 256) (hy : ∀ y ∈ ys, y < 256) (h : bstr xs = bstr ys) : xs = ys := by
  apply bytes_inj xs ys hx hy
  have := congrArg (fun b : ByteArray => b.data.toList) h
  simpa [bstr] using this

theorem conv_row {w : World} {ao : Option Addr} {xs : List Nat} (cap : Nat) (h : Row w ao xs) : (convert 110 9 (.slice ao xs.length cap)).run Tryz.prog w = .ok (.string (bstr xs)) w := by
  rcases h with rfl | ⟨b, off, rfl, hc⟩
  · cases ao with
    | none => exact run_convert_bytes_nil w _ _ Tryz.underlying110 Tryz.underlying5 0 cap _ Tryz.underlying9
    | some a =>
      rw [run_convert_bytes_string w _ _ _ _ _ _ Tryz.underlying110 Tryz.underlying5 Tryz.underlying9]
      have h := run_bytesToString (P := Tryz.prog) w a 0 cap [] (by simp [loadCells, loadCellsFrom])
      exact h
  · rw [bstr_eq_nums]
    exact run_convert_bytes_arg w _ _ Tryz.underlying110 Tryz.underlying5 b off xs.length cap _ (by simp) (fun i hi => by rw [hc i hi]; simp [List.getD, hi]) _ Tryz.underlying9

theorem bstr_beq {xs ys : List Nat} (hx : ∀ x ∈ xs, x < 256) (hy : ∀ y ∈ ys, y < 256) : ((bstr xs).toList == (bstr ys).toList) = decide (xs = ys) := by
  have e : ∀ l : List Nat, (bstr l).toList = l.map fun n => UInt8.ofNat n := fun l => by simp [bstr]
  rw [Bool.eq_iff_iff, e, e]
  simp only [beq_iff_eq, decide_eq_true_eq]
  exact ⟨bytes_inj xs ys hx hy, fun h => by rw [h]⟩

theorem lt_append {xs ys : List Nat} (hx : ∀ x ∈ xs, x < 256) (hy : ∀ y ∈ ys, y < 256) : ∀ x ∈ xs ++ ys, x < 256 := fun x h => (List.mem_append.1 h).elim (hx x) (hy x)
theorem Row.take {w : World} {ao : Option Addr} {xs ys : List Nat} (h : Row w ao (xs ++ ys)) : Row w ao xs := by
  rcases h with h | ⟨b, off, rfl, hc⟩
  · simp at h; exact .inl h.1
  · exact .inr ⟨b, off, rfl, fun i hi => by rw [hc i (by simp; omega)]; simp [List.getD, List.getElem?_append_left hi]⟩

theorem Row.takeN {w : World} {ao : Option Addr} {xs : List Nat} (h : Row w ao xs) (k : Nat) : Row w ao (xs.take k) := by
  have : Row w ao (xs.take k ++ xs.drop k) := by rw [List.take_append_drop]; exact h
  exact this.take
theorem Row.dropN {w : World} {b off : Nat} {xs : List Nat} (h : Row w (some ⟨b, off, none⟩) xs) (k : Nat) : Row w (some ⟨b, off + k, none⟩) (xs.drop k) := by
  rcases h with h | ⟨b', off', h, hc⟩
  · subst h; exact .inl (by simp)
  · cases h
    refine .inr ⟨b, off + k, rfl, fun i hi => ?_⟩
    rw [List.length_drop] at hi
    rw [show off + k + i = off + (k + i) by omega, hc (k + i) (by omega)]
    simp [List.getD, List.getElem?_drop]
theorem Row.drewN {w : World} {ao : Option Addr} {xs : List Nat} (h : Row w ao xs) (n : Nat) : Row (w.drewN n) ao xs := h
theorem Row.cell {w : World} {b off : Nat} {xs : List Nat} (h : Row w (some ⟨b, off, none⟩) xs) (i : Nat) (hi : i < xs.length) : w.cell? ⟨b, off + i, none⟩ = some (.int .u8 ((xs.getD i 0 : Nat) : Int)) := by
  rcases h with h | ⟨b', off', h, hc⟩
  · subst h; simp at hi
  · cases h; exact hc i hi
theorem Row.form {w : World} {ao : Option Addr} {xs : List Nat} (h : Row w ao xs) (hne : 0 < xs.length) : ∃ b off, ao = some ⟨b, off, none⟩ := by
  rcases h with rfl | ⟨b, off, rfl, _⟩
  · simp at hne
  · exact ⟨b, off, rfl⟩
theorem lt_take {xs : List Nat} (h : ∀ x ∈ xs, x < 256) (k : Nat) : ∀ x ∈ xs.take k, x < 256 := fun x hx => h x (List.mem_of_mem_take hx)
theorem lt_drop {xs : List Nat} (h : ∀ x ∈ xs, x < 256) (k : Nat) : ∀ x ∈ xs.drop k, x < 256 := fun x hx => h x (List.mem_of_mem_drop hx)
theorem lt_get {xs : List Nat} (h : ∀ x ∈ xs, x < 256) (i : Nat) : xs.getD i 0 < 256 := by
  by_cases hi : i < xs.length
  · exact h _ (by simp [List.getD, hi])
  · simp [List.getD, List.getElem?_eq_none (show xs.length ≤ i by omega)]

/-- Bytes as cells. -/
def bv (n : Nat) : Value := .int .u8 (n : Int)
def Own (w : World) (B : Nat) (v : Value) (xs : List Nat) : Prop := w.ownsRow B 5 1 v xs.length (xs.map bv)
theorem info8 : (Tryz.prog.info? 5).map (fun i => (i.zero, i.size, i.bytes)) = some (some (.int .u8 0), 1, 1) := by kernel_rfl
theorem bv_one (xs : List Nat) : ∀ u ∈ xs.map bv, u.oneCell' = true := by
  intro u hu
  obtain ⟨n, _, rfl⟩ := List.mem_map.1 hu
  rfl
theorem Row.cells {w : World} {a : Addr} {xs : List Nat} (h : Row w (some a) xs) : ∀ j u, (xs.map bv)[j]? = some u → w.cell? (a.add j) = some u := by
  intro j u hu
  rcases h with rfl | ⟨b, off, ha, hc⟩
  · simp at hu
  · cases ha
    have hj : j < xs.length := by
      rcases Nat.lt_or_ge j xs.length with h | h
      · exact h
      · simp [List.getElem?_eq_none (show (xs.map bv).length ≤ j by simpa using h)] at hu
    have hadd : (⟨b, off, none⟩ : Addr).add j = ⟨b, off + j, none⟩ := by unfold Addr.add; split <;> simp_all
    rw [hadd, hc j hj]
    simp only [List.getElem?_map, List.getElem?_eq_getElem hj, Option.map_some, Option.some.injEq] at hu
    subst hu
    simp [bv, List.getD, List.getElem?_eq_getElem hj]
theorem Own.read {w : World} {B : Nat} {v : Value} {xs : List Nat} (h : Own w B v xs) : ∃ ao cap, v = .slice ao xs.length cap ∧ xs.length ≤ cap ∧ Row w ao xs := by
  rcases h.2 with ⟨rfl, hn⟩ | ⟨g, cap, cur, rfl, hb, hg, hle, _, _, ht⟩
  · exact ⟨none, 0, by rw [hn], by omega, .inl (List.length_eq_zero_iff.1 hn)⟩
  · refine ⟨_, cap, rfl, hle, .inr ⟨g, 0, rfl, fun i hi => ?_⟩⟩
    have := World.ownsRow.cells h (g := g) rfl i (bv (xs.getD i 0)) (by simp [hi])
    have hadd : (⟨g, 0, none⟩ : Addr).add i = ⟨g, 0 + i, none⟩ := by unfold Addr.add; split <;> simp_all
    rw [hadd] at this
    exact this
theorem Own.readSome {w : World} {B : Nat} {v : Value} {xs : List Nat} (h : Own w B v xs) (hne : xs ≠ []) : ∃ g cap, v = .slice (some ⟨g, 0, none⟩) xs.length cap ∧ xs.length ≤ cap ∧ B ≤ g ∧ Row w (some ⟨g, 0, none⟩) xs := by
  obtain ⟨ao, cap, hv, hle, hr⟩ := h.read
  rcases h.2 with ⟨rfl, hn⟩ | ⟨g, cap', cur, rfl, hb, _⟩
  · exact absurd (List.length_eq_zero_iff.1 hn) hne
  · cases hv; exact ⟨g, _, rfl, hle, hb, hr⟩
theorem Row.below {w w' : World} {ao : Option Addr} {xs : List Nat} {B : Nat} (h : Row w ao xs) (hb : Below B w w') (hB : ∀ a, ao = some a → a.block < B) : Row w' ao xs := by
  rcases h with h | ⟨b, off, rfl, hc⟩
  · exact .inl h
  · exact .inr ⟨b, off, rfl, fun i hi => by rw [hb.cell (p := ⟨b, off + i, none⟩) (hB ⟨b, off, none⟩ rfl)]; exact hc i hi⟩
theorem Row.lt {w : World} {b off : Nat} {xs : List Nat} (h : Row w (some ⟨b, off, none⟩) xs) (hne : xs ≠ []) : b < w.heap.size := by
  rcases h with h | ⟨b', off', h, hc⟩
  · exact absurd h hne
  · cases h
    exact World.block_lt_of_cell? w _ (hc 0 (by cases xs with | nil => exact absurd rfl hne | cons => simp))
/-- Nothing old turns, so a row that was there reads as it did. -/
theorem Row.keep {w w' : World} {ao : Option Addr} {xs : List Nat} (h : Row w ao xs) (hb : Below w.heap.size w w') : Row w' ao xs := by
  rcases h with h | ⟨b, off, rfl, hc⟩
  · exact .inl h
  · refine .inr ⟨b, off, rfl, fun i hi => ?_⟩
    rw [hb.cell (p := ⟨b, off + i, none⟩) (World.block_lt_of_cell? w _ (hc i hi))]; exact hc i hi

theorem Own.lower {w : World} {B B' : Nat} {v : Value} {xs : List Nat} (h : Own w B v xs) (hb : B' ≤ B) : Own w B' v xs := by
  refine ⟨h.1, ?_⟩
  rcases h.2 with h2 | ⟨g, cap, cur, e, hg, r⟩
  · exact .inl h2
  · exact .inr ⟨g, cap, cur, e, Nat.le_trans hb hg, r⟩
theorem Own.keep {w w' : World} {B : Nat} {v : Value} {xs : List Nat} (h : Own w B v xs) (hb : Below w.heap.size w w') : Own w' B v xs := by
  refine ⟨h.1, ?_⟩
  rcases h.2 with h2 | ⟨g, cap, cur, e, hg, hh, r⟩
  · exact .inl h2
  · exact .inr ⟨g, cap, cur, e, hg, (hb.block g (Array.getElem?_eq_some_iff.1 hh).1).trans hh, r⟩
theorem own_nil (w : World) (B : Nat) : Own w B (.slice none 0 0) [] := World.ownsRow_nil _ _ _ _

/-- append(v, ys...) where v is the call's own and ys is whatever row of bytes. -/
theorem run_append_bytes {w : World} {B : Nat} {v : Value} {xs ys : List Nat} (hown : Own w B v xs) (ao : Option Addr) (c : Nat) (hy : Row w ao ys) (hsz : xs.length + ys.length ≤ 140737488355328) (hB : B ≤ w.heap.size) (ty : TypeId) :
    ∃ v' w', (Builtin.append_ #[110, 110] ty #[v, .slice ao ys.length c]).run Tryz.prog w = .ok v' w' ∧ Own w' B v' (xs ++ ys) ∧ w.grownBy w' v.ownBlock := by
  obtain ⟨i0, hi, hz0, hz1, hz2⟩ := info_parts info8
  cases ao with
  | none =>
    rcases hy with rfl | ⟨b, off, h, _⟩
    · refine ⟨v, w, ?_, by rw [List.append_nil]; exact hown, World.grownBy.refl _ _⟩
      have hc0 : ∀ c', (Builtin.append_ #[110, 110] ty #[v, .slice none 0 c']).run Tryz.prog w = (Builtin.append_ #[110, 110] ty #[v, .slice none 0 0]).run Tryz.prog w := fun c' => rfl
      rw [List.length_nil, hc0]
      exact run_append_owned_none (P := Tryz.prog) (w := w) B 110 ty 5 i0 1 Tryz.underlying110 hi v _ _ hown
    · cases h
  | some a =>
    obtain ⟨v', w', h1, h2, h3, _⟩ := run_append_own (P := Tryz.prog) w B 110 ty 5 i0 (.int .u8 0) 1 1 Tryz.underlying110 hi hz0 hz1 hz2 rfl (by decide) v xs.length (xs.map bv) hown a ys.length c (ys.map bv) (by simp) hy.cells (bv_one ys) (by unfold maxLen; omega) (by omega) hB
    exact ⟨v', w', h1, by unfold Own; rw [List.length_append, List.map_append]; exact h2, h3⟩
theorem wpList_append_bytes {w : World} {ops : Array Oper} {rest : List Oper} {o : Oper} {a : Act} {Q : Exit → Act → World → Prop} (hgd : o.guard = none) (s x : Operand)
    (ho : o.op = .call { callee := .builtin .append, args := #[s, x], argTypes := #[110, 110] }) (B : Nat) (v : Value) (xs : List Nat) (hs : a.eval s = v) (hown : Own w B v xs)
    (ao : Option Addr) (n c : Nat) (ys : List Nat) (hn : n = ys.length) (hx : a.eval x = .slice ao n c) (hy : Row w ao ys) (hsz : xs.length + ys.length ≤ 140737488355328) (hB : B ≤ w.heap.size)
    (h : ∀ v' w', Own w' B v' (xs ++ ys) → w.grownBy w' v.ownBlock → wpList Tryz.prog ops Q rest (a.put o.dst v') w') : wpList Tryz.prog ops Q (o :: rest) a w := by
  refine wpList_plain hgd fun K hK => ?_
  obtain ⟨v', w', hrun, h1, h2⟩ := run_append_bytes hown ao c hy hsz hB o.type
  subst hn
  unfold Oper.wp
  simp [execOp, ho, resolve, invoke, builtin, hs, hx, hrun, Result.andThen]
  exact hK _ _ (h v' w' h1 h2)
theorem Own.alloc {w : World} {B : Nat} {v : Value} {xs : List Nat} (h : Own w B v xs) (o : Obj) : Own (w.alloc o) B v xs := World.ownsRow.alloc h o
theorem Own.ge {w : World} {B : Nat} {v : Value} {xs : List Nat} (h : Own w B v xs) : ∀ k, v.ownBlock = some k → B ≤ k := fun k hk => (World.ownsRow.lt h k hk).1
/-- A new row of the call's own, full. -/
theorem own_new (w : World) (B : Nat) (xs : List Nat) (hB : B ≤ w.heap.size) (hm : xs.length ≤ maxLen) : Own (w.alloc (.cells (xs.map bv).toArray 5)) B (.slice (some ⟨w.heap.size, 0, none⟩) xs.length xs.length) xs := by
  refine ⟨by simp, .inr ⟨w.heap.size, xs.length, (xs.map bv).toArray, rfl, hB, heap_alloc_new w _, Nat.le_refl _, hm, by simp, ?_⟩⟩
  rw [Nat.mul_one, List.toList_toArray, List.take_of_length_le (by simp)]
theorem row_one (w : World) (n : Nat) : Row (w.alloc (.cells #[.int .u8 (n : Int)] 5)) (some ⟨w.heap.size, 0, none⟩) [n] := by
  refine .inr ⟨_, _, rfl, fun i hi => ?_⟩
  have : i = 0 := by simpa using hi
  subst this
  simp

/-- A text's bytes. -/
def sbytes (s : ByteArray) : List Nat := s.data.toList.map UInt8.toNat
theorem sbytes_length (s : ByteArray) : (sbytes s).length = s.size := by unfold sbytes; rw [List.length_map, Array.length_toList]; rfl
theorem sbytes_lt (s : ByteArray) : ∀ x ∈ sbytes s, x < 256 := by
  intro x hx
  obtain ⟨b, _, rfl⟩ := List.mem_map.1 hx
  exact b.toNat_lt
theorem sbytes_bstr {xs : List Nat} (hx : ∀ x ∈ xs, x < 256) : sbytes (bstr xs) = xs := by
  simp only [sbytes, bstr, List.map_map]
  conv => rhs; rw [← List.map_id xs]
  apply List.map_congr_left
  intro x hm
  have := hx x hm
  simp
  omega
theorem bstr_sbytes (s : ByteArray) : bstr (sbytes s) = s := by
  cases s
  simp [sbytes, bstr, Function.comp_def]
theorem bstr_size (xs : List Nat) : (bstr xs).size = xs.length := by unfold bstr ByteArray.size; simp
theorem str_index (s : ByteArray) (k : Nat) (hk : k < s.size) (w : World) : (Instr.index 9 (.string s) (.int .i64 (k : Int))).run Tryz.prog w = .ok (.int .u8 (((sbytes s).getD k 0 : Nat) : Int)) w := by
  rw [run_index_string w 9 s .i64 (k : Int) Tryz.underlying9, dif_pos ⟨by omega, by omega⟩]
  have e : (sbytes s).getD k 0 = (s[k]).toNat := by
    have h2 : s.data.toList[k]? = some s[k] := by rw [List.getElem?_eq_getElem (by simpa using hk)]; rfl
    simp [sbytes, List.getD, h2]
  rw [e]
  simp
theorem take_getD {xs : List Nat} {k : Nat} (h : k < xs.length) : xs.take (k + 1) = xs.take k ++ [xs.getD k 0] := by
  rw [List.take_succ_eq_append_getElem h]; simp [List.getD, h]
theorem drop_getD {xs : List Nat} {k : Nat} (h : k < xs.length) : xs.drop k = xs.getD k 0 :: xs.drop (k + 1) := by
  rw [List.drop_eq_getElem_cons h]; simp [List.getD, h]
theorem row_n (w : World) (xs : List Nat) : Row (w.alloc (.cells (xs.map bv).toArray 5)) (some ⟨w.heap.size, 0, none⟩) xs := by
  refine .inr ⟨_, _, rfl, fun i hi => ?_⟩
  rw [Nat.zero_add, World.cell?_alloc_at _ _ _ _ rfl]
  simp [hi, bv]

end Go.Proofs.YtaenccjlokiejaaGreatDoor
namespace Go.Proofs.YtaenccjlokiejaaGreatDoor
open Go.RowKit

/-- A whole block of bytes, not frozen. -/
def Blk (w : World) (g : Nat) (xs : List Nat) : Prop := w.heap[g]? = some (.cells (xs.map bv).toArray 5 (0, 0))
theorem Blk.cell {w : World} {g : Nat} {xs : List Nat} (h : Blk w g xs) (i : Nat) (hi : i < xs.length) : w.cell? ⟨g, i, none⟩ = some (.int .u8 ((xs.getD i 0 : Nat) : Int)) := by
  rw [cell_of_row w g i _ 5 (0, 0) h]
  simp [hi, bv]
theorem Blk.frozen {w : World} {g : Nat} {xs : List Nat} (h : Blk w g xs) (i : Nat) : w.frozen? ⟨g, i, none⟩ = false := by
  simp only [World.frozen?, show w.heap[g]? = _ from h]
  simp
theorem Blk.row {w : World} {g : Nat} {xs : List Nat} (h : Blk w g xs) : Row w (some ⟨g, 0, none⟩) xs := .inr ⟨g, 0, rfl, fun i hi => by rw [Nat.zero_add]; exact h.cell i hi⟩
theorem Blk.lt {w : World} {g : Nat} {xs : List Nat} (h : Blk w g xs) : g < w.heap.size := (Array.getElem?_eq_some_iff.1 h).1
theorem Blk.set {w : World} {g : Nat} {xs : List Nat} (h : Blk w g xs) (i x : Nat) : Blk (w.setCell ⟨g, i, none⟩ (.int .u8 (x : Int))) g (xs.set i x) := by
  show _ = _
  rw [setCell_eq_setRow w g i _ _ _ _ h, setRow_heap w g _ _ _ _ h]
  congr 2
  apply Array.ext'
  simp [List.map_set, bv]
theorem Blk.below {w w' : World} {g B : Nat} {xs : List Nat} (h : Blk w g xs) (hb : Below B w w') (hg : g < B) : Blk w' g xs := (hb.block g hg).trans h
theorem Blk.keep {w w' : World} {g : Nat} {xs : List Nat} (h : Blk w g xs) (hb : Below w.heap.size w w') : Blk w' g xs := h.below hb h.lt
theorem Blk.drewN {w : World} {g : Nat} {xs : List Nat} (h : Blk w g xs) (n : Nat) : Blk (w.drewN n) g xs := h
theorem Blk.own {w : World} {g B n c : Nat} {xs ys : List Nat} (h : Blk w g (xs ++ ys)) (hn : n = xs.length) (hc : c = n + ys.length) (hB : B ≤ g) (hm : c ≤ maxLen) : Own w B (.slice (some ⟨g, 0, none⟩) n c) xs := by
  subst hn; subst hc
  refine ⟨by simp, .inr ⟨g, _, _, rfl, hB, h, by omega, hm, by simp, ?_⟩⟩
  simp

theorem wpList_make_bytes {w : World} {ops : Array Oper} {rest : List Oper} {o : Oper} {a : Act} {Q : Exit → Act → World → Prop} (hg : o.guard = none) (l c : Operand) (hop : o.op = Op.makeSlice 110 l c)
    (kl kc : IntKind) (L C : Int) (n m : Nat) (hl : a.eval l = .int kl L) (hc : a.eval c = .int kc C) (hL : L = (n : Int)) (hC : C = (m : Int)) (hnm : n ≤ m) (hm : m ≤ 281474976710656)
    (hK : ∀ w', Blk w' w.heap.size (List.replicate m 0) → Below w.heap.size w w' → w'.heap.size = w.heap.size + 1 → wpList Tryz.prog ops Q rest (a.put o.dst (.slice (some ⟨w.heap.size, 0, none⟩) n m)) w') :
    wpList Tryz.prog ops Q (o :: rest) a w := by
  obtain ⟨i0, hi, hz0, hz1, hz2⟩ := info_parts info8
  refine wpList_plain hg fun K hK' => ?_
  subst hL
  subst hC
  have hrun := run_make (P := Tryz.prog) w 110 5 i0 (.int .u8 0) Tryz.underlying110 hi hz0 kl kc (n : Int) (m : Int) (by omega) (by omega) (by rw [hz2]; omega) (by omega)
  have e : madeCells (Value.int .u8 0).cells (((m : Int).toNat) * i0.size) = ((List.replicate m 0).map bv).toArray := by
    rw [hz1, Int.toNat_natCast, Nat.mul_one]
    apply Array.ext'
    rw [show (Value.int IntKind.u8 0).cells = #[.int .u8 0] from rfl, toList_madeCells_one]
    simp [bv]
  rw [e] at hrun
  unfold Oper.wp
  simp only [Int.toNat_natCast] at hrun
  simp [execOp, hop, hl, hc, hrun, Result.andThen]
  exact hK' _ _ (hK _ (by unfold Blk; rw [heap_alloc_new w _]; simp) ((Below.refl _ _).alloc (Nat.le_refl _) _) (by simp))

theorem size8 : (Tryz.prog.info? 5).map (·.size) = some 1 := by kernel_rfl
theorem wpList_copy_bytes {w : World} {ops : Array Oper} {rest : List Oper} {o : Oper} {a : Act} {Q : Exit → Act → World → Prop} (hgd : o.guard = none) (d s : Operand)
    (ho : o.op = .call { callee := .builtin .copy, args := #[d, s], argTypes := #[110, 110] }) (dp sp : Option Addr) (dLen dCap n sCap : Nat) (hd : a.eval d = .slice dp dLen dCap) (hs : a.eval s = .slice sp n sCap)
    (g off : Nat) (cur cs : List Nat) (hn : n = cs.length) (hle : n ≤ dLen) (hg : Blk w g cur) (hdp : 0 < n → dp = some ⟨g, off, none⟩) (hsrc : Row w sp cs) (hfit : off + n ≤ cur.length) (B : Nat) (hBg : B ≤ g)
    (h : ∀ w' k, Blk w' g (cur.take off ++ cs ++ cur.drop (off + n)) → Below B w w' → wpList Tryz.prog ops Q rest (a.put o.dst k) w') : wpList Tryz.prog ops Q (o :: rest) a w := by
  subst hn
  refine wpList_copy_splice hgd d s _ _ ho 5 Tryz.underlying110 size8 dp sp dLen dCap cs.length sCap hd hs g off (cur.map bv) 5 hg (cs.map bv) (by simp [Nat.min_eq_left hle]) ?_ (by simpa using hfit) (bv_one cs) B w (Below.refl _ _) hBg ?_
  · intro h0
    have h0' : 0 < cs.length := by simpa using h0
    refine ⟨hdp h0', ?_⟩
    rcases hsrc with rfl | ⟨b, o, rfl, hc⟩
    · simp at h0'
    · exact ⟨_, rfl, Row.cells (.inr ⟨b, o, rfl, hc⟩)⟩
  · intro w' hw hb
    refine h w' _ ?_ hb
    have := hw.out
    simpa [Blk, splice, List.map_append, List.map_take, List.map_drop] using this
theorem elem8 : Tryz.prog.elem 110 = 5 := by kernel_rfl
theorem underBytes : Tryz.prog.underlying 110 = some (.slice (Tryz.prog.elem 110)) := by rw [elem8]; exact Tryz.underlying110
theorem sizeRun (w : World) : (sizeOf (Tryz.prog.elem 110)).run Tryz.prog w = .ok 1 w := by
  obtain ⟨i0, hi, hz0, hz1, hz2⟩ := info_parts info8
  rw [elem8]
  simp [sizeOf, typeInfo, hi, hz1]
theorem slice_from (g off n cap m c lo : Nat) (i : Int) (hi : i = (lo : Int)) (hlo : lo ≤ n) (hm : m = n - lo) (hc : c = cap - lo) :
    ∃ ao, (∀ w, (Instr.slice 110 (.slice (some ⟨g, off, none⟩) n cap) (some (.int .i64 i)) none none).run Tryz.prog w = .ok (.slice ao m c) w) ∧ (lo < cap → ao = some ⟨g, off + lo, none⟩) := by
  subst hi; subst hm; subst hc
  refine ⟨if cap = lo then some ⟨g, off, none⟩ else some ⟨g, off + lo, none⟩, fun w => ?_, fun h => by rw [if_neg (by omega)]⟩
  rw [run_slice_l w 110 (some ⟨g, off, none⟩) n cap underBytes .i64 (lo : Int) (by omega) (by omega), sizeRun]
  simp [Result.andThen, sliced, add_none]

end Go.Proofs.YtaenccjlokiejaaGreatDoor
namespace Go.Proofs.YtaenccjlokiejaaGreatDoor
open Go.RowKit

theorem num_any (n : Int) (w : World) : Calls Tryz.prog 12 #[.int .i64 n] w fun e w' => e = .returned (.int .i64 n) ∧ w' = w := by
  go_enter Tryz.func12, Tryz.ntmps12
  go_wp2
  go_ret
  exact ⟨rfl, rfl⟩
end Go.Proofs.YtaenccjlokiejaaGreatDoor
