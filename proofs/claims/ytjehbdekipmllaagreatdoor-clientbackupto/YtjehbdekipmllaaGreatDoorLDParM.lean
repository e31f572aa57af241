/- A text gone through byte by byte against its lines: the mathematics of the document's Parse. -/
import Derived.Test.YtjehbdekipmllaaGreatDoorLPars
import Derived.Test.YtjehbdekipmllaaGreatDoorLLaws
namespace Go.Proofs.YtjehbdekipmllaaGreatDoor
open Go.RowKit

theorem cutLn_no : ∀ {t : U}, (∀ x ∈ t, x ≠ 10) → cutLn t = [t]
  | [], _ => rfl
  | c :: t, h => by
    have ih := cutLn_no (t := t) (fun x hx => h x (by simp [hx]))
    rw [cutLn_cons (h c (by simp)) ih]
theorem cutLn_at : ∀ {u r : U}, (∀ x ∈ u, x ≠ 10) → cutLn (u ++ 10 :: r) = u :: cutLn r
  | [], r, _ => cutLn_blank r
  | c :: u, r, h => by
    have ih := cutLn_at (u := u) (r := r) (fun x hx => h x (by simp [hx]))
    rw [List.cons_append, cutLn_cons (h c (by simp)) ih]
/-- Where the document's Parse stands: k lines are behind it, the line under way begins at f, j is the next byte. -/
def LpIn (t : U) (R : List Cl × Nat × Nat) (a : List Cl) (k f j : Nat) : Prop :=
  (j ≤ t.length → R = pRun (cutLn (t.drop f)) k a ∧ ∀ x ∈ (t.drop f).take (j - f), x ≠ 10) ∧ (j = t.length + 1 → R = (a, 0, 0))
theorem lp_start {t : U} {R : List Cl × Nat × Nat} (h : R = pRun (cutLn t) 0 []) : LpIn t R [] 0 0 0 := ⟨fun _ => ⟨by simpa using h, by simp⟩, fun h => by omega⟩
theorem lp_go {t : U} {R : List Cl × Nat × Nat} {a : List Cl} {k f j : Nat} (h : LpIn t R a k f j) (hf : f ≤ j) {x : UInt8} (hx : t[j]? = some x) (h10 : x ≠ 10) : LpIn t R a k f (j + 1) := by
  have hj : j < t.length := (List.getElem?_eq_some_iff.1 hx).1
  obtain ⟨h1, h2⟩ := h.1 (by omega)
  refine ⟨fun _ => ⟨h1, fun y hy => ?_⟩, fun e => by omega⟩
  have hd : (t.drop f)[j - f]? = some x := by rw [List.getElem?_drop, show f + (j - f) = j by omega]; exact hx
  rw [show j + 1 - f = (j - f) + 1 by omega, List.take_add_one, hd] at hy
  rcases List.mem_append.1 hy with hy | hy
  · exact h2 y hy
  · simp at hy; rw [hy]; exact h10
theorem lp_cut {t : U} {R : List Cl × Nat × Nat} {a : List Cl} {k f j : Nat} (h : LpIn t R a k f j) (hj : j ≤ t.length) (hf : f ≤ j) (h10 : j < t.length → t[j]? = some 10) :
    ∃ rest, R = pRun ((t.drop f).take (j - f) :: rest) k a ∧ ∀ a', R = pRun rest (k + 1) a' → LpIn t R a' (k + 1) (j + 1) (j + 1) := by
  obtain ⟨h1, h2⟩ := h.1 hj
  by_cases hlt : j < t.length
  · refine ⟨cutLn (t.drop (j + 1)), ?_, fun a' ha => ⟨fun _ => ⟨ha, by simp⟩, fun e => by omega⟩⟩
    have e : t.drop f = (t.drop f).take (j - f) ++ 10 :: t.drop (j + 1) := by
      conv => lhs; rw [← List.take_append_drop (j - f) (t.drop f)]
      congr 1
      rw [List.drop_drop, show f + (j - f) = j by omega]
      obtain ⟨hl, hv⟩ := List.getElem?_eq_some_iff.1 (h10 hlt)
      rw [List.drop_eq_getElem_cons hl, hv]
    rw [h1]
    conv => lhs; rw [e]
    rw [cutLn_at h2]
  · refine ⟨[], ?_, fun a' ha => ⟨fun h => by omega, fun _ => ha⟩⟩
    have e : (t.drop f).take (j - f) = t.drop f := List.take_of_length_le (by simp; omega)
    rw [e] at h2 ⊢
    rw [h1, cutLn_no h2]
theorem extract_list (s : ByteArray) (a b : Nat) : s.extract a b = ⟨((s.data.toList.drop a).take (b - a)).toArray⟩ := by
  apply ByteArray.ext
  apply Array.toList_inj.1
  simp [List.extract_eq_take_drop]
theorem extract_le (s : ByteArray) (a b : Nat) : (s.extract a b).size ≤ s.size := by
  rw [ByteArray.size_extract]; omega
theorem find_pos (l : List Cl) (x : ByteArray) : (findR l x).isSome = (posOf l x).isSome := by
  unfold findR
  cases h : posOf l x with
  | none => rfl
  | some i =>
    have hi : i < l.length := by
      unfold posOf at h
      rw [List.findIdx?_eq_some_iff_getElem] at h
      exact h.1
    simp [hi]
theorem nothing_at {s : ByteArray} (h0 : ¬ s.size = 0) : ∃ hlt : 0 < s.size, (s.toList == ([] : List UInt8)) = false ∧ (((s[0].toNat : Int)) == 35) = nothingB s := by
  have hlt : 0 < s.size := by omega
  refine ⟨hlt, ne_of_size h0, ?_⟩
  have e : s.data.toList = s[0] :: s.data.toList.drop 1 := by
    have := take_byte s 0 hlt
    rw [List.take_zero, List.nil_append] at this
    conv => lhs; rw [← List.take_append_drop 1 s.data.toList, this]
    rfl
  unfold nothingB
  rw [e]
  show decide _ = decide _
  congr 1
  exact propext (by constructor <;> (intro h; omega))
/-- A row of the document's clients of one's own, whose lists of scopes lie from B on. -/
def DOwnF (w : World) (B : Nat) (v : Value) (l : List Cl) : Prop := ∃ cs, w.ownsRow B 50 6 v l.length cs ∧ Flat w cs l ∧ ∀ i so m cp, i < l.length → cs[i * 6 + 5]? = some (.slice so m cp) → ∀ a, so = some a → B ≤ a.block
theorem DOwnF.own {w : World} {B : Nat} {v : Value} {l : List Cl} (h : DOwnF w B v l) : DOwn w B v l := by
  obtain ⟨cs, h1, h2, _⟩ := h
  exact ⟨cs, h1, h2⟩
theorem downf_nil (w : World) (B : Nat) : DOwnF w B (.slice none 0 0) [] := ⟨[], World.ownsRow_nil _ _ _ _, flat_nil w, fun i so m cp h => by simp at h⟩
theorem DOwnF.keep {w w' : World} {B : Nat} {v : Value} {l : List Cl} (h : DOwnF w B v l) (hb : Below w.heap.size w w') : DOwnF w' B v l := by
  obtain ⟨cs, ho, hf, hm⟩ := h
  refine ⟨cs, ⟨ho.1, ?_⟩, hf.sats fun _ _ _ _ h => h.keep hb, hm⟩
  rcases ho.2 with h2 | ⟨g, cap, cur, e, hg, hh, r⟩
  · exact .inl h2
  · exact .inr ⟨g, cap, cur, e, hg, (hb.block g (Array.getElem?_eq_some_iff.1 hh).1).trans hh, r⟩
theorem wpList_append_rclientF {w : World} {ops : Array Oper} {rest : List Oper} {o : Oper} {a : Act} {Q : Exit → Act → World → Prop} {i0 : TypeInfo} (hgd : o.guard = none) (s x : Operand)
    (ho : o.op = .call { callee := .builtin .append, args := #[s, x], argTypes := #[26, 26] }) (hi : Tryz.prog.info? 50 = some i0) (hz0 : i0.zero = some (.agg #[.string { data := #[] }, .string { data := #[] }, .int .i64 0, .bool false, .string { data := #[] }, .slice none 0 0])) (hz1 : i0.size = 6) (hz2 : i0.bytes = 88)
    (B : Nat) (v : Value) (l : List Cl) (c : Cl) (so : Option Addr) (n cp : Nat) (hs : a.eval s = v) (hown : DOwnF w B v l)
    (N : Nat) (hx : a.eval x = .slice (some ⟨N, 0, none⟩) 1 1) (hr : D6 w N (.string c.id) (.string c.secret) (.int .i64 c.grants) (.bool c.ping) (.string c.url) (.slice so n cp)) (hsat : SAt w so n cp c.scopes) (hfar : ∀ a, so = some a → B ≤ a.block)
    (hsz : (l.length + 1) * 88 ≤ 140737488355328) (hB : B ≤ w.heap.size)
    (h : ∀ v' w', DOwnF w' B v' (l ++ [c]) → w.grownBy w' v.ownBlock → wpList Tryz.prog ops Q rest (a.put o.dst v') w') : wpList Tryz.prog ops Q (o :: rest) a w := by
  refine wpList_plain hgd fun K hK => ?_
  obtain ⟨cs, ho1, hf, hm⟩ := hown
  obtain ⟨v', w', hrun, h1, h2, _⟩ := run_append_own (P := Tryz.prog) w B 26 o.type 50 i0 (.agg #[.string { data := #[] }, .string { data := #[] }, .int .i64 0, .bool false, .string { data := #[] }, .slice none 0 0]) 6 88 Tryz.underlying26 hi hz0 hz1 hz2 rfl (by decide) v l.length cs ho1 ⟨N, 0, none⟩ 1 1 (clCells c so n cp) (by simp [clCells])
    (by
      intro j u hj
      rw [add_none, Nat.zero_add, cell_of_row w N j _ 50 (0, 0) hr, ← Array.getElem?_toList]
      exact hj)
    (by
      intro u hu
      simp only [clCells, List.mem_cons, List.not_mem_nil, or_false] at hu
      rcases hu with rfl | rfl | rfl | rfl | rfl | rfl <;> rfl) (by unfold maxLen; omega) (by omega) hB
  unfold Oper.wp
  simp [execOp, ho, resolve, invoke, builtin, hs, hx, hrun, Result.andThen]
  refine hK _ _ (h v' w' ⟨_, by rw [List.length_append]; exact h1, (hf.snoc hsat).sats fun _ _ _ _ hq => hq.offR ho1 h2, fun i so2 m2 cp2 hi2 hv => ?_⟩ h2)
  rw [List.length_append] at hi2
  by_cases hlt : i < l.length
  · rw [List.getElem?_append_left (by rw [hf.1]; omega)] at hv
    exact hm i so2 m2 cp2 hlt hv
  · obtain rfl : i = l.length := by simp at hi2; omega
    rw [List.getElem?_append_right (by rw [hf.1]; omega), hf.1, show l.length * 6 + 5 - l.length * 6 = 5 by omega] at hv
    cases hv
    exact hfar
end Go.Proofs.YtjehbdekipmllaaGreatDoor
