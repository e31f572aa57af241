/- The document's six and decoded: for every text up to a size; rows of ints that the call itself has made. -/
import Derived.Test.YtghmabohodnbpaaGreatDoorXBase
import Derived.Test.YtghmabohodnbpaaGreatDoorXUn
import Derived.Test.YtghmabohodnbpaaGreatDoorLDecM
import Derived.Deep.DeepCutAuto
import Derived.Deep.CutBlock
namespace Go.Proofs.YtghmabohodnbpaaGreatDoor
open Go.RowKit

/-- Numbers as cells of ints. -/
def iv (n : Nat) : Value := .int .i64 (n : Int)
def OwnI (w : World) (B : Nat) (v : Value) (xs : List Nat) : Prop := w.ownsRow B 3 1 v xs.length (xs.map iv)
theorem infoI : (Tryz.prog.info? 3).map (fun i => (i.zero, i.size, i.bytes)) = some (some (.int .i64 0), 1, 8) := by kernel_rfl
theorem ownI_nil (w : World) (B : Nat) : OwnI w B (.slice none 0 0) [] := World.ownsRow_nil _ _ _ _
theorem OwnI.alloc {w : World} {B : Nat} {v : Value} {xs : List Nat} (h : OwnI w B v xs) (o : Obj) : OwnI (w.alloc o) B v xs := World.ownsRow.alloc h o
theorem OwnI.ge {w : World} {B : Nat} {v : Value} {xs : List Nat} (h : OwnI w B v xs) : ∀ k, v.ownBlock = some k → B ≤ k := fun k hk => (World.ownsRow.lt h k hk).1
theorem OwnI.keep {w w' : World} {B : Nat} {v : Value} {xs : List Nat} (h : OwnI w B v xs) (hb : Below w.heap.size w w') : OwnI w' B v xs := by
  refine ⟨h.1, ?_⟩
  rcases h.2 with h2 | ⟨g, cap, cur, e, hg, hh, r⟩
  · exact .inl h2
  · exact .inr ⟨g, cap, cur, e, hg, (hb.block g (Array.getElem?_eq_some_iff.1 hh).1).trans hh, r⟩
theorem OwnI.read {w : World} {B : Nat} {v : Value} {xs : List Nat} (h : OwnI w B v xs) : ∃ ao cap, v = .slice ao xs.length cap ∧ (0 < xs.length → ∃ g, ao = some ⟨g, 0, none⟩ ∧ ∀ i, i < xs.length → w.cell? ⟨g, i, none⟩ = some (.int .i64 ((xs.getD i 0 : Nat) : Int))) := by
  rcases h.2 with ⟨rfl, hn⟩ | ⟨g, cap, cur, rfl, hb, hg, hle, _, _, ht⟩
  · exact ⟨none, 0, by rw [hn], fun h0 => by omega⟩
  · refine ⟨_, cap, rfl, fun _ => ⟨g, rfl, fun i hi => ?_⟩⟩
    have := World.ownsRow.cells h (g := g) rfl i (iv (xs.getD i 0)) (by simp [hi])
    have hadd : (⟨g, 0, none⟩ : Addr).add i = ⟨g, i, none⟩ := by unfold Addr.add; split <;> simp_all
    rw [hadd] at this
    exact this
/-- append(v, y) where v is the call's own. -/
theorem wpList_append_int {w : World} {ops : Array Oper} {rest : List Oper} {o : Oper} {a : Act} {Q : Exit → Act → World → Prop} (hgd : o.guard = none) (s x : Operand)
    (ho : o.op = .call { callee := .builtin .append, args := #[s, x], argTypes := #[89, 89] }) (B : Nat) (v : Value) (xs : List Nat) (hs : a.eval s = v) (hown : OwnI w B v xs)
    (ad : Addr) (c y : Nat) (hx : a.eval x = .slice (some ad) 1 c) (hy : w.cell? ad = some (.int .i64 (y : Int))) (hsz : xs.length + 1 ≤ 17592186044416) (hB : B ≤ w.heap.size)
    (h : ∀ v' w', OwnI w' B v' (xs ++ [y]) → w.grownBy w' v.ownBlock → wpList Tryz.prog ops Q rest (a.put o.dst v') w') : wpList Tryz.prog ops Q (o :: rest) a w := by
  refine wpList_plain hgd fun K hK => ?_
  obtain ⟨i0, hi, hz0, hz1, hz2⟩ := info_parts infoI
  obtain ⟨v', w', hrun, h1, h2, _⟩ := run_append_own (P := Tryz.prog) w B 89 o.type 3 i0 (.int .i64 0) 1 8 Tryz.underlying89 hi hz0 hz1 hz2 rfl (by decide) v xs.length (xs.map iv) hown ad 1 c [iv y] (by simp)
    (fun j u hu => by
      cases j with
      | zero => simp at hu; subst hu; rw [show ad.add 0 = ad by unfold Addr.add; split <;> simp_all]; exact hy
      | succ j => simp at hu)
    (fun u hu => by simp at hu; subst hu; rfl) (by unfold maxLen; omega) (by omega) hB
  unfold Oper.wp
  simp [execOp, ho, resolve, invoke, builtin, hs, hx, hrun, Result.andThen]
  exact hK _ _ (h v' w' (by unfold OwnI; rw [List.length_append, List.map_append]; exact h1) h2)

theorem ownI_cap {w : World} {B n cap : Nat} {ao : Option Addr} {xs : List Nat} (h : OwnI w B (.slice ao n cap) xs) : n ≤ cap := by
  rcases h.2 with ⟨e, hn⟩ | ⟨g, c2, cur, e, hb, hg, hle, _, _, ht⟩
  · cases e; exact Nat.le_refl _
  · cases e; exact hle
def sixI (c : Nat) : Int := match six c with | some n => (n : Int) | none => -1
theorem trim1_yes {l : List Nat} (h : 0 < l.length) (hl : l.getD (l.length - 1) 0 = 61) : trim1 l = l.take (l.length - 1) := by
  unfold trim1
  have e : l.getLast? = some 61 := by
    rw [List.getLast?_eq_getElem?, List.getElem?_eq_getElem (by omega)]
    simp only [List.getD, List.getElem?_eq_getElem (show l.length - 1 < l.length by omega), Option.getD_some] at hl
    rw [hl]
  rw [if_pos e, List.dropLast_eq_take]
theorem trim1_no {l : List Nat} (h : l.length = 0 ∨ l.getD (l.length - 1) 0 ≠ 61) : trim1 l = l := by
  unfold trim1
  rw [if_neg]
  intro e
  rcases h with h | h
  · rw [List.length_eq_zero_iff.1 h] at e; simp at e
  · rw [List.getLast?_eq_getElem?] at e
    apply h
    simp only [List.getD, e, Option.getD_some]
theorem bare_len (l : List Nat) (p : Nat) (hp : p ≤ 2) (hl : p ≤ l.length) (h : ∀ j, j < p → l.getD (l.length - 1 - j) 0 = 61) (hx : p = 2 ∨ p = l.length ∨ l.getD (l.length - 1 - p) 0 ≠ 61) : bare l = l.take (l.length - p) := by
  have hg : ∀ (k i : Nat), i < k → (l.take k).getD i 0 = l.getD i 0 := fun k i hi => by simp [List.getD, hi]
  unfold bare
  rcases (show p = 0 ∨ p = 1 ∨ p = 2 by omega) with rfl | rfl | rfl
  · have h0 : trim1 l = l := trim1_no (hx.elim (fun h => by omega) fun h => h.elim (fun h => .inl h.symm) .inr)
    rw [h0, h0, Nat.sub_zero, List.take_length]
  · have h1 := trim1_yes (l := l) (by omega) (h 0 (by omega))
    rw [h1]
    apply trim1_no
    rw [List.length_take, Nat.min_eq_left (by omega)]
    rcases hx with hx | hx | hx
    · omega
    · left; omega
    · by_cases h2 : l.length = 1
      · left; omega
      · right; rw [hg _ _ (by omega)]; exact hx
  · have h1 := trim1_yes (l := l) (by omega) (h 0 (by omega))
    have hz : (l.take (l.length - 1)).length = l.length - 1 := by rw [List.length_take]; omega
    rw [h1, trim1_yes (by omega) (by rw [hz, hg _ _ (by omega)]; exact h 1 (by omega)), hz, List.take_take, Nat.min_eq_left (by omega)]
    rfl
theorem slice_ints (g off n cap m c lo : Nat) (i : Int) (hi : i = (lo : Int)) (hlo : lo ≤ n) (hm : m = n - lo) (hc : c = cap - lo) :
    ∃ ao, (∀ w, (Instr.slice 89 (.slice (some ⟨g, off, none⟩) n cap) (some (.int .i64 i)) none none).run Tryz.prog w = .ok (.slice ao m c) w) ∧ (lo < cap → ao = some ⟨g, off + lo, none⟩) := by
  subst hi; subst hm; subst hc
  have hel : Tryz.prog.elem 89 = 3 := by kernel_rfl
  obtain ⟨i0, hi0, _, hz1, _⟩ := info_parts infoI
  have hsz : ∀ w : World, (sizeOf (Tryz.prog.elem 89)).run Tryz.prog w = .ok 1 w := fun w => by
    rw [hel]
    simp [sizeOf, typeInfo, hi0, hz1]
  have hu : Tryz.prog.underlying 89 = some (.slice (Tryz.prog.elem 89)) := by rw [hel]; exact Tryz.underlying89
  refine ⟨if cap = lo then some ⟨g, off, none⟩ else some ⟨g, off + lo, none⟩, fun w => ?_, fun h => by rw [if_neg (by omega)]⟩
  rw [run_slice_l w 89 (some ⟨g, off, none⟩) n cap hu .i64 (lo : Int) (by omega) (by omega), hsz]
  simp [Result.andThen, sliced, add_none]

def DecEnd (w : World) (D : Option (List Nat)) (e : Ending) (w' : World) : Prop := ∃ x : ByteArray, e = .returned (.tuple #[.string x, .bool D.isSome]) ∧ (∀ t, D = some t → x = bstr t) ∧ Below w.heap.size w w'
theorem decEnd_none {w w' : World} (x : ByteArray) (hb : Below w.heap.size w w') : DecEnd w none (.returned (.tuple #[.string x, .bool false])) w' := ⟨x, rfl, fun t h => (by cases h), hb⟩
/-- What the bits of the letters say of the text. -/
theorem dec_bits {l : List Nat} (h4 : l.length % 4 = 0) (hall : ∀ c ∈ bare l, (six c).isSome = true) : ∃ B : List Nat, B = ((bare l).filterMap six).flatMap bits6 ∧ B.length = 6 * (bare l).length ∧ (∀ x ∈ B, x < 2) ∧
    ((∃ x ∈ over B, x ≠ 0) → decT l = none) ∧ ((∀ x ∈ over B, x = 0) → decT l = if (over B).length < 6 then some (eights B) else none) := by
  have hv : ∀ x ∈ (bare l).filterMap six, x < 64 := by
    intro x hx
    obtain ⟨c, _, hc⟩ := List.mem_filterMap.1 hx
    exact six_lt hc
  have hlen : ((bare l).filterMap six).length = (bare l).length := by
    have : ∀ m : List Nat, (∀ c ∈ m, (six c).isSome = true) → (m.filterMap six).length = m.length := by
      intro m hm
      induction m with
      | nil => rfl
      | cons c r ih =>
        have h1 := hm c (by simp)
        have h2 := ih (fun x hx => hm x (by simp [hx]))
        rw [List.filterMap_cons]
        cases hs : six c with
        | none => rw [hs] at h1; simp at h1
        | some n => simp [h2]
    exact this _ hall
  obtain ⟨b1, b2, b3⟩ := bits_d64 _ hv
  have hb : (bare l).all (fun c => (six c).isSome) = true := List.all_eq_true.2 hall
  have hD : decT l = if left64 ((bare l).filterMap six) = 0 ∧ (bare l).length % 4 ≠ 1 then some (d64 ((bare l).filterMap six)) else none := by
    unfold decT
    rw [if_neg (by omega), if_pos hb]
  refine ⟨_, rfl, ?_, ?_, ?_, ?_⟩
  · have : ∀ v : List Nat, (v.flatMap bits6).length = 6 * v.length := by
      intro v
      induction v with
      | nil => rfl
      | cons x r ih => rw [List.flatMap_cons, List.length_append, ih, List.length_cons]; simp [bits6]; omega
    rw [this, hlen]
  · intro x hx
    obtain ⟨n, _, hx⟩ := List.mem_flatMap.1 hx
    simp only [bits6, List.mem_cons, List.not_mem_nil, or_false] at hx
    rcases hx with rfl | rfl | rfl | rfl | rfl | rfl <;> exact Nat.mod_lt _ (by decide)
  · rintro ⟨x, hx, h0⟩
    rw [hD, if_neg]
    rintro ⟨h1, _⟩
    exact h0 (b2.2 h1 x hx)
  · intro h0
    rw [hD, b3, b1, hlen]
    have h1 := b2.1 h0
    by_cases h2 : (bare l).length % 4 = 1
    · rw [if_neg (fun h => h.2 h2), if_neg (by omega)]
    · rw [if_pos ⟨h1, h2⟩, if_pos (by omega)]
theorem filterMap_snoc {l : List Nat} {c n : Nat} (h : six c = some n) : ((l ++ [c]).filterMap six).flatMap bits6 = (l.filterMap six).flatMap bits6 ++ bits6 n := by
  rw [List.filterMap_append, List.flatMap_append]
  simp [h]
def eightP (b : List Nat) : Nat → Nat
  | 0 => 0
  | k + 1 => 2 * eightP b k + b.getD k 0
theorem eightP_lt (b : List Nat) (hb : ∀ x ∈ b, x < 2) (k : Nat) (hk : k ≤ 8) : eightP b k < 256 := by
  have hg : ∀ j, b.getD j 0 < 2 := by
    intro j
    by_cases h : j < b.length
    · simp only [List.getD, List.getElem?_eq_getElem h, Option.getD_some]; exact hb _ (List.getElem_mem h)
    · simp [List.getD, List.getElem?_eq_none (by omega : b.length ≤ j)]
  have : ∀ k, eightP b k < 2 ^ k := by
    intro k
    induction k with
    | zero => simp [eightP]
    | succ k ih => unfold eightP; have := hg k; rw [Nat.pow_succ]; omega
  exact Nat.lt_of_lt_of_le (this k) (Nat.pow_le_pow_right (n := 2) (by decide) hk)
theorem eights_P {l : List Nat} (h : 8 ≤ l.length) : eights l = eightP l 8 :: eights (l.drop 8) ∧ over l = over (l.drop 8) := eights_eight h
theorem bit_lt {b : List Nat} (hb : ∀ x ∈ b, x < 2) (j : Nat) : b.getD j 0 < 2 := by
  by_cases h : j < b.length
  · simp only [List.getD, List.getElem?_eq_getElem h, Option.getD_some]; exact hb _ (List.getElem_mem h)
  · simp [List.getD, List.getElem?_eq_none (by omega : b.length ≤ j)]
theorem str_at (s : ByteArray) (k : Nat) (i : Int) (hi : i = (k : Int)) (hk : k < s.size) (w : World) : (Instr.index 9 (.string s) (.int .i64 i)).run Tryz.prog w = .ok (.int .u8 (((sbytes s).getD k 0 : Nat) : Int)) w := by
  subst hi; exact str_index s k hk w
def slLen : Value → Nat
  | .slice _ n _ => n
  | _ => 0
theorem take_snoc {l : List Nat} {k : Nat} (h : k < l.length) : l.take (k + 1) = l.take k ++ [l.getD k 0] := take_getD h
end Go.Proofs.YtghmabohodnbpaaGreatDoor
