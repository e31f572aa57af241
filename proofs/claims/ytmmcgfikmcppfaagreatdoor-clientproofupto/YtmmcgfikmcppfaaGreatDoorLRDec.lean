/- The document's six and decoded: for every text up to a size; rows of ints that the call itself has made. -/
import Derived.Test.YtmmcgfikmcppfaaGreatDoorXBase
import Derived.Test.YtmmcgfikmcppfaaGreatDoorXUn
import Derived.Test.YtmmcgfikmcppfaaGreatDoorLDecM
import Derived.Deep.DeepCutAuto
import Derived.Deep.CutBlock
namespace Go.Proofs.YtmmcgfikmcppfaaGreatDoor
open Go.RowKit

/-- Numbers as cells of ints. -/
def iv (n : Nat) : Value := .int .i64 (n : Int)
def OwnI (w : World) (B : Nat) (v : Value) (xs : List Nat) : Prop := w.ownsRow B 3 1 v xs.length (xs.map iv)
theorem infoI : (Tryz.prog.info? 3).map (fun i => (i.zero, i.size, i.bytes)) = some (some (.int .i64 0), 1, 8) := by kernel_rfl
theorem ownI_nil (w : World) (B : Nat) : OwnI w B (.slice none 0 0) [] := World.ownsRow_nil _ _ _ _
theorem OwnI.alloc {w : World} {B : Nat} {v : Value} {xs : List Nat} (h : OwnI w B v xs) (o : Obj) : OwnI (w.alloc o) B v xs := World.ownsRow.alloc h o
theorem OwnI.ge {w : World} {B : Nat} {v : Value} {xs : List Nat} (h : OwnI w B v xs) : ∀ k, v.ownBlock = some k → B ≤ k := fun k hk => (World.ownsRow.lt h k hk).1
theorem OwnI.keep {w w' : World} {B : Nat} {v : Value} {xs : List Nat} (h : OwnI w B v xs) (hb : Below w.heap.size w w') : OwnI w' B v xs := by
  refine ⟨h.1, ?_⟩
  rcases h.2 with h2 | ⟨g, cap, cur, e, hg, hh, r⟩
  · exact .inl h2
  · exact .inr ⟨g, cap, cur, e, hg, (hb.block g (Array.getElem?_eq_some_iff.1 hh).1).trans hh, r⟩
theorem OwnI.read {w : World} {B : Nat} {v : Value} {xs : List Nat} (h : OwnI w B v xs) : ∃ ao cap, v = .slice ao xs.length cap ∧ (0 < xs.length → ∃ g, ao = some ⟨g, 0, none⟩ ∧ ∀ i, i < xs.length → w.cell? ⟨g, i, none⟩ = some (.int .i64 ((xs.getD i 0 : Nat) : Int))) := by
  rcases h.2 with ⟨rfl, hn⟩ | ⟨g, cap, cur, rfl, hb, hg, hle, _, _, ht⟩
  · exact ⟨none, 0, by rw [hn], fun h0 => by omega⟩
  · refine ⟨_, cap, rfl, fun _ => ⟨g, rfl, fun i hi => ?_⟩⟩
    have := World.ownsRow.cells h (g := g) rfl i (iv (xs.getD i 0)) (by simp [hi])
    have hadd : (⟨g, 0, none⟩ : Addr).add i = ⟨g, i, none⟩ := by unfold Addr.add; split <;> simp_all
    rw [hadd] at this
    exact this
/-- append(v, y) where v is the call's own. -/
theorem wpList_append_int {w : World} {ops : Array Oper} {rest : List Oper} {o : Oper} {a : Act} {Q : Exit → Act → World → Prop} (hgd : o.guard = none) (s x : Operand)
    (ho : o.op = .call { callee := .builtin .append, args := #[s, x], argTypes := #[115, 115] }) (B : Nat) (v : Value) (xs : List Nat) (hs : a.eval s = v) (hown : OwnI w B v xs)
    (ad : Addr) (c y : Nat) (hx : a.eval x = .slice (some ad) 1 c) (hy : w.cell? ad = some (.int .i64 (y : Int))) (hsz : xs.length + 1 ≤ 17592186044416) (hB : B ≤ w.heap.size)
    (h : ∀ v' w', OwnI w' B v' (xs ++ [y]) → w.grownBy w' v.ownBlock → wpList Tryz.prog ops Q rest (a.put o.dst v') w') : wpList Tryz.prog ops Q (o :: rest) a w := by
  refine wpList_plain hgd fun K hK => ?_
  obtain ⟨i0, hi, hz0, hz1, hz2⟩ := info_parts infoI
  obtain ⟨v', w', hrun, h1, h2, _⟩ := run_append_own (P := Tryz.prog) w B 115 o.type 3 i0 (.int .i64 0) 1 8 Tryz.underlying115 hi hz0 hz1 hz2 rfl (by decide) v xs.length (xs.map iv) hown ad 1 c [iv y] (by simp)
    (fun j u hu => by
      cases j with
      | zero => simp at hu; subst hu; rw [show ad.add 0 = ad by unfold Addr.add; split <;> simp_all]; exact hy
      | succ j => simp at hu)
    (fun u hu => by simp at hu; subst hu; rfl) (by unfold maxLen; omega) (by omega) hB
  unfold Oper.wp
  simp [execOp, ho, resolve, invoke, builtin, hs, hx, hrun, Result.andThen]
  exact hK _ _ (h v' w' (by unfold OwnI; rw [List.length_append, List.map_append]; exact h1) h2)

theorem ownI_cap {w : World} {B n cap : Nat} {ao : Option Addr} {xs : List Nat} (h : OwnI w B (.slice ao n cap) xs) : n ≤ cap := by
  rcases h.2 with ⟨e, hn⟩ | ⟨g, c2, cur, e, hb, hg, hle, _, _, ht⟩
  · cases e; exact Nat.le_refl _
  · cases e; exact hle
def sixI (c : Nat) : Int := match six c with | some n => (n : Int) | none => -1
set_option maxHeartbeats 1000000 in
set_option maxRecDepth 100000 in
theorem rsix_any (c : Nat) (w : World) (hc : c < 256) : Calls Tryz.prog 101 #[.int .u8 (c : Int)] w fun e w' => e = .returned (.int .i64 (sixI c)) ∧ w' = w := by
  rcases (show (c ≤ 42) ∨ (c = 43) ∨ (44 ≤ c ∧ c ≤ 46) ∨ (c = 47) ∨ (48 ≤ c ∧ c ≤ 57) ∨ (58 ≤ c ∧ c ≤ 64) ∨ (65 ≤ c ∧ c ≤ 90) ∨ (91 ≤ c ∧ c ≤ 96) ∨ (97 ≤ c ∧ c ≤ 122) ∨ (123 ≤ c) by omega) with h | h | h | h | h | h | h | h | h | h
  · have e : sixI c = -1 := by unfold sixI six; rw [if_neg (by omega), if_neg (by omega), if_neg (by omega), if_neg (by omega), if_neg (by omega)]
    have n1 : ((c : Int) == 43) = false := by simp; omega
    have n2 : ((c : Int) == 47) = false := by simp; omega
    have hh := h
    rw [e]
    go_enter Tryz.func101, Tryz.ntmps101
    go_wp2
    go_ret
    exact ⟨rfl, rfl⟩
  · subst h
    go_enter Tryz.func101, Tryz.ntmps101
    go_wp2
    go_ret
    exact ⟨rfl, rfl⟩
  · have e : sixI c = -1 := by unfold sixI six; rw [if_neg (by omega), if_neg (by omega), if_neg (by omega), if_neg (by omega), if_neg (by omega)]
    have n1 : ((c : Int) == 43) = false := by simp; omega
    have n2 : ((c : Int) == 47) = false := by simp; omega
    have hh := h
    rw [e]
    go_enter Tryz.func101, Tryz.ntmps101
    go_wp2
    go_ret
    exact ⟨rfl, rfl⟩
  · subst h
    go_enter Tryz.func101, Tryz.ntmps101
    go_wp2
    go_ret
    exact ⟨rfl, rfl⟩
  · have e : sixI c = (c : Int) - 48 + 52 := by unfold sixI six; rw [if_neg (by omega), if_neg (by omega), if_pos (by omega)]; simp only; omega
    obtain ⟨a1, a2⟩ := h
    have HE := hide e
    obtain ⟨v, hv⟩ : ∃ v, v = sixI c := ⟨_, rfl⟩
    rw [← hv] at HE ⊢
    clear hv e
    go_enter Tryz.func101, Tryz.ntmps101
    go_wp2
    go_ret
    exact ⟨by rw [HE.out]; simp <;> omega, rfl⟩
  · have e : sixI c = -1 := by unfold sixI six; rw [if_neg (by omega), if_neg (by omega), if_neg (by omega), if_neg (by omega), if_neg (by omega)]
    have n1 : ((c : Int) == 43) = false := by simp; omega
    have n2 : ((c : Int) == 47) = false := by simp; omega
    have hh := h
    rw [e]
    go_enter Tryz.func101, Tryz.ntmps101
    go_wp2
    go_ret
    exact ⟨rfl, rfl⟩
  · have e : sixI c = (c : Int) - 65 := by unfold sixI six; rw [if_pos (by omega)]; simp only; omega
    obtain ⟨a1, a2⟩ := h
    have HE := hide e
    obtain ⟨v, hv⟩ : ∃ v, v = sixI c := ⟨_, rfl⟩
    rw [← hv] at HE ⊢
    clear hv e
    go_enter Tryz.func101, Tryz.ntmps101
    go_wp2
    go_ret
    exact ⟨by rw [HE.out]; simp <;> omega, rfl⟩
  · have e : sixI c = -1 := by unfold sixI six; rw [if_neg (by omega), if_neg (by omega), if_neg (by omega), if_neg (by omega), if_neg (by omega)]
    have n1 : ((c : Int) == 43) = false := by simp; omega
    have n2 : ((c : Int) == 47) = false := by simp; omega
    have hh := h
    rw [e]
    go_enter Tryz.func101, Tryz.ntmps101
    go_wp2
    go_ret
    exact ⟨rfl, rfl⟩
  · have e : sixI c = (c : Int) - 97 + 26 := by unfold sixI six; rw [if_neg (by omega), if_pos (by omega)]; simp only; omega
    obtain ⟨a1, a2⟩ := h
    have HE := hide e
    obtain ⟨v, hv⟩ : ∃ v, v = sixI c := ⟨_, rfl⟩
    rw [← hv] at HE ⊢
    clear hv e
    go_enter Tryz.func101, Tryz.ntmps101
    go_wp2
    go_ret
    exact ⟨by rw [HE.out]; simp <;> omega, rfl⟩
  · have e : sixI c = -1 := by unfold sixI six; rw [if_neg (by omega), if_neg (by omega), if_neg (by omega), if_neg (by omega), if_neg (by omega)]
    have n1 : ((c : Int) == 43) = false := by simp; omega
    have n2 : ((c : Int) == 47) = false := by simp; omega
    have hh := h
    rw [e]
    go_enter Tryz.func101, Tryz.ntmps101
    go_wp2
    go_ret
    exact ⟨rfl, rfl⟩

theorem trim1_yes {l : List Nat} (h : 0 < l.length) (hl : l.getD (l.length - 1) 0 = 61) : trim1 l = l.take (l.length - 1) := by
  unfold trim1
  have e : l.getLast? = some 61 := by
    rw [List.getLast?_eq_getElem?, List.getElem?_eq_getElem (by omega)]
    simp only [List.getD, List.getElem?_eq_getElem (show l.length - 1 < l.length by omega), Option.getD_some] at hl
    rw [hl]
  rw [if_pos e, List.dropLast_eq_take]
theorem trim1_no {l : List Nat} (h : l.length = 0 ∨ l.getD (l.length - 1) 0 ≠ 61) : trim1 l = l := by
  unfold trim1
  rw [if_neg]
  intro e
  rcases h with h | h
  · rw [List.length_eq_zero_iff.1 h] at e; simp at e
  · rw [List.getLast?_eq_getElem?] at e
    apply h
    simp only [List.getD, e, Option.getD_some]
theorem bare_len (l : List Nat) (p : Nat) (hp : p ≤ 2) (hl : p ≤ l.length) (h : ∀ j, j < p → l.getD (l.length - 1 - j) 0 = 61) (hx : p = 2 ∨ p = l.length ∨ l.getD (l.length - 1 - p) 0 ≠ 61) : bare l = l.take (l.length - p) := by
  have hg : ∀ (k i : Nat), i < k → (l.take k).getD i 0 = l.getD i 0 := fun k i hi => by simp [List.getD, hi]
  unfold bare
  rcases (show p = 0 ∨ p = 1 ∨ p = 2 by omega) with rfl | rfl | rfl
  · have h0 : trim1 l = l := trim1_no (hx.elim (fun h => by omega) fun h => h.elim (fun h => .inl h.symm) .inr)
    rw [h0, h0, Nat.sub_zero, List.take_length]
  · have h1 := trim1_yes (l := l) (by omega) (h 0 (by omega))
    rw [h1]
    apply trim1_no
    rw [List.length_take, Nat.min_eq_left (by omega)]
    rcases hx with hx | hx | hx
    · omega
    · left; omega
    · by_cases h2 : l.length = 1
      · left; omega
      · right; rw [hg _ _ (by omega)]; exact hx
  · have h1 := trim1_yes (l := l) (by omega) (h 0 (by omega))
    have hz : (l.take (l.length - 1)).length = l.length - 1 := by rw [List.length_take]; omega
    rw [h1, trim1_yes (by omega) (by rw [hz, hg _ _ (by omega)]; exact h 1 (by omega)), hz, List.take_take, Nat.min_eq_left (by omega)]
    rfl
theorem slice_ints (g off n cap m c lo : Nat) (i : Int) (hi : i = (lo : Int)) (hlo : lo ≤ n) (hm : m = n - lo) (hc : c = cap - lo) :
    ∃ ao, (∀ w, (Instr.slice 115 (.slice (some ⟨g, off, none⟩) n cap) (some (.int .i64 i)) none none).run Tryz.prog w = .ok (.slice ao m c) w) ∧ (lo < cap → ao = some ⟨g, off + lo, none⟩) := by
  subst hi; subst hm; subst hc
  have hel : Tryz.prog.elem 115 = 3 := by kernel_rfl
  obtain ⟨i0, hi0, _, hz1, _⟩ := info_parts infoI
  have hsz : ∀ w : World, (sizeOf (Tryz.prog.elem 115)).run Tryz.prog w = .ok 1 w := fun w => by
    rw [hel]
    simp [sizeOf, typeInfo, hi0, hz1]
  have hu : Tryz.prog.underlying 115 = some (.slice (Tryz.prog.elem 115)) := by rw [hel]; exact Tryz.underlying115
  refine ⟨if cap = lo then some ⟨g, off, none⟩ else some ⟨g, off + lo, none⟩, fun w => ?_, fun h => by rw [if_neg (by omega)]⟩
  rw [run_slice_l w 115 (some ⟨g, off, none⟩) n cap hu .i64 (lo : Int) (by omega) (by omega), hsz]
  simp [Result.andThen, sliced, add_none]

def DecEnd (w : World) (D : Option (List Nat)) (e : Ending) (w' : World) : Prop := ∃ x : ByteArray, e = .returned (.tuple #[.string x, .bool D.isSome]) ∧ (∀ t, D = some t → x = bstr t) ∧ Below w.heap.size w w'
theorem decEnd_none {w w' : World} (x : ByteArray) (hb : Below w.heap.size w w') : DecEnd w none (.returned (.tuple #[.string x, .bool false])) w' := ⟨x, rfl, fun t h => (by cases h), hb⟩
/-- What the bits of the letters say of the text. -/
theorem dec_bits {l : List Nat} (h4 : l.length % 4 = 0) (hall : ∀ c ∈ bare l, (six c).isSome = true) : ∃ B : List Nat, B = ((bare l).filterMap six).flatMap bits6 ∧ B.length = 6 * (bare l).length ∧ (∀ x ∈ B, x < 2) ∧
    ((∃ x ∈ over B, x ≠ 0) → decT l = none) ∧ ((∀ x ∈ over B, x = 0) → decT l = if (over B).length < 6 then some (eights B) else none) := by
  have hv : ∀ x ∈ (bare l).filterMap six, x < 64 := by
    intro x hx
    obtain ⟨c, _, hc⟩ := List.mem_filterMap.1 hx
    exact six_lt hc
  have hlen : ((bare l).filterMap six).length = (bare l).length := by
    have : ∀ m : List Nat, (∀ c ∈ m, (six c).isSome = true) → (m.filterMap six).length = m.length := by
      intro m hm
      induction m with
      | nil => rfl
      | cons c r ih =>
        have h1 := hm c (by simp)
        have h2 := ih (fun x hx => hm x (by simp [hx]))
        rw [List.filterMap_cons]
        cases hs : six c with
        | none => rw [hs] at h1; simp at h1
        | some n => simp [h2]
    exact this _ hall
  obtain ⟨b1, b2, b3⟩ := bits_d64 _ hv
  have hb : (bare l).all (fun c => (six c).isSome) = true := List.all_eq_true.2 hall
  have hD : decT l = if left64 ((bare l).filterMap six) = 0 ∧ (bare l).length % 4 ≠ 1 then some (d64 ((bare l).filterMap six)) else none := by
    unfold decT
    rw [if_neg (by omega), if_pos hb]
  refine ⟨_, rfl, ?_, ?_, ?_, ?_⟩
  · have : ∀ v : List Nat, (v.flatMap bits6).length = 6 * v.length := by
      intro v
      induction v with
      | nil => rfl
      | cons x r ih => rw [List.flatMap_cons, List.length_append, ih, List.length_cons]; simp [bits6]; omega
    rw [this, hlen]
  · intro x hx
    obtain ⟨n, _, hx⟩ := List.mem_flatMap.1 hx
    simp only [bits6, List.mem_cons, List.not_mem_nil, or_false] at hx
    rcases hx with rfl | rfl | rfl | rfl | rfl | rfl <;> exact Nat.mod_lt _ (by decide)
  · rintro ⟨x, hx, h0⟩
    rw [hD, if_neg]
    rintro ⟨h1, _⟩
    exact h0 (b2.2 h1 x hx)
  · intro h0
    rw [hD, b3, b1, hlen]
    have h1 := b2.1 h0
    by_cases h2 : (bare l).length % 4 = 1
    · rw [if_neg (fun h => h.2 h2), if_neg (by omega)]
    · rw [if_pos ⟨h1, h2⟩, if_pos (by omega)]
theorem filterMap_snoc {l : List Nat} {c n : Nat} (h : six c = some n) : ((l ++ [c]).filterMap six).flatMap bits6 = (l.filterMap six).flatMap bits6 ++ bits6 n := by
  rw [List.filterMap_append, List.flatMap_append]
  simp [h]
def eightP (b : List Nat) : Nat → Nat
  | 0 => 0
  | k + 1 => 2 * eightP b k + b.getD k 0
theorem eightP_lt (b : List Nat) (hb : ∀ x ∈ b, x < 2) (k : Nat) (hk : k ≤ 8) : eightP b k < 256 := by
  have hg : ∀ j, b.getD j 0 < 2 := by
    intro j
    by_cases h : j < b.length
    · simp only [List.getD, List.getElem?_eq_getElem h, Option.getD_some]; exact hb _ (List.getElem_mem h)
    · simp [List.getD, List.getElem?_eq_none (by omega : b.length ≤ j)]
  have : ∀ k, eightP b k < 2 ^ k := by
    intro k
    induction k with
    | zero => simp [eightP]
    | succ k ih => unfold eightP; have := hg k; rw [Nat.pow_succ]; omega
  exact Nat.lt_of_lt_of_le (this k) (Nat.pow_le_pow_right (n := 2) (by decide) hk)
theorem eights_P {l : List Nat} (h : 8 ≤ l.length) : eights l = eightP l 8 :: eights (l.drop 8) ∧ over l = over (l.drop 8) := eights_eight h
theorem bit_lt {b : List Nat} (hb : ∀ x ∈ b, x < 2) (j : Nat) : b.getD j 0 < 2 := by
  by_cases h : j < b.length
  · simp only [List.getD, List.getElem?_eq_getElem h, Option.getD_some]; exact hb _ (List.getElem_mem h)
  · simp [List.getD, List.getElem?_eq_none (by omega : b.length ≤ j)]
theorem str_at (s : ByteArray) (k : Nat) (i : Int) (hi : i = (k : Int)) (hk : k < s.size) (w : World) : (Instr.index 9 (.string s) (.int .i64 i)).run Tryz.prog w = .ok (.int .u8 (((sbytes s).getD k 0 : Nat) : Int)) w := by
  subst hi; exact str_index s k hk w
def slLen : Value → Nat
  | .slice _ n _ => n
  | _ => 0
theorem take_snoc {l : List Nat} {k : Nat} (h : k < l.length) : l.take (k + 1) = l.take k ++ [l.getD k 0] := take_getD h
set_option maxHeartbeats 4000000 in
set_option maxRecDepth 100000 in
theorem rdecoded_any (s : ByteArray) (w : World) (hs : s.size ≤ 65536) : Calls Tryz.prog 53 #[.string s] w fun e w' => True ∧ DecEnd w (decT (sbytes s)) e w' := by
  obtain ⟨l, HL⟩ : ∃ l, Hid (l = sbytes s) := ⟨_, hide rfl⟩
  have HZ : Hid (l.length = s.size) := by show _ = _; rw [HL.out, sbytes_length]
  have HLT : Hid (∀ x ∈ l, x < 256) := by rw [HL.out]; exact sbytes_lt s
  obtain ⟨D, HD⟩ : ∃ D, Hid (D = decT l) := ⟨_, hide rfl⟩
  rw [← HL.out, ← HD.out]
  by_cases h4 : s.size % 4 = 0
  case neg =>
    have h4i : ((s.size : Int) % 4 != 0) = true := by simp; omega
    have HDE : Hid (D = none) := by
      show _ = _
      rw [HD.out]
      unfold decT
      rw [if_pos (by rw [HZ.out]; exact h4)]
    go_enter Tryz.func53, Tryz.ntmps53
    go_wp2
    go_ret2
    refine (fun h => by first | exact ⟨trivial, h⟩ | exact h) (?_ : DecEnd w D _ _)
    rw [HDE.out]
    exact decEnd_none _ (Below.refl _ _)
  have h4i : ((s.size : Int) % 4 != 0) = false := by simp; omega
  have H4 : Hid (l.length % 4 = 0) := by show _ = _; rw [HZ.out]; exact h4
  go_enter Tryz.func53, Tryz.ntmps53
  go_wp2
  go_loopw [4] (fun i wr => ∃ p : Nat, (p ≤ 2 ∧ p ≤ s.size) ∧ i = .int .i64 (p : Int) ∧ Hid (∀ j, j < p → l.getD (l.length - 1 - j) 0 = 61) ∧ wr = w) (fun i _ => 2 - (intOf i).toNat)
  case atStart => exact ⟨0, ⟨by omega, by omega⟩, rfl, fun j hj => by omega, rfl⟩
  case round =>
    obtain ⟨p, ⟨hp2, hpl⟩, rfl, HP, hwr⟩ := hrel
    have hwr2 := hwr.symm
    subst hwr2
    clear hwr
    obtain ⟨F, hF⟩ : ∃ F, F = decide (p < 2 ∧ p < s.size ∧ l.getD (l.length - 1 - p) 0 = 61) := ⟨_, rfl⟩
    have HFF := hide hF
    clear hF
    go_upto_region 4 with fail
    go_cut [35] (fun c wx => c = .bool F ∧ wx = w)
    case first =>
      by_cases h2 : p < 2
      · by_cases hl2 : p < s.size
        · have hix := fun w => str_at s (l.length - 1 - p) ((s.size : Int) - 1 - (p : Int)) (by have := HZ.out; omega) (by have := HZ.out; omega) w
          rw [← HL.out] at hix
          have h2i : (p : Int) < 2 := by omega
          have hli : (p : Int) < (s.size : Int) := by omega
          by_cases hc : l.getD (l.length - 1 - p) 0 = 61
          · have e : F = true := by rw [HFF.out]; exact decide_eq_true ⟨h2, hl2, hc⟩
            rw [hc] at hix
            clear h2 hl2 hc
            go_wp2
            go_meet
            case rel => exact ⟨by rw [e], by first | exact rfl | trivial⟩
          · have e : F = false := by rw [HFF.out]; exact decide_eq_false (fun h => hc h.2.2)
            have hci : (((l.getD (l.length - 1 - p) 0 : Nat) : Int) == 61) = false := by simp only [beq_eq_false_iff_ne]; omega
            generalize l.getD (l.length - 1 - p) 0 = c at *
            clear h2 hl2 hc
            go_wp2
            go_meet
            case rel => exact ⟨by rw [e], by first | exact rfl | trivial⟩
        · have e : F = false := by rw [HFF.out]; exact decide_eq_false (fun h => hl2 h.2.1)
          have h2i : (p : Int) < 2 := by omega
          have hli : ¬ (p : Int) < (s.size : Int) := by omega
          clear h2 hl2
          go_wp2
          go_meet
          case rel => exact ⟨by rw [e], by first | exact rfl | trivial⟩
      · have e : F = false := by rw [HFF.out]; exact decide_eq_false (fun h => h2 h.1)
        have h2i : ¬ (p : Int) < 2 := by omega
        clear h2
        go_wp2
        go_meet
        case rel => exact ⟨by rw [e], by first | exact rfl | trivial⟩
    case rest =>
      obtain ⟨rfl, hwc⟩ := hcut
      have hwd := hwc.symm
      subst hwd
      clear hwc
      cases F
      case true =>
        have hF := of_decide_eq_true HFF.out.symm
        have HP2 : Hid (∀ j, j < p + 1 → l.getD (l.length - 1 - j) 0 = 61) := by
          intro j hj
          by_cases hjp : j < p
          · exact HP.out j hjp
          · obtain rfl : j = p := by omega
            exact hF.2.2
        have hpp : p + 1 ≤ 2 ∧ p + 1 ≤ s.size := ⟨by omega, by omega⟩
        clear hF HFF
        go_wp2
        go_roundw
        case rel => exact ⟨p + 1, hpp, by go_num, HP2, by first | trivial | rfl⟩
        case measure => simp [intOf]; omega
      case false =>
        have hF := of_decide_eq_false HFF.out.symm
        have HBR : Hid (bare l = l.take (l.length - p)) := bare_len l p hp2 (by rw [HZ.out]; exact hpl) HP.out (by
          rw [HZ.out] at hF ⊢
          by_cases h1 : p = 2
          · exact .inl h1
          · by_cases h2 : p = s.size
            · exact .inr (.inl h2)
            · exact .inr (.inr fun h => hF ⟨by omega, by omega, h⟩))
        obtain ⟨n0, hn0⟩ : ∃ n0, n0 = s.size - p := ⟨_, rfl⟩
        have hni : (s.size : Int) - (p : Int) = (n0 : Int) := by omega
        have hnl : n0 ≤ s.size := by omega
        have HBN : Hid (bare l = l.take n0) := by show _ = _; rw [HBR.out, HZ.out, hn0]
        have HBNL : Hid ((bare l).length = n0) := by show _ = _; rw [HBN.out, List.length_take, HZ.out]; omega
        clear hF HFF HBR HP hn0
        go_wp2
        go_loopw [6, 7] (fun v i wr => ∃ k : Nat, k ≤ n0 ∧ i = .int .i64 (k : Int) ∧ Hid (∀ j, j < k → (six (l.getD j 0)).isSome = true) ∧ Hid ((((l.take k).filterMap six).flatMap bits6).length ≤ 6 * k) ∧ Hid (OwnI wr w.heap.size v (((l.take k).filterMap six).flatMap bits6)) ∧ Hid (Below w.heap.size w wr)) (fun _ i _ => n0 - (intOf i).toNat)
        case atStart => exact ⟨0, Nat.zero_le _, rfl, fun j hj => by omega, by show _ ≤ _; simp, ownI_nil _ _, Below.refl _ _⟩
        case round =>
          obtain ⟨k, hk, rfl, HV, HPL, HO, HB⟩ := hrel
          have hsz := HB.out.size
          by_cases hlt : k < n0
          · have hix := str_index s k (by omega)
            rw [← HL.out] at hix
            have hck := lt_get HLT.out k
            have HTK : Hid (l.take (k + 1) = l.take k ++ [l.getD k 0]) := take_snoc (by rw [HZ.out]; omega)
            have hki : (k : Int) < (n0 : Int) := by omega
            have HSX := rsix_any (l.getD k 0) wr hck
            cases hv : six (l.getD k 0) with
            | none =>
              have HDN : Hid (D = none) := by
                show _ = _
                rw [HD.out]
                unfold decT
                rw [if_neg (by have := H4.out; omega), if_neg]
                intro hall
                have hm : l.getD k 0 ∈ bare l := by
                  rw [HBN.out]
                  have hkl : k < l.length := by rw [HZ.out]; omega
                  simp only [List.getD, List.getElem?_eq_getElem hkl, Option.getD_some]
                  exact List.mem_take_iff_getElem.2 ⟨k, by omega, rfl⟩
                have := List.all_eq_true.1 hall _ hm
                rw [hv] at this
                simp at this
              rw [show sixI (l.getD k 0) = -1 by unfold sixI; rw [hv]] at HSX
              clear hv
              generalize l.getD k 0 = c at *
              go_wp2_with fail
              refine HSX.mono ?_
              rintro e w2 ⟨rfl, rfl⟩
              go_wp2
              go_ret2
              refine (fun h => by first | exact ⟨trivial, h⟩ | exact h) (?_ : DecEnd w D _ _)
              rw [HDN.out]
              exact decEnd_none _ HB.out
            | some n =>
              have hn64 := six_lt hv
              have HST : Hid (((l.take (k + 1)).filterMap six).flatMap bits6 = ((l.take k).filterMap six).flatMap bits6 ++ bits6 n) := by show _ = _; rw [HTK.out, filterMap_snoc hv]
              have HVN : Hid (∀ j, j < k + 1 → (six (l.getD j 0)).isSome = true) := fun j hj => by
                by_cases hjk : j < k
                · exact HV.out j hjk
                · rw [show j = k by omega, hv]; rfl
              rw [show sixI (l.getD k 0) = (n : Int) by unfold sixI; rw [hv]] at HSX
              clear hv
              have hni64 : (n : Int) < 64 := by omega
              have hnn : ¬ (n : Int) < 0 := by omega
              generalize hPB : ((l.take k).filterMap six).flatMap bits6 = PB at *
              clear hPB
              generalize l.getD k 0 = c at *
              go_wp2_with fail
              refine HSX.mono ?_
              rintro e w2 ⟨rfl, rfl⟩
              clear HSX
              go_wp2
              go_loopw [6, 9] (fun v kk wq => ∃ t : Nat, ((t = 0 ∧ kk = .int .i64 32) ∨ (t = 1 ∧ kk = .int .i64 16) ∨ (t = 2 ∧ kk = .int .i64 8) ∨ (t = 3 ∧ kk = .int .i64 4) ∨ (t = 4 ∧ kk = .int .i64 2) ∨ (t = 5 ∧ kk = .int .i64 1) ∨ (t = 6 ∧ kk = .int .i64 0)) ∧ Hid (OwnI wq w.heap.size v (PB ++ (bits6 n).take t)) ∧ Hid (Below w.heap.size w wq)) (fun _ kk _ => (intOf kk).toNat)
              case atStart => exact ⟨0, .inl ⟨rfl, rfl⟩, by rw [List.take_zero, List.append_nil]; exact HO, HB⟩
              case round =>
                obtain ⟨t, ht, HO2, HB2⟩ := hrel
                have hs2 := HB2.out.size
                rcases ht with ⟨rfl, rfl⟩ | ⟨rfl, rfl⟩ | ⟨rfl, rfl⟩ | ⟨rfl, rfl⟩ | ⟨rfl, rfl⟩ | ⟨rfl, rfl⟩ | ⟨rfl, rfl⟩
                · have HTS : Hid ((bits6 n).take (0 + 1) = (bits6 n).take 0 ++ [n / 32 % 2]) := by show _ = _; rfl
                  have HTL : Hid ((PB ++ (bits6 n).take 0).length ≤ 6 * k + 6) := by have := HPL.out; show _ ≤ _; rw [List.length_append, List.length_take]; have : (bits6 n).length = 6 := rfl; omega
                  have HQ : Hid ((n : Int) / 32 % 2 = ((n / 32 % 2 : Nat) : Int)) := by show _ = _; omega
                  generalize (bits6 n).take 0 = ls at *
                  generalize n / 32 % 2 = q at *
                  go_wp2_with (first | (at_builtin; refine wpList_append_int rfl _ _ rfl w.heap.size _ (PB ++ ls) rfl (HO2.out.alloc _) ⟨wr.heap.size, 0, none⟩ 1 q rfl (by simp <;> first | exact HQ.out | simpa using HQ.out) (by have := HTL.out; omega) (by simp; omega) ?_) | fail)
                  rintro v3 w3 hown3 hgr3
                  have HB3 : Hid (Below w.heap.size w w3) := (HB2.out.alloc hs2 _).grown hgr3 (by simp; omega) HO2.out.ge
                  have HO3 : Hid (OwnI w3 w.heap.size v3 (PB ++ (bits6 n).take (0 + 1))) := by rw [HTS.out]; exact hown3
                  clear hown3 hgr3
                  go_wp2
                  go_roundw
                  case rel => exact ⟨1, .inr (.inl ⟨rfl, rfl⟩), HO3, HB3⟩
                  case measure => simp [intOf]
                · have HTS : Hid ((bits6 n).take (1 + 1) = (bits6 n).take 1 ++ [n / 16 % 2]) := by show _ = _; rfl
                  have HTL : Hid ((PB ++ (bits6 n).take 1).length ≤ 6 * k + 6) := by have := HPL.out; show _ ≤ _; rw [List.length_append, List.length_take]; have : (bits6 n).length = 6 := rfl; omega
                  have HQ : Hid ((n : Int) / 16 % 2 = ((n / 16 % 2 : Nat) : Int)) := by show _ = _; omega
                  generalize (bits6 n).take 1 = ls at *
                  generalize n / 16 % 2 = q at *
                  go_wp2_with (first | (at_builtin; refine wpList_append_int rfl _ _ rfl w.heap.size _ (PB ++ ls) rfl (HO2.out.alloc _) ⟨wr.heap.size, 0, none⟩ 1 q rfl (by simp <;> first | exact HQ.out | simpa using HQ.out) (by have := HTL.out; omega) (by simp; omega) ?_) | fail)
                  rintro v3 w3 hown3 hgr3
                  have HB3 : Hid (Below w.heap.size w w3) := (HB2.out.alloc hs2 _).grown hgr3 (by simp; omega) HO2.out.ge
                  have HO3 : Hid (OwnI w3 w.heap.size v3 (PB ++ (bits6 n).take (1 + 1))) := by rw [HTS.out]; exact hown3
                  clear hown3 hgr3
                  go_wp2
                  go_roundw
                  case rel => exact ⟨2, .inr (.inr (.inl ⟨rfl, rfl⟩)), HO3, HB3⟩
                  case measure => simp [intOf]
                · have HTS : Hid ((bits6 n).take (2 + 1) = (bits6 n).take 2 ++ [n / 8 % 2]) := by show _ = _; rfl
                  have HTL : Hid ((PB ++ (bits6 n).take 2).length ≤ 6 * k + 6) := by have := HPL.out; show _ ≤ _; rw [List.length_append, List.length_take]; have : (bits6 n).length = 6 := rfl; omega
                  have HQ : Hid ((n : Int) / 8 % 2 = ((n / 8 % 2 : Nat) : Int)) := by show _ = _; omega
                  generalize (bits6 n).take 2 = ls at *
                  generalize n / 8 % 2 = q at *
                  go_wp2_with (first | (at_builtin; refine wpList_append_int rfl _ _ rfl w.heap.size _ (PB ++ ls) rfl (HO2.out.alloc _) ⟨wr.heap.size, 0, none⟩ 1 q rfl (by simp <;> first | exact HQ.out | simpa using HQ.out) (by have := HTL.out; omega) (by simp; omega) ?_) | fail)
                  rintro v3 w3 hown3 hgr3
                  have HB3 : Hid (Below w.heap.size w w3) := (HB2.out.alloc hs2 _).grown hgr3 (by simp; omega) HO2.out.ge
                  have HO3 : Hid (OwnI w3 w.heap.size v3 (PB ++ (bits6 n).take (2 + 1))) := by rw [HTS.out]; exact hown3
                  clear hown3 hgr3
                  go_wp2
                  go_roundw
                  case rel => exact ⟨3, .inr (.inr (.inr (.inl ⟨rfl, rfl⟩))), HO3, HB3⟩
                  case measure => simp [intOf]
                · have HTS : Hid ((bits6 n).take (3 + 1) = (bits6 n).take 3 ++ [n / 4 % 2]) := by show _ = _; rfl
                  have HTL : Hid ((PB ++ (bits6 n).take 3).length ≤ 6 * k + 6) := by have := HPL.out; show _ ≤ _; rw [List.length_append, List.length_take]; have : (bits6 n).length = 6 := rfl; omega
                  have HQ : Hid ((n : Int) / 4 % 2 = ((n / 4 % 2 : Nat) : Int)) := by show _ = _; omega
                  generalize (bits6 n).take 3 = ls at *
                  generalize n / 4 % 2 = q at *
                  go_wp2_with (first | (at_builtin; refine wpList_append_int rfl _ _ rfl w.heap.size _ (PB ++ ls) rfl (HO2.out.alloc _) ⟨wr.heap.size, 0, none⟩ 1 q rfl (by simp <;> first | exact HQ.out | simpa using HQ.out) (by have := HTL.out; omega) (by simp; omega) ?_) | fail)
                  rintro v3 w3 hown3 hgr3
                  have HB3 : Hid (Below w.heap.size w w3) := (HB2.out.alloc hs2 _).grown hgr3 (by simp; omega) HO2.out.ge
                  have HO3 : Hid (OwnI w3 w.heap.size v3 (PB ++ (bits6 n).take (3 + 1))) := by rw [HTS.out]; exact hown3
                  clear hown3 hgr3
                  go_wp2
                  go_roundw
                  case rel => exact ⟨4, .inr (.inr (.inr (.inr (.inl ⟨rfl, rfl⟩)))), HO3, HB3⟩
                  case measure => simp [intOf]
                · have HTS : Hid ((bits6 n).take (4 + 1) = (bits6 n).take 4 ++ [n / 2 % 2]) := by show _ = _; rfl
                  have HTL : Hid ((PB ++ (bits6 n).take 4).length ≤ 6 * k + 6) := by have := HPL.out; show _ ≤ _; rw [List.length_append, List.length_take]; have : (bits6 n).length = 6 := rfl; omega
                  have HQ : Hid ((n : Int) / 2 % 2 = ((n / 2 % 2 : Nat) : Int)) := by show _ = _; omega
                  generalize (bits6 n).take 4 = ls at *
                  generalize n / 2 % 2 = q at *
                  go_wp2_with (first | (at_builtin; refine wpList_append_int rfl _ _ rfl w.heap.size _ (PB ++ ls) rfl (HO2.out.alloc _) ⟨wr.heap.size, 0, none⟩ 1 q rfl (by simp <;> first | exact HQ.out | simpa using HQ.out) (by have := HTL.out; omega) (by simp; omega) ?_) | fail)
                  rintro v3 w3 hown3 hgr3
                  have HB3 : Hid (Below w.heap.size w w3) := (HB2.out.alloc hs2 _).grown hgr3 (by simp; omega) HO2.out.ge
                  have HO3 : Hid (OwnI w3 w.heap.size v3 (PB ++ (bits6 n).take (4 + 1))) := by rw [HTS.out]; exact hown3
                  clear hown3 hgr3
                  go_wp2
                  go_roundw
                  case rel => exact ⟨5, .inr (.inr (.inr (.inr (.inr (.inl ⟨rfl, rfl⟩))))), HO3, HB3⟩
                  case measure => simp [intOf]
                · have HTS : Hid ((bits6 n).take (5 + 1) = (bits6 n).take 5 ++ [n / 1 % 2]) := by show _ = _; rfl
                  have HTL : Hid ((PB ++ (bits6 n).take 5).length ≤ 6 * k + 6) := by have := HPL.out; show _ ≤ _; rw [List.length_append, List.length_take]; have : (bits6 n).length = 6 := rfl; omega
                  have HQ : Hid ((n : Int) / 1 % 2 = ((n / 1 % 2 : Nat) : Int)) := by show _ = _; omega
                  generalize (bits6 n).take 5 = ls at *
                  generalize n / 1 % 2 = q at *
                  go_wp2_with (first | (at_builtin; refine wpList_append_int rfl _ _ rfl w.heap.size _ (PB ++ ls) rfl (HO2.out.alloc _) ⟨wr.heap.size, 0, none⟩ 1 q rfl (by simp <;> first | exact HQ.out | simpa using HQ.out) (by have := HTL.out; omega) (by simp; omega) ?_) | fail)
                  rintro v3 w3 hown3 hgr3
                  have HB3 : Hid (Below w.heap.size w w3) := (HB2.out.alloc hs2 _).grown hgr3 (by simp; omega) HO2.out.ge
                  have HO3 : Hid (OwnI w3 w.heap.size v3 (PB ++ (bits6 n).take (5 + 1))) := by rw [HTS.out]; exact hown3
                  clear hown3 hgr3
                  go_wp2
                  go_roundw
                  case rel => exact ⟨6, .inr (.inr (.inr (.inr (.inr (.inr (⟨rfl, rfl⟩)))))), HO3, HB3⟩
                  case measure => simp [intOf]
                · have HO6 : Hid (OwnI wr w.heap.size u6 (PB ++ bits6 n)) := HO2
                  have HLN : Hid ((((l.take (k + 1)).filterMap six).flatMap bits6).length ≤ 6 * (k + 1)) := by have := HPL.out; show _ ≤ _; rw [HST.out, List.length_append]; have : (bits6 n).length = 6 := rfl; omega
                  go_wp2
                  go_roundw
                  case rel => exact ⟨k + 1, by omega, by go_num, HVN, HLN, by rw [HST.out]; exact HO6, HB2⟩
                  case measure => simp [intOf]; omega
          · obtain rfl : k = n0 := by omega
            have hki : ¬ (k : Int) < (k : Int) := by omega
            rw [← HBN.out] at HO HPL
            have HALL : Hid (∀ c ∈ bare l, (six c).isSome = true) := by
              intro c hc
              rw [HBN.out] at hc
              obtain ⟨j, hj, rfl⟩ := List.mem_take_iff_getElem.1 hc
              have := HV.out j (by omega)
              simp only [List.getD, List.getElem?_eq_getElem (show j < l.length by omega), Option.getD_some] at this
              exact this
            obtain ⟨B, hB, hBl, hB2, hBN, hBZ⟩ := dec_bits H4.out HALL.out
            rw [← hB] at HO HPL
            have HBB := hide hB2
            have HBNO : Hid ((∃ x ∈ over B, x ≠ 0) → D = none) := by rw [HD.out]; exact hBN
            have HBZE : Hid ((∀ x ∈ over B, x = 0) → D = if (over B).length < 6 then some (eights B) else none) := by rw [HD.out]; exact hBZ
            clear hB hBl hB2 hBN hBZ HALL HV HBN
            obtain ⟨bo, bc, rfl, hcell⟩ := HO.out.read
            have HOC := ownI_cap HO.out
            have HCE : Hid (0 < B.length → ∃ g off, bo = some ⟨g, off, none⟩ ∧ ∀ i, i < B.length → wr.cell? ⟨g, off + i, none⟩ = some (.int .i64 ((B.getD i 0 : Nat) : Int))) := fun h => by
              obtain ⟨g, e, hc⟩ := hcell h
              exact ⟨g, 0, e, fun i hi => by rw [Nat.zero_add]; exact hc i hi⟩
            clear hcell HO
            obtain ⟨wz, hwz⟩ : ∃ x : World, x = wr := ⟨_, rfl⟩
            subst hwz
            obtain ⟨nb, hnb⟩ : ∃ nb, nb = B.length := ⟨_, rfl⟩
            have HNB : Hid (nb = B.length) := hnb
            rw [← hnb] at HOC ⊢
            clear hnb
            go_wp2
            go_loopw [6, 10] (fun v6 v wq => ∃ (R O : List Nat) (rn : Nat) (ro : Option Addr) (rc : Nat), v6 = .slice ro rn rc ∧ rn ≤ rc ∧ rn ≤ nb ∧ Hid (rn = R.length) ∧ Hid (0 < R.length → ∃ g off, ro = some ⟨g, off, none⟩ ∧ ∀ i, i < R.length → wz.cell? ⟨g, off + i, none⟩ = some (.int .i64 ((R.getD i 0 : Nat) : Int))) ∧ Hid (O ++ eights R = eights B ∧ over R = over B ∧ (∀ x ∈ R, x < 2) ∧ O.length + rn ≤ nb) ∧ Hid (Own wq wz.heap.size v O) ∧ Hid (Below wz.heap.size wz wq)) (fun v6 _ _ => slLen v6)
            case atStart => exact ⟨B, [], nb, bo, bc, rfl, HOC, Nat.le_refl _, HNB, HCE, ⟨rfl, rfl, HBB.out, by simp⟩, own_nil _ _, Below.refl _ _⟩
            case round =>
              obtain ⟨R, O, rn, ro, rc, rfl, hrc, hrn, HRN, HRC, HRO, HOO, HBQ⟩ := hrel
              have hsq := HBQ.out.size
              by_cases h8 : 8 ≤ rn
              · obtain ⟨g, off, rfl, hc⟩ := HRC.out (by rw [← HRN.out]; omega)
                have HC : Hid (∀ i, i < rn → wr.cell? ⟨g, off + i, none⟩ = some (.int .i64 ((R.getD i 0 : Nat) : Int))) := fun i hi => cell_kept (hc i (by rw [← HRN.out]; exact hi)) HBQ.out
                have HCZ := hide hc
                have h8i : (8 : Int) ≤ (rn : Int) := by omega
                clear hc
                go_wp2
                go_loopw [11, 12] (fun m c wq => ∃ t : Nat, t ≤ 8 ∧ c = .int .i64 (t : Int) ∧ m = .int .i64 ((eightP R t : Nat) : Int) ∧ wq = wr) (fun _ c _ => 8 - (intOf c).toNat)
                case atStart => exact ⟨0, Nat.zero_le _, rfl, rfl, rfl⟩
                case round =>
                  obtain ⟨t, ht, rfl, rfl, hwt⟩ := hrel
                  have hwt2 := hwt.symm
                  subst hwt2
                  clear hwt
                  have hel := eightP_lt R HRO.out.2.2.1 t ht
                  by_cases ht8 : t < 8
                  · have HES : Hid (eightP R (t + 1) = 2 * eightP R t + R.getD t 0) := rfl
                    have hbl := bit_lt HRO.out.2.2.1 t
                    have c0 := HC.out t (by omega)
                    generalize eightP R t = en at *
                    generalize R.getD t 0 = bt at *
                    go_wp2
                    go_roundw
                    case rel => exact ⟨t + 1, by omega, by go_num, by rw [HES.out]; go_num, by first | trivial | rfl⟩
                    case measure => simp [intOf]; omega
                  · obtain rfl : t = 8 := by omega
                    have HE8 := hide (eights_P (l := R) (by rw [← HRN.out]; exact h8))
                    obtain ⟨ao2, hs8, ha8⟩ := slice_ints g off rn rc (rn - 8) (rc - 8) 8 8 rfl h8 rfl rfl
                    have HA8 := hide ha8
                    have HOL : Hid (O.length ≤ 524288) := by have := HRO.out.2.2.2; have := HPL.out; have := HNB.out; show _ ≤ _; omega
                    generalize eightP R 8 = en at *
                    clear ha8
                    go_wp2_with (first | (at_builtin; refine wpList_append_bytes rfl _ _ rfl _ _ O rfl (HOO.out.alloc _) (some ⟨wr.heap.size, 0, none⟩) 1 1 [en] rfl rfl (row_one _ _) (by have := HOL.out; simp; omega) (by simp; omega) ?_) | fail)
                    rintro v3 w3 hown3 hgr3
                    have HB3 : Hid (Below wz.heap.size wz w3) := (HBQ.out.alloc hsq _).grown hgr3 (by simp; omega) HOO.out.ge
                    have HO3 : Hid (Own w3 wz.heap.size v3 (O ++ [en])) := hown3
                    clear hown3 hgr3
                    have HR8 : Hid (rn - 8 = (R.drop 8).length) := by show _ = _; rw [List.length_drop, ← HRN.out]
                    have HRC8 : Hid (0 < (R.drop 8).length → ∃ g' off', ao2 = some ⟨g', off', none⟩ ∧ ∀ i, i < (R.drop 8).length → wz.cell? ⟨g', off' + i, none⟩ = some (.int .i64 (((R.drop 8).getD i 0 : Nat) : Int))) := fun h => by
                      rw [List.length_drop, ← HRN.out] at h ⊢
                      refine ⟨g, off + 8, HA8.out (by omega), fun i hi => ?_⟩
                      have := HCZ.out (8 + i) (by rw [← HRN.out]; omega)
                      rw [show off + 8 + i = off + (8 + i) by omega, this]
                      simp [List.getD, List.getElem?_drop]
                    have HRO8 : Hid ((O ++ [en]) ++ eights (R.drop 8) = eights B ∧ over (R.drop 8) = over B ∧ (∀ x ∈ R.drop 8, x < 2) ∧ (O ++ [en]).length + (rn - 8) ≤ nb) := by
                      refine ⟨?_, ?_, fun x hx => HRO.out.2.2.1 x (List.mem_of_mem_drop hx), ?_⟩
                      · rw [← HRO.out.1, HE8.out.1, List.append_assoc]; rfl
                      · rw [← HE8.out.2]; exact HRO.out.2.1
                      · have := HRO.out.2.2.2; rw [List.length_append]; simp only [List.length_cons, List.length_nil]; omega
                    clear HOO HBQ HRC HC HCZ
                    go_wp2
                    go_roundw
                    case rel => exact ⟨R.drop 8, O ++ [en], rn - 8, ao2, rc - 8, rfl, by omega, by omega, HR8, HRC8, HRO8, HO3, HB3⟩
                    case measure => simp [slLen]; omega
              · have h8i : ¬ (8 : Int) ≤ (rn : Int) := by omega
                obtain ⟨fe1, fe2⟩ := eights_few (l := R) (by rw [← HRN.out]; omega)
                have HO8 : Hid (O = eights B) := by have := HRO.out.1; rw [fe1, List.append_nil] at this; exact this
                have HR8 : Hid (R = over B) := by show _ = _; rw [← fe2]; exact HRO.out.2.1
                have HBW : Hid (Below w.heap.size w wr) := HB.out.trans (HBQ.out.mono hsz)
                have HRCW : Hid (0 < rn → ∃ g off, ro = some ⟨g, off, none⟩ ∧ ∀ i, i < rn → wr.cell? ⟨g, off + i, none⟩ = some (.int .i64 ((R.getD i 0 : Nat) : Int))) := fun h => by
                  obtain ⟨g, off, e, hc⟩ := HRC.out (by rw [← HRN.out]; exact h)
                  exact ⟨g, off, e, fun i hi => cell_kept (hc i (by rw [← HRN.out]; exact hi)) HBQ.out⟩
                obtain ⟨po, pc, hpv, hpc, hpr⟩ := HOO.out.read
                have hcv : (convert 73 9 (.slice po O.length pc)).run Tryz.prog wr = .ok (.string (bstr O)) wr := conv_row _ hpr
                obtain ⟨on, hon⟩ : ∃ on, on = O.length := ⟨_, rfl⟩
                rw [← hon] at hcv hpv
                subst hpv
                clear fe1 fe2 HRC HOO hon hpr hpc
                go_wp2
                go_loopw [13] (fun i wq => ∃ m : Nat, m ≤ rn ∧ i = .int .i64 (m : Int) ∧ Hid (∀ t, t < m → R.getD t 0 = 0) ∧ wq = wr) (fun i _ => rn - (intOf i).toNat)
                case atStart => exact ⟨0, Nat.zero_le _, rfl, fun t h => by omega, rfl⟩
                case round =>
                  obtain ⟨m, hmn, rfl, HM, hwt⟩ := hrel
                  have hwt2 := hwt.symm
                  subst hwt2
                  clear hwt
                  by_cases hml : m < rn
                  · obtain ⟨g, off, rfl, hc⟩ := HRCW.out (by omega)
                    have c0 := hc m hml
                    have hmi : (m : Int) < (rn : Int) := by omega
                    have hbl := bit_lt HRO.out.2.2.1 m
                    have HMM : Hid (m < R.length) := by rw [← HRN.out]; exact hml
                    clear hc
                    by_cases hz : R.getD m 0 = 0
                    · have HMN : Hid (∀ t, t < m + 1 → R.getD t 0 = 0) := fun t h => by
                        by_cases htm : t < m
                        · exact HM.out t htm
                        · rw [show t = m by omega]; exact hz
                      rw [hz] at c0
                      clear hz
                      go_wp2
                      go_roundw
                      case rel => exact ⟨m + 1, by omega, by go_num, HMN, by first | trivial | rfl⟩
                      case measure => simp [intOf]; omega
                    · have HDN : Hid (D = none) := HBNO.out ⟨R.getD m 0, by
                        rw [← HR8.out]
                        simp only [List.getD, List.getElem?_eq_getElem HMM.out, Option.getD_some]
                        exact List.getElem_mem _, hz⟩
                      have hzi : (((R.getD m 0 : Nat) : Int) != 0) = true := bne_iff_ne.2 (fun e => hz (by omega))
                      generalize R.getD m 0 = bt at *
                      go_wp2
                      go_ret2
                      refine (fun h => by first | exact ⟨trivial, h⟩ | exact h) (?_ : DecEnd w D _ _)
                      rw [HDN.out]
                      exact decEnd_none _ HBW.out
                  · obtain rfl : m = rn := by omega
                    have HDZ : Hid (D = if m < 6 then some (eights B) else none) := by
                      show _ = _
                      rw [HBZE.out ?_, ← HR8.out, ← HRN.out]
                      intro x hx
                      rw [← HR8.out] at hx
                      obtain ⟨t, htl, rfl⟩ := List.getElem_of_mem hx
                      have := HM.out t (by rw [HRN.out]; exact htl)
                      simpa only [List.getD, List.getElem?_eq_getElem htl, Option.getD_some] using this
                    by_cases h6 : m < 6
                    · have h6i : (m : Int) < 6 := by omega
                      have HDE : Hid (D = some (eights B)) := by show _ = _; rw [HDZ.out, if_pos h6]
                      go_wp2
                      go_ret2
                      refine (fun h => by first | exact ⟨trivial, h⟩ | exact h) (?_ : DecEnd w D _ _)
                      rw [HDE.out]
                      exact ⟨bstr O, rfl, fun t ht => by injection ht with ht; rw [← ht, HO8.out], HBW.out⟩
                    · have h6i : ¬ (m : Int) < 6 := by omega
                      have HDE : Hid (D = none) := by show _ = _; rw [HDZ.out, if_neg h6]
                      go_wp2
                      go_ret2
                      refine (fun h => by first | exact ⟨trivial, h⟩ | exact h) (?_ : DecEnd w D _ _)
                      rw [HDE.out]
                      exact decEnd_none _ HBW.out
end Go.Proofs.YtmmcgfikmcppfaaGreatDoor
