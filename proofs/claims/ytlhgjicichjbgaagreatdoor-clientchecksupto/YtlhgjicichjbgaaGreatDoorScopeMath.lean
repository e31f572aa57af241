/- Plain facts of lists of scopes: texts as lists of bytes; cut at blanks, put in order, each once. -/
import Derived.Lib.SlicesCompact
import Derived.Lib.SplitLaws
import Derived.Lib.IndexBytes
namespace Go.Proofs.YtlhgjicichjbgaaGreatDoor

abbrev U := List UInt8
/-- A text cut at its blanks. -/
def cutAll : U → List U
  | [] => [[]]
  | c :: l => if c = 32 then [] :: cutAll l else match cutAll l with
    | [] => [[c]]
    | h :: t => (c :: h) :: t
theorem cutAll_ne : ∀ l : U, ∃ h t, cutAll l = h :: t
  | [] => ⟨[], [], rfl⟩
  | c :: l => by
    obtain ⟨h, t, e⟩ := cutAll_ne l
    by_cases hc : c = 32
    · exact ⟨[], cutAll l, by rw [cutAll, if_pos hc]⟩
    · exact ⟨c :: h, t, by rw [cutAll, if_neg hc, e]⟩
theorem cutAll_blank (l : U) : cutAll (32 :: l) = [] :: cutAll l := by rw [cutAll, if_pos rfl]
theorem cutAll_cons {c : UInt8} {l h : U} {t : List U} (hc : c ≠ 32) (e : cutAll l = h :: t) : cutAll (c :: l) = (c :: h) :: t := by rw [cutAll, if_neg hc, e]

theorem splitK_cons {c : UInt8} {l : U} (hc : c ≠ 32) : ∀ k, Lib.splitK [32] 0 k (c :: l) = match Lib.splitK [32] 0 k l with
    | [] => [[c]]
    | h :: t => (c :: h) :: t
  | 0 => rfl
  | k + 1 => by
    have hb : (c == 32) = false := by simpa using hc
    have e1 : Lib.index (c :: l) [32] = if Lib.index l [32] == -1 then -1 else Lib.index l [32] + 1 := by
      rw [Lib.index_one, Lib.index_one, Lib.indexByte, hb]; rfl
    unfold Lib.splitK
    rw [e1]
    have hge := Lib.index_ge l [32]
    by_cases h : Lib.index l [32] = -1
    · rw [h]; rfl
    · have hb2 : (Lib.index l [32] == -1) = false := by simpa using h
      have hb3 : (Lib.index l [32] + 1 == -1) = false := by simp; omega
      rw [hb2]
      simp only [Bool.false_eq_true, if_false]
      rw [hb3]
      simp only [Bool.false_eq_true, if_false]
      obtain ⟨i, hi⟩ : ∃ i : Nat, Lib.index l [32] = i := ⟨(Lib.index l [32]).toNat, by omega⟩
      rw [hi, show ((i : Int) + 1).toNat = i + 1 by omega, show ((i : Int)).toNat = i by omega]
      simp only [Nat.add_zero, List.take_succ_cons, List.length_cons, List.length_nil]
      rw [show i + 1 + (0 + 1) = (i + (0 + 1)) + 1 by omega, List.drop_succ_cons]
theorem splitK_cut : ∀ l : U, Lib.splitK [32] 0 (l.count 32) l = cutAll l
  | [] => rfl
  | c :: l => by
    by_cases hc : c = 32
    · subst hc
      rw [List.count_cons_self, cutAll_blank, ← splitK_cut l]
      have e1 : Lib.index (32 :: l) [32] = 0 := by rw [Lib.index_one, Lib.indexByte]; rfl
      rw [Lib.splitK, e1]
      rfl
    · rw [List.count_cons_of_ne hc, splitK_cons hc, splitK_cut l]
      obtain ⟨h, t, e⟩ := cutAll_ne l
      rw [cutAll_cons hc e, e]

/-- A byte of a scope; a scope. -/
def letter (c : UInt8) : Bool := c.toNat == 33 || (decide (35 ≤ c.toNat) && decide (c.toNat ≤ 91)) || (decide (93 ≤ c.toNat) && decide (c.toNat ≤ 126))
def isSc (u : U) : Bool := !u.isEmpty && u.all letter
/-- A text into a list, ahead of the first that is greater, if it isn't there. -/
def ins (l : List U) (s : U) : List U := if s ∈ l then l else l.takeWhile (fun x => !decide (s < x)) ++ s :: l.dropWhile (fun x => !decide (s < x))
def insAll (acc : List U) (l : List U) : List U := l.foldl ins acc
/-- The document's way through a text: byte by byte. -/
def scan : U → U → List U → Option (List U)
  | [], cur, acc => if cur = [] then none else some (ins acc cur)
  | c :: r, cur, acc => if c = 32 then (if cur = [] then none else scan r [] (ins acc cur)) else if letter c = true then scan r (cur ++ [c]) acc else none
theorem scan_all : ∀ (l cur h : U) (t acc : List U), cur.all letter = true → cutAll l = h :: t → scan l cur acc = if ((cur ++ h) :: t).all isSc = true then some (insAll acc ((cur ++ h) :: t)) else none
  | [], cur, h, t, acc, hc, e => by
    cases e
    rw [scan, List.append_nil]
    by_cases h0 : cur = []
    · subst h0; rfl
    · rw [if_neg h0, if_pos]
      · rfl
      · have : cur.isEmpty = false := by simpa using h0
        simp only [List.all_cons, List.all_nil, Bool.and_true, isSc, this, hc]; rfl
  | c :: l, cur, h, t, acc, hc, e => by
    obtain ⟨h', t', e'⟩ := cutAll_ne l
    rw [scan]
    by_cases h32 : c = 32
    · subst h32
      rw [cutAll_blank, e'] at e
      cases e
      rw [if_pos rfl, List.append_nil]
      by_cases h0 : cur = []
      · subst h0; rfl
      · rw [if_neg h0, scan_all l [] h' t' (ins acc cur) rfl e', List.nil_append]
        have h1 : isSc cur = true := by
          have : cur.isEmpty = false := by simpa using h0
          simp only [isSc, this, hc]; rfl
        rw [List.all_cons (a := cur), h1, Bool.true_and]
        rfl
    · rw [if_neg h32]
      rw [cutAll_cons h32 e'] at e
      cases e
      by_cases hl : letter c = true
      · rw [if_pos hl, scan_all l (cur ++ [c]) h' t acc (by rw [List.all_append, hc]; simp [hl]) e', List.append_assoc]
        rfl
      · rw [if_neg hl, if_neg]
        intro hall
        rw [List.all_cons, Bool.and_eq_true] at hall
        have := hall.1
        simp only [isSc, Bool.and_eq_true, List.all_append, List.all_cons] at this
        exact hl this.2.2.1

/-- What is asked of a text: the scopes, or the error's number. -/
def scoOut (t : U) : List U × Nat := if 256 < t.length then ([], 1) else if t = [] then ([], 0) else if (cutAll t).all isSc = true then (if 32 < (insAll [] (cutAll t)).length then ([], 32) else (insAll [] (cutAll t), 0)) else ([], 33)

/-- Strictly rising. -/
def Rising (l : List U) : Prop := l.Pairwise (fun a b => a < b)
theorem ins_mem (l : List U) (s x : U) : x ∈ ins l s ↔ x ∈ l ∨ x = s := by
  unfold ins
  split
  · constructor
    · exact .inl
    · rintro (h | rfl)
      · exact h
      · assumption
  · have := List.takeWhile_append_dropWhile (p := fun x => !decide (s < x)) (l := l)
    conv => rhs; rw [← this]
    simp only [List.mem_append, List.mem_cons]
    constructor
    · rintro (h | h | h)
      · exact .inl (.inl h)
      · exact .inr h
      · exact .inl (.inr h)
    · rintro ((h | h) | h)
      · exact .inl h
      · exact .inr (.inr h)
      · exact .inr (.inl h)
theorem u_trans {a b c : U} (h1 : a < b) (h2 : b < c) : a < c := List.lt_trans h1 h2
theorem u_irrefl (a : U) : ¬ a < a := List.lt_irrefl a
theorem u_total {a b : U} (h : ¬ a < b) (hne : a ≠ b) : b < a := by
  by_cases h2 : b < a
  · exact h2
  · exact absurd (List.le_antisymm (show a ≤ b from h2) (show b ≤ a from h)) hne
theorem ins_rising {l : List U} {s : U} (h : Rising l) : Rising (ins l s) := by
  unfold ins
  split
  · exact h
  · rename_i hs
    induction l with
    | nil => exact List.pairwise_singleton _ _
    | cons x l ih =>
      have hx := List.pairwise_cons.1 h
      have hne : s ≠ x := fun e => hs (by simp [e])
      by_cases hlt : s < x
      · have e1 : (x :: l).takeWhile (fun x => !decide (s < x)) = [] := by simp [hlt]
        have e2 : (x :: l).dropWhile (fun x => !decide (s < x)) = x :: l := by simp [hlt]
        rw [e1, e2, List.nil_append]
        refine List.pairwise_cons.2 ⟨fun y hy => ?_, h⟩
        rcases List.mem_cons.1 hy with rfl | hy
        · exact hlt
        · exact u_trans hlt (hx.1 y hy)
      · have e1 : (x :: l).takeWhile (fun x => !decide (s < x)) = x :: l.takeWhile (fun x => !decide (s < x)) := by simp [hlt]
        have e2 : (x :: l).dropWhile (fun x => !decide (s < x)) = l.dropWhile (fun x => !decide (s < x)) := by simp [hlt]
        rw [e1, e2, List.cons_append]
        have hsl : s ∉ l := fun h => hs (by simp [h])
        refine List.pairwise_cons.2 ⟨fun y hy => ?_, ih hx.2 hsl⟩
        rcases List.mem_append.1 hy with hy | hy
        · exact hx.1 y (List.IsPrefix.mem hy (List.takeWhile_prefix _))
        · rcases List.mem_cons.1 hy with rfl | hy
          · exact u_total hlt hne
          · exact hx.1 y (List.IsSuffix.mem hy (List.dropWhile_suffix _))
theorem insAll_mem : ∀ (l acc : List U) (x : U), x ∈ insAll acc l ↔ x ∈ acc ∨ x ∈ l
  | [], acc, x => by simp [insAll]
  | s :: l, acc, x => by
    show x ∈ insAll (ins acc s) l ↔ _
    rw [insAll_mem l, ins_mem, List.mem_cons, or_assoc]
theorem insAll_rising : ∀ (l acc : List U), Rising acc → Rising (insAll acc l)
  | [], _, h => h
  | s :: l, acc, h => insAll_rising l (ins acc s) (ins_rising h)
theorem rising_eq : ∀ {a b : List U}, Rising a → Rising b → (∀ x, x ∈ a ↔ x ∈ b) → a = b
  | [], [], _, _, _ => rfl
  | [], y :: b, _, _, h => by have := (h y).2 (by simp); simp at this
  | x :: a, [], _, _, h => by have := (h x).1 (by simp); simp at this
  | x :: a, y :: b, ha, hb, h => by
    have hx := List.pairwise_cons.1 ha
    have hy := List.pairwise_cons.1 hb
    have e : x = y := by
      have h1 : x ∈ y :: b := (h x).1 (by simp)
      have h2 : y ∈ x :: a := (h y).2 (by simp)
      rcases List.mem_cons.1 h1 with h1 | h1
      · exact h1
      · rcases List.mem_cons.1 h2 with h2 | h2
        · exact h2.symm
        · exact absurd (u_trans (hx.1 y h2) (hy.1 x h1)) (u_irrefl x)
    subst e
    congr 1
    refine rising_eq hx.2 hy.2 fun z => ⟨fun hz => ?_, fun hz => ?_⟩
    · have := (h z).1 (by simp [hz])
      rcases List.mem_cons.1 this with rfl | h
      · exact absurd (hx.1 z hz) (u_irrefl z)
      · exact h
    · have := (h z).2 (by simp [hz])
      rcases List.mem_cons.1 this with rfl | h
      · exact absurd (hy.1 z hz) (u_irrefl z)
      · exact h
/-- What a sorted list keeps of itself where neighbours that are alike are one. -/
theorem compact_mem : ∀ (m : Nat) (d : Array U), m ≤ d.size → ∀ x, x ∈ Lib.compactUpTo d m ↔ ∃ j, j < m ∧ d[j]! = x
  | 0, d, _, x => by simp [Lib.compactUpTo]
  | m + 1, d, hm, x => by
    rw [Lib.compactUpTo_succ, List.mem_append, compact_mem m d (by omega)]
    constructor
    · rintro (⟨j, hj, e⟩ | h)
      · exact ⟨j, by omega, e⟩
      · split at h
        · simp at h; exact ⟨m, by omega, h.symm⟩
        · simp at h
    · rintro ⟨j, hj, e⟩
      by_cases h : j < m
      · exact .inl ⟨j, h, e⟩
      · obtain rfl : j = m := by omega
        by_cases hk : Lib.keeps d j = true
        · right; rw [if_pos hk]; simp [e]
        · left
          have hk' : Lib.keeps d j = false := by simpa using hk
          have : j ≠ 0 ∧ d[j]! = d[j - 1]! := by
            simp [Lib.keeps] at hk'
            exact hk'
          exact ⟨j - 1, by omega, by rw [← this.2]; exact e⟩
theorem compact_rising {d : Array U} (hs : ∀ i j, i < j → j < d.size → d[i]! ≤ d[j]!) : ∀ m, m ≤ d.size → Rising (Lib.compactUpTo d m)
  | 0, _ => by simp [Lib.compactUpTo, Rising]
  | m + 1, hm => by
    rw [Lib.compactUpTo_succ]
    refine List.pairwise_append.2 ⟨compact_rising hs m (by omega), ?_, fun a ha b hb => ?_⟩
    · split <;> simp
    · split at hb
      · rename_i hk
        simp at hb
        subst hb
        obtain ⟨j, hj, rfl⟩ := (compact_mem m d (by omega) a).1 ha
        have h0 : m ≠ 0 := by omega
        have hne : d[m]! ≠ d[m - 1]! := by
          simp [Lib.keeps, h0] at hk
          exact hk
        have h1 : d[m - 1]! < d[m]! := by
          have h2 : ¬ d[m]! < d[m - 1]! := hs (m - 1) m (by omega) (by omega)
          exact u_total h2 hne
        by_cases hj2 : j = m - 1
        · rw [hj2]; exact h1
        · have h3 : d[j]! ≤ d[m - 1]! := hs j (m - 1) (by omega) (by omega)
          exact List.lt_of_le_of_lt h3 h1
      · simp at hb
theorem compact_sorted (l : List U) : Lib.compact (l.mergeSort fun x y => decide (x ≤ y)) = insAll [] l := by
  have htot : ∀ a b : U, (decide (a ≤ b) || decide (b ≤ a)) = true := fun a b => by
    have := List.le_total a b
    simpa using this
  have htr : ∀ a b c : U, decide (a ≤ b) = true → decide (b ≤ c) = true → decide (a ≤ c) = true := fun a b c h1 h2 => by
    simp only [decide_eq_true_eq] at h1 h2 ⊢
    exact List.le_trans h1 h2
  have hsort := List.pairwise_mergeSort htr htot l
  have hperm := List.mergeSort_perm l (fun x y : U => decide (x ≤ y))
  generalize l.mergeSort (fun x y : U => decide (x ≤ y)) = ss at hsort hperm ⊢
  refine rising_eq ?_ (insAll_rising l [] List.Pairwise.nil) fun x => ?_
  · refine compact_rising (fun i j hij hj => ?_) _ (by simp)
    have hj' : j < ss.length := by simpa using hj
    have := List.pairwise_iff_getElem.1 hsort i j (by omega) hj' hij
    rw [getElem!_pos _ i (by simp; omega), getElem!_pos _ j (by simpa using hj')]
    simpa using this
  · unfold Lib.compact
    rw [compact_mem _ _ (by simp), insAll_mem]
    constructor
    · rintro ⟨j, hj, rfl⟩
      right
      rw [getElem!_pos _ j (by simpa using hj)]
      exact hperm.mem_iff.1 (by simp)
    · rintro (h | h)
      · simp at h
      · obtain ⟨j, hj, e⟩ := List.getElem_of_mem (hperm.mem_iff.2 h)
        refine ⟨j, hj, ?_⟩
        rw [getElem!_pos _ j (by simpa using hj)]
        simpa using e
end Go.Proofs.YtlhgjicichjbgaaGreatDoor
