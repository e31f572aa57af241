/- The wheel of the document as plain data: timers by rising id, the rings' digits, the slots. -/
import Derived.Maps.OwnSet
namespace Go.Proofs.Ytmngmkbiibhmkaa

/-- A timer: its id, when it is due. -/
abbrev Tm : Type := Nat × Nat
def tins (x : Tm) : List Tm → List Tm
  | [] => [x]
  | y :: r => if x.1 < y.1 then x :: y :: r else y :: tins x r
def tdel (id : Nat) (d : List Tm) : List Tm := d.filter fun p => !(p.1 == id)
def tput (x : Tm) (d : List Tm) : List Tm := tins x (tdel x.1 d)
def tget (id : Nat) (d : List Tm) : Option Nat := (d.find? fun p => p.1 == id).map (·.2)
def Rise (d : List Tm) : Prop := d.Pairwise fun p q => p.1 < q.1

theorem tins_mem (x : Tm) : ∀ (d : List Tm) (p : Tm), p ∈ tins x d ↔ p = x ∨ p ∈ d
  | [], p => by simp [tins]
  | y :: r, p => by
    unfold tins
    split
    · simp
    · rw [List.mem_cons, tins_mem x r p, List.mem_cons]
      constructor
      · rintro (h | h | h)
        · exact .inr (.inl h)
        · exact .inl h
        · exact .inr (.inr h)
      · rintro (h | h | h)
        · exact .inr (.inl h)
        · exact .inl h
        · exact .inr (.inr h)
theorem tins_perm (x : Tm) : ∀ d : List Tm, (tins x d).Perm (x :: d)
  | [] => .refl _
  | y :: r => by
    unfold tins
    split
    · exact .refl _
    · exact ((tins_perm x r).cons y).trans (.swap ..)
theorem tins_length (x : Tm) (d : List Tm) : (tins x d).length = d.length + 1 := by rw [(tins_perm x d).length_eq]; rfl
theorem tdel_mem (id : Nat) (d : List Tm) (p : Tm) : p ∈ tdel id d ↔ p ∈ d ∧ p.1 ≠ id := by simp [tdel]
theorem tdel_length_le (id : Nat) (d : List Tm) : (tdel id d).length ≤ d.length := List.length_filter_le ..
theorem tdel_none {id : Nat} {d : List Tm} (h : ∀ p ∈ d, p.1 ≠ id) : tdel id d = d := by
  unfold tdel
  rw [List.filter_eq_self]
  intro p hp
  simpa using h p hp
theorem rise_del {id : Nat} {d : List Tm} (h : Rise d) : Rise (tdel id d) := List.Pairwise.filter _ h
theorem rise_ins {x : Tm} : ∀ {d : List Tm}, Rise d → (∀ p ∈ d, p.1 ≠ x.1) → Rise (tins x d)
  | [], _, _ => by simp [tins, Rise]
  | y :: r, h, hn => by
    unfold Rise at h
    rw [List.pairwise_cons] at h
    unfold tins
    by_cases hb : x.1 < y.1
    · rw [if_pos hb]
      refine List.pairwise_cons.2 ⟨fun q hq => ?_, List.pairwise_cons.2 h⟩
      rcases List.mem_cons.1 hq with rfl | hq
      · exact hb
      · exact Nat.lt_trans hb (h.1 q hq)
    · rw [if_neg hb]
      refine List.pairwise_cons.2 ⟨fun q hq => ?_, rise_ins h.2 (fun p hp => hn p (by simp [hp]))⟩
      rcases (tins_mem x r q).1 hq with rfl | hq
      · have := hn y (by simp)
        omega
      · exact h.1 q hq
theorem rise_put {x : Tm} {d : List Tm} (h : Rise d) : Rise (tput x d) := rise_ins (rise_del h) (fun p hp => ((tdel_mem _ d p).1 hp).2)
theorem rise_inj {d : List Tm} (h : Rise d) : ∀ p ∈ d, ∀ q ∈ d, p.1 = q.1 → p = q := by
  induction d with
  | nil => intro p hp; cases hp
  | cons x r ih =>
    unfold Rise at h
    rw [List.pairwise_cons] at h
    intro p hp q hq e
    rcases List.mem_cons.1 hp with hp1 | hp1 <;> rcases List.mem_cons.1 hq with hq1 | hq1
    · rw [hp1, hq1]
    · have := h.1 q hq1; rw [hp1] at e; omega
    · have := h.1 p hp1; rw [hq1] at e; omega
    · exact ih h.2 p hp1 q hq1 e
theorem rise_nodup {d : List Tm} (h : Rise d) : (d.map (·.1)).Nodup := by
  rw [List.nodup_iff_pairwise_ne, List.pairwise_map]
  exact List.Pairwise.imp (fun h => Nat.ne_of_lt h) h
theorem rise_ext : ∀ {d e : List Tm}, Rise d → Rise e → (∀ p, p ∈ d ↔ p ∈ e) → d = e
  | [], [], _, _, _ => rfl
  | [], y :: r, _, _, h => absurd ((h y).2 (by simp)) (by simp)
  | x :: r, [], _, _, h => absurd ((h x).1 (by simp)) (by simp)
  | x :: r, y :: s, h1, h2, h => by
    unfold Rise at h1 h2
    rw [List.pairwise_cons] at h1 h2
    have e : x = y := by
      have a := (h x).1 (by simp)
      have b := (h y).2 (by simp)
      rcases List.mem_cons.1 a with a | a
      · exact a
      rcases List.mem_cons.1 b with b | b
      · exact b.symm
      have := h2.1 x a
      have := h1.1 y b
      omega
    subst e
    rw [rise_ext h1.2 h2.2 fun p => ?_]
    constructor
    · intro hp
      rcases List.mem_cons.1 ((h p).1 (List.mem_cons_of_mem _ hp)) with rfl | h3
      · have := h1.1 p hp; omega
      · exact h3
    · intro hp
      rcases List.mem_cons.1 ((h p).2 (List.mem_cons_of_mem _ hp)) with rfl | h3
      · have := h2.1 p hp; omega
      · exact h3
theorem tget_some {id a : Nat} {d : List Tm} (h : tget id d = some a) : (id, a) ∈ d := by
  unfold tget at h
  cases hf : d.find? fun p => p.1 == id with
  | none => rw [hf] at h; simp at h
  | some p =>
    rw [hf] at h
    simp only [Option.map_some, Option.some.injEq] at h
    have h1 := List.mem_of_find?_eq_some hf
    have h2 := List.find?_some hf
    simp only [beq_iff_eq] at h2
    rw [← h, ← h2]
    exact h1
theorem tget_mem {d : List Tm} (h : Rise d) {p : Tm} (hp : p ∈ d) : tget p.1 d = some p.2 := by
  cases hg : tget p.1 d with
  | none =>
    unfold tget at hg
    rw [Option.map_eq_none_iff, List.find?_eq_none] at hg
    exact absurd (hg p hp) (by simp)
  | some a =>
    have := rise_inj h _ (tget_some hg) _ hp rfl
    rw [← this]
theorem tget_none {id : Nat} {d : List Tm} (h : tget id d = none) : ∀ p ∈ d, p.1 ≠ id := by
  unfold tget at h
  rw [Option.map_eq_none_iff, List.find?_eq_none] at h
  intro p hp
  simpa using h p hp
theorem tget_none_of {id : Nat} {d : List Tm} (h : ∀ p ∈ d, p.1 ≠ id) : tget id d = none := by
  unfold tget
  rw [Option.map_eq_none_iff, List.find?_eq_none]
  intro p hp
  simpa using h p hp

/-- The map's datum. -/
def DT (d : List Tm) : DataW Unit := .map (d.map fun p => (.int .u64 (p.1 : Int), .lit (.int .u64 (p.2 : Int))))
theorem dt_ins (x : Tm) : ∀ d : List Tm, DataW.insert (Lit.int .u64 (x.1 : Int), (.lit (.int .u64 (x.2 : Int)) : DataW Unit)) (d.map fun p => (.int .u64 (p.1 : Int), .lit (.int .u64 (p.2 : Int)))) = (tins x d).map fun p => (.int .u64 (p.1 : Int), .lit (.int .u64 (p.2 : Int)))
  | [] => rfl
  | y :: r => by
    by_cases h : x.1 < y.1
    · simp [DataW.insert, Lit.before, tins, h]
    · have := dt_ins x r
      rw [List.map_cons, show tins x (y :: r) = y :: tins x r from if_neg h, List.map_cons, ← this]
      exact if_neg (by simp [Lit.before]; omega)
theorem same_key (a b : Nat) : (Lit.int .u64 (a : Int)).sameKey (.int .u64 (b : Int)) = (a == b) := by
  by_cases h : a = b
  · subst h; simp [Lit.sameKey]
  · simp only [Lit.sameKey, true_and]
    rw [decide_eq_false (by omega), eq_comm, beq_eq_false_iff_ne]
    exact h
theorem dt_del (id : Nat) (d : List Tm) : (DT d).del (.int .u64 (id : Int)) = DT (tdel id d) := by
  rw [DT, DT, DataW.del_eq, ChangeMaps.delKey, List.filter_map]
  congr 2
  unfold tdel
  congr 1
  funext p
  simp [ChangeMaps.notKey, same_key]
theorem dt_put (x : Tm) (d : List Tm) : (DT d).put (.int .u64 (x.1 : Int)) (.lit (.int .u64 (x.2 : Int))) = DT (tput x d) := by
  rw [DT, DT, DataW.put_eq, ChangeMaps.putKey, List.filter_map]
  have := dt_ins x (tdel x.1 d)
  unfold tput
  rw [← this]
  congr 3
  unfold tdel
  congr 1
  funext p
  simp [ChangeMaps.notKey, same_key]
theorem dt_at (id : Nat) (d : List Tm) : (DT d).atKey (.int .u64 (id : Int)) (.lit (.int .u64 0)) = .lit (.int .u64 (((tget id d).getD 0 : Nat) : Int)) := by
  unfold DT DataW.atKey tget
  simp only [List.find?_map]
  have e : ((fun p : Lit × DataW Unit => p.1.sameKey (.int .u64 (id : Int))) ∘ fun p : Tm => ((.int .u64 (p.1 : Int) : Lit), (.lit (.int .u64 (p.2 : Int)) : DataW Unit))) = fun p => p.1 == id := by
    funext p; simp [same_key]
  rw [e]
  cases d.find? fun p => p.1 == id <;> rfl
theorem dt_size (d : List Tm) : Maps.size (DT d) = d.length := by simp [DT, Maps.size]
theorem dt_has (d : List Tm) (id : Nat) : Maps.has (DT d) (.int .u64 (id : Int)) = (tget id d).isSome := by
  unfold DT tget
  rw [Maps.has_eq]
  rw [Option.isSome_map, Bool.eq_iff_iff, List.any_map, List.any_eq_true, List.find?_isSome]
  constructor
  · rintro ⟨p, hp, h⟩
    exact ⟨p, hp, by rw [← same_key]; exact h⟩
  · rintro ⟨p, hp, h⟩
    exact ⟨p, hp, by rw [← same_key] at h; exact h⟩
end Go.Proofs.Ytmngmkbiibhmkaa
