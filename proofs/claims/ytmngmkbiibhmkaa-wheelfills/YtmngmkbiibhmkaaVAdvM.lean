/- What Advance leaves between two ids that were lifted. -/
import Derived.Test.YtmngmkbiibhmkaaVLiftM
namespace Go.Proofs.Ytmngmkbiibhmkaa

theorem filter_add {L : List Tm} (hL : L.Nodup) {p0 : Tm} (h0 : p0 ∈ L) {f g : Tm → Bool} (hf : f p0 = false) (hg : g p0 = true) (hs : ∀ p ∈ L, p ≠ p0 → g p = f p) : (L.filter g).Perm (L.filter f ++ [p0]) := by
  have hn : (L.filter f ++ [p0]).Nodup := by
    rw [List.nodup_append]
    refine ⟨hL.sublist List.filter_sublist, by simp, fun a ha b hb e => ?_⟩
    have : b = p0 := by simpa using hb
    rw [e, this, List.mem_filter, hf] at ha
    exact absurd ha.2 (by simp)
  rw [List.perm_ext_iff_of_nodup (hL.sublist List.filter_sublist) hn]
  intro p
  rw [List.mem_append, List.mem_filter, List.mem_filter, List.mem_singleton]
  by_cases hp : p = p0
  · subst hp; simp [h0, hg]
  · constructor
    · rintro ⟨h1, h2⟩; exact .inl ⟨h1, (hs p h1 hp) ▸ h2⟩
    · rintro (⟨h1, h2⟩ | h)
      · exact ⟨h1, (hs p h1 hp).symm ▸ h2⟩
      · exact absurd h hp
theorem rise_nd {L : List Tm} (h : Rise L) : L.Nodup := by
  rw [List.nodup_iff_pairwise_ne]
  exact List.Pairwise.imp (fun h e => by rw [e] at h; exact Nat.lt_irrefl _ h) h
/-- Those that were gone over: due ones are out, the others in their new slots. -/
structure AInv (now tt : Nat) (L : List Tm) (pre : List Nat) (L' : List Tm) (S' : List (List Nat)) (D : List Tm) : Prop where
  rest : L' = L.filter fun p => !(decide (p.1 ∈ pre) && decide (p.2 ≤ tt))
  due : D.Perm (L.filter fun p => decide (p.1 ∈ pre) && decide (p.2 ≤ tt))
  slot : ∀ (k : Nat) (xs : List Nat), S'[k]? = some xs → xs.Perm ((L.filter fun p => decide (tt < p.2) && (decide (p.1 ∈ pre) || decide (slotN now tt < slotN now p.2)) && (slotN tt p.2 == k)).map (·.1))
theorem AInv.start {now tt : Nat} {L : List Tm} {S : List (List Nat)} (h : Ok now L S) (ht : now ≤ tt) : AInv now tt L [] L (clr S (slotN now tt + 1)) [] where
  rest := by symm; rw [List.filter_eq_self]; intro p _; simp
  due := by rw [List.filter_eq_nil_iff.2 (fun p _ => by simp)]
  slot := fun k xs hx => by
    by_cases hk : k < slotN now tt + 1
    · have hxs : xs = [] := by
        unfold clr at hx
        rw [List.getElem?_append_left (by simpa using hk), List.getElem?_replicate, if_pos hk] at hx
        exact (Option.some.inj hx).symm
      rw [hxs, List.filter_eq_nil_iff.2]
      · exact .refl _
      · intro p hp
        simp only [List.not_mem_nil, decide_false, Bool.false_or, Bool.and_eq_true, decide_eq_true_eq, beq_iff_eq]
        rintro ⟨⟨_, h2⟩, h3⟩
        rw [slot_stays ht h2] at h3
        omega
    · have hxs : S[k]? = some xs := by
        unfold clr at hx
        rw [List.getElem?_append_right (by simp; omega), List.getElem?_drop] at hx
        simp only [List.length_replicate] at hx
        rwa [show slotN now tt + 1 + (k - (slotN now tt + 1)) = k by omega] at hx
      refine (h.fits k xs hxs).trans ?_
      rw [List.filter_congr (q := fun p => decide (tt < p.2) && (decide (p.1 ∈ ([] : List Nat)) || decide (slotN now tt < slotN now p.2)) && (slotN tt p.2 == k))]
      intro p hp
      rw [Bool.eq_iff_iff]
      simp only [List.not_mem_nil, decide_false, Bool.false_or, Bool.and_eq_true, decide_eq_true_eq, beq_iff_eq]
      constructor
      · intro e
        have h2 : slotN now tt < slotN now p.2 := by omega
        refine ⟨⟨?_, h2⟩, by rw [slot_stays ht h2]; exact e⟩
        rcases Nat.lt_or_ge tt p.2 with h3 | h3
        · exact h3
        · have := slot_mono (Nat.le_of_lt (h.big p hp).2.2) h3
          omega
      · rintro ⟨⟨_, h2⟩, h3⟩
        rw [slot_stays ht h2] at h3
        exact h3
theorem AInv.due_in {now tt : Nat} {L L' D : List Tm} {S' : List (List Nat)} {pre : List Nat} (h : AInv now tt L pre L' S' D) (hL : Rise L) {id a : Nat} (hm : (id, a) ∈ L) (hn : id ∉ pre) (hd : a ≤ tt) : AInv now tt L (pre ++ [id]) (tdel id L') S' (D ++ [(id, a)]) where
  rest := by
    rw [h.rest, tdel, List.filter_filter]
    apply List.filter_congr
    intro p hp
    by_cases hpi : p.1 = id
    · have := rise_inj hL p hp (id, a) hm hpi
      subst this
      simp [hd]
    · simp [hpi]
  due := by
    refine (h.due.append_right _).trans (filter_add (rise_nd hL) hm (by simp [hn]) (by simp [hd]) ?_).symm
    intro p hp hne
    have hpi : p.1 ≠ id := fun e => hne (rise_inj hL p hp (id, a) hm e)
    simp [hpi]
  slot := fun k xs hx => by
    refine (h.slot k xs hx).trans ?_
    rw [List.filter_congr (q := fun p => decide (tt < p.2) && (decide (p.1 ∈ pre ++ [id]) || decide (slotN now tt < slotN now p.2)) && (slotN tt p.2 == k))]
    intro p hp
    by_cases hpi : p.1 = id
    · have := rise_inj hL p hp (id, a) hm hpi
      subst this
      rw [decide_eq_false (by omega)]
      simp
    · simp [hpi]
theorem AInv.later {now tt : Nat} {L L' D : List Tm} {S' : List (List Nat)} {pre : List Nat} (h : AInv now tt L pre L' S' D) (hL : Rise L) {id a : Nat} {xs : List Nat} (hm : (id, a) ∈ L) (hn : id ∉ pre) (hd : tt < a) (hk : slotN now a ≤ slotN now tt) (hx : S'[slotN tt a]? = some xs) : AInv now tt L (pre ++ [id]) L' (S'.set (slotN tt a) (xs ++ [id])) D where
  rest := by
    rw [h.rest]
    apply List.filter_congr
    intro p hp
    by_cases hpi : p.1 = id
    · have := rise_inj hL p hp (id, a) hm hpi
      subst this
      rw [decide_eq_false (by omega : ¬ (a ≤ tt))]
      simp
    · simp [hpi]
  due := by
    rw [List.filter_congr (q := fun p => decide (p.1 ∈ pre) && decide (p.2 ≤ tt))]
    · exact h.due
    intro p hp
    by_cases hpi : p.1 = id
    · have := rise_inj hL p hp (id, a) hm hpi
      subst this
      rw [decide_eq_false (by omega : ¬ (a ≤ tt))]
      simp
    · simp [hpi]
  slot := fun k ys hy => by
    rw [List.getElem?_set] at hy
    by_cases e : slotN tt a = k
    · rw [if_pos e, if_pos (List.getElem?_eq_some_iff.1 hx).1] at hy
      cases hy
      rw [e] at hx
      refine ((h.slot k xs hx).append_right [id]).trans ?_
      have := (filter_add (rise_nd hL) hm (f := fun p => decide (tt < p.2) && (decide (p.1 ∈ pre) || decide (slotN now tt < slotN now p.2)) && (slotN tt p.2 == k)) (g := fun p => decide (tt < p.2) && (decide (p.1 ∈ pre ++ [id]) || decide (slotN now tt < slotN now p.2)) && (slotN tt p.2 == k)) (by simp [hn]; omega) (by simp [hd, e]) ?_).map (·.1)
      · rw [List.map_append] at this
        exact this.symm
      · intro p hp hne
        have hpi : p.1 ≠ id := fun e => hne (rise_inj hL p hp (id, a) hm e)
        simp [hpi]
    · rw [if_neg e] at hy
      refine (h.slot k ys hy).trans ?_
      rw [List.filter_congr (q := fun p => decide (tt < p.2) && (decide (p.1 ∈ pre ++ [id]) || decide (slotN now tt < slotN now p.2)) && (slotN tt p.2 == k))]
      intro p hp
      by_cases hpi : p.1 = id
      · have := rise_inj hL p hp (id, a) hm hpi
        subst this
        have : (slotN tt a == k) = false := by simpa using e
        simp only [this, Bool.and_false]
      · simp [hpi]
/-- The timers that stay, those that are told. -/
def advL (tt : Nat) (L : List Tm) : List Tm := L.filter fun p => decide (tt < p.2)
def advD (tt : Nat) (L : List Tm) : List Tm := L.filter fun p => decide (p.2 ≤ tt)
theorem AInv.done {now tt : Nat} {L L' D : List Tm} {S S' : List (List Nat)} (h : AInv now tt L (S.take (slotN now tt + 1)).flatten L' S' D) (hok : Ok now L S) (hS : S.length = 257) (hb : tt < 18446744073709551616) : L' = advL tt L ∧ D.Perm (advD tt L) ∧ Ok tt L' S' := by
  have hin : ∀ p ∈ L, (p.1 ∈ (S.take (slotN now tt + 1)).flatten ↔ slotN now p.2 ≤ slotN now tt) := fun p hp => by
    rw [(take_perm hok (slotN now tt + 1) (by rw [hS]; have := slotN_lt now tt; omega)).mem_iff, List.mem_map]
    constructor
    · rintro ⟨q, hq, e⟩
      have := List.mem_filter.1 hq
      rw [rise_inj hok.rise q this.1 p hp e] at this
      have h2 := of_decide_eq_true this.2
      omega
    · intro h1
      exact ⟨p, List.mem_filter.2 ⟨hp, decide_eq_true (by omega)⟩, rfl⟩
  have hdue : ∀ p ∈ L, p.2 ≤ tt → p.1 ∈ (S.take (slotN now tt + 1)).flatten := fun p hp h1 => (hin p hp).2 (slot_mono (Nat.le_of_lt (hok.big p hp).2.2) h1)
  have e1 : L' = advL tt L := by
    rw [h.rest, advL]
    apply List.filter_congr
    intro p hp
    by_cases h1 : p.2 ≤ tt
    · rw [decide_eq_true (hdue p hp h1), decide_eq_true h1, decide_eq_false (by omega)]; rfl
    · rw [decide_eq_false h1, decide_eq_true (by omega : tt < p.2)]; simp
  refine ⟨e1, ?_, ?_⟩
  · refine h.due.trans ?_
    rw [advD, List.filter_congr (q := fun p => decide (p.2 ≤ tt))]
    intro p hp
    by_cases h1 : p.2 ≤ tt
    · rw [decide_eq_true (hdue p hp h1), decide_eq_true h1]; rfl
    · rw [decide_eq_false h1]; simp
  · refine ⟨?_, ?_, ?_, hb, ?_⟩
    · rw [e1]; exact List.Pairwise.filter _ hok.rise
    · rw [e1]; exact Nat.le_trans (List.length_filter_le ..) hok.len
    · intro p hp
      rw [e1] at hp
      have := List.mem_filter.1 hp
      have h2 := hok.big p this.1
      exact ⟨h2.1, h2.2.1, of_decide_eq_true this.2⟩
    · intro k xs hx
      refine (h.slot k xs hx).trans ?_
      rw [e1, advL, List.filter_filter, List.filter_congr (q := fun p => (slotN tt p.2 == k) && decide (tt < p.2))]
      intro p hp
      by_cases h1 : slotN now p.2 ≤ slotN now tt
      · rw [decide_eq_true ((hin p hp).2 h1), Bool.true_or, Bool.and_true, Bool.and_comm]
      · rw [decide_eq_true (by omega : slotN now tt < slotN now p.2), Bool.or_true, Bool.and_true, Bool.and_comm]
end Go.Proofs.Ytmngmkbiibhmkaa
