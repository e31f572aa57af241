/- What lift leaves between two slots. -/
import Derived.Test.YtmngmkbiibhmkaaVCallB
namespace Go.Proofs.Ytmngmkbiibhmkaa
open Go.RowKit Go.Maps

def clr (S : List (List Nat)) (k : Nat) : List (List Nat) := List.replicate k [] ++ S.drop k
theorem clr_zero (S : List (List Nat)) : clr S 0 = S := rfl
theorem clr_get {S : List (List Nat)} {k : Nat} : (clr S k)[k]? = S[k]? := by
  unfold clr
  rw [List.getElem?_append_right (by simp), List.getElem?_drop]
  simp
theorem clr_set {S : List (List Nat)} {k : Nat} {xs : List Nat} (h : S[k]? = some xs) : (clr S k).set k [] = clr S (k + 1) := by
  have hl : k < S.length := (List.getElem?_eq_some_iff.1 h).1
  have e : S.drop k = xs :: S.drop (k + 1) := by rw [List.drop_eq_getElem_cons hl, (List.getElem?_eq_some_iff.1 h).2]
  unfold clr
  rw [e, List.set_append_right _ _ (by simp), List.replicate_succ']
  simp
theorem filter_split (f : Tm → Nat) (k : Nat) : ∀ L : List Tm, (L.filter (fun p => decide (f p < k + 1))).Perm (L.filter (fun p => decide (f p < k)) ++ L.filter (fun p => f p == k))
  | [] => .refl _
  | x :: L => by
    have ih := filter_split f k L
    by_cases h1 : f x < k
    · rw [List.filter_cons_of_pos (by simpa using by omega), List.filter_cons_of_pos (by simpa using h1), List.filter_cons_of_neg (by simp; omega)]
      exact ih.cons x
    by_cases h2 : f x = k
    · rw [List.filter_cons_of_pos (by simpa using by omega), List.filter_cons_of_neg (by simpa using h1), List.filter_cons_of_pos (by simpa using h2)]
      exact (ih.cons x).trans List.perm_middle.symm
    · rw [List.filter_cons_of_neg (by simpa using by omega), List.filter_cons_of_neg (by simpa using h1), List.filter_cons_of_neg (by simpa using h2)]
      exact ih
theorem take_perm {now : Nat} {L : List Tm} {S : List (List Nat)} (h : Ok now L S) : ∀ k, k ≤ S.length → ((S.take k).flatten).Perm ((L.filter fun p => decide (slotN now p.2 < k)).map (·.1))
  | 0, _ => by simp
  | k + 1, hk => by
    have hx : S[k]? = some S[k] := List.getElem?_eq_getElem (by omega)
    rw [List.take_add_one, hx, Option.toList_some, List.flatten_append, List.flatten_singleton]
    refine List.Perm.trans ?_ ((filter_split (fun p => slotN now p.2) k L).map _).symm
    rw [List.map_append]
    exact (take_perm h k (by omega)).append (h.fits k _ hx)
theorem take_short {now : Nat} {L : List Tm} {S : List (List Nat)} (h : Ok now L S) {k : Nat} (hk : k ≤ S.length) : ((S.take k).flatten).length ≤ 8192 := by
  rw [(take_perm h k hk).length_eq, List.length_map]
  exact Nat.le_trans (List.length_filter_le ..) h.len
structure LiftInv (w wr : World) (wp now : Nat) (L : List Tm) (S : List (List Nat)) (Y : Lay) (v : Value) (k : Nat) : Prop where
  rep : ∃ Y', Rep wr wp now L (clr S k) Y' ∧ ∀ b ∈ Y'.blocks wp, b ∈ Y.blocks wp
  fr : Fr (Y.blocks wp) w wr
  own : Own wr w.heap.size v (S.take k).flatten
theorem LiftInv.step {w wr : World} {wp now : Nat} {L : List Tm} {S : List (List Nat)} {Y : Lay} {v : Value} {k : Nat} {xs : List Nat} (h : LiftInv w wr wp now L S Y v k) (hY : ∀ b ∈ Y.blocks wp, b < w.heap.size) (hk : k < 257) (hx : S[k]? = some xs) :
    ∃ ao c, wr.cell? ⟨wp, 2 + k, none⟩ = some (.slice ao xs.length c) ∧ Row wr ao xs ∧ ∀ v2 w2, Own w2 w.heap.size v2 ((S.take k).flatten ++ xs) → wr.grownBy w2 v.ownBlock → w2.cell? ⟨wp, 2 + k, none⟩ = some (.slice ao xs.length c) ∧ w2.frozen? ⟨wp, 2 + k, none⟩ = false ∧ LiftInv w (w2.setCell ⟨wp, 2 + k, none⟩ (.slice none 0 0)) wp now L S Y v2 (k + 1) := by
  obtain ⟨Y', hr, hs⟩ := h.rep
  obtain ⟨u, xs', hv, hx', ho, hc, hf⟩ := hr.get hk
  rw [clr_get, hx] at hx'
  cases hx'
  obtain ⟨ao, c, rfl, _, hrow⟩ := ho.read
  refine ⟨ao, c, hc, hrow, fun v2 w2 o2 g2 => ?_⟩
  have hfr : Fr (vb v) wr w2 := fr_grown g2
  have hap : ∀ b ∈ Y'.blocks wp, b ∉ vb v := fun b hb hm => by
    have h1 := hY b (hs b hb)
    have h2 := (h.own.lt b (mem_vb.1 hm)).1
    omega
  have hr2 := hr.apartFr hfr hap
  obtain ⟨u', _, hv', _, _, hc2, hf2⟩ := hr2.get hk
  rw [hv] at hv'
  cases hv'
  obtain ⟨h3, h4⟩ := hr2.put (v' := .slice none 0 0) (xs' := []) hv (Fr.refl _ _) (own_nil _ _) (fun g e => by cases e)
  rw [clr_set hx] at h3
  have hsz : Fr (Y.blocks wp) w w2 := h.fr.trans hfr fun b hb => .inr ((h.own.lt b (mem_vb.1 hb)).1)
  refine ⟨hc2, hf2, ⟨_, h3, fun b hb => ?_⟩, hsz.trans (h4.fr) fun b hb => .inl (hs b hb), ?_⟩
  · rcases (Lay.mem _ wp b).1 hb with e | e | ⟨i, u, e1, e⟩
    · exact hs b ((Y'.mem wp b).2 (.inl e))
    · exact hs b ((Y'.mem wp b).2 (.inr (.inl e)))
    · rw [List.getElem?_set] at e1
      split at e1
      · split at e1
        · cases e1; cases e
        · cases e1
      · exact hs b ((Y'.mem wp b).2 (.inr (.inr ⟨i, u, e1, e⟩)))
  · have : (S.take (k + 1)).flatten = (S.take k).flatten ++ xs := by rw [List.take_add_one, hx]; simp
    rw [this]
    exact o2.same fun g hg => heap_setCell_other w2 _ g _ (by
      have h1 := hY wp ((Y.mem wp wp).2 (.inl rfl))
      have h2 := (o2.lt g hg).1
      show g ≠ wp
      omega)
theorem LiftInv.start {w : World} {wp now : Nat} {L : List Tm} {S : List (List Nat)} {Y : Lay} (h : Rep w wp now L S Y) : LiftInv w w wp now L S Y (.slice none 0 0) 0 :=
  ⟨⟨Y, by rw [clr_zero]; exact h, fun _ h => h⟩, Fr.refl _ _, by simpa using own_nil w w.heap.size⟩
theorem LiftInv.drewN {w wr : World} {wp now : Nat} {L : List Tm} {S : List (List Nat)} {Y : Lay} {v : Value} {k : Nat} (h : LiftInv w wr wp now L S Y v k) (n : Nat) : LiftInv w (wr.drewN n) wp now L S Y v k := by
  obtain ⟨Y', hr, hs⟩ := h.rep
  exact ⟨⟨Y', hr.drewN n, hs⟩, h.fr.trans (fq := []) (Fr.drewN _ _ n) (fun _ h => by cases h), h.own.drewN n⟩
end Go.Proofs.Ytmngmkbiibhmkaa
