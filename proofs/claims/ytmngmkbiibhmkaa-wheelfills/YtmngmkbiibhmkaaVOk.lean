/- What holds of a wheel's slots: each has the ids of its timers; behind Add and Remove too. -/
import Derived.Test.YtmngmkbiibhmkaaVRing
namespace Go.Proofs.Ytmngmkbiibhmkaa

structure Ok (now : Nat) (L : List Tm) (S : List (List Nat)) : Prop where
  rise : Rise L
  len : L.length ≤ 8192
  big : ∀ p ∈ L, p.1 < 18446744073709551616 ∧ p.2 < 18446744073709551616 ∧ now < p.2
  nowb : now < 18446744073709551616
  fits : ∀ (k : Nat) (xs : List Nat), S[k]? = some xs → xs.Perm ((L.filter fun p => slotN now p.2 == k).map (·.1))
theorem Ok.short {now : Nat} {L : List Tm} {S : List (List Nat)} (h : Ok now L S) {k : Nat} {xs : List Nat} (hx : S[k]? = some xs) : xs.length ≤ 8192 := by
  rw [(h.fits k xs hx).length_eq, List.length_map]
  exact Nat.le_trans (List.length_filter_le ..) h.len
def addE (now : Nat) (L : List Tm) (id a : Nat) : Nat := if (tget id L).isSome then 8 else if a ≤ now then 70 else if 8192 ≤ L.length then 5 else 0
def addL (now : Nat) (L : List Tm) (id a : Nat) : List Tm := if addE now L id a = 0 then tins (id, a) L else L
def remE (L : List Tm) (id : Nat) : Nat := if (tget id L).isSome then 0 else 7
theorem Ok.add {now : Nat} {L : List Tm} {S : List (List Nat)} (h : Ok now L S) {id a : Nat} {xs : List Nat} (hid : id < 18446744073709551616) (ha : a < 18446744073709551616) (hg : tget id L = none) (hn : now < a) (hl : L.length < 8192) (hx : S[slotN now a]? = some xs) : Ok now (tins (id, a) L) (S.set (slotN now a) (xs ++ [id])) where
  rise := rise_ins h.rise (tget_none hg)
  len := by rw [tins_length]; omega
  big := fun p hp => by
    rcases (tins_mem _ _ p).1 hp with rfl | hp
    · exact ⟨hid, ha, hn⟩
    · exact h.big p hp
  nowb := h.nowb
  fits := fun k ys hy => by
    refine List.Perm.trans ?_ (((tins_perm (id, a) L).filter _).map _).symm
    rw [List.getElem?_set] at hy
    by_cases hk : slotN now a = k
    · rw [if_pos hk, if_pos (List.getElem?_eq_some_iff.1 hx).1] at hy
      cases hy
      rw [List.filter_cons_of_pos (by simpa using hk), List.map_cons]
      rw [hk] at hx
      exact (List.perm_append_singleton id xs).trans ((h.fits k xs hx).cons id)
    · rw [if_neg hk] at hy
      rw [List.filter_cons_of_neg (by simpa using hk)]
      exact h.fits k ys hy
theorem nodup_slot {now : Nat} {L : List Tm} (h : Rise L) (k : Nat) : ((L.filter fun p => slotN now p.2 == k).map (·.1)).Nodup :=
  (rise_nodup h).sublist (List.Sublist.map _ List.filter_sublist)
theorem Ok.remove {now : Nat} {L : List Tm} {S : List (List Nat)} (h : Ok now L S) {id a : Nat} {xs xs' : List Nat} (hg : tget id L = some a) (hx : S[slotN now a]? = some xs) (hp : xs'.Perm (xs.erase id)) : Ok now (tdel id L) (S.set (slotN now a) xs') where
  rise := rise_del h.rise
  len := Nat.le_trans (tdel_length_le _ _) h.len
  big := fun p hp => h.big p ((tdel_mem _ _ p).1 hp).1
  nowb := h.nowb
  fits := fun k ys hy => by
    have hm := tget_some hg
    rw [List.getElem?_set] at hy
    have e : (tdel id L).filter (fun p => slotN now p.2 == k) = (L.filter (fun p => slotN now p.2 == k)).filter (fun p => !(p.1 == id)) := by
      unfold tdel
      rw [List.filter_filter, List.filter_filter]
      congr 1
      funext p
      exact Bool.and_comm ..
    by_cases hk : slotN now a = k
    · rw [if_pos hk, if_pos (List.getElem?_eq_some_iff.1 hx).1] at hy
      cases hy
      rw [hk] at hx
      refine hp.trans (((h.fits k xs hx).erase id).trans ?_)
      rw [(nodup_slot h.rise k).erase_eq_filter, List.filter_map, e]
      exact .refl _
    · rw [if_neg hk] at hy
      refine (h.fits k ys hy).trans ?_
      have e3 : (L.filter (fun p => slotN now p.2 == k)).filter (fun p => !(p.1 == id)) = L.filter (fun p => slotN now p.2 == k) := List.filter_eq_self.2 fun p hp => by
        have hp2 := List.mem_filter.1 hp
        simp only [Bool.not_eq_true', beq_eq_false_iff_ne]
        intro e2
        have := rise_inj h.rise p hp2.1 (id, a) hm e2
        rw [this] at hp2
        exact hk (by simpa using hp2.2)
      rw [e, e3]
theorem Ok.mem {now : Nat} {L : List Tm} {S : List (List Nat)} (h : Ok now L S) {id a : Nat} {xs : List Nat} (hg : tget id L = some a) (hx : S[slotN now a]? = some xs) : id ∈ xs := by
  rw [(h.fits _ xs hx).mem_iff, List.mem_map]
  exact ⟨(id, a), List.mem_filter.2 ⟨tget_some hg, by simp⟩, rfl⟩
theorem ok_new (now : Nat) (h : now < 18446744073709551616) : Ok now [] (List.replicate 257 []) where
  rise := List.Pairwise.nil
  len := by simp
  big := fun p hp => by cases hp
  nowb := h
  fits := fun k xs hx => by
    rw [List.getElem?_replicate] at hx
    split at hx
    · cases hx; exact .refl _
    · cases hx
end Go.Proofs.Ytmngmkbiibhmkaa
