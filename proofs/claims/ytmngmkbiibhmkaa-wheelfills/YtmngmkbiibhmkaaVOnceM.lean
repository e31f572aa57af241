/- The list of timers that the law keeps beside the wheel. -/
import Derived.Test.YtmngmkbiibhmkaaVInOrder
import Derived.Test.YtmngmkbiibhmkaaVAdvM
namespace Go.Proofs.Ytmngmkbiibhmkaa

/-- What Advance tells. -/
def told (tt : Nat) (L : List Tm) : List Nat := ((advD tt L).mergeSort leT).map (·.1)
theorem told_perm (tt : Nat) (L : List Tm) : (told tt L).Perm ((advD tt L).map (·.1)) := (List.mergeSort_perm _ leT).map _
theorem told_nodup {tt : Nat} {L : List Tm} (h : Rise L) : (told tt L).Nodup := by
  rw [(told_perm tt L).nodup_iff]
  exact (rise_nodup h).sublist (List.Sublist.map _ List.filter_sublist)
theorem told_len {tt : Nat} {L T : List Tm} (h : T.Perm L) : (told tt L).length = (T.filter fun p => decide (p.2 ≤ tt)).length := by
  rw [(told_perm tt L).length_eq, List.length_map, advD]
  exact ((h.filter _).length_eq).symm
theorem told_mem {tt : Nat} {L : List Tm} {id : Nat} (h : id ∈ told tt L) : ∃ a, (id, a) ∈ L ∧ a ≤ tt := by
  obtain ⟨p, hp, e⟩ := List.mem_map.1 ((told_perm tt L).mem_iff.1 h)
  have := List.mem_filter.1 hp
  exact ⟨p.2, by rw [← e]; exact this.1, of_decide_eq_true this.2⟩
def without (T : List Tm) (pre : List Nat) : List Tm := T.filter fun p => decide (p.1 ∉ pre)
theorem without_nil (T : List Tm) : without T [] = T := by
  unfold without
  rw [List.filter_eq_self]
  intro p _
  simp
theorem without_snoc (T : List Tm) (pre : List Nat) (id : Nat) : tdel id (without T pre) = without T (pre ++ [id]) := by
  unfold tdel without
  rw [List.filter_filter]
  apply List.filter_congr
  intro p _
  simp only [List.mem_append, List.mem_singleton, not_or]
  rw [Bool.eq_iff_iff]
  simp
  constructor <;> (rintro ⟨h1, h2⟩; exact ⟨h2, h1⟩)
theorem without_len (T : List Tm) (pre : List Nat) : (without T pre).length ≤ T.length := List.length_filter_le ..
theorem find_perm {T L : List Tm} (hp : T.Perm L) (hL : Rise L) {p : Tm} (hm : p ∈ T) : tget p.1 T = some p.2 := by
  cases hg : tget p.1 T with
  | none => exact absurd rfl (tget_none hg p hm)
  | some a =>
    have h1 := tget_some hg
    have := rise_inj hL _ (hp.mem_iff.1 h1) _ (hp.mem_iff.1 hm) rfl
    rw [← this]
theorem without_find {T L : List Tm} (hp : T.Perm L) (hL : Rise L) {pre : List Nat} {id a : Nat} (hm : (id, a) ∈ L) (hn : id ∉ pre) : tget id (without T pre) = some a := by
  have hin : (id, a) ∈ without T pre := List.mem_filter.2 ⟨hp.mem_iff.2 hm, by simpa using hn⟩
  cases hg : tget id (without T pre) with
  | none => exact absurd rfl (tget_none hg _ hin)
  | some b =>
    have h1 := (List.mem_filter.1 (tget_some hg)).1
    have := rise_inj hL _ (hp.mem_iff.1 h1) _ hm rfl
    rw [show b = a from congrArg Prod.snd this]
theorem without_all {T L : List Tm} (hp : T.Perm L) (hL : Rise L) (tt : Nat) : (without T (told tt L)).Perm (advL tt L) := by
  have e : L.filter (fun p => decide (p.1 ∉ told tt L)) = advL tt L := by
    unfold advL
    apply List.filter_congr
    intro p hm
    rw [Bool.eq_iff_iff]
    simp only [decide_eq_true_eq]
    constructor
    · intro h
      rcases Nat.lt_or_ge tt p.2 with h1 | h1
      · exact h1
      · exact absurd ((told_perm tt L).mem_iff.2 (List.mem_map.2 ⟨p, List.mem_filter.2 ⟨hm, decide_eq_true h1⟩, rfl⟩)) h
    · intro h hin
      obtain ⟨a, h1, h2⟩ := told_mem hin
      have := rise_inj hL _ h1 p hm rfl
      rw [← this] at h
      simp only at h
      omega
  rw [← e]
  exact hp.filter _
theorem told_at {tt : Nat} {L : List Tm} (hL : Rise L) {k : Nat} (hk : k < (told tt L).length) : ∃ id a, (told tt L).getD k 0 = id ∧ (id, a) ∈ L ∧ a ≤ tt ∧ id ∉ (told tt L).take k ∧ (told tt L).take (k + 1) = (told tt L).take k ++ [id] := by
  have hnd := told_nodup (tt := tt) hL
  have hx : (told tt L)[k]? = some (told tt L)[k] := List.getElem?_eq_getElem hk
  obtain ⟨a, h1, h2⟩ := told_mem (List.getElem_mem hk)
  refine ⟨(told tt L)[k], a, by simp [List.getD, hx], h1, h2, fun hin => ?_, by rw [List.take_add_one, hx]; rfl⟩
  obtain ⟨i, hi, e⟩ := List.getElem_of_mem hin
  have hi2 : i < k := by have := hi; simp at this; omega
  rw [List.getElem_take] at e
  have := (List.getElem_inj hnd).1 e
  omega
end Go.Proofs.Ytmngmkbiibhmkaa
