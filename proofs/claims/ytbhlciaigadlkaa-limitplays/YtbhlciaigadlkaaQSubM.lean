/- The document's Subjects, the mathematics: names laid in by their order. -/
import Derived.Test.YtbhlciaigadlkaaQRefB
namespace Go.Proofs.Ytbhlciaigadlkaa

def insN (x : Nm) (s : List Nm) : List Nm := s.takeWhile (fun y => bytesBefore y x) ++ x :: s.dropWhile (fun y => bytesBefore y x)
def subN (M : List Nm) : List Nm := M.foldl (fun s x => insN x s) []
def Up (s : List Nm) : Prop := s.Pairwise fun a b => bytesBefore a b = true
theorem insN_perm (x : Nm) (s : List Nm) : (insN x s).Perm (x :: s) := by
  unfold insN
  refine List.perm_middle.trans ?_
  rw [List.takeWhile_append_dropWhile]
theorem mem_tw {f : Nm → Bool} : ∀ {s : List Nm} {a : Nm}, a ∈ s.takeWhile f → f a = true
  | [], _, h => by cases h
  | y :: r, a, h => by
    rw [List.takeWhile_cons] at h
    split at h
    · rename_i hy
      rcases List.mem_cons.1 h with rfl | h
      · exact hy
      · exact mem_tw h
    · cases h
/-- The place where a name is laid in. -/
theorem tw_split {f : Nm → Bool} : ∀ {s : List Nm} {k : Nat}, (∀ j y, j < k → s[j]? = some y → f y = true) → k ≤ s.length → (∀ y, s[k]? = some y → f y = false) → s.takeWhile f = s.take k ∧ s.dropWhile f = s.drop k
  | [], k, _, hk, _ => by
    have : k = 0 := by simpa using hk
    subst this
    exact ⟨rfl, rfl⟩
  | y :: r, 0, _, _, h => by
    have := h y rfl
    rw [List.takeWhile_cons, List.dropWhile_cons, this]
    exact ⟨rfl, rfl⟩
  | y :: r, k + 1, h1, hk, h2 => by
    have hy := h1 0 y (by omega) rfl
    have ih := tw_split (f := f) (s := r) (k := k) (fun j z hj hz => h1 (j + 1) z (by omega) (by rw [List.getElem?_cons_succ]; exact hz)) (by simpa using hk) (fun z hz => h2 z (by rw [List.getElem?_cons_succ]; exact hz))
    rw [List.takeWhile_cons, List.dropWhile_cons, hy, ih.1, ih.2]
    exact ⟨rfl, rfl⟩
theorem insN_at {x : Nm} {s : List Nm} {k : Nat} (h1 : ∀ j y, j < k → s[j]? = some y → bytesBefore y x = true) (hk : k ≤ s.length) (h2 : ∀ y, s[k]? = some y → bytesBefore y x = false) : insN x s = (s.take k ++ [x]) ++ s.drop k := by
  obtain ⟨e1, e2⟩ := tw_split h1 hk h2
  unfold insN
  rw [e1, e2, List.append_assoc]
  rfl
theorem insN_up {x : Nm} {s : List Nm} (h : Up s) (hn : x ∉ s) : Up (insN x s) := by
  unfold insN Up
  rw [List.pairwise_append]
  have htw : ∀ a ∈ s.takeWhile (fun y => bytesBefore y x), bytesBefore a x = true := fun a ha => mem_tw (f := fun y => bytesBefore y x) ha
  have hs : s.takeWhile (fun y => bytesBefore y x) ++ s.dropWhile (fun y => bytesBefore y x) = s := List.takeWhile_append_dropWhile
  have hp : Up (s.takeWhile (fun y => bytesBefore y x) ++ s.dropWhile (fun y => bytesBefore y x)) := by rw [hs]; exact h
  unfold Up at hp
  rw [List.pairwise_append] at hp
  have hdw : ∀ b ∈ s.dropWhile (fun y => bytesBefore y x), bytesBefore x b = true := by
    intro b hb
    cases hd : s.dropWhile (fun y => bytesBefore y x) with
    | nil => rw [hd] at hb; cases hb
    | cons y r =>
      have hy : bytesBefore y x = false := by
        have h1 := List.head?_dropWhile_not (fun y => bytesBefore y x) s
        rw [hd] at h1
        simpa using h1
      have hym : y ∈ s := by rw [← hs, hd]; simp
      have hxy : bytesBefore x y = true := by
        rcases WideAt.bytes_total x y (fun e => hn (by rw [e]; exact hym)) with h2 | h2
        · exact h2
        · rw [hy] at h2; cases h2
      rw [hd] at hb
      rcases List.mem_cons.1 hb with rfl | hb
      · exact hxy
      · have hp2 := hp.2.1
        rw [hd, List.pairwise_cons] at hp2
        exact WideShapes.bytes_trans _ _ _ hxy (hp2.1 b hb)
  refine ⟨hp.1, List.pairwise_cons.2 ⟨hdw, hp.2.1⟩, fun a ha b hb => ?_⟩
  rcases List.mem_cons.1 hb with rfl | hb
  · exact htw a ha
  · exact hp.2.2 a ha b hb
theorem subN_snoc (M : List Nm) (x : Nm) : subN (M ++ [x]) = insN x (subN M) := by unfold subN; rw [List.foldl_append]; rfl
theorem subN_ok : ∀ (k : Nat) (M : List Nm), M.length = k → M.Nodup → Up (subN M) ∧ (subN M).Perm M
  | 0, M, hk, _ => by
    rw [List.length_eq_zero_iff.1 hk]
    exact ⟨List.Pairwise.nil, List.Perm.refl _⟩
  | k + 1, M, hk, hn => by
    have hne : M ≠ [] := fun e => by rw [e] at hk; cases hk
    have e := List.dropLast_concat_getLast hne
    generalize M.getLast hne = x at e
    generalize M.dropLast = R at e
    subst e
    rw [List.length_append] at hk
    have hk' : R.length = k := by simpa using hk
    rw [List.nodup_append] at hn
    obtain ⟨h1, h2⟩ := subN_ok k R hk' hn.1
    have hx : x ∉ subN R := fun hm => by
      have := h2.mem_iff.1 hm
      exact hn.2.2 x this x (by simp) rfl
    rw [subN_snoc]
    exact ⟨insN_up h1 hx, (insN_perm x (subN R)).trans ((List.Perm.cons x h2).trans (List.perm_append_singleton x R).symm)⟩
theorem subN_tab {S : LS} (hS : Ok S) {L : Tab} (h : RI S L) : subN ((L.filter (alive S.win S.clock)).map (·.1)) = S.tab.map (·.1) := by
  have hp : ((L.filter (alive S.win S.clock)).map (·.1)).Perm (S.tab.map (·.1)) := h.perm.map _
  have hn : ((L.filter (alive S.win S.clock)).map (·.1)).Nodup := hp.nodup_iff.2 hS.rising.nodup
  obtain ⟨h1, h2⟩ := subN_ok _ _ rfl hn
  have h3 := sorted_keys hS.rising (h2.trans hp)
  rw [← h3]
  refine (List.mergeSort_of_pairwise ?_).symm
  exact h1.imp fun hb => by simpa using before_le _ _ hb
end Go.Proofs.Ytbhlciaigadlkaa
