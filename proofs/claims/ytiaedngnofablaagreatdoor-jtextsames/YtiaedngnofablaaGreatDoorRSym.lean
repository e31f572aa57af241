/- Saying the same goes both ways between values. -/
import Derived.Test.YtiaedngnofablaaGreatDoorRSame
namespace Go.Proofs.YtiaedngnofablaaGreatDoor

theorem holes : ∀ (l1 l2 : List By), l1.Nodup → (∀ x ∈ l1, x ∈ l2) → l1.length ≤ l2.length
  | [], _, _, _ => Nat.zero_le _
  | a :: l1, l2, hd, hs => by
    have hd2 := List.nodup_cons.1 hd
    have ha : a ∈ l2 := hs a (List.mem_cons_self ..)
    have h := holes l1 (l2.erase a) hd2.2 (fun x hx => (List.mem_erase_of_ne (fun e => hd2.1 (by rw [← e]; exact hx))).2 (hs x (List.mem_cons_of_mem _ hx)))
    rw [List.length_erase_of_mem ha] at h
    have : 0 < l2.length := List.length_pos_of_mem ha
    rw [List.length_cons]
    omega
theorem all_back {l1 l2 : List By} (hd : l1.Nodup) (hs : ∀ x ∈ l1, x ∈ l2) (hl : l1.length = l2.length) : ∀ y ∈ l2, y ∈ l1 := fun y hy => by
  by_cases h : y ∈ l1
  · exact h
  · exfalso
    have := holes (y :: l1) l2 (List.nodup_cons.2 ⟨h, hd⟩) (fun x hx => by
      rcases List.mem_cons.1 hx with e | e
      · rw [e]; exact hy
      · exact hs x e)
    rw [List.length_cons] at this
    omega
theorem names_nodup {ns : List By} (h : namesOk ns = true) : ns.Nodup := by
  unfold namesOk at h
  rw [Bool.and_eq_true, decide_eq_true_iff] at h
  exact h.2
/-- Saying the same, turned. -/
def SymOk (j1 : J) : Prop := ∀ (j2 : J) (d : Int), VOk j1 d → VOk j2 d → Says j1 j2 → Says j2 j1
theorem sym_step (k : Int) (t : By) (ns : List By) (is : List J) (ih : ∀ j ∈ is, SymOk j) : SymOk (.mk k t ns is) := by
  rintro ⟨k', t', ns', is'⟩ d ho ho' h
  rw [VOk_mk, voks_iff] at ho ho'
  obtain ⟨c1, c2, c3⟩ := ho
  obtain ⟨d1, d2, d3⟩ := ho'
  rw [says_meets] at h ⊢
  obtain ⟨rfl, rfl, hl, hm⟩ := h
  refine ⟨rfl, rfl, hl.symm, fun i j' hj' => ?_⟩
  obtain ⟨hi', ej'⟩ := List.getElem?_eq_some_iff.1 hj'
  by_cases h6 : k = 6
  · subst h6
    have hn := sh_object c1
    have hn' := sh_object d1
    have hall : ∀ x ∈ ns, x ∈ ns' := fun x hx => by
      obtain ⟨m, hm2, e⟩ := List.getElem_of_mem hx
      have hmi : m < is.length := by omega
      have hg := hm m is[m] (List.getElem?_eq_getElem hmi)
      unfold Meets at hg
      rw [if_pos rfl] at hg
      obtain ⟨m2, h1, _⟩ := hg
      have e2 : ns.getD m [] = x := by simp [List.getD, hm2, e]
      rw [e2] at h1
      exact List.mem_of_getElem? h1
    have hback := all_back (names_nodup c2) hall (by omega)
    have hin' : i < ns'.length := by omega
    have hmem := hback ns'[i] (List.getElem_mem hin')
    obtain ⟨m, hm2, e⟩ := List.getElem_of_mem hmem
    have hmi : m < is.length := by omega
    have hg := hm m is[m] (List.getElem?_eq_getElem hmi)
    have e2 : ns.getD m [] = ns'[i] := by simp [List.getD, hm2, e]
    rw [meets_found e2 (List.getElem?_eq_getElem hin') (names_nodup d2) hi'] at hg
    have hs := ih is[m] (List.getElem_mem hmi) is'[i] (d + 1) (c3 _ (List.getElem_mem hmi)) (d3 _ (List.getElem_mem hi')) hg
    unfold Meets
    rw [if_pos rfl]
    refine ⟨m, ?_, ?_⟩
    · rw [List.getElem?_eq_getElem hm2, e]
      simp [List.getD, hin']
    · have e3 : is.getD m J.zero = is[m] := by simp [List.getD, hmi]
      rw [e3, ← ej']
      exact hs
  · have hi : i < is.length := by omega
    have hg := hm i is[i] (List.getElem?_eq_getElem hi)
    rw [meets_list h6 hi'] at hg
    rw [meets_list h6 hi, ← ej']
    exact ih is[i] (List.getElem_mem hi) is'[i] (d + 1) (c3 _ (List.getElem_mem hi)) (d3 _ (List.getElem_mem hi')) hg
theorem says_sym (j : J) : SymOk j := (J.both (M1 := SymOk) (M2 := fun js => ∀ j ∈ js, SymOk j) sym_step (fun j h => by cases h) (fun j js h1 h2 j' h => by
    rcases List.mem_cons.1 h with e | e
    · rw [e]; exact h1
    · exact h2 j' e)).1 j
/-- What both Same answer, whichever way round. -/
theorem same_turned (j1 j2 : J) : (VOk j2 0 ∧ VOk j1 0 ∧ Says j2 j1) ↔ (VOk j1 0 ∧ VOk j2 0 ∧ Says j1 j2) :=
  ⟨fun ⟨a, b, c⟩ => ⟨b, a, says_sym j2 j1 0 a b c⟩, fun ⟨a, b, c⟩ => ⟨b, a, says_sym j1 j2 0 a b c⟩⟩
end Go.Proofs.YtiaedngnofablaaGreatDoor
