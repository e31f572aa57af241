/- A line of the registry, as the document reads it. -/
import Derived.Test.YtjehbdekipmllaaGreatDoorLDLnM
namespace Go.Proofs.YtjehbdekipmllaaGreatDoor
open Go.RowKit

theorem ones_cnt (nm : List Nat) : ∀ (l : List Two) (a : List Nat × Nat), (l.foldl (oneStep nm) a).2 = a.2 + l.countP (fun q => decide (q.1 = nm))
  | [], a => by simp
  | q :: l, a => by
    rw [List.foldl_cons, ones_cnt nm l]
    unfold oneStep
    by_cases h : q.1 = nm
    · rw [if_pos h, List.countP_cons_of_pos (by simpa using h)]; simp; omega
    · rw [if_neg h, List.countP_cons_of_neg (by simpa using h)]
theorem ones_two (nm : List Nat) (l : List Two) : (ones nm l).2 = l.countP (fun q => decide (q.1 = nm)) := by
  have := ones_cnt nm l ([], 0)
  simpa [ones] using this
theorem ones_out {nm : List Nat} : ∀ {l : List Two} {a : List Nat × Nat}, nm ∉ l.map (·.1) → l.foldl (oneStep nm) a = a
  | [], _, _ => rfl
  | q :: l, a, h => by
    rw [List.foldl_cons]
    have h1 : q.1 ≠ nm := fun e => h (by simp [e])
    have h2 : nm ∉ l.map (·.1) := fun e => h (by simp at e ⊢; exact .inr e)
    rw [show oneStep nm a q = a by unfold oneStep; rw [if_neg h1]]
    exact ones_out h2
theorem twice {l : List Two} {k : Nat} {q : Two} (hk : l[k]? = some q) (hm : q.1 ∈ (l.take k).map (·.1)) : 1 < (ones q.1 l).2 := by
  rw [ones_two]
  have h1 : 1 ≤ (l.take k).countP (fun p => decide (p.1 = q.1)) := by
    obtain ⟨p, hp, e⟩ := List.mem_map.1 hm
    exact List.countP_pos_iff.2 ⟨p, hp, by simpa using e⟩
  have h2 : 1 ≤ (l.drop k).countP (fun p => decide (p.1 = q.1)) := by
    refine List.countP_pos_iff.2 ⟨q, ?_, by simp⟩
    have hlt := (List.getElem?_eq_some_iff.1 hk).1
    rw [List.drop_eq_getElem_cons hlt]
    have : l[k] = q := by rw [List.getElem?_eq_getElem hlt] at hk; exact Option.some.inj hk
    rw [this]; simp
  have := List.countP_append (p := fun p : Two => decide (p.1 = q.1)) (l₁ := l.take k) (l₂ := l.drop k)
  rw [List.take_append_drop] at this
  omega
def good (l : List Two) (q : Two) : Prop := isName (bstr q.1) = true ∧ ¬ 1 < (ones q.1 l).2 ∧ okF (bstr q.1) (ones q.1 l).1 = true
abbrev goods (l r : List Two) : Prop := ∀ q ∈ r, good l q
theorem ln_pre (l : List Two) (hb : ∀ q ∈ l, bytes2 q) : ∀ k, k ≤ l.length → (goods l (l.take k) → lnFold l (l.take k) = some (build6 (seen6 l ((l.take k).map (·.1))))) ∧ (¬ goods l (l.take k) → lnFold l (l.take k) = none)
  | 0, _ => ⟨fun _ => by rw [List.take_zero]; show some zeroCl = _; rw [List.map_nil, build_nil], fun h => absurd (fun q hq => by rw [List.take_zero] at hq; cases hq) h⟩
  | k + 1, hk => by
    obtain ⟨ih1, ih2⟩ := ln_pre l hb k (by omega)
    obtain ⟨q, hq⟩ : ∃ q, l[k]? = some q := ⟨_, List.getElem?_eq_getElem (by omega)⟩
    have ht : l.take (k + 1) = l.take k ++ [q] := take_two hq
    rw [ht, lnFold_snoc]
    by_cases hg : goods l (l.take k)
    · rw [ih1 hg]
      by_cases hm : q.1 ∈ (l.take k).map (·.1)
      · have h2 := twice hq hm
        exfalso
        obtain ⟨p, hp, e⟩ := List.mem_map.1 hm
        have := (hg p hp).2.1
        rw [e] at this
        exact this h2
      · have hst := ln_step l ((l.take k).map (·.1)) q (hb q (List.mem_of_getElem? hq)) hm
        rw [show (some (build6 (seen6 l ((l.take k).map (·.1))))).bind (fun c => lnStep l c q) = lnStep l (build6 (seen6 l ((l.take k).map (·.1)))) q from rfl, hst, List.map_append]
        refine ⟨fun h => ?_, fun h => ?_⟩
        · have hgq : good l q := h q (by simp)
          unfold good at hgq
          rw [if_pos hgq]; rfl
        · rw [if_neg]
          intro h2
          refine h (fun p hp => ?_)
          rcases List.mem_append.1 hp with hp | hp
          · exact hg p hp
          · rcases List.mem_singleton.1 hp with rfl
            exact h2
    · rw [ih2 hg]
      refine ⟨fun h => absurd (fun p hp => h p (by simp [hp])) hg, fun _ => rfl⟩
theorem seen_all (l : List Two) : seen6 l (l.map (·.1)) = fun nm => (ones (sbytes nm) l).1 := by
  funext nm
  unfold seen6
  by_cases h : sbytes nm ∈ l.map (·.1)
  · rw [if_pos h]
  · rw [if_neg h]
    unfold ones
    rw [ones_out h]
/-- The texts that a line has for its names. -/
def valD (l : List Two) (nm : ByteArray) : List Nat := (ones (sbytes nm) l).1
theorem ln_all (l : List Two) (hb : ∀ q ∈ l, bytes2 q) : (goods l l → lnFold l l = some (build6 (valD l))) ∧ (¬ goods l l → lnFold l l = none) := by
  have := ln_pre l hb l.length (Nat.le_refl _)
  rw [List.take_length, seen_all] at this
  exact this
/-- What the document asks of a line's pairs. -/
structure DLine (l : List Two) : Prop where
  names : ∀ q ∈ l, isName (bstr q.1) = true
  once : ∀ nm, isName nm = true → ¬ 1 < (ones (sbytes nm) l).2
  ping : valD l sPing = [] ∨ bstr (valD l sPing) = sYes
  scope : (scoOut (bstr (valD l sScope)).data.toList).2 = 0
theorem isName_all : isName sId = true ∧ isName sSecret = true ∧ isName sGrants = true ∧ isName sPing = true ∧ isName sUrl = true ∧ isName sScope = true := by decide
theorem okF_of {nm : ByteArray} {v : List Nat} (h : okF nm v = true) (h0 : v ≠ []) : (nm = sGrants → (grantsR (bstr v).data.toList 0).isSome = true) ∧ (nm = sPing → bstr v = sYes) ∧ (nm = sScope → (scoOut (bstr v).data.toList).2 = 0) := by
  unfold okF at h
  have : v.isEmpty = false := by cases v with | nil => exact absurd rfl h0 | cons => rfl
  rw [this] at h
  simp at h
  obtain ⟨⟨h1, h2⟩, h3⟩ := h
  refine ⟨fun e => ?_, fun e => ?_, fun e => ?_⟩
  · rcases h1 with h | h
    · exact absurd e h
    · simpa using h
  · rcases h2 with h | h
    · exact absurd e h
    · exact h
  · rcases h3 with h | h
    · exact absurd e h
    · exact h
theorem okF_mk {nm : ByteArray} {v : List Nat} (h1 : nm = sGrants → (grantsR (bstr v).data.toList 0).isSome = true) (h2 : nm = sPing → bstr v = sYes) (h3 : nm = sScope → (scoOut (bstr v).data.toList).2 = 0) : okF nm v = true := by
  unfold okF
  simp
  right
  refine ⟨⟨?_, ?_⟩, ?_⟩
  · by_cases e : nm = sGrants
    · right; simpa using h1 e
    · exact .inl e
  · by_cases e : nm = sPing
    · exact .inr (h2 e)
    · exact .inl e
  · by_cases e : nm = sScope
    · exact .inr (h3 e)
    · exact .inl e
theorem check_grants {c : Cl} (h : checkB c = true) : c.grants ≠ 0 := by
  unfold checkB at h
  simp only [Bool.and_eq_true, decide_eq_true_eq] at h
  intro e
  have := h.1.1.2.1
  omega
/-- The program's way and the document's. -/
theorem line_eq (l : List Two) (hb : ∀ q ∈ l, bytes2 q) (c : Cl) : ((lnFold l l).bind fun c => if checkB c = true then some c else none) = some c ↔ DLine l ∧ checkB (build6 (valD l)) = true ∧ c = build6 (valD l) := by
  obtain ⟨a1, a2⟩ := ln_all l hb
  constructor
  · intro h
    by_cases hg : goods l l
    · rw [a1 hg] at h
      have h' : (if checkB (build6 (valD l)) = true then some (build6 (valD l)) else none) = some c := h
      by_cases hc : checkB (build6 (valD l)) = true
      · rw [if_pos hc] at h'
        refine ⟨⟨fun q hq => (hg q hq).1, fun nm hn h1 => ?_, ?_, ?_⟩, hc, (Option.some.inj h').symm⟩
        · by_cases hm : sbytes nm ∈ l.map (·.1)
          · obtain ⟨p, hp, e⟩ := List.mem_map.1 hm
            have := (hg p hp).2.1
            rw [e] at this
            exact this h1
          · unfold ones at h1
            rw [ones_out hm] at h1
            exact absurd h1 (by simp)
        · by_cases h0 : valD l sPing = []
          · exact .inl h0
          · right
            have hm : sbytes sPing ∈ l.map (·.1) := Classical.byContradiction fun hm => h0 (by unfold valD ones; rw [ones_out hm])
            obtain ⟨p, hp, e⟩ := List.mem_map.1 hm
            have := (hg p hp).2.2
            rw [e, bstr_sbytes] at this
            exact (okF_of this h0).2.1 rfl
        · by_cases h0 : valD l sScope = []
          · rw [h0]; show (scoOut []).2 = 0; rw [sco_nil]
          · have hm : sbytes sScope ∈ l.map (·.1) := Classical.byContradiction fun hm => h0 (by unfold valD ones; rw [ones_out hm])
            obtain ⟨p, hp, e⟩ := List.mem_map.1 hm
            have := (hg p hp).2.2
            rw [e, bstr_sbytes] at this
            exact (okF_of this h0).2.2 rfl
      · rw [if_neg hc] at h'; cases h'
    · rw [a2 hg] at h; cases h
  · rintro ⟨hD, hc, rfl⟩
    have hg : goods l l := fun q hq => by
      have hn := hD.names q hq
      have hq2 : q.1 = sbytes (bstr q.1) := by rw [sbytes_bstr (hb q hq).1]
      refine ⟨hn, by rw [hq2]; exact hD.once _ hn, ?_⟩
      rw [show (ones q.1 l).1 = valD l (bstr q.1) by unfold valD; rw [← hq2]]
      by_cases h0 : valD l (bstr q.1) = []
      · rw [h0]; rfl
      · refine okF_mk (fun e => ?_) (fun e => ?_) (fun e => ?_)
        · cases hgr : grantsR (bstr (valD l (bstr q.1))).data.toList 0 with
          | some j => rfl
          | none =>
            exfalso
            refine check_grants hc ?_
            show ((grD (bstr (valD l sGrants)).data.toList : Nat) : Int) = 0
            rw [← e, grD_eq, hgr]; rfl
        · rw [e] at h0 ⊢
          exact hD.ping.resolve_left h0
        · rw [e]; exact hD.scope
    rw [a1 hg]
    show (if checkB (build6 (valD l)) = true then some (build6 (valD l)) else none) = _
    rw [if_pos hc]
end Go.Proofs.YtjehbdekipmllaaGreatDoor
