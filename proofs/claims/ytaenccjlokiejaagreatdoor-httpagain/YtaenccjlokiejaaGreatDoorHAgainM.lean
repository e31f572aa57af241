/- Messages: what is read may be printed, if it is not too long then. -/
import Derived.Test.YtaenccjlokiejaaGreatDoorHBackM
import Derived.Test.YtaenccjlokiejaaGreatDoorHField
import Derived.Test.YtaenccjlokiejaaGreatDoorHCut
namespace Go.Proofs.YtaenccjlokiejaaGreatDoor
open Go.RowKit

/-- A field as it is read: it may be printed, and its name is small. -/
def okF (f : Fl) : Prop := mayB f = true ∧ lowF f = f
theorem fieldT_le4 (f : Fl) : (fieldT f).length ≤ f.1.length + f.2.length + 4 := by
  unfold fieldT
  by_cases h : f.2 = []
  · simp [h, lows]
  · simp [h, lows]; omega
theorem fieldR_okF {a : U} {f : Fl} (h : fieldR a = some f) : nameB f.1 = true ∧ valueB f.2 = true ∧ lows f.1 = f.1 ∧ f.1.length + f.2.length + 1 ≤ a.length := by
  unfold fieldR at h
  split at h
  · cases h
  · rename_i hne
    split at h
    · rename_i hnv
      injection h with h
      subst h
      obtain ⟨h1, h2⟩ := hnv
      refine ⟨name_lows h1, h2, lows_lows (name_all h1).1, ?_⟩
      have hr := run_le (· != 58) a
      have ht := dropTrim_le (a.drop ((a.takeWhile (· != 58)).length + 1)) [32, 9]
      rw [List.length_drop] at ht
      show (lows _).length + (Lib.trimS _ [32, 9]).length + 1 ≤ _
      rw [lows_len]
      have hne' : (a.takeWhile (· != 58)).length ≠ a.length := hne
      omega
    · cases h
theorem rowsT_snocL (l : List Fl) (f : Fl) : (rowsT (l ++ [f])).length = (rowsT l).length + (fieldT f).length := by simp [rowsT]
theorem addR_okF {h h' : Hd} {a : U} (e : addR h a = .ok h') (hf : ∀ f ∈ h.fs, okF f) (h64 : h.fs.length ≤ 64) :
    (∀ f ∈ h'.fs, okF f) ∧ h'.fs.length ≤ 64 ∧ h.fs.length ≤ h'.fs.length ∧ (rowsT h'.fs).length + h.fs.length ≤ (rowsT h.fs).length + (a.length + 2) + h'.fs.length := by
  unfold addR at e
  split at e
  · cases e
  · rename_i f hfr
    obtain ⟨f1, f2, f3, f4⟩ := fieldR_okF hfr
    split at e
    · cases e
    · rename_i hte
      split at e
      · split at e
        · injection e with e
          subst e
          exact ⟨hf, h64, Nat.le_refl _, by simp only; omega⟩
        · cases e
      · rename_i hcl
        split at e
        · cases e
        · rename_i hn64
          injection e with e
          subst e
          have hfl := fieldT_le4 f
          refine ⟨fun g hg => ?_, by simp only [List.length_append, List.length_cons, List.length_nil]; omega, by simp, ?_⟩
          · rcases List.mem_append.1 hg with hg | hg
            · exact hf g hg
            · rw [List.mem_singleton.1 hg]
              refine ⟨?_, ?_⟩
              · unfold mayB
                rw [f1, f2, f3]
                simp [hte, hcl]
              · unfold lowF
                rw [f3]
          · simp only
            rw [rowsT_snocL, List.length_append]
            simp only [List.length_cons, List.length_nil]
            omega
theorem headR_okF : ∀ (n : Nat) (l : U) (k : Nat) (h h' : Hd) (r : U) (j : Nat), headR n l k h = .ok (h', r, j) → (∀ f ∈ h.fs, okF f) → h.fs.length ≤ 64 →
    (∀ f ∈ h'.fs, okF f) ∧ h'.fs.length ≤ 64 ∧ h.fs.length ≤ h'.fs.length ∧ (rowsT h'.fs).length + r.length + h.fs.length ≤ (rowsT h.fs).length + l.length + h'.fs.length
  | 0, _, _, _, _, _, _, e, _, _ => by cases e
  | n + 1, l, k, h, h', r, j, e, hf, h64 => by
    rw [headR] at e
    split at e
    · cases e
    · rename_i a r0 hc
      have hl : l.length = a.length + 2 + r0.length := by
        rw [(cutR_some hc).2]
        simp
        omega
      split at e
      · injection e with e
        injection e with e1 e2
        injection e2 with e2 e3
        subst e1 e2
        exact ⟨hf, h64, Nat.le_refl _, by omega⟩
      · split at e
        · cases e
        · rename_i h1 ha
          obtain ⟨a1, a2, a3, a4⟩ := addR_okF ha hf h64
          obtain ⟨b1, b2, b3, b4⟩ := headR_okF n r0 _ h1 h' r j e a1 a2
          exact ⟨b1, b2, by omega, by omega⟩
theorem headR_lenF : ∀ {n : Nat} {l : U} {k : Nat} {h h' : Hd} {r : U} {j : Nat}, headR n l k h = .ok (h', r, j) → r.length ≤ l.length
  | 0, _, _, _, _, _, _, e => by cases e
  | n + 1, l, k, h, h', r, j, e => by
    rw [headR] at e
    split at e
    · cases e
    · rename_i a r0 hc
      have hl : l.length = a.length + 2 + r0.length := by
        rw [(cutR_some hc).2]
        simp
        omega
      split at e
      · injection e with e
        injection e with e1 e2
        injection e2 with e2 e3
        subst e2
        omega
      · split at e
        · cases e
        · have := headR_lenF e
          omega
theorem restR_okF {raw : U} {k : Nat} {fs : List Fl} {b : U} (e : restR raw k = .ok (fs, b)) : (∀ f ∈ fs, okF f) ∧ fs.length ≤ 64 ∧ (rowsT fs).length + b.length ≤ (raw.length - k) + 64 ∧ b.length ≤ raw.length := by
  unfold restR at e
  split at e
  · cases e
  · rename_i h r j hh
    obtain ⟨a1, a2, a3, a4⟩ := headR_okF _ _ _ _ _ _ _ hh (fun f hf => by cases hf) (by simp)
    split at e
    · injection e with e
      injection e with e1 e2
      subst e1 e2
      rw [List.length_drop] at a4
      have z : (rowsT (⟨[], none⟩ : Hd).fs).length = 0 := rfl
      have z2 : (⟨[], none⟩ : Hd).fs.length = 0 := rfl
      have hlen := headR_lenF hh
      rw [List.length_drop] at hlen
      exact ⟨a1, a2, by omega, by omega⟩
    · cases e
theorem bodyT_len {b : U} (h : b.length ≤ 32768) : (bodyT b).length ≤ 23 := by
  unfold bodyT
  split
  · simp
  · have h1 := fieldT_le4 (clN, Lib.itoa (b.length : Int))
    have h2 := (itoa_num h).2.2.2
    have h3 : clN.length = 14 := rfl
    simp only at h1
    omega
theorem low_all {fs : List Fl} (h : ∀ f ∈ fs, okF f) : fs.map lowF = fs := by
  rw [List.map_congr_left (g := id) (fun f hf => (h f hf).2), List.map_id]
theorem okF_len {fs : List Fl} (h : ∀ f ∈ fs, okF f) : ∀ f ∈ fs, f.1.length ≤ 64 ∧ f.2.length ≤ 4096 := fun f hf => by
  obtain ⟨h1, h2, _, _⟩ := mayB_facts (h f hf).1
  exact ⟨(name_all h1).2.2, (val_all h2).2.2⟩
theorem writtenR_again {first : U} {fs : List Fl} {b : U} {n : Nat} (h : ∀ f ∈ fs, okF f) (h64 : fs.length ≤ 64) (hb : b.length ≤ 32768) (hl : first.length + 2 + (rowsT fs).length + b.length ≤ n + 64) :
    (∃ s, writtenR first fs b = .ok s) ∨ (writtenR first fs b = .error 1 ∧ 30000 < n) := by
  unfold writtenR
  rw [if_neg (by omega), if_pos (List.all_eq_true.2 fun f hf => (h f hf).1)]
  by_cases hq : 32768 < (headT first fs b).length + b.length
  · rw [if_pos hq]
    refine .inr ⟨rfl, ?_⟩
    have h1 := bodyT_len hb
    have e : (headT first fs b).length = first.length + 2 + (rowsT fs).length + (bodyT b).length + 2 := by simp [headT, rowsT]; omega
    omega
  · rw [if_neg hq]
    exact .inl ⟨_, rfl⟩
theorem prefix_lenF {a b : U} (h : a.isPrefixOf b = true) : a.length ≤ b.length := (List.isPrefixOf_iff_prefix.1 h).length_le
theorem reqLineR_ok {raw m t : U} {k : Nat} (e : reqLineR raw = .ok (m, t, k)) : methodB m = true ∧ targetB t = true ∧ k = m.length + t.length + 12 ∧ k ≤ raw.length := by
  unfold reqLineR at e
  split at e
  · rename_i h1
    split at e
    · rename_i h2
      split at e
      · rename_i h3
        injection e with e
        injection e with e1 e2
        injection e2 with e2 e3
        subst e1 e2 e3
        have hp := prefix_lenF h3
        rw [List.length_drop] at hp
        have h10 : verL.length = 10 := rfl
        exact ⟨h1.2, h2.2, by omega, by omega⟩
      · cases e
    · cases e
  · cases e
theorem method_le16 {l : U} (h : methodB l = true) : l.length ≤ 16 := by
  unfold methodB at h
  simp only [Bool.and_eq_true, decide_eq_true_eq] at h
  exact h.1.2
theorem target_le1024 {l : U} (h : targetB l = true) : l.length ≤ 1024 := by
  unfold targetB at h
  simp only [Bool.and_eq_true, decide_eq_true_eq] at h
  exact h.1.1
/-- A request that was read. -/
structure RqOk (raw : U) (q : Rq) : Prop where
  low : q.fs.map lowF = q.fs
  n64 : q.fs.length ≤ 64
  m16 : q.m.length ≤ 16
  t1024 : q.t.length ≤ 1024
  b32 : q.b.length ≤ 32768
  fz : ∀ f ∈ q.fs, f.1.length ≤ 64 ∧ f.2.length ≤ 4096
  again : (∃ s, printReqR q = .ok s) ∨ (printReqR q = .error 1 ∧ 30000 < raw.length)
theorem req_again {raw : U} {q : Rq} (h : parseReqR raw = .ok q) : RqOk raw q := by
  unfold parseReqR at h
  split at h
  · cases h
  · split at h
    · cases h
    · rename_i m t k hl
      split at h
      · cases h
      · rename_i fs b hr
        injection h with h
        subst h
        obtain ⟨l1, l2, l3, l4⟩ := reqLineR_ok hl
        obtain ⟨r1, r2, r3, r4⟩ := restR_okF hr
        have hb : b.length ≤ 32768 := by omega
        refine ⟨low_all r1, r2, method_le16 l1, target_le1024 l2, hb, okF_len r1, ?_⟩
        unfold printReqR
        simp only
        rw [if_pos l1, if_pos l2]
        refine writtenR_again r1 r2 hb ?_
        have h8 : ver8.length = 8 := rfl
        simp only [List.length_append, List.length_cons, List.length_nil, h8]
        omega
theorem statLineR_ok {raw : U} {n k : Nat} (e : statLineR raw = .ok (n, k)) : 100 ≤ n ∧ n ≤ 599 ∧ k = 15 + (reasonR (n : Int)).length ∧ k ≤ raw.length := by
  unfold statLineR at e
  split at e
  · split at e
    · rename_i h
      obtain ⟨h1, h2, h3, h4⟩ := h
      injection e with e
      injection e with e1 e2
      subst e1
      have hp := prefix_lenF h4
      rw [List.length_drop] at hp
      simp only [List.length_append, List.length_cons, List.length_nil] at hp e2
      exact ⟨h2, h3, by omega, by omega⟩
    · cases e
  · cases e
/-- A response that was read. -/
structure RsOk (raw : U) (q : Rs) : Prop where
  low : q.fs.map lowF = q.fs
  n64 : q.fs.length ≤ 64
  n100 : 100 ≤ q.n
  n599 : q.n ≤ 599
  b32 : q.b.length ≤ 32768
  fz : ∀ f ∈ q.fs, f.1.length ≤ 64 ∧ f.2.length ≤ 4096
  again : (∃ s, printRespR (q.n : Int) q.fs q.b = .ok s) ∨ (printRespR (q.n : Int) q.fs q.b = .error 1 ∧ 30000 < raw.length)
theorem resp_again {raw : U} {q : Rs} (h : parseRespR raw = .ok q) : RsOk raw q := by
  unfold parseRespR at h
  split at h
  · cases h
  · split at h
    · cases h
    · rename_i n k hl
      split at h
      · cases h
      · rename_i fs b hr
        injection h with h
        subst h
        obtain ⟨l1, l2, l3, l4⟩ := statLineR_ok hl
        obtain ⟨r1, r2, r3, r4⟩ := restR_okF hr
        have hb : b.length ≤ 32768 := by omega
        refine ⟨low_all r1, r2, l1, l2, hb, okF_len r1, ?_⟩
        unfold printRespR
        simp only
        rw [if_pos (by simp [statusB]; omega)]
        refine writtenR_again r1 r2 hb ?_
        have h8 : ver8.length = 8 := rfl
        have h3 := (itoa_status l1 l2).1
        simp only [statusT, List.length_append, List.length_cons, List.length_nil, h8, h3]
        omega
end Go.Proofs.YtaenccjlokiejaaGreatDoor
