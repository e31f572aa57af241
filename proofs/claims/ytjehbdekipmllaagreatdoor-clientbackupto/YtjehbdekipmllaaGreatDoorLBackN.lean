/- A registry's text that is printed reads back; what is read may be printed: the mathematics. -/
import Derived.Test.YtjehbdekipmllaaGreatDoorLBackM
import Derived.Test.YtjehbdekipmllaaGreatDoorLRPrt
namespace Go.Proofs.YtjehbdekipmllaaGreatDoor
open Go.RowKit

theorem seg_no {q : Two} (h : bytes2 q) : ∀ x ∈ seg q, x ≠ 10 := by
  intro x hx
  unfold seg at hx
  rcases List.mem_append.1 hx with hx | hx
  · have := esc_byte h.1 x hx; unfold escByte at this; omega
  · rcases List.mem_cons.1 hx with rfl | hx
    · decide
    · have := esc_byte h.2 x hx; unfold escByte at this; omega
theorem prt_no : ∀ (l : List Two), (∀ q ∈ l, bytes2 q) → ∀ x ∈ prt l, x ≠ 10
  | [], _ => by simp [prt]
  | [q], h => seg_no (h q (by simp))
  | q :: r :: l, h => by
    intro x hx
    have e : prt (q :: r :: l) = seg q ++ 38 :: prt (r :: l) := rfl
    rw [e] at hx
    rcases List.mem_append.1 hx with hx | hx
    · exact seg_no (h q (by simp)) x hx
    · rcases List.mem_cons.1 hx with rfl | hx
      · decide
      · exact prt_no (r :: l) (fun p hp => h p (by simp [hp])) x hx
/-- Bytes as they lie in a text. -/
def uOf' (xs : List Nat) : U := xs.map UInt8.ofNat
theorem uOf_app (x y : List Nat) : uOf' (x ++ y) = uOf' x ++ uOf' y := by simp [uOf']
theorem data_bstr (xs : List Nat) : (bstr xs).data.toList = uOf' xs := rfl
theorem text_bstr (xs : List Nat) : (⟨(uOf' xs).toArray⟩ : ByteArray) = bstr xs := rfl
theorem uOf_no {xs : List Nat} (h : ∀ x ∈ xs, x < 256 ∧ x ≠ 10) : ∀ x ∈ uOf' xs, x ≠ 10 := by
  intro x hx
  obtain ⟨y, hy, rfl⟩ := List.mem_map.1 hx
  intro e
  have := congrArg UInt8.toNat e
  have h2 := h y hy
  rw [UInt8.toNat_ofNat'] at this
  have h3 : y % 2 ^ 8 = y := Nat.mod_eq_of_lt h2.1
  rw [h3] at this
  exact h2.2 this
theorem cut_text : ∀ {L : List Cl}, (∀ c ∈ L, checkB c = true) → cutLn (uOf' (textR L)) = L.map (fun c => uOf' (prt (lnPairs c))) ++ [[]]
  | [], _ => rfl
  | c :: L, h => by
    have ih := cut_text (L := L) (fun d hd => h d (by simp [hd]))
    have hc := clok (h c (by simp))
    have e : textR (c :: L) = prt (lnPairs c) ++ 10 :: textR L := by
      show lineT c ++ textR L = _
      unfold lineT
      simp
    rw [e, uOf_app]
    show cutLn (uOf' (prt (lnPairs c)) ++ 10 :: uOf' (textR L)) = _
    rw [cutLn_at (uOf_no (fun x hx => ⟨prt_okk hc x hx, prt_no _ (fun q hq => (lnPre_mem hc 6 (by omega) q hq).1) x hx⟩)), ih]
    rfl
/-- A printed line says something. -/
theorem line_says {c : Cl} (h : checkB c = true) : nothingB (bstr (prt (lnPairs c))) = false := by
  have hid : c.id.size ≠ 0 := by
    unfold checkB idB at h
    simp only [Bool.and_eq_true, decide_eq_true_eq] at h
    omega
  have e6 : ∃ r, lnPairs c = (sbytes sId, sbytes c.id) :: r := by
    have e : lnPairs c = lpAt c 0 ++ lpAt c 1 ++ lpAt c 2 ++ lpAt c 3 ++ lpAt c 4 ++ lpAt c 5 := rfl
    have h0 : lpAt c 0 = [(sbytes sId, sbytes c.id)] := by
      unfold lpAt
      exact if_neg hid
    refine ⟨lpAt c 1 ++ lpAt c 2 ++ lpAt c 3 ++ lpAt c 4 ++ lpAt c 5, ?_⟩
    rw [e, h0]
    simp
  obtain ⟨r, hr⟩ := e6
  have e3 : ∃ t, prt (lnPairs c) = 105 :: t := by
    rw [hr]
    have hs : ∃ t, seg (sbytes sId, sbytes c.id) = 105 :: t := ⟨_, rfl⟩
    obtain ⟨t, ht⟩ := hs
    cases r with
    | nil => exact ⟨t, ht⟩
    | cons p r =>
      refine ⟨t ++ 38 :: prt (p :: r), ?_⟩
      show seg _ ++ 38 :: prt (p :: r) = _
      rw [ht]; rfl
  obtain ⟨t, ht⟩ := e3
  rw [ht]
  rfl
theorem next_ok {a : List Cl} {c : Cl} (h : checkB c = true) (hd : c.id ∉ a.map Cl.id) (hl : a.length ≠ 256) : nextErr a (bstr (prt (lnPairs c))) = 0 ∧ clOf (bstr (prt (lnPairs c))) = c := by
  have hb : sbytes (bstr (prt (lnPairs c))) = prt (lnPairs c) := sbytes_bstr (prt_okk (clok h))
  unfold nextErr clOf
  rw [hb, line_back h]
  refine ⟨?_, rfl⟩
  show (if (posOf a c.id).isSome = true then 8 else if a.length = 256 then 32 else 0) = 0
  rw [if_neg (fun e => hd ((pos_some _ _).1 e)), if_neg hl]
theorem run_text : ∀ (L a : List Cl) (k : Nat), (∀ c ∈ L, checkB c = true) → ((a ++ L).map Cl.id).Nodup → (a ++ L).length ≤ 256 → pRun (L.map (fun c => uOf' (prt (lnPairs c))) ++ [[]]) k a = (a ++ L, 0, 0)
  | [], a, k, _, _, _ => by
    rw [List.append_nil]
    rfl
  | c :: L, a, k, h, hd, hl => by
    have hc := h c (by simp)
    have hnot : c.id ∉ a.map Cl.id := fun hm => by
      rw [List.map_append, List.map_cons] at hd
      exact (List.nodup_append.1 hd).2.2 c.id hm c.id (by simp) rfl
    have hlen : a.length ≠ 256 := by simp at hl; omega
    obtain ⟨n1, n2⟩ := next_ok hc hnot hlen
    have e : (c :: L).map (fun c => uOf' (prt (lnPairs c))) ++ [[]] = uOf' (prt (lnPairs c)) :: (L.map (fun c => uOf' (prt (lnPairs c))) ++ [[]]) := rfl
    rw [e]
    unfold pRun
    rw [text_bstr, line_says hc, if_neg (by decide), n1, if_pos rfl, n2]
    have := run_text L (a ++ [c]) (k + 1) (fun d hd => h d (by simp [hd])) (by rw [List.append_assoc]; exact hd) (by rw [List.append_assoc]; exact hl)
    rw [this, List.append_assoc]
    rfl
/-- What is printed reads back. -/
theorem print_back {L : List Cl} (hf : faultR L = 0) (hl : ¬ 65536 < (textR L).length) : parR (bstr (textR L)).data.toList = (L, 0, 0) := by
  obtain ⟨h1, h2, h3⟩ := fault_none hf
  unfold parR
  rw [data_bstr, if_neg (by unfold uOf'; rw [List.length_map]; exact hl), cut_text h1]
  exact run_text L [] 0 h1 h2 h3
theorem run_good : ∀ (ls : List U) (k : Nat) (a : List Cl), (∀ c ∈ a, checkB c = true) → (a.map Cl.id).Nodup → a.length ≤ 256 → ((pRun ls k a).2.1 = 0 → (∀ c ∈ (pRun ls k a).1, checkB c = true) ∧ ((pRun ls k a).1.map Cl.id).Nodup ∧ (pRun ls k a).1.length ≤ 256) ∧ ((pRun ls k a).2.1 ≠ 0 → (pRun ls k a).1 = [])
  | [], k, a, h1, h2, h3 => ⟨fun _ => ⟨h1, h2, h3⟩, fun h => absurd rfl h⟩
  | u :: r, k, a, h1, h2, h3 => by
    unfold pRun
    split
    · exact run_good r (k + 1) a h1 h2 h3
    · split
      · rename_i h0
        have hne := nextErr_zero h0
        unfold nextErr nextE at h0
        cases hL : lineR (sbytes ⟨u.toArray⟩) with
        | none => rw [hL] at h0; cases h0
        | some c =>
          rw [hL] at h0
          have hcl : clOf ⟨u.toArray⟩ = c := by unfold clOf; rw [hL]; rfl
          have hck : checkB c = true := by
            unfold lineR at hL
            split at hL
            · cases hF : lnFold (parOut (sbytes ⟨u.toArray⟩)).1 (parOut (sbytes ⟨u.toArray⟩)).1 with
              | none => rw [hF] at hL; cases hL
              | some d =>
                rw [hF] at hL
                have hL : (if checkB d = true then some d else none) = some c := hL
                split at hL
                · rename_i hd
                  cases hL; exact hd
                · cases hL
            · cases hL
          have hnot : c.id ∉ a.map Cl.id := fun hm => by
            have h0 : (if (posOf a c.id).isSome = true then 8 else if a.length = 256 then 32 else 0) = 0 := h0
            rw [if_pos ((pos_some _ _).2 hm)] at h0
            cases h0
          rw [hcl]
          refine run_good r (k + 1) (a ++ [c]) (fun d hd => ?_) ?_ (by simp; omega)
          · rcases List.mem_append.1 hd with hd | hd
            · exact h1 d hd
            · rw [List.mem_singleton.1 hd]; exact hck
          · rw [List.map_append]
            refine List.nodup_append.2 ⟨h2, by simp, fun x hx y hy e => ?_⟩
            simp at hy
            subst hy
            exact hnot (by rw [← e]; exact hx)
      · rename_i h0
        exact ⟨fun h => absurd h h0, fun _ => rfl⟩
/-- What is read is a registry; where nothing is read, there is no client. -/
theorem par_good (t : U) : ((parR t).2.1 = 0 → faultR (parR t).1 = 0 ∧ (∀ c ∈ (parR t).1, checkB c = true) ∧ (parR t).1.length ≤ 256) ∧ ((parR t).2.1 ≠ 0 → (parR t).1 = []) := by
  unfold parR
  split
  · exact ⟨fun h => absurd h (by decide), fun _ => rfl⟩
  · obtain ⟨h1, h2⟩ := run_good (cutLn t) 0 [] (by simp) (by simp) (by simp)
    refine ⟨fun h => ?_, h2⟩
    obtain ⟨a1, a2, a3⟩ := h1 h
    refine ⟨?_, a1, a3⟩
    unfold faultR
    rw [if_pos (List.all_eq_true.2 a1), if_neg, if_neg (by omega)]
    unfold twB
    simp [a2]
theorem ok_bd {c : Cl} (h : checkB c = true) : ClBd c := by
  have hk := clok h
  exact ⟨by have := hk.id; omega, by have := hk.secret; omega, by have := hk.url; omega, by have := hk.few; omega, by have := hk.sco; omega⟩
theorem print_ok {L : List Cl} (hf : faultR L = 0) : ((printR L).2 = 0 ∧ (printR L).1 = textR L ∧ ¬ 65536 < (textR L).length) ∨ printR L = ([], 1) := by
  unfold printR
  rw [if_neg (fun h => h hf)]
  split
  · exact .inr rfl
  · rename_i h; exact .inl ⟨rfl, rfl, h⟩
theorem print_two (L : List Cl) : ((printR L).2 = 0 ∧ parR (bstr (printR L).1).data.toList = (L, 0, 0)) ∨ ((printR L).2 ≠ 0 ∧ (printR L).1 = []) := by
  by_cases hf : faultR L = 0
  · rcases print_ok hf with ⟨h1, h2, h3⟩ | h
    · left
      exact ⟨h1, by rw [h2]; exact print_back hf h3⟩
    · right
      rw [h]; exact ⟨by decide, rfl⟩
  · right
    unfold printR
    rw [if_pos hf]
    exact ⟨hf, rfl⟩
end Go.Proofs.YtjehbdekipmllaaGreatDoor
