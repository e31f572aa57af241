/- What is printed reads back: the mathematics. -/
import Derived.Test.YtjehbdekipmllaaGreatDoorLPrP
import Derived.Test.YtjehbdekipmllaaGreatDoorLDLnF
import Derived.Test.YtjehbdekipmllaaGreatDoorLDParM
namespace Go.Proofs.YtjehbdekipmllaaGreatDoor
open Go.RowKit

theorem val_256 {c : Cl} (h : checkB c = true) (nm : ByteArray) : (valOf c nm).size ≤ 256 := by
  have hk := clok h
  have h4 : (joinS c.scopes).length ≤ 256 := by
    unfold checkB scopesB at h
    simp only [Bool.and_eq_true, decide_eq_true_eq] at h
    have h10 := h.2.1.2
    unfold scoOut at h10
    split at h10
    · cases h10
    · omega
  have h1 := hk.id
  have h2 := hk.secret
  have h3 := hk.url
  unfold valOf
  split
  · omega
  · split
    · omega
    · split
      · rcases hk.gr with e | e | e <;> rw [e] <;> decide
      · split
        · cases c.ping <;> decide
        · split
          · omega
          · rw [u_size]; exact h4
theorem lnPre_bd {c : Cl} (h : checkB c = true) : ∀ k, k ≤ 6 → ∀ q ∈ lnPre c k, q.1.length + q.2.length + 3 ≤ 265 ∧ isName (bstr q.1) = true
  | 0, _, q, hq => by simp [lnPre] at hq
  | k + 1, hk, q, hq => by
    unfold lnPre at hq
    rcases List.mem_append.1 hq with hq | hq
    · exact lnPre_bd h k (by omega) q hq
    · unfold lpAt at hq
      split at hq
      · cases hq
      · have e := List.mem_singleton.1 hq
        rw [e]
        refine ⟨?_, ?_⟩
        · simp only [sbytes_length]
          have h1 := (nmOf_is (show k < 6 by omega)).2
          have h2 := val_256 h (nmOf k)
          omega
        · show isName (bstr (sbytes (nmOf k))) = true
          rw [bstr_sbytes]; exact (nmOf_is (by omega)).1
theorem line_short {c : Cl} (h : checkB c = true) : (prt (lnPairs c)).length ≤ 4770 := by
  have h1 := tot2_le (l := lnPairs c) (m := 265) (fun q hq => (lnPre_bd h 6 (by omega) q hq).1)
  have h2 : (lnPairs c).length ≤ 6 := lnPre_len c 6
  have h3 : 265 * (lnPairs c).length ≤ 265 * 6 := Nat.mul_le_mul_left _ h2
  have h4 := prt_len (lnPairs c)
  omega
theorem line_parse {c : Cl} (h : checkB c = true) : parOut (prt (lnPairs c)) = (lnPairs c, 0, 0) := by
  have h1 := line_short h
  have h2 := (parse_prt (lnPairs c) 0 [] (fun q hq => (lnPre_mem (clok h) 6 (by omega) q hq).1) (by simp)).1 (by have := lnPre_len c 6; show [].length + (lnPre c 6).length ≤ 64; simp; omega)
  unfold parOut
  rw [if_neg (by omega), h2]
  rfl
theorem sb_inj {a b : ByteArray} (h : sbytes a = sbytes b) : a = b := by rw [← bstr_sbytes a, h, bstr_sbytes]
/-- What one of the pairs does to an asking. -/
theorem fold_at (c : Cl) (nm : ByteArray) (a : List Nat × Nat) (k : Nat) : (lpAt c k).foldl (oneStep (sbytes nm)) a = if nmOf k = nm ∧ (valOf c (nmOf k)).size ≠ 0 then (sbytes (valOf c (nmOf k)), a.2 + 1) else a := by
  unfold lpAt
  by_cases h0 : (valOf c (nmOf k)).size = 0
  · rw [if_pos h0, if_neg (fun h => h.2 h0)]; rfl
  · rw [if_neg h0]
    show oneStep (sbytes nm) a _ = _
    unfold oneStep
    by_cases he : nmOf k = nm
    · rw [if_pos (by rw [he]), if_pos ⟨he, h0⟩]
    · rw [if_neg (fun e => he (sb_inj e)), if_neg (fun h => he h.1)]
theorem ones_line (c : Cl) (nm : ByteArray) (hn : isName nm = true) : ones (sbytes nm) (lnPairs c) = (sbytes (valOf c nm), if (valOf c nm).size = 0 then 0 else 1) := by
  have hz : ∀ x : ByteArray, x.size = 0 → sbytes x = [] := fun x h => by
    have := sbytes_length x
    rw [h] at this
    exact List.length_eq_zero_iff.1 this
  have e6 : lnPairs c = [] ++ lpAt c 0 ++ lpAt c 1 ++ lpAt c 2 ++ lpAt c 3 ++ lpAt c 4 ++ lpAt c 5 := rfl
  unfold ones
  rw [e6]
  simp only [List.foldl_append, List.foldl_nil, fold_at]
  rcases six_names hn with rfl | rfl | rfl | rfl | rfl | rfl
  · have d : nmOf 0 = sId ∧ nmOf 1 ≠ sId ∧ nmOf 2 ≠ sId ∧ nmOf 3 ≠ sId ∧ nmOf 4 ≠ sId ∧ nmOf 5 ≠ sId := by decide
    obtain ⟨d0, d1, d2, d3, d4, d5⟩ := d
    simp only [d0, d1, d2, d3, d4, d5, false_and, if_false, true_and]
    by_cases h0 : (valOf c sId).size = 0
    · rw [if_neg (fun h => h h0), if_pos h0, hz _ h0]
    · rw [if_pos h0, if_neg h0]
  · have d : nmOf 0 ≠ sSecret ∧ nmOf 1 = sSecret ∧ nmOf 2 ≠ sSecret ∧ nmOf 3 ≠ sSecret ∧ nmOf 4 ≠ sSecret ∧ nmOf 5 ≠ sSecret := by decide
    obtain ⟨d0, d1, d2, d3, d4, d5⟩ := d
    simp only [d0, d1, d2, d3, d4, d5, false_and, if_false, true_and]
    by_cases h0 : (valOf c sSecret).size = 0
    · rw [if_neg (fun h => h h0), if_pos h0, hz _ h0]
    · rw [if_pos h0, if_neg h0]
  · have d : nmOf 0 ≠ sGrants ∧ nmOf 1 ≠ sGrants ∧ nmOf 2 = sGrants ∧ nmOf 3 ≠ sGrants ∧ nmOf 4 ≠ sGrants ∧ nmOf 5 ≠ sGrants := by decide
    obtain ⟨d0, d1, d2, d3, d4, d5⟩ := d
    simp only [d0, d1, d2, d3, d4, d5, false_and, if_false, true_and]
    by_cases h0 : (valOf c sGrants).size = 0
    · rw [if_neg (fun h => h h0), if_pos h0, hz _ h0]
    · rw [if_pos h0, if_neg h0]
  · have d : nmOf 0 ≠ sPing ∧ nmOf 1 ≠ sPing ∧ nmOf 2 ≠ sPing ∧ nmOf 3 = sPing ∧ nmOf 4 ≠ sPing ∧ nmOf 5 ≠ sPing := by decide
    obtain ⟨d0, d1, d2, d3, d4, d5⟩ := d
    simp only [d0, d1, d2, d3, d4, d5, false_and, if_false, true_and]
    by_cases h0 : (valOf c sPing).size = 0
    · rw [if_neg (fun h => h h0), if_pos h0, hz _ h0]
    · rw [if_pos h0, if_neg h0]
  · have d : nmOf 0 ≠ sUrl ∧ nmOf 1 ≠ sUrl ∧ nmOf 2 ≠ sUrl ∧ nmOf 3 ≠ sUrl ∧ nmOf 4 = sUrl ∧ nmOf 5 ≠ sUrl := by decide
    obtain ⟨d0, d1, d2, d3, d4, d5⟩ := d
    simp only [d0, d1, d2, d3, d4, d5, false_and, if_false, true_and]
    by_cases h0 : (valOf c sUrl).size = 0
    · rw [if_neg (fun h => h h0), if_pos h0, hz _ h0]
    · rw [if_pos h0, if_neg h0]
  · have d : nmOf 0 ≠ sScope ∧ nmOf 1 ≠ sScope ∧ nmOf 2 ≠ sScope ∧ nmOf 3 ≠ sScope ∧ nmOf 4 ≠ sScope ∧ nmOf 5 = sScope := by decide
    obtain ⟨d0, d1, d2, d3, d4, d5⟩ := d
    simp only [d0, d1, d2, d3, d4, d5, false_and, if_false, true_and]
    by_cases h0 : (valOf c sScope).size = 0
    · rw [if_neg (fun h => h h0), if_pos h0, hz _ h0]
    · rw [if_pos h0, if_neg h0]
theorem val_names (c : Cl) : valOf c sId = c.id ∧ valOf c sSecret = c.secret ∧ valOf c sGrants = gText c.grants ∧ valOf c sPing = pText c.ping ∧ valOf c sUrl = c.url ∧ valOf c sScope = ⟨(joinS c.scopes).toArray⟩ := ⟨rfl, rfl, rfl, rfl, rfl, rfl⟩
theorem grD_text : grD (gText 1).data.toList = 1 ∧ grD (gText 2).data.toList = 2 ∧ grD (gText 3).data.toList = 3 := ⟨by kernel_rfl, by kernel_rfl, by kernel_rfl⟩
/-- A line that is printed says its client. -/
theorem line_back {c : Cl} (h : checkB c = true) : lineR (prt (lnPairs c)) = some c := by
  have hv : ∀ nm, isName nm = true → bstr (valD (lnPairs c) nm) = valOf c nm := fun nm hn => by
    unfold valD
    rw [ones_line c nm hn, bstr_sbytes]
  obtain ⟨i0, i1, i2, i3, i4, i5⟩ := isName_all
  obtain ⟨v0, v1, v2, v3, v4, v5⟩ := val_names c
  have hsc : (scoOut (joinS c.scopes)).2 = 0 ∧ (scoOut (joinS c.scopes)).1 = c.scopes := by
    have h' := h
    unfold checkB scopesB at h'
    simp only [Bool.and_eq_true, decide_eq_true_eq] at h'
    exact ⟨h'.2.1.2, h'.2.2⟩
  have hgr : ((grD (gText c.grants).data.toList : Nat) : Int) = c.grants := by
    rcases (clok h).gr with e | e | e <;> rw [e]
    · rw [grD_text.1]; rfl
    · rw [grD_text.2.1]; rfl
    · rw [grD_text.2.2]; rfl
  have hb : build6 (valD (lnPairs c)) = c := by
    unfold build6
    rw [hv _ i0, hv _ i1, hv _ i2, hv _ i3, hv _ i4, hv _ i5, v0, v1, v2, v3, v4, v5, hgr]
    obtain ⟨id, secret, gr, pg, url, l⟩ := c
    have h2 : (scoOut (joinS l)).1 = l := hsc.2
    show Cl.mk id secret gr (decide (pText pg = sYes)) url (scoOut (joinS l)).1 = _
    rw [h2]
    cases pg <;> rfl
  have hD : DLine (lnPairs c) := by
    refine ⟨fun q hq => (lnPre_bd h 6 (by omega) q hq).2, fun nm hn => ?_, ?_, ?_⟩
    · rw [ones_line c nm hn]
      show ¬ 1 < (if _ then 0 else 1)
      split <;> omega
    · cases hp : c.ping with
      | true => right; rw [hv _ i3, v3, hp]; rfl
      | false =>
        left
        have := hv _ i3
        rw [v3, hp] at this
        have h2 := congrArg ByteArray.size this
        rw [bstr_size] at h2
        exact List.length_eq_zero_iff.1 h2
    · rw [hv _ i5, v5]
      exact hsc.1
  unfold lineR
  rw [line_parse h, if_pos rfl]
  refine (line_eq (lnPairs c) (fun q hq => (lnPre_mem (clok h) 6 (by omega) q hq).1) c).2 ⟨hD, by rw [hb]; exact h, hb.symm⟩
end Go.Proofs.YtjehbdekipmllaaGreatDoor
