/- The contract of the document's Literal. -/
import Derived.Test.YtiaedngnofablaaGreatDoorRLit2
namespace Go.Proofs.YtiaedngnofablaaGreatDoor
open Go.RowKit

theorem lit_more {l : By} {k st : Nat} (hk : k < l.length) : litRun st (l.drop k) = (match litStep st (l.getD k 0) with | none => (0, st) | some s => ((litRun s (l.drop (k + 1))).1 + 1, (litRun s (l.drop (k + 1))).2)) := by
  rw [List.drop_eq_getElem_cons hk]
  have e : l.getD k 0 = l[k] := by simp [List.getD, hk]
  rw [e]
  rfl
/-- Does the text from place k on end a number that stands in state st? -/
def litFrom (l : By) (k st : Nat) : Bool := litDone (litRun st (l.drop k)).2 && decide ((litRun st (l.drop k)).1 = (l.drop k).length)
theorem litFrom_none {l : By} {k st : Nat} (hk : k < l.length) (h : litStep st (l.getD k 0) = none) : litFrom l k st = false := by
  unfold litFrom
  rw [lit_more hk, h]
  have : ¬ ((0 : Nat) = (l.drop k).length) := by rw [List.length_drop]; omega
  simp only [this, decide_false, Bool.and_false]
theorem litFrom_some {l : By} {k st s : Nat} (hk : k < l.length) (h : litStep st (l.getD k 0) = some s) : litFrom l k st = litFrom l (k + 1) s := by
  unfold litFrom
  rw [lit_more hk, h]
  have : (l.drop k).length = (l.drop (k + 1)).length + 1 := by rw [List.length_drop, List.length_drop]; omega
  simp only [this, Nat.add_right_cancel_iff]
theorem litFrom_end {l : By} {k st : Nat} (hk : l.length ≤ k) : litFrom l k st = litDone st := by
  unfold litFrom
  rw [List.drop_eq_nil_of_le hk]
  simp [litRun]
set_option maxHeartbeats 4000000 in
set_option maxRecDepth 100000 in
theorem rliteral_any (s : ByteArray) (w : World) (hl : s.size ≤ 4611686018427387904) :
    Calls Tryz.prog 74 #[.string s] w fun e w' => e = .returned (.bool (litFrom (sbytes s) 0 0)) ∧ Below w.heap.size w w' := by
  obtain ⟨n, hn⟩ : ∃ n, n = s.size := ⟨_, rfl⟩
  obtain ⟨xs, HX⟩ : ∃ xs, Hid (xs = sbytes s) := ⟨_, rfl⟩
  have HN : Hid (n = xs.length) := by show _ = _; rw [hn, HX.out, sbytes_length]
  rw [← HX.out]
  rw [← hn] at hl
  have HS : Hid (n = s.size) := hn
  have hlen : (s.size : Int) = (n : Int) := by rw [hn]
  clear hn
  obtain ⟨L, HL⟩ : ∃ L, Hid (L = litFrom xs 0 0) := ⟨_, rfl⟩
  rw [← HL.out]
  go_enter Tryz.func74, Tryz.ntmps74
  go_wp2
  go_loopw [3, 4] (fun v i wr => ∃ k st : Nat, (k ≤ n ∧ st ≤ 8) ∧ i = .int .i64 (k : Int) ∧ v = .int .i64 (st : Int) ∧ Hid (L = litFrom xs k st) ∧ Hid (Below w.heap.size w wr)) (fun _ i _ => n - (intOf i).toNat)
  case atStart => exact ⟨0, 0, ⟨Nat.zero_le _, Nat.zero_le _⟩, rfl, rfl, HL, Below.refl _ _⟩
  case round =>
    clear HL
    obtain ⟨k, st, ⟨hk, hst⟩, rfl, rfl, HL, HB⟩ := hrel
    by_cases hlt : k < n
    · have hix := str_index s k (by rw [← HS.out]; exact hlt)
      rw [← HX.out] at hix
      have hxk : xs.getD k 0 < 256 := by rw [HX.out]; exact lt_get (sbytes_lt s) k
      have HE1 : Hid (∀ r, litStep st (xs.getD k 0) = some r → L = litFrom xs (k + 1) r) := fun r h => by rw [HL.out, litFrom_some (by rw [← HN.out]; exact hlt) h]
      have HE2 : Hid (litStep st (xs.getD k 0) = none → L = false) := fun h => by rw [HL.out, litFrom_none (by rw [← HN.out]; exact hlt) h]
      generalize xs.getD k 0 = c at *
      have hki : (k : Int) < (n : Int) := by omega
      go_wp2_with fail
      refine (step_any st c hst hxk _).mono ?_
      rintro e w2 ⟨rfl, rfl⟩
      cases hq : litStep st c with
      | none =>
        have e1 : stepZ st c = -1 := by unfold stepZ; rw [hq]
        have HF := hide (HE2.out hq)
        rw [e1]
        clear hq e1
        go_wp2
        go_ret
        exact ⟨by rw [HF.out]; rfl, HB.out⟩
      | some r =>
        have e1 : stepZ st c = (r : Int) := by unfold stepZ; rw [hq]
        have HF := hide (HE1.out r hq)
        have hr := litStep_le hq
        rw [e1]
        have hnn : ¬ ((r : Int) < 0) := by omega
        clear hq e1
        go_wp2
        go_roundw
        case rel => exact ⟨k + 1, r, ⟨by omega, hr⟩, by go_num, rfl, HF, HB⟩
        case measure => simp [intOf]; omega
    · have hki : ¬ ((k : Int) < (n : Int)) := by omega
      have HF : Hid (L = litDone st) := by show _ = _; rw [HL.out, litFrom_end (by rw [← HN.out]; omega)]
      go_wp2_with fail
      refine (done_any st hst _).mono ?_
      rintro e w2 ⟨rfl, rfl⟩
      go_wp2
      go_ret
      exact ⟨by rw [HF.out]; rfl, HB.out⟩
theorem isLit_from (t : By) : isLit t = litFrom t 0 0 := by
  unfold isLit litFrom
  rw [List.drop_zero]
end Go.Proofs.YtiaedngnofablaaGreatDoor
