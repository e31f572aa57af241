/- The program's Check: for every client. -/
import Derived.Test.YtlhgjicichjbgaaGreatDoorLCheck
namespace Go.Proofs.YtlhgjicichjbgaaGreatDoor
open Go.RowKit

def checkB (c : Cl) : Bool := idB c.id && secretB c.secret && (decide (1 ≤ c.grants) && decide (c.grants ≤ 3)) && toldB c.secret c.grants c.ping c.url && scopesB c.scopes
def errIf (b : Bool) (e : Int) : Int := if b then 0 else e
set_option maxHeartbeats 1000000 in
set_option maxRecDepth 100000 in
theorem check_any (id secret url : ByteArray) (gr : Int) (pg : Bool) (l : List U) (so : Option Addr) (n cp : Nat) (w : World) (hs : SAt w so n cp l) (hn : n ≤ 140737488355328) (hj : n ≤ 32 → (joinS l).length ≤ 140737488355328) (hM : MaxL w)
    (hi : id.size ≤ 9223372036854775807) (hse : secret.size ≤ 9223372036854775807) (hu : url.size ≤ 9223372036854775807) :
    Calls Tryz.prog 11 #[.agg #[.string id, .string secret, .int .i64 gr, .bool pg, .string url, .slice so n cp]] w fun e w' => e = .returned (.int .i64 (errIf (checkB ⟨id, secret, gr, pg, url, l⟩) 111)) ∧ Below w.heap.size w w' := by
  have HS : Hid (SAt w so n cp l) := hs
  have HM : Hid (MaxL w) := hM
  have HJ : Hid (n ≤ 32 → (joinS l).length ≤ 140737488355328) := hj
  obtain ⟨A, HA⟩ : ∃ A, Hid (A = idB id) := ⟨_, hide rfl⟩
  obtain ⟨B, HB⟩ : ∃ B, Hid (B = secretB secret) := ⟨_, hide rfl⟩
  obtain ⟨C, HC⟩ : ∃ C, Hid (C = toldB secret gr pg url) := ⟨_, hide rfl⟩
  obtain ⟨D, HD⟩ : ∃ D, Hid (D = scopesB l) := ⟨_, hide rfl⟩
  have cA : ∀ w, Calls Tryz.prog 30 #[.string id] w fun e w' => e = .returned (.bool A) ∧ w' = w := by intro w; rw [HA.out]; exact isId_any id w hi
  have cB : ∀ w, Calls Tryz.prog 31 #[.string secret] w fun e w' => e = .returned (.bool B) ∧ w' = w := by intro w; rw [HB.out]; exact isSecret_any secret w hse
  have cC : 1 ≤ gr → gr ≤ 3 → ∀ w, Calls Tryz.prog 32 #[.agg #[.string id, .string secret, .int .i64 gr, .bool pg, .string url, .slice so n cp]] w fun e w' => e = .returned (.bool C) ∧ Below w.heap.size w w' := by intro h1 h2 w; rw [HC.out]; exact isTold_any id secret url gr pg so n cp w h1 h2 hu
  have cD : ∀ w', Below w.heap.size w w' → Calls Tryz.prog 33 #[.slice so n cp] w' fun e w2 => e = .returned (.bool D) ∧ Below w'.heap.size w' w2 := by
    intro w' hb; rw [HD.out]; exact areScopes_any n cp so l w' (HS.out.keep hb) hn HJ.out (HM.out.keep hb)
  obtain ⟨R, HR⟩ : ∃ R, Hid (R = checkB ⟨id, secret, gr, pg, url, l⟩) := ⟨_, hide rfl⟩
  have HRE : Hid (R = (A && B && (decide (1 ≤ gr) && decide (gr ≤ 3)) && C && D)) := by show _ = _; rw [HR.out, HA.out, HB.out, HC.out, HD.out]; rfl
  rw [← HR.out]
  clear hs hM hj HA HB HC HD HR
  have arm : True := trivial
  cases A
  · have HF : Hid (R = false) := by show _ = _; rw [HRE.out]; simp
    go_enter Tryz.func11, Tryz.ntmps11
    go_wp2_with (first | (go_at_call 30; refine (cA _).mono ?_; rintro e w' ⟨rfl, rfl⟩))
    go_ret
    exact ⟨by rw [HF.out]; rfl, below_new _ _⟩
  cases B
  · have HF : Hid (R = false) := by show _ = _; rw [HRE.out]; simp
    go_enter Tryz.func11, Tryz.ntmps11
    go_wp2_with (first | (go_at_call 30; refine (cA _).mono ?_; rintro e w' ⟨rfl, rfl⟩) | (go_at_call 31; refine (cB _).mono ?_; rintro e w' ⟨rfl, rfl⟩))
    go_ret
    exact ⟨by rw [HF.out]; rfl, below_new _ _⟩
  by_cases h1 : 1 ≤ gr
  case neg =>
    have h1' : gr < 1 := by omega
    have HF : Hid (R = false) := by show _ = _; rw [HRE.out, decide_eq_false h1]; simp
    go_enter Tryz.func11, Tryz.ntmps11
    go_wp2_with (first | (go_at_call 30; refine (cA _).mono ?_; rintro e w' ⟨rfl, rfl⟩) | (go_at_call 31; refine (cB _).mono ?_; rintro e w' ⟨rfl, rfl⟩))
    go_ret
    exact ⟨by rw [HF.out]; rfl, below_new _ _⟩
  by_cases h3 : gr ≤ 3
  case neg =>
    have h3' : 3 < gr := by omega
    have HF : Hid (R = false) := by show _ = _; rw [HRE.out, decide_eq_false h3]; simp
    go_enter Tryz.func11, Tryz.ntmps11
    go_wp2_with (first | (go_at_call 30; refine (cA _).mono ?_; rintro e w' ⟨rfl, rfl⟩) | (go_at_call 31; refine (cB _).mono ?_; rintro e w' ⟨rfl, rfl⟩))
    go_ret
    exact ⟨by rw [HF.out]; rfl, below_new _ _⟩
  have HCD : Hid (R = (C && D)) := by show _ = _; rw [HRE.out, decide_eq_true h1, decide_eq_true h3]; simp
  have cC' := cC h1 h3
  clear cC HRE arm
  cases C
  · have HF : Hid (R = false) := by show _ = _; rw [HCD.out]; simp
    go_enter Tryz.func11, Tryz.ntmps11
    go_wp2_with (first | (go_at_call 30; refine (cA _).mono ?_; rintro e w' ⟨rfl, rfl⟩) | (go_at_call 31; refine (cB _).mono ?_; rintro e w' ⟨rfl, rfl⟩) | (go_at_call 32; refine (cC' _).mono ?_))
    rintro e w1 ⟨rfl, hb1⟩
    have HB1 : Hid (Below w.heap.size w w1) := (below_new w _).trans (hb1.mono (by simp))
    clear hb1
    go_wp2
    go_ret
    exact ⟨by rw [HF.out]; rfl, HB1.out⟩
  · go_enter Tryz.func11, Tryz.ntmps11
    go_wp2_with (first | (go_at_call 30; refine (cA _).mono ?_; rintro e w' ⟨rfl, rfl⟩) | (go_at_call 31; refine (cB _).mono ?_; rintro e w' ⟨rfl, rfl⟩) | (go_at_call 32; refine (cC' _).mono ?_))
    rintro e w1 ⟨rfl, hb1⟩
    have HB1 : Hid (Below w.heap.size w w1) := (below_new w _).trans (hb1.mono (by simp))
    have c5 : w1.cell? ⟨w.heap.size, 5, none⟩ = some (.slice so n cp) := cell_kept (by simp) hb1
    have hs1 := HB1.out.size
    clear hb1
    cases D
    · have HF : Hid (R = false) := by show _ = _; rw [HCD.out]; simp
      go_wp2_with (first | (go_at_call 33; refine (cD _ HB1.out).mono ?_))
      rintro e w2 ⟨rfl, hb2⟩
      have HB2 : Hid (Below w.heap.size w w2) := HB1.out.trans (hb2.mono hs1)
      clear hb2
      go_wp2
      go_ret
      exact ⟨by rw [HF.out]; rfl, HB2.out⟩
    · have HF : Hid (R = true) := by show _ = _; rw [HCD.out]; simp
      go_wp2_with (first | (go_at_call 33; refine (cD _ HB1.out).mono ?_))
      rintro e w2 ⟨rfl, hb2⟩
      have HB2 : Hid (Below w.heap.size w w2) := HB1.out.trans (hb2.mono hs1)
      clear hb2
      go_wp2
      go_ret
      exact ⟨by rw [HF.out]; rfl, HB2.out⟩
end Go.Proofs.YtlhgjicichjbgaaGreatDoor
