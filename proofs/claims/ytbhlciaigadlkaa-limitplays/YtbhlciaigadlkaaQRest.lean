/- rest. -/
import Derived.Test.YtbhlciaigadlkaaQRep
namespace Go.Proofs.Ytbhlciaigadlkaa
open Go.RowKit Go.Maps

set_option maxHeartbeats 1000000 in
set_option maxRecDepth 100000 in
theorem rest_any (lp b win since t : Nat) (w : World) (h1 : w.cell? ⟨lp, 1, none⟩ = some (.int .u64 (win : Int))) (h2 : w.cell? ⟨b, 0, none⟩ = some (.int .u64 (since : Int))) (hle : since ≤ t) (ht : t < 18446744073709551616) (hw : win < 18446744073709551616) :
    Calls Try.prog 32 #[pf lp, pf b, .int .u64 (t : Int)] w fun e w' => e = .returned (.int .u64 (restN win since t : Int)) ∧ ∃ n, w' = w.drewN n := by
  obtain ⟨d, hd⟩ : ∃ d : Nat, t = since + d := ⟨t - since, by omega⟩
  have hs : ((t : Int) - (since : Int)) % 18446744073709551616 = (d : Int) := by omega
  have hr : restN win since t = win - min win d := by unfold restN; rw [hd]; congr 2; omega
  rw [hr]
  clear hd hr
  unfold pf
  go_enter Try.func32, Try.ntmps32
  go_upto_region 1 with fail
  go_quiet (fail)
  go_wp2_with fail
  all_goals
    go_ret
    exact ⟨ret_int (by omega), nq, rfl⟩
set_option maxRecDepth 100000 in
/-- The step of a range over the windows. -/
theorem wpList_next_tab {w : World} {ops : Array Oper} {rest : List Oper} {o : Oper} {a : Act} {Q : Exit → Act → World → Prop} (hg : o.guard = none) (it : Operand) (hop : o.op = Op.next it false) (mp r n : Nat) (bl : Nm → Nat) (d : Tab) (left : Lit → Bool) (cnt : Nat)
    (hit : a.eval it = .pointer (some ⟨r, 0, none⟩)) (h : w.ranges Try.prog 9 rp mp r n (DL bl d) left cnt)
    (hDone : (∀ nm, left (.string nm) = false) → wpList Try.prog ops Q rest (a.put o.dst (.tuple #[.bool false])) w)
    (hMore : ∀ (nm : Nm) (v : Nat × Nat) (w' : World) (cnt' : Nat), nm.length ≤ maxLen → tget nm d = some v → left (.string nm) = true → w'.ranges Try.prog 9 rp mp r n (DL bl d) (fun z => left z && !z.sameKey (.string nm)) cnt' → cnt' < cnt → Fr [r] w w' →
      (Instr.entry (.pointer (some ⟨r, 0, none⟩))).run Try.prog w' = .ok (.tuple #[.string (str nm), pf (bl nm)]) w' → wpList Try.prog ops Q rest (a.put o.dst (.tuple #[.bool true, .string (str nm), pf (bl nm)])) w') :
    wpList Try.prog ops Q (o :: rest) a w := by
  refine wpList_next_ranges w hg it hop 9 law rp (fun nm : Nm => Value.string (str nm)) (fun c : Option Nat => match c with | some b => pf b | none => .pointer none) (fun key kl hk => by obtain ⟨nm, h, _⟩ := key_inv hk; exact ⟨nm, h⟩) (fun v y hv => by
    rcases rp_inv hv with ⟨rfl, _⟩ | ⟨b, rfl, _⟩
    · exact ⟨none, rfl⟩
    · exact ⟨some b, rfl⟩) mp r n (DL bl d) left cnt hit h (fun _ hl => hDone fun nm => hl _) ?_
  intro nm c kl y w' cnt' hkey hlk hv hat hrg hlt hgr hsz hen
  have hnl : nm.length ≤ maxLen := by
    have h1 := law.key hkey
    obtain ⟨nm', e1, e2⟩ := key_inv hkey
    have := hkey
    simp [keyOf, Try.underlying9, mapKey] at this
    have h2 := this.1
    first | (rw [← str_size]; exact h2) | (simpa [str_size] using h2)
  obtain ⟨nm', e1, rfl⟩ := key_inv hkey
  have e1 := str_inj (Value.string.inj e1)
  subst e1
  cases hg : tget nm d with
  | none =>
    have h1 := hat .nil
    have h2 := hat (.lit (.int .i64 0))
    rw [dl_at, hg] at h1 h2
    simp at h1 h2
    rw [← h1] at h2
    cases h2
  | some v =>
    have h1 := hat .nil
    rw [dl_at, hg] at h1
    simp at h1
    have hc : c = some (bl nm) := by
      cases c with
      | none =>
        rcases rp_inv hv with ⟨_, e⟩ | ⟨b, e, _⟩
        · rw [e] at h1; cases h1
        · cases e
      | some b =>
        rcases rp_inv hv with ⟨e, _⟩ | ⟨b', e, e2⟩
        · cases e
        · have e : pf b = pf b' := e
          have e : b = b' := by simpa [pf] using e
          subst e
          rw [e2] at h1
          injection h1 with h1
          injection h1 with _ h1
          rw [show b = bl nm by omega]
    subst hc
    exact hMore nm v w' cnt' hnl hg hlk hrg hlt (Fr.grown hgr (fun j e => by cases e; simp)) hen
end Go.Proofs.Ytbhlciaigadlkaa
