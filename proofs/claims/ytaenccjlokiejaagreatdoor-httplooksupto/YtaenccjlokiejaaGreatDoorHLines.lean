/- The program's lines: what it yields. -/
import Derived.RangeFuncNested
import Derived.RangeFuncBound
import Derived.RangeFuncCalls
import Derived.RangeFuncLeaves
import Derived.Shelf.Abstract
import Derived.Shelf.RegionOpen
import Derived.WalkKit
import Derived.OwnWalkIn
import Derived.TacticsInMore
import Derived.LoopNIn
import Derived.LoopIn
import Derived.Test.YtaenccjlokiejaaGreatDoorHLnM
import Derived.Test.YtaenccjlokiejaaGreatDoorHFrm
namespace Go.Proofs.YtaenccjlokiejaaGreatDoor
open Go.RowKit Go.Shelf

attribute [local go_sem] Oper.semAt_some

/-- A line that may be yielded, and the place behind it. -/
abbrev LA := { x : U × Nat // x.1.length ≤ 32768 ∧ x.2 ≤ 32768 }
def encL (x : LA) : Array Value := #[.string (str x.1.1), .int .i64 (x.1.2 : Int)]
/-- What a round must leave as it was. -/
def KpL (bR bK : Nat) (W W' : World) : Prop := ∀ j, j < 6 ∨ j = bR ∨ j = bK → W'.heap[j]? = W.heap[j]?
theorem Env.kpL {bR bK : Nat} {W W' : World} (E : Env W) (h : KpL bR bK W W') : Env W' := by
  obtain ⟨g1, g2, g3, g4⟩ := g_five
  obtain ⟨t, ⟨v, c, c2⟩, ⟨u, d, d2⟩, ⟨m, hm⟩⟩ := E
  have hc : ∀ (g : Nat) (x : Value), g < 6 → W.cell? ⟨g, 0, none⟩ = some x → W'.cell? ⟨g, 0, none⟩ = some x := fun g x hg hx => (World.cell?_of_block (h g (.inl hg))).trans hx
  refine ⟨?_, ⟨v, hc _ _ g2 c, c2⟩, ⟨u, hc _ _ g3 d, d2⟩, ⟨m, hc _ _ g4 hm⟩⟩
  unfold Tab10 Lib.TabIs World.var? at t ⊢
  rw [pow10_at] at t ⊢
  simp only [Option.bind_some] at t ⊢
  rw [h _ (.inl g1)]
  exact t
theorem grown_below {W W' : World} (h : Below W.heap.size W W') : W.grownBy W' none := ⟨h.os, h.tape, h.output, h.size, fun k hk _ => h.block k hk⟩
set_option maxRecDepth 100000 in
set_option maxHeartbeats 2000000 in
theorem lines1_stops (m bR bK : Nat) (raw : U) (k0 : Nat) (w : World) (hraw : raw.length ≤ 32768) (hk0 : k0 ≤ raw.length) (hR : w.cell? ⟨bR, 0, none⟩ = some (.string (str raw))) (hK : w.cell? ⟨bK, 0, none⟩ = some (.int .i64 (k0 : Int))) (E : Env w) :
    SeqStopsK Fence.wide m Tryz.prog 111 #[.pointer (some ⟨bR, 0, none⟩), .pointer (some ⟨bK, 0, none⟩)] encL (KpL bR bK)
      (fun xs => xs.map Subtype.val = linesR (raw.length + 1) (raw.drop k0) k0) (fun pre => ∃ r, pre.map Subtype.val ++ r = linesR (raw.length + 1) (raw.drop k0) k0) 40000 w := by
  intro l J Jx W hW hJ hJx hY h0
  have HJ := hide hJ
  have HY := hide hY
  have H0 := hide h0
  have hcR := cell_kept hR hW
  have hcK := cell_kept hK hW
  have HE := hide (E.keep hW)
  obtain ⟨LL, hLL⟩ : ∃ LL, LL = linesR (raw.length + 1) (raw.drop k0) k0 := ⟨_, rfl⟩
  rw [← hLL]
  have HL := hide hLL
  have hsl := cut_from raw k0 (k0 : Int) rfl hk0
  have hdl : (raw.drop k0).length = raw.length - k0 := List.length_drop
  have HC := hide (fun V (EE : Env V) => callsIn_wide (n := m - 1).2 (cutS_any (raw.drop k0) [13, 10] V (by omega) EE))
  have hzr := str_size raw
  obtain ⟨n, hn⟩ : ∃ n, n = raw.length := ⟨_, rfl⟩
  rw [← hn] at hzr hraw hk0 hdl
  have HN := hide hn
  have HLE := hide (linesR_len (raw.length + 1) (raw.drop k0) k0)
  rw [← hLL, hdl] at HLE
  have e13 : str [13, 10] = (⟨#[13, 10]⟩ : ByteArray) := rfl
  rw [e13] at HC
  have HRR : Hid (W.cell? ⟨bR, 0, none⟩ = some (.string (str raw))) := hcR
  generalize str raw = sr at *
  obtain ⟨cur0, hcur0⟩ : ∃ cur0, cur0 = raw.drop k0 := ⟨_, rfl⟩
  rw [← hcur0] at HC hsl hdl
  have HC0 := hide hcur0
  clear hJ hJx hY h0 hR hK E hW hLL hn e13 hcur0
  refine callsIn_of_wp Tryz.func111 rfl trivial ?_ rfl
  simp only [Tryz.ntmps111, List.size_toArray, List.length_cons, List.length_nil, Nat.reduceAdd, Nat.reduceSub, Array.replicate_succ, Array.replicate_zero, List.push_toArray, List.append_toArray, List.nil_append, List.cons_append]
  gi_wp2_with fail
  refine ⟨trivial, fun h => (by cases h), ?_⟩
  refine (HC.out W HE.out).mono ?_
  rintro e w1 ⟨rfl, hb1⟩
  have HJ1 : Hid (J [] w1) := HJ.out _ _ _ none H0.out (grown_below hb1) (fun r e => by cases e)
  have HR1 : Hid (w1.cell? ⟨bR, 0, none⟩ = some (.string sr)) := cell_kept HRR.out hb1
  have HE1 := hide (HE.out.keep hb1)
  clear hb1 HC H0 HE hcR hcK HRR hsl
  gi_wp2
  gi_loopw [4, 5, 6] (fun x y z wr => ∃ (pre : List LA) (cur : U) (k f : Nat), (k + cur.length = n ∧ pre.length * 2 ≤ k ∧ cur.length < f) ∧ x = .string (str (Lib.cut cur [13, 10]).1) ∧ y = .string (str (Lib.cut cur [13, 10]).2.1) ∧ z = .bool (Lib.cut cur [13, 10]).2.2 ∧ Hid (pre.map Subtype.val ++ linesR f cur k = LL) ∧ Hid (J pre wr) ∧ Hid (wr.cell? ⟨bR, 0, none⟩ = some (.string sr)) ∧ Hid (Env wr)) (fun x y z wr => (match y with | .string s => s.size | _ => 0) + (match z with | .bool true => 1 | _ => 0))
  case atStart => exact ⟨[], cur0, k0, n + 1, ⟨by omega, by simp, by omega⟩, rfl, rfl, rfl, by rw [HL.out, HN.out, HC0.out]; rfl, HJ1, HR1, HE1⟩
  case round =>
    obtain ⟨pre, cur, k, f, hb, rfl, rfl, rfl, HP, HJp, HRp, HEp⟩ := hrel
    have hzc : n - k = cur.length := by omega
    cases hc : cutR cur with
    | none =>
      rw [cutR_none hc]
      have HE2 : Hid (pre.map Subtype.val = LL) := by
        show _ = _
        rw [← HP.out]
        cases f with
        | zero => simp [linesR]
        | succ f => simp [linesR, hc]
      clear HP hc
      gi_wp2
      refine ⟨fun _ h => (by cases h), ?_⟩
      gi_wp2
      go_end0
      exact ⟨⟨_, rfl⟩, .inl ⟨pre, HE2.out, HJp.out⟩⟩
    | some q =>
      obtain ⟨a, r⟩ := q
      obtain ⟨hcc, hcl⟩ := cutR_some hc
      rw [hcc]
      have hz := congrArg List.length hcl
      simp at hz
      obtain ⟨nx, hnx⟩ : ∃ nx, nx = k + a.length + 2 := ⟨_, rfl⟩
      have HP2 : Hid (linesR f cur k = (a, nx) :: linesR (f - 1) r nx) := by
        show _ = _
        cases f with
        | zero => omega
        | succ f => rw [linesR, hc, hnx]; rfl
      have hel : a.length ≤ 32768 ∧ nx ≤ 32768 := by omega
      have HP3 : Hid ((pre ++ [(⟨(a, nx), hel⟩ : LA)]).map Subtype.val ++ linesR (f - 1) r nx = LL) := by
        show _ = _
        rw [← HP.out, HP2.out]
        simp
      have hpl : pre.length < 40000 := by omega
      obtain ⟨fn, tmps, assign, body, hy, hRd⟩ := HY.out pre ⟨(a, nx), hel⟩ wr HJp.out hpl
      have hcr := HRp.out
      have hzs := str_size r
      obtain ⟨rl, hrl⟩ : ∃ rl, rl = r.length := ⟨_, rfl⟩
      rw [← hrl] at hzs
      have hsub : (n : Int) - (rl : Int) = (nx : Int) := by omega
      have hwr : IntKind.i64.wrap ((n : Int) - (rl : Int)) = (nx : Int) := by rw [hsub, IntKind.wrap_i64]; omega
      have HRd := hide hRd
      have HHH : Hid (nx + r.length = n ∧ (pre ++ [(⟨(a, nx), hel⟩ : LA)]).length * 2 ≤ nx ∧ r.length < f - 1) := ⟨by omega, by simp; omega, by omega⟩
      have HC2 := hide (fun V (EE : Env V) => callsIn_wide (n := m - 1).2 (cutS_any r [13, 10] V (by omega) EE))
      have e13 : str [13, 10] = (⟨#[13, 10]⟩ : ByteArray) := rfl
      rw [e13] at HC2
      simp only [encL] at hy
      have HRL := hide hrl
      clear HP HP2 hc hcc hcl hz hnx hpl hrl hRd e13
      generalize hsr2 : str r = s2 at *
      gi_wp2
      refine ⟨fun h => (by cases h), ?_⟩
      refine HRd.out.mono ?_
      clear HRd hy
      rintro e W3 (⟨rfl, hJ3, hk3⟩ | ⟨rfl, hJx3⟩)
      · have HJ3 := hide hJ3
        have HR3 : Hid (W3.cell? ⟨bR, 0, none⟩ = some (.string sr)) := (World.cell?_of_block (hk3 bR (.inr (.inl rfl)))).trans hcr
        have HE3 : Hid (Env W3) := HEp.out.kpL hk3
        clear hJ3 hk3 hcr
        gi_wp2_with fail
        refine ⟨trivial, fun h => (by cases h), ?_⟩
        refine (HC2.out W3 HE3.out).mono ?_
        rintro e w4 ⟨rfl, hb4⟩
        have HJ4 : Hid (J (pre ++ [(⟨(a, nx), hel⟩ : LA)]) w4) := HJ.out _ _ _ none HJ3.out (grown_below hb4) (fun r e => by cases e)
        have HR4 : Hid (w4.cell? ⟨bR, 0, none⟩ = some (.string sr)) := cell_kept HR3.out hb4
        have HE4 := hide (HE3.out.keep hb4)
        clear hb4 HC2 HJ3 HR3 HE3
        gi_wp2
        go_roundw
        case rel => exact ⟨_, r, nx, f - 1, HHH.out, rfl, rfl, rfl, HP3, HJ4, HR4, HE4⟩
        case measure =>
          cases hc2 : cutR r with
          | none =>
            rw [cutR_none hc2]
            have h0 : (str ([] : U)).size = 0 := rfl
            show (str ([] : U)).size + 0 < s2.size + 1
            omega
          | some q =>
            obtain ⟨a2, r2⟩ := q
            obtain ⟨h1, h2⟩ := cutR_some hc2
            rw [h1]
            have h3 := congrArg List.length h2
            have h4 := str_size r2
            have h5 := HRL.out
            simp at h3
            show (str r2).size + 1 < s2.size + 1
            omega
      · have HJx3 := hide hJx3
        clear hJx3
        gi_wp2
        go_end0
        exact ⟨⟨_, rfl⟩, .inr ⟨_, ⟨_, HP3.out⟩, HJx3.out⟩⟩
end Go.Proofs.YtaenccjlokiejaaGreatDoor
