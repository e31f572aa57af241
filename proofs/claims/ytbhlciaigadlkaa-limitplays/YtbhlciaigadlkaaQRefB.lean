/- The document's known and Why. -/
import Derived.Test.YtbhlciaigadlkaaQRefA
namespace Go.Proofs.Ytbhlciaigadlkaa
open Go.RowKit Go.Maps

def Mi (win t : Nat) (L : Tab) (i : Nat) : Tab := (L.take i).filter (alive win t)
theorem mi_succ {win t : Nat} {L : Tab} {i : Nat} {x : Win} (hx : L[i]? = some x) : Mi win t L (i + 1) = Mi win t L i ++ (if alive win t x then [x] else []) := by
  unfold Mi
  obtain ⟨hi, rfl⟩ := List.getElem?_eq_some_iff.1 hx
  rw [List.take_succ_eq_append_getElem hi, List.filter_append]
  congr 1
  rw [List.filter_cons]
  split <;> rfl
theorem mi_all {win t : Nat} {L : Tab} {n : Nat} (hn : n = L.length) : Mi win t L n = L.filter (alive win t) := by
  unfold Mi
  rw [List.take_of_length_le (by omega)]
theorem mi_le (win t : Nat) (L : Tab) (i : Nat) : (Mi win t L i).length ≤ i := Nat.le_trans (List.length_filter_le _ _) (List.length_take_le _ _)
theorem least_one (win t : Nat) (x : Win) : IsLeast win t [x] (restN win x.2.1 t) := ⟨fun p hp => by rw [List.mem_singleton.1 hp]; exact Nat.le_refl _, x, by simp, rfl⟩
theorem least_less {win t : Nat} {M : Tab} {m : Nat} (h : IsLeast win t M m) {x : Win} (hl : restN win x.2.1 t < m) : IsLeast win t (M ++ [x]) (restN win x.2.1 t) :=
  ⟨fun p hp => by
    rcases List.mem_append.1 hp with hp | hp
    · have := h.1 p hp; omega
    · rw [List.mem_singleton.1 hp]; exact Nat.le_refl _, x, by simp, rfl⟩
theorem least_same {win t : Nat} {M : Tab} {m : Nat} (h : IsLeast win t M m) {x : Win} (hl : ¬ restN win x.2.1 t < m) : IsLeast win t (M ++ [x]) m := by
  obtain ⟨h1, p, hp, e⟩ := h
  refine ⟨fun q hq => ?_, p, by simp [hp], e⟩
  rcases List.mem_append.1 hq with hq | hq
  · exact h1 q hq
  · rw [List.mem_singleton.1 hq]; omega
/-- What known tells besides the number. -/
def LeastIf (win t : Nat) (M : Tab) (m : Nat) : Prop := M.length ≠ 0 → IsLeast win t M m
set_option maxHeartbeats 2000000 in
set_option maxRecDepth 100000 in
theorem rknown_any (S : LS) (ao : Option Addr) (n c t : Nat) (L : Tab) (w : World) (hn : n = L.length) (hV : VSee w ao L) (hE : ∀ p ∈ L, p.2.1 ≤ t) (ht : t < 18446744073709551616) (hw : S.win < 18446744073709551616) (hnb : n ≤ 9223372036854775807) :
    Calls Try.prog 40 #[.agg (rcl S (.slice ao n c)).toArray, .int .u64 (t : Int)] w fun e w' => ∃ m : Nat, e = .returned (.tuple #[.int .i64 (((L.filter (alive S.win t)).length : Nat) : Int), .int .u64 (m : Int)]) ∧ Hid (Below w.heap.size w w' ∧ LeastIf S.win t (L.filter (alive S.win t)) m) := by
  have HB := hide (Bl.new w #[.int .i64 (S.tries : Int), .int .u64 (S.win : Int), .int .i64 (S.subs : Int), .int .u64 (S.clock : Int), .slice ao n c] 32)
  have HBN := hide (below_new w (.cells #[.int .i64 (S.tries : Int), .int .u64 (S.win : Int), .int .i64 (S.subs : Int), .int .u64 (S.clock : Int), .slice ao n c] 32))
  have HN := hide hn
  have HV := hide hV
  have HE := hide hE
  obtain ⟨res, hres⟩ : ∃ r, r = L.filter (alive S.win t) := ⟨_, rfl⟩
  rw [← hres]
  have HRES := hide hres
  clear hn hV hE hres
  unfold rcl
  go_enter Try.func40, Try.ntmps40
  go_upto_region 1 with fail
  obtain ⟨N, hN⟩ : ∃ N, N = w.heap.size := ⟨_, rfl⟩
  rw [← hN] at HB ⊢
  clear hN
  generalize w.alloc (.cells #[.int .i64 (S.tries : Int), .int .u64 (S.win : Int), .int .i64 (S.subs : Int), .int .u64 (S.clock : Int), .slice ao n c] 32) = u at *
  go_wp2
  go_loopw [6, 7, 8] (fun a6 a7 a8 wr => ∃ (k m i : Nat), a6 = .int .i64 (k : Int) ∧ a7 = .int .u64 (m : Int) ∧ a8 = .int .i64 (i : Int) ∧ i ≤ n ∧ Hid (Below w.heap.size w wr ∧ Bl wr N [.int .i64 (S.tries : Int), .int .u64 (S.win : Int), .int .i64 (S.subs : Int), .int .u64 (S.clock : Int), .slice ao n c] 32 ∧ k = (Mi S.win t L i).length ∧ (k ≠ 0 → IsLeast S.win t (Mi S.win t L i) m)))
    (fun _ _ a8 _ => n - (match a8 with | .int _ x => x.toNat | _ => 0))
  case atStart => exact ⟨0, 0, 0, rfl, rfl, rfl, Nat.zero_le _, hide ⟨HBN.out, HB.out, rfl, fun h => absurd rfl h⟩⟩
  case round =>
    obtain ⟨k, m, i, rfl, rfl, rfl, hi, hrel⟩ := hrel
    obtain ⟨hbw, hbx, hk, hlst⟩ := hrel.out
    have HBW := hide hbw
    have HBX := hide hbx
    have HK := hide hk
    have HLST := hide hlst
    have hki : k ≤ i := by rw [hk]; exact mi_le _ _ _ _
    have b1 : wr.cell? ⟨N, 1, none⟩ = some (.int .u64 (S.win : Int)) := hbx.cell 1
    have b4 : wr.cell? ⟨N, 4, none⟩ = some (.slice ao n c) := hbx.cell 4
    clear hrel hbw hbx hk hlst
    by_cases hin : i < n
    · have hin' : (i : Int) < (n : Int) := by omega
      obtain ⟨x, hx⟩ : ∃ x, L[i]? = some x := ⟨_, List.getElem?_eq_getElem (by rw [← HN.out]; exact hin)⟩
      obtain ⟨bb, off, hao, q0, q1, q2⟩ := (HV.out.keep HBW.out).at hx
      subst hao
      have hbeg := HE.out x (List.mem_of_getElem? hx)
      have HSU := hide (mi_succ (win := S.win) (t := t) hx)
      have HIN := hide hin
      have hwri : IntKind.i64.wrap ((i : Int) + 1) = ((i + 1 : Nat) : Int) := by rw [IntKind.wrap_i64]; omega
      have hwrk : IntKind.i64.wrap ((k : Int) + 1) = ((k + 1 : Nat) : Int) := by rw [IntKind.wrap_i64]; omega
      obtain ⟨xs, xb, xc⟩ := x
      simp only at q0 q1 q2 hbeg
      have HXO := hide (Bl.new wr #[.string (str xs), .int .u64 (xb : Int), .int .i64 (xc : Int)] 79)
      have HWB := hide (HBW.out.trans ((below_new wr (.cells #[.string (str xs), .int .u64 (xb : Int), .int .i64 (xc : Int)] 79)).mono HBW.out.size))
      have HBO := hide (HBX.out.alloc (.cells #[.string (str xs), .int .u64 (xb : Int), .int .i64 (xc : Int)] 79))
      clear hi hx hin hki
      go_upto_region 6 with fail
      obtain ⟨A, hA⟩ : ∃ A, A = wr.heap.size := ⟨_, rfl⟩
      rw [← hA] at HXO ⊢
      clear hA q0 q1 q2 b1 b4
      generalize wr.alloc (.cells #[.string (str xs), .int .u64 (xb : Int), .int .i64 (xc : Int)] 79) = u1 at *
      have q1 : u1.cell? ⟨A, 1, none⟩ = some (.int .u64 (xb : Int)) := HXO.out.cell 1
      have q2 : u1.cell? ⟨A, 2, none⟩ = some (.int .i64 (xc : Int)) := HXO.out.cell 2
      have b1 : u1.cell? ⟨N, 1, none⟩ = some (.int .u64 (S.win : Int)) := HBO.out.cell 1
      by_cases hc0 : 0 < xc
      · have hc' : 0 < (xc : Int) := by omega
        by_cases ho : t - xb < S.win
        · have ho' : (t : Int) - (xb : Int) < (S.win : Int) := by omega
          have ha : alive S.win t (xs, (xb, xc)) = true := by unfold alive opens; simp [hc0, ho]
          rw [if_pos ha] at HSU
          obtain ⟨rs, hrs⟩ : ∃ rs, rs = restN S.win xb t := ⟨_, rfl⟩
          have hsub : (S.win : Int) - ((t : Int) - (xb : Int)) = (rs : Int) := by rw [hrs]; unfold restN; omega
          have HRS := hide hrs
          clear ha hc0 ho hrs
          by_cases hk0 : k = 0
          · have hk0' : ((k : Int) == 0) = true := by simp; omega
            have HL2 : Hid (IsLeast S.win t (Mi S.win t L (i + 1)) rs) := hide (by
              have : Mi S.win t L i = [] := List.length_eq_zero_iff.1 (by rw [← HK.out]; exact hk0)
              rw [HSU.out, this, HRS.out]
              exact least_one S.win t (xs, (xb, xc)))
            clear hk0
            go_wp2
            go_roundw
            case rel => exact ⟨k + 1, rs, i + 1, by first | rfl | simp, by first | rfl | simp, by first | rfl | simp, HIN.out, hide ⟨HWB.out, HBO.out, by rw [HSU.out, List.length_append, ← HK.out]; rfl, fun _ => HL2.out⟩⟩
            case measure => have := HIN.out; simp; omega
          · have hk0' : ((k : Int) == 0) = false := by simp; omega
            by_cases hlt : rs < m
            · have hlt' : (rs : Int) < (m : Int) := by omega
              have HL2 : Hid (IsLeast S.win t (Mi S.win t L (i + 1)) rs) := hide (by
                rw [HSU.out, HRS.out]
                exact least_less (HLST.out hk0) (x := (xs, (xb, xc))) (by rw [← HRS.out]; exact hlt))
              clear hk0 hlt
              go_wp2
              go_roundw
              case rel => exact ⟨k + 1, rs, i + 1, by first | rfl | simp, by first | rfl | simp, by first | rfl | simp, HIN.out, hide ⟨HWB.out, HBO.out, by rw [HSU.out, List.length_append, ← HK.out]; rfl, fun _ => HL2.out⟩⟩
              case measure => have := HIN.out; simp; omega
            · have hlt' : ¬ (rs : Int) < (m : Int) := by omega
              have HL2 : Hid (IsLeast S.win t (Mi S.win t L (i + 1)) m) := hide (by
                rw [HSU.out]
                exact least_same (HLST.out hk0) (x := (xs, (xb, xc))) (by rw [← HRS.out]; exact hlt))
              clear hk0 hlt
              go_wp2
              go_roundw
              case rel => exact ⟨k + 1, m, i + 1, by first | rfl | simp, by first | rfl | simp, by first | rfl | simp, HIN.out, hide ⟨HWB.out, HBO.out, by rw [HSU.out, List.length_append, ← HK.out]; rfl, fun _ => HL2.out⟩⟩
              case measure => have := HIN.out; simp; omega
        · have ho' : ¬ (t : Int) - (xb : Int) < (S.win : Int) := by omega
          have ha : ¬ alive S.win t (xs, (xb, xc)) = true := by unfold alive opens; simp [ho]
          rw [if_neg ha, List.append_nil] at HSU
          clear ha hc0 ho
          go_wp2
          go_roundw
          case rel => exact ⟨k, m, i + 1, rfl, rfl, by first | rfl | simp, HIN.out, hide ⟨HWB.out, HBO.out, by rw [HSU.out]; exact HK.out, by rw [HSU.out]; exact HLST.out⟩⟩
          case measure => have := HIN.out; simp; omega
      · have hc' : ¬ 0 < (xc : Int) := by omega
        have ha : ¬ alive S.win t (xs, (xb, xc)) = true := by unfold alive opens; simp [hc0]
        rw [if_neg ha, List.append_nil] at HSU
        clear ha hc0
        go_wp2
        go_roundw
        case rel => exact ⟨k, m, i + 1, rfl, rfl, by first | rfl | simp, HIN.out, hide ⟨HWB.out, HBO.out, by rw [HSU.out]; exact HK.out, by rw [HSU.out]; exact HLST.out⟩⟩
        case measure => have := HIN.out; simp; omega
    · have hin' : ¬ (i : Int) < (n : Int) := by omega
      have HII : Hid (i = n) := hide (by omega)
      clear hi hin hki
      go_wp2
      go_ret2
      refine ⟨m, ?_, hide ⟨HBW.out, ?_⟩⟩
      · have e : k = res.length := by rw [HK.out, HII.out, mi_all HN.out, HRES.out]
        rw [← e]
        rfl
      · unfold LeastIf
        rw [HRES.out, ← mi_all (win := S.win) (t := t) HN.out, ← HII.out, ← HK.out]
        exact HLST.out
set_option maxHeartbeats 2000000 in
set_option maxRecDepth 100000 in
theorem rwhy_any (S : LS) (hS : Ok S) (ao : Option Addr) (n c now : Nat) (nm : Nm) (L : Tab) (w : World) (hn : n = L.length) (hV : VSee w ao L) (hR : RI S L) (hnow : now < 18446744073709551616) (hnb : n ≤ 9223372036854775807) :
    Calls Try.prog 37 #[.agg (rcl S (.slice ao n c)).toArray, .string (str nm), .int .u64 (now : Int)] w fun e w' => e = .returned (.int .i64 ((S.left nm (max now S.clock)).2 : Int)) ∧ Below w.heap.size w w' := by
  have hsz := str_size nm
  have HB := hide (Bl.new w #[.int .i64 (S.tries : Int), .int .u64 (S.win : Int), .int .i64 (S.subs : Int), .int .u64 (S.clock : Int), .slice ao n c] 32)
  have HBN := hide (below_new w (.cells #[.int .i64 (S.tries : Int), .int .u64 (S.win : Int), .int .i64 (S.subs : Int), .int .u64 (S.clock : Int), .slice ao n c] 32))
  by_cases hl : 256 < nm.length
  · rw [show (S.left nm (max now S.clock)).2 = 1 by unfold LS.left; rw [if_pos hl]]
    have hl' : (256 : Int) < (nm.length : Int) := by omega
    generalize nm.length = k at *
    clear hV hR hl hnb hn
    unfold rcl
    go_enter Try.func37, Try.ntmps37
    go_wp2
    go_ret
    exact ⟨rfl, HBN.out⟩
  · have hl' : ¬ (256 : Int) < (nm.length : Int) := by omega
    have hcl := hS.clock
    have hwin := hS.win2
    have htr := hS.tries2
    have hle : S.clock ≤ max now S.clock := by omega
    have hwy := why_idx hS hR (show nm.length ≤ 256 by omega) hle
    have HAT : Hid (∀ W, Calls Try.prog 38 #[.agg (rcl S (.slice ao n c)).toArray, .int .u64 (now : Int)] W fun e w' => e = .returned (.int .u64 ((max now S.clock : Nat) : Int)) ∧ Below W.heap.size W w') := hide fun W => rat_any S ao n c now W
    have HOP : Hid (∀ W, VSee W ao L → Calls Try.prog 39 #[.agg (rcl S (.slice ao n c)).toArray, .string (str nm), .int .u64 ((max now S.clock : Nat) : Int)] W fun e w' => e = .returned (.int .i64 (idxV (idx S.win (max now S.clock) nm L))) ∧ Below W.heap.size W w') := hide fun W hW => ropen_any S ao n c (max now S.clock) nm L W hn hW (fun p hp => Nat.le_trans (hR.each p hp).1 hle) (by omega) hnb
    have HKN : Hid (∀ W, VSee W ao L → Calls Try.prog 40 #[.agg (rcl S (.slice ao n c)).toArray, .int .u64 ((max now S.clock : Nat) : Int)] W fun e w' => ∃ m : Nat, e = .returned (.tuple #[.int .i64 (((L.filter (alive S.win (max now S.clock))).length : Nat) : Int), .int .u64 (m : Int)]) ∧ Hid (Below W.heap.size W w' ∧ LeastIf S.win (max now S.clock) (L.filter (alive S.win (max now S.clock))) m)) := hide fun W hW => rknown_any S ao n c (max now S.clock) L W hn hW (fun p hp => Nat.le_trans (hR.each p hp).1 hle) (by omega) hwin hnb
    have HV := hide hV
    have HIS := hide (fun i (hi : idx S.win (max now S.clock) nm L = some i) => idx_some hS hR hle hi)
    have HIL := hide (fun i (hi : idx S.win (max now S.clock) nm L = some i) => idx_lt hi)
    have HEA := hide (fun v (hg : tget nm S.tab = some v) => (hS.each _ (tget_some hg)).2.2.2.1)
    generalize hT : max now S.clock = T at *
    generalize (L.filter (alive S.win T)).length = kn at *
    rw [hwy]
    have HN := hide hn
    clear hwy hV hR hl hn hle hT hS hnow hcl
    cases hi : idx S.win T nm L with
    | none =>
      rw [hi] at HOP
      simp only
      unfold idxV rcl at *
      by_cases hf : S.subs ≤ kn
      · rw [if_pos hf]
        have hf' : (S.subs : Int) ≤ (kn : Int) := by omega
        clear hf hi
        go_enter Try.func37, Try.ntmps37
        go_upto_region 3 with fail
        obtain ⟨N, hN⟩ : ∃ N, N = w.heap.size := ⟨_, rfl⟩
        rw [← hN] at HB ⊢
        clear hN
        have HVC := hide (HV.out.keep HBN.out)
        generalize w.alloc (.cells #[.int .i64 (S.tries : Int), .int .u64 (S.win : Int), .int .i64 (S.subs : Int), .int .u64 (S.clock : Int), .slice ao n c] 32) = u at *
        have HCUR := HBN
        have HBC := HB
        have b0 : u.cell? ⟨N, 0, none⟩ = some (.int .i64 (S.tries : Int)) := HBC.out.cell 0; have b1 : u.cell? ⟨N, 1, none⟩ = some (.int .u64 (S.win : Int)) := HBC.out.cell 1; have b2 : u.cell? ⟨N, 2, none⟩ = some (.int .i64 (S.subs : Int)) := HBC.out.cell 2; have b3 : u.cell? ⟨N, 3, none⟩ = some (.int .u64 (S.clock : Int)) := HBC.out.cell 3; have b4 : u.cell? ⟨N, 4, none⟩ = some (.slice ao n c) := HBC.out.cell 4
        go_upto_region 5 with (first
          | (go_at_call 38; refine (HAT.out _).mono ?_; rintro e w1 ⟨rfl, hw1⟩; have HCw1 := hide (HCUR.out.trans (hw1.mono HCUR.out.size)); have HBw1 := hide (HBC.out.keep hw1); have HVw1 := hide (HVC.out.keep hw1); clear HCUR HBC HVC b0 b1 b2 b3 b4; have HCUR := HCw1; have HBC := HBw1; have HVC := HVw1; have b0 : w1.cell? ⟨N, 0, none⟩ = some (.int .i64 (S.tries : Int)) := HBC.out.cell 0; have b1 : w1.cell? ⟨N, 1, none⟩ = some (.int .u64 (S.win : Int)) := HBC.out.cell 1; have b2 : w1.cell? ⟨N, 2, none⟩ = some (.int .i64 (S.subs : Int)) := HBC.out.cell 2; have b3 : w1.cell? ⟨N, 3, none⟩ = some (.int .u64 (S.clock : Int)) := HBC.out.cell 3; have b4 : w1.cell? ⟨N, 4, none⟩ = some (.slice ao n c) := HBC.out.cell 4; clear hw1 HCw1 HBw1 HVw1)
          | (go_at_call 39; refine (HOP.out _ HVC.out).mono ?_; rintro e w2 ⟨rfl, hw2⟩; have HCw2 := hide (HCUR.out.trans (hw2.mono HCUR.out.size)); have HBw2 := hide (HBC.out.keep hw2); have HVw2 := hide (HVC.out.keep hw2); clear HCUR HBC HVC b0 b1 b2 b3 b4; have HCUR := HCw2; have HBC := HBw2; have HVC := HVw2; have b0 : w2.cell? ⟨N, 0, none⟩ = some (.int .i64 (S.tries : Int)) := HBC.out.cell 0; have b1 : w2.cell? ⟨N, 1, none⟩ = some (.int .u64 (S.win : Int)) := HBC.out.cell 1; have b2 : w2.cell? ⟨N, 2, none⟩ = some (.int .i64 (S.subs : Int)) := HBC.out.cell 2; have b3 : w2.cell? ⟨N, 3, none⟩ = some (.int .u64 (S.clock : Int)) := HBC.out.cell 3; have b4 : w2.cell? ⟨N, 4, none⟩ = some (.slice ao n c) := HBC.out.cell 4; clear hw2 HCw2 HBw2 HVw2))
        go_quiet (fail)
        have HCUR2 := hide (below_drewN HCUR.out nq)
        have HBC2 := hide (HBC.out.drewN nq)
        have HVC2 : Hid (VSee (w2.drewN nq) ao L) := hide HVC.out
        clear HCUR HBC HVC b0 b1 b2 b3 b4
        generalize w2.drewN nq = w5 at *
        have HCUR := HCUR2
        have HBC := HBC2
        have HVC := HVC2
        clear HCUR2 HBC2 HVC2
        have b0 : w5.cell? ⟨N, 0, none⟩ = some (.int .i64 (S.tries : Int)) := HBC.out.cell 0; have b1 : w5.cell? ⟨N, 1, none⟩ = some (.int .u64 (S.win : Int)) := HBC.out.cell 1; have b2 : w5.cell? ⟨N, 2, none⟩ = some (.int .i64 (S.subs : Int)) := HBC.out.cell 2; have b3 : w5.cell? ⟨N, 3, none⟩ = some (.int .u64 (S.clock : Int)) := HBC.out.cell 3; have b4 : w5.cell? ⟨N, 4, none⟩ = some (.slice ao n c) := HBC.out.cell 4
        go_wp2_with (first
          | (go_at_call 40; refine (HKN.out _ HVC.out).mono ?_; rintro e w3 ⟨m, rfl, hp3⟩; have hw3 := hp3.out.1; have HCw3 := hide (HCUR.out.trans (hw3.mono HCUR.out.size)); have HBw3 := hide (HBC.out.keep hw3); have HVw3 := hide (HVC.out.keep hw3); clear HCUR HBC HVC b0 b1 b2 b3 b4; have HCUR := HCw3; have HBC := HBw3; have HVC := HVw3; have b0 : w3.cell? ⟨N, 0, none⟩ = some (.int .i64 (S.tries : Int)) := HBC.out.cell 0; have b1 : w3.cell? ⟨N, 1, none⟩ = some (.int .u64 (S.win : Int)) := HBC.out.cell 1; have b2 : w3.cell? ⟨N, 2, none⟩ = some (.int .i64 (S.subs : Int)) := HBC.out.cell 2; have b3 : w3.cell? ⟨N, 3, none⟩ = some (.int .u64 (S.clock : Int)) := HBC.out.cell 3; have b4 : w3.cell? ⟨N, 4, none⟩ = some (.slice ao n c) := HBC.out.cell 4; clear hw3 HCw3 HBw3 HVw3))
        go_ret
        exact ⟨rfl, HCUR.out⟩
      · rw [if_neg hf]
        have hf' : ¬ (S.subs : Int) ≤ (kn : Int) := by omega
        clear hf hi
        go_enter Try.func37, Try.ntmps37
        go_upto_region 3 with fail
        obtain ⟨N, hN⟩ : ∃ N, N = w.heap.size := ⟨_, rfl⟩
        rw [← hN] at HB ⊢
        clear hN
        have HVC := hide (HV.out.keep HBN.out)
        generalize w.alloc (.cells #[.int .i64 (S.tries : Int), .int .u64 (S.win : Int), .int .i64 (S.subs : Int), .int .u64 (S.clock : Int), .slice ao n c] 32) = u at *
        have HCUR := HBN
        have HBC := HB
        have b0 : u.cell? ⟨N, 0, none⟩ = some (.int .i64 (S.tries : Int)) := HBC.out.cell 0; have b1 : u.cell? ⟨N, 1, none⟩ = some (.int .u64 (S.win : Int)) := HBC.out.cell 1; have b2 : u.cell? ⟨N, 2, none⟩ = some (.int .i64 (S.subs : Int)) := HBC.out.cell 2; have b3 : u.cell? ⟨N, 3, none⟩ = some (.int .u64 (S.clock : Int)) := HBC.out.cell 3; have b4 : u.cell? ⟨N, 4, none⟩ = some (.slice ao n c) := HBC.out.cell 4
        go_upto_region 5 with (first
          | (go_at_call 38; refine (HAT.out _).mono ?_; rintro e w1 ⟨rfl, hw1⟩; have HCw1 := hide (HCUR.out.trans (hw1.mono HCUR.out.size)); have HBw1 := hide (HBC.out.keep hw1); have HVw1 := hide (HVC.out.keep hw1); clear HCUR HBC HVC b0 b1 b2 b3 b4; have HCUR := HCw1; have HBC := HBw1; have HVC := HVw1; have b0 : w1.cell? ⟨N, 0, none⟩ = some (.int .i64 (S.tries : Int)) := HBC.out.cell 0; have b1 : w1.cell? ⟨N, 1, none⟩ = some (.int .u64 (S.win : Int)) := HBC.out.cell 1; have b2 : w1.cell? ⟨N, 2, none⟩ = some (.int .i64 (S.subs : Int)) := HBC.out.cell 2; have b3 : w1.cell? ⟨N, 3, none⟩ = some (.int .u64 (S.clock : Int)) := HBC.out.cell 3; have b4 : w1.cell? ⟨N, 4, none⟩ = some (.slice ao n c) := HBC.out.cell 4; clear hw1 HCw1 HBw1 HVw1)
          | (go_at_call 39; refine (HOP.out _ HVC.out).mono ?_; rintro e w2 ⟨rfl, hw2⟩; have HCw2 := hide (HCUR.out.trans (hw2.mono HCUR.out.size)); have HBw2 := hide (HBC.out.keep hw2); have HVw2 := hide (HVC.out.keep hw2); clear HCUR HBC HVC b0 b1 b2 b3 b4; have HCUR := HCw2; have HBC := HBw2; have HVC := HVw2; have b0 : w2.cell? ⟨N, 0, none⟩ = some (.int .i64 (S.tries : Int)) := HBC.out.cell 0; have b1 : w2.cell? ⟨N, 1, none⟩ = some (.int .u64 (S.win : Int)) := HBC.out.cell 1; have b2 : w2.cell? ⟨N, 2, none⟩ = some (.int .i64 (S.subs : Int)) := HBC.out.cell 2; have b3 : w2.cell? ⟨N, 3, none⟩ = some (.int .u64 (S.clock : Int)) := HBC.out.cell 3; have b4 : w2.cell? ⟨N, 4, none⟩ = some (.slice ao n c) := HBC.out.cell 4; clear hw2 HCw2 HBw2 HVw2))
        go_quiet (fail)
        have HCUR2 := hide (below_drewN HCUR.out nq)
        have HBC2 := hide (HBC.out.drewN nq)
        have HVC2 : Hid (VSee (w2.drewN nq) ao L) := hide HVC.out
        clear HCUR HBC HVC b0 b1 b2 b3 b4
        generalize w2.drewN nq = w5 at *
        have HCUR := HCUR2
        have HBC := HBC2
        have HVC := HVC2
        clear HCUR2 HBC2 HVC2
        have b0 : w5.cell? ⟨N, 0, none⟩ = some (.int .i64 (S.tries : Int)) := HBC.out.cell 0; have b1 : w5.cell? ⟨N, 1, none⟩ = some (.int .u64 (S.win : Int)) := HBC.out.cell 1; have b2 : w5.cell? ⟨N, 2, none⟩ = some (.int .i64 (S.subs : Int)) := HBC.out.cell 2; have b3 : w5.cell? ⟨N, 3, none⟩ = some (.int .u64 (S.clock : Int)) := HBC.out.cell 3; have b4 : w5.cell? ⟨N, 4, none⟩ = some (.slice ao n c) := HBC.out.cell 4
        go_wp2_with (first
          | (go_at_call 40; refine (HKN.out _ HVC.out).mono ?_; rintro e w3 ⟨m, rfl, hp3⟩; have hw3 := hp3.out.1; have HCw3 := hide (HCUR.out.trans (hw3.mono HCUR.out.size)); have HBw3 := hide (HBC.out.keep hw3); have HVw3 := hide (HVC.out.keep hw3); clear HCUR HBC HVC b0 b1 b2 b3 b4; have HCUR := HCw3; have HBC := HBw3; have HVC := HVw3; have b0 : w3.cell? ⟨N, 0, none⟩ = some (.int .i64 (S.tries : Int)) := HBC.out.cell 0; have b1 : w3.cell? ⟨N, 1, none⟩ = some (.int .u64 (S.win : Int)) := HBC.out.cell 1; have b2 : w3.cell? ⟨N, 2, none⟩ = some (.int .i64 (S.subs : Int)) := HBC.out.cell 2; have b3 : w3.cell? ⟨N, 3, none⟩ = some (.int .u64 (S.clock : Int)) := HBC.out.cell 3; have b4 : w3.cell? ⟨N, 4, none⟩ = some (.slice ao n c) := HBC.out.cell 4; clear hw3 HCw3 HBw3 HVw3))
        go_ret
        exact ⟨rfl, HCUR.out⟩
    | some i =>
      rw [hi] at HOP
      simp only
      obtain ⟨v, hv, hg, hv0, hvo⟩ := HIS.out i hi
      have hin := HIL.out i hi
      rw [← HN.out] at hin
      have hct := HEA.out v hg
      have HVV := hide hv
      rw [hv]
      simp only [Option.getD_some]
      obtain ⟨vb, vc⟩ := v
      simp only at hct ⊢
      unfold idxV rcl at *
      have hin' : (i : Int) < (n : Int) := by omega
      have hi0 : (0 : Int) ≤ (i : Int) := by omega
      clear hi hv hg hv0 hvo hin
      by_cases hf : vc = S.tries
      · rw [if_pos hf]
        have hf' : (S.tries : Int) ≤ (vc : Int) := by omega
        clear hf hct
        go_enter Try.func37, Try.ntmps37
        go_upto_region 3 with fail
        obtain ⟨N, hN⟩ : ∃ N, N = w.heap.size := ⟨_, rfl⟩
        rw [← hN] at HB ⊢
        clear hN
        have HVC := hide (HV.out.keep HBN.out)
        generalize w.alloc (.cells #[.int .i64 (S.tries : Int), .int .u64 (S.win : Int), .int .i64 (S.subs : Int), .int .u64 (S.clock : Int), .slice ao n c] 32) = u at *
        have HCUR := HBN
        have HBC := HB
        have b0 : u.cell? ⟨N, 0, none⟩ = some (.int .i64 (S.tries : Int)) := HBC.out.cell 0; have b1 : u.cell? ⟨N, 1, none⟩ = some (.int .u64 (S.win : Int)) := HBC.out.cell 1; have b2 : u.cell? ⟨N, 2, none⟩ = some (.int .i64 (S.subs : Int)) := HBC.out.cell 2; have b3 : u.cell? ⟨N, 3, none⟩ = some (.int .u64 (S.clock : Int)) := HBC.out.cell 3; have b4 : u.cell? ⟨N, 4, none⟩ = some (.slice ao n c) := HBC.out.cell 4
        go_upto_region 5 with (first
          | (go_at_call 38; refine (HAT.out _).mono ?_; rintro e w1 ⟨rfl, hw1⟩; have HCw1 := hide (HCUR.out.trans (hw1.mono HCUR.out.size)); have HBw1 := hide (HBC.out.keep hw1); have HVw1 := hide (HVC.out.keep hw1); clear HCUR HBC HVC b0 b1 b2 b3 b4; have HCUR := HCw1; have HBC := HBw1; have HVC := HVw1; have b0 : w1.cell? ⟨N, 0, none⟩ = some (.int .i64 (S.tries : Int)) := HBC.out.cell 0; have b1 : w1.cell? ⟨N, 1, none⟩ = some (.int .u64 (S.win : Int)) := HBC.out.cell 1; have b2 : w1.cell? ⟨N, 2, none⟩ = some (.int .i64 (S.subs : Int)) := HBC.out.cell 2; have b3 : w1.cell? ⟨N, 3, none⟩ = some (.int .u64 (S.clock : Int)) := HBC.out.cell 3; have b4 : w1.cell? ⟨N, 4, none⟩ = some (.slice ao n c) := HBC.out.cell 4; clear hw1 HCw1 HBw1 HVw1)
          | (go_at_call 39; refine (HOP.out _ HVC.out).mono ?_; rintro e w2 ⟨rfl, hw2⟩; have HCw2 := hide (HCUR.out.trans (hw2.mono HCUR.out.size)); have HBw2 := hide (HBC.out.keep hw2); have HVw2 := hide (HVC.out.keep hw2); clear HCUR HBC HVC b0 b1 b2 b3 b4; have HCUR := HCw2; have HBC := HBw2; have HVC := HVw2; have b0 : w2.cell? ⟨N, 0, none⟩ = some (.int .i64 (S.tries : Int)) := HBC.out.cell 0; have b1 : w2.cell? ⟨N, 1, none⟩ = some (.int .u64 (S.win : Int)) := HBC.out.cell 1; have b2 : w2.cell? ⟨N, 2, none⟩ = some (.int .i64 (S.subs : Int)) := HBC.out.cell 2; have b3 : w2.cell? ⟨N, 3, none⟩ = some (.int .u64 (S.clock : Int)) := HBC.out.cell 3; have b4 : w2.cell? ⟨N, 4, none⟩ = some (.slice ao n c) := HBC.out.cell 4; clear hw2 HCw2 HBw2 HVw2))
        obtain ⟨bb, off, hao, q0, q1, q2⟩ := HVC.out.at HVV.out
        subst hao
        simp only at q0 q1 q2
        go_quiet (fail)
        go_wp2
        go_ret
        exact ⟨rfl, below_drewN HCUR.out _⟩
      · rw [if_neg hf]
        have hf' : ¬ (S.tries : Int) ≤ (vc : Int) := by omega
        clear hf hct
        go_enter Try.func37, Try.ntmps37
        go_upto_region 3 with fail
        obtain ⟨N, hN⟩ : ∃ N, N = w.heap.size := ⟨_, rfl⟩
        rw [← hN] at HB ⊢
        clear hN
        have HVC := hide (HV.out.keep HBN.out)
        generalize w.alloc (.cells #[.int .i64 (S.tries : Int), .int .u64 (S.win : Int), .int .i64 (S.subs : Int), .int .u64 (S.clock : Int), .slice ao n c] 32) = u at *
        have HCUR := HBN
        have HBC := HB
        have b0 : u.cell? ⟨N, 0, none⟩ = some (.int .i64 (S.tries : Int)) := HBC.out.cell 0; have b1 : u.cell? ⟨N, 1, none⟩ = some (.int .u64 (S.win : Int)) := HBC.out.cell 1; have b2 : u.cell? ⟨N, 2, none⟩ = some (.int .i64 (S.subs : Int)) := HBC.out.cell 2; have b3 : u.cell? ⟨N, 3, none⟩ = some (.int .u64 (S.clock : Int)) := HBC.out.cell 3; have b4 : u.cell? ⟨N, 4, none⟩ = some (.slice ao n c) := HBC.out.cell 4
        go_upto_region 5 with (first
          | (go_at_call 38; refine (HAT.out _).mono ?_; rintro e w1 ⟨rfl, hw1⟩; have HCw1 := hide (HCUR.out.trans (hw1.mono HCUR.out.size)); have HBw1 := hide (HBC.out.keep hw1); have HVw1 := hide (HVC.out.keep hw1); clear HCUR HBC HVC b0 b1 b2 b3 b4; have HCUR := HCw1; have HBC := HBw1; have HVC := HVw1; have b0 : w1.cell? ⟨N, 0, none⟩ = some (.int .i64 (S.tries : Int)) := HBC.out.cell 0; have b1 : w1.cell? ⟨N, 1, none⟩ = some (.int .u64 (S.win : Int)) := HBC.out.cell 1; have b2 : w1.cell? ⟨N, 2, none⟩ = some (.int .i64 (S.subs : Int)) := HBC.out.cell 2; have b3 : w1.cell? ⟨N, 3, none⟩ = some (.int .u64 (S.clock : Int)) := HBC.out.cell 3; have b4 : w1.cell? ⟨N, 4, none⟩ = some (.slice ao n c) := HBC.out.cell 4; clear hw1 HCw1 HBw1 HVw1)
          | (go_at_call 39; refine (HOP.out _ HVC.out).mono ?_; rintro e w2 ⟨rfl, hw2⟩; have HCw2 := hide (HCUR.out.trans (hw2.mono HCUR.out.size)); have HBw2 := hide (HBC.out.keep hw2); have HVw2 := hide (HVC.out.keep hw2); clear HCUR HBC HVC b0 b1 b2 b3 b4; have HCUR := HCw2; have HBC := HBw2; have HVC := HVw2; have b0 : w2.cell? ⟨N, 0, none⟩ = some (.int .i64 (S.tries : Int)) := HBC.out.cell 0; have b1 : w2.cell? ⟨N, 1, none⟩ = some (.int .u64 (S.win : Int)) := HBC.out.cell 1; have b2 : w2.cell? ⟨N, 2, none⟩ = some (.int .i64 (S.subs : Int)) := HBC.out.cell 2; have b3 : w2.cell? ⟨N, 3, none⟩ = some (.int .u64 (S.clock : Int)) := HBC.out.cell 3; have b4 : w2.cell? ⟨N, 4, none⟩ = some (.slice ao n c) := HBC.out.cell 4; clear hw2 HCw2 HBw2 HVw2))
        obtain ⟨bb, off, hao, q0, q1, q2⟩ := HVC.out.at HVV.out
        subst hao
        simp only at q0 q1 q2
        go_quiet (fail)
        have HCUR2 := hide (below_drewN HCUR.out nq)
        have HBC2 := hide (HBC.out.drewN nq)
        have HVC2 : Hid (VSee (w2.drewN nq) (some ⟨bb, off, none⟩) L) := hide HVC.out
        clear HCUR HBC HVC b0 b1 b2 b3 b4 q0 q1 q2
        generalize w2.drewN nq = w5 at *
        have HCUR := HCUR2
        have HBC := HBC2
        have HVC := HVC2
        clear HCUR2 HBC2 HVC2
        have b0 : w5.cell? ⟨N, 0, none⟩ = some (.int .i64 (S.tries : Int)) := HBC.out.cell 0; have b1 : w5.cell? ⟨N, 1, none⟩ = some (.int .u64 (S.win : Int)) := HBC.out.cell 1; have b2 : w5.cell? ⟨N, 2, none⟩ = some (.int .i64 (S.subs : Int)) := HBC.out.cell 2; have b3 : w5.cell? ⟨N, 3, none⟩ = some (.int .u64 (S.clock : Int)) := HBC.out.cell 3; have b4 : w5.cell? ⟨N, 4, none⟩ = some (.slice (some ⟨bb, off, none⟩) n c) := HBC.out.cell 4
        go_wp2_with (first
          | (go_at_call 40; refine (HKN.out _ HVC.out).mono ?_; rintro e w3 ⟨m, rfl, hp3⟩; have hw3 := hp3.out.1; have HCw3 := hide (HCUR.out.trans (hw3.mono HCUR.out.size)); have HBw3 := hide (HBC.out.keep hw3); have HVw3 := hide (HVC.out.keep hw3); clear HCUR HBC HVC b0 b1 b2 b3 b4; have HCUR := HCw3; have HBC := HBw3; have HVC := HVw3; have b0 : w3.cell? ⟨N, 0, none⟩ = some (.int .i64 (S.tries : Int)) := HBC.out.cell 0; have b1 : w3.cell? ⟨N, 1, none⟩ = some (.int .u64 (S.win : Int)) := HBC.out.cell 1; have b2 : w3.cell? ⟨N, 2, none⟩ = some (.int .i64 (S.subs : Int)) := HBC.out.cell 2; have b3 : w3.cell? ⟨N, 3, none⟩ = some (.int .u64 (S.clock : Int)) := HBC.out.cell 3; have b4 : w3.cell? ⟨N, 4, none⟩ = some (.slice (some ⟨bb, off, none⟩) n c) := HBC.out.cell 4; clear hw3 HCw3 HBw3 HVw3))
        go_ret
        exact ⟨rfl, HCUR.out⟩
end Go.Proofs.Ytbhlciaigadlkaa
