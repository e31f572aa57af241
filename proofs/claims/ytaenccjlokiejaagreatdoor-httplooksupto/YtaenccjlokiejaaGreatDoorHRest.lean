/- The program's readRest. -/
import Derived.Test.YtaenccjlokiejaaGreatDoorHHead
namespace Go.Proofs.YtaenccjlokiejaaGreatDoor
open Go.RowKit Go.Shelf

theorem linesR_fuel : ∀ (n m : Nat) (l : U) (k : Nat), l.length < n → l.length < m → linesR n l k = linesR m l k
  | 0, _, _, _, h, _ => by omega
  | _, 0, _, _, _, h => by omega
  | n + 1, m + 1, l, k, h1, h2 => by
    unfold linesR
    cases hc : cutR l with
    | none => rfl
    | some x =>
      obtain ⟨a, r⟩ := x
      have hz := congrArg List.length (cutR_some hc).2
      simp at hz
      simp only
      rw [linesR_fuel n m r _ (by omega) (by omega)]
theorem restR_eq (raw : U) (k : Nat) (hk : k ≤ raw.length) : (match hdR raw k with
    | .error e => restR raw k = .error e
    | .ok (h, j) => j ≤ raw.length ∧ restR raw k = if raw.length - j = h.len.getD 0 then .ok (h.fs, raw.drop j) else .error (155, j)) := by
  have hl : (raw.drop k).length = raw.length - k := List.length_drop
  have h := headR_lines ((raw.drop k).length + 1) (raw.drop k) k ⟨[], none⟩ (by omega)
  rw [linesR_fuel _ (raw.length + 1) _ _ (by omega) (by omega)] at h
  unfold restR hdR
  cases hd : hdL (linesR (raw.length + 1) (raw.drop k) k) ⟨[], none⟩ k with
  | error e => rw [hd] at h; simp only at h; rw [h]
  | ok x =>
    obtain ⟨h', j⟩ := x
    rw [hd] at h
    obtain ⟨h1, h2, h3⟩ := h
    have e : (raw.drop k).drop (j - k) = raw.drop j := by rw [List.drop_drop]; congr 1; omega
    rw [e] at h1
    refine ⟨by omega, ?_⟩
    rw [h1]
    simp only [List.length_drop]
def restV (v : Value) : Except (Nat × Nat) (List Fl × U) → Value
  | .error (e, p) => .tuple #[.slice none 0 0, .string { data := #[] }, .int .i64 (e : Int), .int .i64 (p : Int)]
  | .ok (_, b) => .tuple #[v, .string (str b), .int .i64 0, .int .i64 0]
def RestPost (w : World) (R : Except (Nat × Nat) (List Fl × U)) (e : Ending) (w' : World) : Prop :=
  ∃ v, e = .returned (restV v R) ∧ (match R with | .error x => x.1 ≠ 0 | .ok (fs, _) => FOwn 78 w' w.heap.size v fs ∧ fs.length ≤ 64) ∧ Below w.heap.size w w'
set_option maxHeartbeats 2000000 in
set_option maxRecDepth 100000 in
theorem readRest_any (raw : U) (k0 : Nat) (w : World) (hraw : raw.length ≤ 32768) (hk0 : k0 ≤ raw.length) (E : Env w) :
    Calls Tryz.prog 39 #[.string (str raw), .int .i64 (k0 : Int)] w fun e w' => RestPost w (restR raw k0) e w' := by
  have HC := hide (readHead_any raw k0 w hraw hk0 E)
  have HQ := restR_eq raw k0 hk0
  obtain ⟨R, hR⟩ : ∃ R, R = restR raw k0 := ⟨_, rfl⟩
  rw [← hR] at HQ ⊢
  obtain ⟨D, hD⟩ : ∃ D, D = hdR raw k0 := ⟨_, rfl⟩
  rw [← hD] at HQ HC
  have hzr := str_size raw
  have HRAW := hide hraw
  have HSL := hide (fun j hj => cut_from raw j (j : Int) rfl hj)
  clear hR hD E
  cases D with
  | error x =>
    obtain ⟨er, p⟩ := x
    simp only at HQ
    have HRR := hide HQ
    generalize str raw = s at *
    clear HQ hk0
    go_enter Tryz.func39, Tryz.ntmps39
    go_wp2_with fail
    refine HC.out.mono ?_
    rintro e w1 ⟨v, rfl, hne, hb⟩
    have hne : er ≠ 0 := hne
    have hni : ((er : Int) != 0) = true := by rw [bne_iff_ne]; omega
    have HB := hide hb
    have HNE := hide hne
    unfold hdV
    clear hb HC hne
    go_wp2
    refine bodyPost_ret (v := restV (.slice none 0 0) (.error (er, p))) (by simp [results, Tryz.results39, go_sem, restV]) rfl ?_
    rw [HRR.out]
    exact ⟨.slice none 0 0, rfl, HNE.out, HB.out.alloc (by exact HB.out.size) _⟩
  | ok x =>
    obtain ⟨h, j⟩ := x
    obtain ⟨hj, HQ⟩ := HQ
    have HRR := hide HQ
    have hsl := HSL.out j hj
    have hdl : (raw.drop j).length = raw.length - j := List.length_drop
    obtain ⟨n, hn⟩ : ∃ n, n = raw.length - j := ⟨_, rfl⟩
    rw [← hn] at hdl
    have hzb := str_size (raw.drop j)
    rw [hdl] at hzb
    have HCL := hide (fun W => clone_any (raw.drop j) W (by omega))
    have HN := hide hn
    obtain ⟨ln, hln⟩ : ∃ ln, ln = h.len.getD 0 := ⟨_, rfl⟩
    have HLN := hide hln
    generalize hs2 : str (raw.drop j) = s2 at *
    have HS2 := hide hs2
    generalize str raw = s at *
    clear HQ hk0 hn hdl hs2 HSL
    go_enter Tryz.func39, Tryz.ntmps39
    go_wp2_with fail
    refine HC.out.mono ?_
    rintro e w1 ⟨v, rfl, ⟨ho, h64⟩, hb⟩
    have HB := hide hb
    have HO := hide ho
    have H64 := hide h64
    obtain ⟨ao, cap, hv, _, _, _⟩ := ho.shape
    subst hv
    rw [show hdV (.slice ao h.fs.length cap) (.ok (h, j)) = .tuple #[.agg #[.slice ao h.fs.length cap, .int .i64 (ln : Int), .bool h.len.isSome], .int .i64 0, .int .i64 (j : Int)] from by rw [hln]; rfl]
    clear hb ho h64 HC hln
    go_upto_region 4 with fail
    have c0 := HdB.cells (new_at w1 (.cells #[.slice ao h.fs.length cap, .int .i64 (ln : Int), .bool h.len.isSome] 96) _ rfl)
    have HB1 := hide (HB.out.alloc HB.out.size (.cells #[.slice ao h.fs.length cap, .int .i64 (ln : Int), .bool h.len.isSome] 96))
    have HO1 : Hid (FOwn 78 (w1.alloc (.cells #[.slice ao h.fs.length cap, .int .i64 (ln : Int), .bool h.len.isSome] 96)) w.heap.size (.slice ao h.fs.length cap) h.fs) := HO.out.keep (below_new _ _)
    generalize hbq : w1.heap.size = bq at *
    generalize w1.alloc (.cells #[.slice ao h.fs.length cap, .int .i64 (ln : Int), .bool h.len.isSome] 96) = w2 at *
    obtain ⟨c0, c1, c2⟩ := c0
    clear c2 HB HO
    by_cases hq : n = ln
    · have HQ2 : Hid (R = .ok (h.fs, raw.drop j)) := by show _ = _; rw [HRR.out, if_pos (by rw [← HN.out, ← HLN.out]; exact hq)]
      have hbe : ((n : Int) != (ln : Int)) = false := by rw [bne_eq_false_iff_eq]; omega
      clear hq
      go_upto_region 7 with fail
      go_region_held3 (fun W => W.cell? ⟨bq, 0, none⟩ = some (.slice ao h.fs.length cap)) (go_keep) (first
        | (go_at_call 40; refine (HCL.out _).mono ?_; rintro e w3 ⟨rfl, hb3⟩; have HB3 : Hid (Below w2.heap.size w2 w3) := below_undrewN1 hb3; clear hb3; have c3 := cell_kept c0 HB3.out))
      go_wp2
      refine bodyPost_ret (v := .tuple #[.slice ao h.fs.length cap, .string s2, .int .i64 0, .int .i64 0]) (by simp [results, Tryz.results39, go_sem]) rfl ?_
      rw [HQ2.out]
      exact ⟨.slice ao h.fs.length cap, by rw [← HS2.out]; rfl, ⟨HO1.out.keep HB3.out, H64.out⟩, HB1.out.trans (HB3.out.mono HB1.out.size)⟩
    · have HQ2 : Hid (R = .error (155, j)) := by show _ = _; rw [HRR.out, if_neg (by rw [← HN.out, ← HLN.out]; exact hq)]
      have hbe : ((n : Int) != (ln : Int)) = true := by rw [bne_iff_ne]; omega
      clear hq
      go_wp2
      refine bodyPost_ret (v := restV (.slice none 0 0) (.error (155, j))) (by simp [results, Tryz.results39, go_sem, restV]) rfl ?_
      rw [HQ2.out]
      exact ⟨.slice none 0 0, rfl, (by show (155 : Nat) ≠ 0; decide), HB1.out⟩
end Go.Proofs.YtaenccjlokiejaaGreatDoor
