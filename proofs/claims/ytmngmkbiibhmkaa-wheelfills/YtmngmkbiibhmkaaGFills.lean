/- What a reading of arguments gives of a Fill. -/
import Derived.Test.YtmngmkbiibhmkaaVOpen
import Derived.Deep.RegionHeld
import Derived.Test.YtmngmkbiibhmkaaGDuo
import Derived.Test.YtmngmkbiibhmkaaVActs
import Derived.Deep.DeepCutAuto
import Derived.Test.YtmngmkbiibhmkaaGAsk
namespace Go.Proofs.Ytmngmkbiibhmkaa
open Go.ChangeShapes Go.WideShapes Go.ChangeAt Go.RowKit

theorem ce_fill : Try.prog.cellsOf 37 = 5 := by kernel_rfl
set_option maxRecDepth 100000 in
/-- A Fill, opened. -/
theorem open_fill {H : Type} {enc : TypeId × Value → H} {W : World} {base : Nat} {v : Value} {d : DataW H} {p : List MemPlace} (hval : Value.okWide Try.prog W .any base 37 v) (h : DataW.Trod enc Try.prog W 0 (fun _ => true) true 37 v d p) :
    ∃ (now fi st : Nat) (m : Int) (tt : Nat), v = .agg #[.int .u64 (now : Int), .int .u64 (fi : Int), .int .u64 (st : Int), .int .i64 m, .int .u64 (tt : Int)] ∧ now < 18446744073709551616 ∧ fi < 18446744073709551616 ∧ st < 18446744073709551616 ∧ tt < 18446744073709551616 ∧ (∀ x ∈ p, x.block < W.heap.size) := by
  obtain ⟨cs, rfl, hsz⟩ := okWide_struct Try.underlying37 hval
  rw [ce_fill] at hsz
  obtain ⟨fuel, hf⟩ := h
  have hlt := DataW.trod_lt fuel _ _ _ hf
  obtain ⟨ys, n, _, hx, _, hlen, hfs⟩ := DataW.trod_struct Try.underlying37 hf
  obtain ⟨cs⟩ := cs
  match cs, hsz, ys, hlen, hx, hfs with
  | [v0, v1, v2, v3, v4], _, [y0, y1, y2, y3, y4], _, hx, hfs =>
    have j0 := hfs 0 _ rfl
    have j1 := hfs 1 _ rfl
    have j2 := hfs 2 _ rfl
    have j3 := hfs 3 _ rfl
    have j4 := hfs 4 _ rfl
    simp [ce_u64, ce_int, Value.cells] at j0 j1 j2 j3 j4
    obtain ⟨z0, rfl, b0⟩ := field_u64 j0
    obtain ⟨z1, rfl, b1⟩ := field_u64 j1
    obtain ⟨z2, rfl, b2⟩ := field_u64 j2
    obtain ⟨z3, e3, _, _⟩ := DataW.trod_int Try.underlying3 j3
    obtain ⟨z4, rfl, b4⟩ := field_u64 j4
    simp only [List.cons.injEq, and_true] at e3
    subst e3
    exact ⟨z0, z1, z2, z3, z4, rfl, b0, b1, b2, b4, hlt⟩
end Go.Proofs.Ytmngmkbiibhmkaa
/- The law's changes: a call on both wheels. -/
namespace Go.Proofs.Ytmngmkbiibhmkaa
open Go.RowKit Go.Shelf Go.Maps

theorem Held.bl {G : List Nat} {w w' : World} {g : Nat} {cs : List Value} {t : TypeId} (h : Held G w w') (hb : Bl w g cs t) (hg : g ∈ G) : Bl w' g cs t := (h g hg).trans hb
theorem own_form {w : World} {B n c : Nat} {ao : Option Addr} {xs : List Nat} (h : Own w B (.slice ao n c) xs) : n = xs.length ∧ Row w ao xs ∧ (0 < n → ∃ g, ao = some ⟨g, 0, none⟩) := by
  obtain ⟨ao', c', e, _, hr⟩ := h.read
  injection e with e1 e2 e3
  subst e1
  refine ⟨e2, hr, fun hn => ?_⟩
  rcases h.2 with ⟨e, h0⟩ | ⟨g, cap, cur, e, _⟩
  · omega
  · injection e with e1 e2 e3
    exact ⟨g, e1⟩
theorem Own.setv {w : World} {B g n c : Nat} {xs : List Nat} (h : Own w B (.slice (some ⟨g, 0, none⟩) n c) xs) (i y : Nat) : Own (w.setCell ⟨g, i, none⟩ (.int .u64 (y : Int))) B (.slice (some ⟨g, 0, none⟩) n c) (xs.set i y) := by
  have hn := (own_form h).1
  subst hn
  unfold Own at h ⊢
  have := (World.ownsRow.stored h i (.int .u64 (y : Int))).1
  rw [List.length_set]
  rw [show (xs.map uv).set i (.int .u64 (y : Int)) = (xs.set i y).map uv by rw [List.map_set]; rfl] at this
  exact this
theorem Own.frz {w : World} {B g n c : Nat} {xs : List Nat} (h : Own w B (.slice (some ⟨g, 0, none⟩) n c) xs) (i : Nat) : w.frozen? ⟨g, i, none⟩ = false := by
  rcases h.2 with ⟨e, _⟩ | ⟨g', cap, cur, e, _, hb, _⟩
  · cases e
  · injection e with e1 e2 e3
    cases e1
    exact frozen_of_row w g i _ _ hb
/-- The row of what was told, written over. -/
structure CI (u wr : World) (wp rp nw : Nat) (L : List Tm) (lo : Option Addr) (ln lc A : Nat) : Prop where
  ex : ∃ xs : List Nat, Own wr u.heap.size (.slice lo ln lc) xs
  duo : Duo u wr wp rp nw nw L L (vb (.slice lo ln lc) ++ [A])
theorem CI.set {u wr : World} {wp rp nw : Nat} {L : List Tm} {g ln lc A : Nat} (h : CI u wr wp rp nw L (some ⟨g, 0, none⟩) ln lc A) (i y : Nat) : CI u (wr.setCell ⟨g, i, none⟩ (.int .u64 (y : Int))) wp rp nw L (some ⟨g, 0, none⟩) ln lc A := by
  obtain ⟨⟨xs, h1⟩, h2⟩ := h
  exact ⟨⟨_, h1.setv i y⟩, h2.apart (Fr.setCell [g] wr g i _ (by simp)) (fun b hb => List.mem_append_left _ (mem_vb.2 (by rw [List.mem_singleton.1 hb]; rfl))) (fun b hb => by rw [List.mem_singleton.1 hb]; exact (h1.lt g rfl).1)⟩
set_option maxHeartbeats 4000000 in
set_option maxRecDepth 100000 in
theorem changes_any (wp rp now : Nat) (L : List Tm) (k : Int) (id a : Nat) (u w : World) (h : Duo u w wp rp now now L L []) (hid : id < 18446744073709551616) (ha : a < 18446744073709551616) :
    Calls Try.prog 10 #[pw wp, pw rp, .agg #[.int .i64 k, .int .u64 (id : Int), .int .u64 (a : Int)]] w fun e w' => e = .returned (.bool true) ∧ Hid (∃ now' L', Duo u w' wp rp now' now' L' L' []) := by
  have HB0 := hide (Bl.new w #[.int .i64 k, .int .u64 (id : Int), .int .u64 (a : Int)] 33)
  have D0 := hide (h.fresh (below_new w (.cells #[.int .i64 k, .int .u64 (id : Int), .int .u64 (a : Int)] 33)) (G' := [w.heap.size]) (fun g hg => .inr (by rw [List.mem_singleton.1 hg]; exact Nat.le_refl _)))
  have HOK : Hid (L.length ≤ 8192 ∧ Rise L ∧ ∀ p ∈ L, now < p.2) := hide (by
    obtain ⟨S, hs⟩ := h.ok
    exact ⟨hs.len, hs.rise, fun p hp => (hs.big p hp).2.2⟩)
  have HID := hide hid
  have HA := hide ha
  clear h hid ha
  unfold pw
  go_enter Try.func10, Try.ntmps10
  go_upto_region 1 with fail
  obtain ⟨A, hA⟩ : ∃ A, A = w.heap.size := ⟨_, rfl⟩
  rw [← hA] at HB0 D0 ⊢
  clear hA
  generalize w.alloc (.cells #[.int .i64 k, .int .u64 (id : Int), .int .u64 (a : Int)] 33) = w0 at *
  have b0 : w0.cell? ⟨A, 0, none⟩ = some (.int .i64 k) := HB0.out.cell 0
  have b1 : w0.cell? ⟨A, 1, none⟩ = some (.int .u64 (id : Int)) := HB0.out.cell 1
  have b2 : w0.cell? ⟨A, 2, none⟩ = some (.int .u64 (a : Int)) := HB0.out.cell 2
  have HG0 : Hid (∀ (W : World), Bl W A [.int .i64 k, .int .u64 (id : Int), .int .u64 (a : Int)] 33 → ∀ g ∈ [A], g < W.heap.size) := hide fun W hW g hg => by rw [List.mem_singleton.1 hg]; exact hW.lt
  by_cases h1 : k = 1
  · subst h1
    have HC1 := hide (add_d (D0.out.drewN 1) (HG0.out _ (HB0.out.drewN 1)) id a HID.out HA.out)
    have HC2 : Hid (∀ W, Duo u W wp rp now now (addL now L id a) L [A] → (∀ g ∈ [A], g < W.heap.size) → Calls Try.prog 15 #[pw rp, .int .u64 (id : Int), .int .u64 (a : Int)] W fun e w' => e = .returned (.int .i64 (addE now L id a : Int)) ∧ Duo u w' wp rp now now (addL now L id a) (addL now L id a) [A] ∧ Held [A] W w') := hide fun W hW hg => radd_d hW hg HOK.out.1 id a
    generalize addL now L id a = L1 at *
    generalize addE now L id a = e1 at *
    unfold pw at HC1 HC2
    go_upto_region 3 with fail
    go_region_held (fun W => W.cell? ⟨A, 1, none⟩ = some (.int .u64 (id : Int)) ∧ W.cell? ⟨A, 2, none⟩ = some (.int .u64 (a : Int))) (go_keep) (first
      | (go_at_call 13; refine (num_any _ _).mono ?_; rintro e wx ⟨rfl, hwx⟩; have hwy := hwx.symm; subst hwy; clear hwx)
      | (go_at_call 14; refine HC1.out.mono ?_; rintro e w4 ⟨rfl, hd4, hh4⟩; have HB4 := hide (hh4.bl (HB0.out.drewN 1) (by simp)); have c1 : w4.cell? ⟨A, 1, none⟩ = some (.int .u64 (id : Int)) := HB4.out.cell 1; have c2 : w4.cell? ⟨A, 2, none⟩ = some (.int .u64 (a : Int)) := HB4.out.cell 2; have D4 := hide hd4; clear hd4 hh4)
      | (go_at_call 15; refine (HC2.out w4 D4.out (HG0.out _ HB4.out)).mono ?_; rintro e w5 ⟨rfl, hd5, hh5⟩; have HB5 := hide (hh5.bl HB4.out (by simp)); have f1 : w5.cell? ⟨A, 1, none⟩ = some (.int .u64 (id : Int)) := HB5.out.cell 1; have f2 : w5.cell? ⟨A, 2, none⟩ = some (.int .u64 (a : Int)) := HB5.out.cell 2; have D5 := hide hd5; clear hd5 hh5))
    all_goals
      (try go_wp2_with fail)
      go_ret
      exact ⟨rfl, now, L1, D5.out.fresh (Below.refl _ _) (fun g hg => by cases hg)⟩
  have hk1 : (k == 1) = false := by simpa using h1
  by_cases h2 : k = 2
  · subst h2
    have HC1 := hide (remove_d (D0.out.drewN 1) (HG0.out _ (HB0.out.drewN 1)) id HID.out)
    have HC2 : Hid (∀ W, Duo u W wp rp now now (tdel id L) L [A] → (∀ g ∈ [A], g < W.heap.size) → Calls Try.prog 26 #[pw rp, .int .u64 (id : Int)] W fun e w' => e = .returned (.int .i64 (remE L id : Int)) ∧ Duo u w' wp rp now now (tdel id L) (tdel id L) [A] ∧ Held [A] W w') := hide fun W hW hg => rremove_d hW hg HOK.out.1 HOK.out.2.1 id
    generalize tdel id L = L1 at *
    generalize remE L id = e1 at *
    unfold pw at HC1 HC2
    go_upto_region 5 with fail
    go_region_held (fun W => W.cell? ⟨A, 1, none⟩ = some (.int .u64 (id : Int))) (go_keep) (first
      | (go_at_call 13; refine (num_any _ _).mono ?_; rintro e wx ⟨rfl, hwx⟩; have hwy := hwx.symm; subst hwy; clear hwx)
      | (go_at_call 23; refine HC1.out.mono ?_; rintro e w4 ⟨rfl, hd4, hh4⟩; have HB4 := hide (hh4.bl (HB0.out.drewN 1) (by simp)); have c1 : w4.cell? ⟨A, 1, none⟩ = some (.int .u64 (id : Int)) := HB4.out.cell 1; have D4 := hide hd4; clear hd4 hh4)
      | (go_at_call 26; refine (HC2.out w4 D4.out (HG0.out _ HB4.out)).mono ?_; rintro e w5 ⟨rfl, hd5, hh5⟩; have HB5 := hide (hh5.bl HB4.out (by simp)); have f1 : w5.cell? ⟨A, 1, none⟩ = some (.int .u64 (id : Int)) := HB5.out.cell 1; have D5 := hide hd5; clear hd5 hh5))
    all_goals
      (try go_wp2_with fail)
      go_ret
      exact ⟨rfl, now, L1, D5.out.fresh (Below.refl _ _) (fun g hg => by cases hg)⟩
  have hk2 : (k == 2) = false := by simpa using h2
  by_cases h4 : k = 4
  · subst h4
    have HC1 := hide (advance_d D0.out (HG0.out _ HB0.out) a HA.out)
    have HC2 : Hid (∀ W G, Duo u W wp rp (max now a) now (advL a L) L G → (∀ g ∈ G, g < W.heap.size) → Calls Try.prog 20 #[pw rp, .int .u64 (a : Int)] W fun e w' => ∃ ao n c, e = .returned (.tuple #[.slice ao n c, .int .i64 (if a < now then 70 else 0)]) ∧ Own w' W.heap.size (.slice ao n c) (told a L) ∧ Duo u w' wp rp (max now a) (max now a) (advL a L) (advL a L) G ∧ Held G W w') := hide fun W G hW hg => radvance_d hW hg HOK.out.1 HOK.out.2.1 HOK.out.2.2 a
    have HTL : Hid ((told a L).length ≤ 8192) := hide (by
      rw [told_due, List.length_map]
      exact Nat.le_trans (dueL_len a L) HOK.out.1)
    generalize told a L = T at *
    generalize advL a L = L1 at *
    generalize max now a = nw at *
    obtain ⟨er, her⟩ : ∃ er : Int, er = (if a < now then 70 else 0) := ⟨_, rfl⟩
    rw [← her] at HC1 HC2
    clear her
    unfold pw at HC1 HC2
    go_upto_region 9 with (first
      | (go_at_call 19; refine HC1.out.mono ?_; rintro e w4 ⟨lo, ln, lc, rfl, ho4, hd4, hh4⟩; have HB4 := hide (hh4.bl HB0.out (by simp)); have c2 : w4.cell? ⟨A, 2, none⟩ = some (.int .u64 (a : Int)) := HB4.out.cell 2; have D4 := hide hd4; have O4 := hide ho4; clear hd4 hh4 ho4 b0 b1 b2)
      | (go_at_call 20; refine (HC2.out w4 _ D4.out (fun g hg => by rcases List.mem_append.1 hg with hg | hg; exact (O4.out.lt g (mem_vb.1 hg)).2; exact HG0.out _ HB4.out g hg)).mono ?_; rintro e w5 ⟨mo, mn, mc, rfl, ho5, hd5, hh5⟩; have D5 := hide hd5; have O5 := hide ho5; have O4b := hide (O4.out.same fun g hg => hh5 g (List.mem_append_left _ (mem_vb.2 hg))); clear hd5 hh5 ho5))
    obtain ⟨hln, hrl, _⟩ := own_form O4b.out
    obtain ⟨hmn, hrm, _⟩ := own_form O5.out
    have HLN := hide hln
    have HMN := hide hmn
    have HRL := hide hrl
    have HRM := hide hrm
    have hl8 : (ln : Int) ≤ 8192 := by have := HTL.out; omega
    have hm8 : (mn : Int) ≤ 8192 := by have := HTL.out; omega
    have HLM : Hid (ln = mn) := hide (by omega)
    have HUS : Hid (u.heap.size ≤ w0.heap.size) := hide D0.out.bel.size
    clear hln hmn hrl hrm
    go_wp2_with (first
      | (go_at_call 13; refine (num_any _ _).mono ?_; rintro e wx ⟨rfl, hwx⟩; have hwy := hwx.symm; subst hwy; clear hwx)
      | (go_at_call 21; refine (ids_any _ _ _ _ _ _ T T w5 HRL.out HRM.out HLN.out HMN.out (by omega)).mono ?_; rw [decide_eq_true rfl]; rintro e w6 ⟨rfl, q, hw6⟩; have HCI : Hid (CI u w6 wp rp nw L1 lo ln lc A) := hide (by rw [hw6]; exact ⟨⟨T, (O4b.out.lower HUS.out).same fun _ _ => rfl⟩, D5.out.drewN q⟩); clear hw6))
    go_loopw [12] (fun v12 wr => ∃ i : Nat, i ≤ ln ∧ v12 = .int .i64 (i : Int) ∧ Hid (CI u wr wp rp nw L1 lo ln lc A)) (fun v12 _ => ln - (intOf v12).toNat)
    case atStart => exact ⟨0, by omega, rfl, HCI⟩
    case round =>
      clear HCI D4 D5 O4 O4b O5 HB4 HRL HRM HC1 HC2 HB0 D0
      obtain ⟨i, hi, rfl, HI⟩ := hrel
      by_cases hil : i < ln
      · have hil' : (i : Int) < (ln : Int) := by omega
        obtain ⟨xs, hx⟩ := HI.out.ex
        obtain ⟨hxl, hrow, hg⟩ := own_form hx
        obtain ⟨g, hlo⟩ := hg (by omega)
        subst hlo
        have hc : wr.cell? ⟨g, i, none⟩ = some (.int .u64 ((xs.getD i 0 : Nat) : Int)) := by
          have := hrow.cell i (by omega)
          rw [Nat.zero_add] at this
          exact this
        have hf := hx.frz i
        have HI2 : Hid (CI u (wr.setCell ⟨g, i, none⟩ (.int .u64 77)) wp rp nw L1 (some ⟨g, 0, none⟩) ln lc A) := hide (HI.out.set i 77)
        generalize xs.getD i 0 = y at *
        clear hx hxl hrow
        go_wp2_with fail
        go_roundw
        case rel => exact ⟨i + 1, by omega, by simp, HI2⟩
        case measure => simp [intOf]; omega
      · have hil' : ¬ (i : Int) < (ln : Int) := by omega
        obtain ⟨xs, hx⟩ := HI.out.ex
        have HXL := hide (own_form hx).1
        have HOK2 := hide (hx.keep (below_new wr (.cells #[.int .u64 78, .int .u64 79] 22)))
        have HX := hide hx
        have HSZ : Hid (u.heap.size ≤ (wr.alloc (.cells #[.int .u64 78, .int .u64 79] 22)).heap.size) := by show _ ≤ _; have := HI.out.duo.bel.size; simp; omega
        have HR2 : Hid (Row (wr.alloc (.cells #[.int .u64 78, .int .u64 79] 22)) (some ⟨wr.heap.size, 0, none⟩) [78, 79]) := hide (row_two wr 78 79 22)
        clear hx
        go_wp2_with (at_builtin; refine wpList_append_nums rfl _ _ 48 48 Try.underlying48 Try.underlying48 rfl u.heap.size (.slice lo ln lc) xs rfl HOK2.out (some ⟨wr.heap.size, 0, none⟩) 2 2 [78, 79] rfl rfl HR2.out (by have := HXL.out; simp only [List.length_cons, List.length_nil]; omega) HSZ.out ?_; intro v7 w7 h7 g7 l7; obtain ⟨ao7, n7, c7, rfl⟩ := own_shape h7; have hn7 := (own_form h7).1; rw [List.length_append] at hn7; have heq : ((n7 : Int) == (mn : Int) + 2) = true := (by have h1 := HXL.out; have h2 := HLM.out; simp only [List.length_cons, List.length_nil] at hn7; simp; omega); have D7 := hide ((HI.out.duo.apart (fr_new_grown _ g7) (fun b hb => List.mem_append_left _ hb) (fun b hb => (HX.out.lt b (mem_vb.1 hb)).1)).fresh (Below.refl _ _) (G' := []) (fun g hg => by cases hg)); clear h7 g7 l7 hn7)
        go_ret
        exact ⟨rfl, nw, L1, D7.out⟩
  have hk4 : (k == 4) = false := by simpa using h4
  go_wp2_with fail
  go_ret
  exact ⟨rfl, now, L, D0.out.fresh (Below.refl _ _) (fun g hg => by cases hg)⟩
end Go.Proofs.Ytmngmkbiibhmkaa
/- WheelFills, walked. -/
namespace Go.Proofs.Ytmngmkbiibhmkaa
open Go.RowKit Go.Shelf Go.Maps

theorem Duo.startG {w w1 w2 w3 : World} {wp rp now : Nat} {G : List Nat} (h : MineG w1 w2 wp now [] G) (hw : Below w.heap.size w w1) (hr : RefAt w3 rp now (.slice none 0 0) []) (hge : w2.heap.size ≤ rp) (hb : Below w2.heap.size w2 w3) (hG : ∀ g ∈ G, g < w2.heap.size) : Duo w w3 wp rp now now [] [] G := by
  obtain ⟨⟨Y, h1, h2, h4⟩, h3⟩ := h
  have hs := hw.size
  have hs2 := h3.size
  refine ⟨⟨Y, _, h1.below hb, hr, fun b hm => ⟨Nat.le_trans hs (h2 b hm), h4 b hm⟩, ⟨by omega, fun hg => by have := hG rp hg; omega, fun hm => by have := h1.lt rp hm; omega⟩, fun g hg => by cases hg⟩, (hw.trans (h3.mono hs)).trans (hb.mono (by omega))⟩
set_option maxHeartbeats 8000000 in
set_option maxRecDepth 100000 in
theorem wheelFills_walk (now fi st : Nat) (m : Int) (tt : Nat) (w : World) (hn : now < 18446744073709551616) (hf : fi < 18446744073709551616) (hs : st < 18446744073709551616) (ht : tt < 18446744073709551616) :
    Calls Try.prog 5 #[.agg #[.int .u64 (now : Int), .int .u64 (fi : Int), .int .u64 (st : Int), .int .i64 m, .int .u64 (tt : Int)]] w fun e w' => e = .returned (.bool true) ∧ Below w.heap.size w w' := by
  have HB0 := hide (Bl.new w #[.int .u64 (now : Int), .int .u64 (fi : Int), .int .u64 (st : Int), .int .i64 m, .int .u64 (tt : Int)] 37)
  have HBW := hide (below_new w (.cells #[.int .u64 (now : Int), .int .u64 (fi : Int), .int .u64 (st : Int), .int .i64 m, .int .u64 (tt : Int)] 37))
  have HN := hide hn
  have HT := hide ht
  have hf' : (fi : Int) ≤ 18446744073709551615 := by omega
  have hs' : (st : Int) ≤ 18446744073709551615 := by omega
  have HREF : Hid (∀ W, Calls Try.prog 8 #[.int .u64 (now : Int)] W fun e w' => ∃ rp, e = .returned (pw rp) ∧ RefAt w' rp now (.slice none 0 0) [] ∧ W.heap.size ≤ rp ∧ Below W.heap.size W w') := hide fun W => rnew_any now W
  clear hn hf hs ht
  go_enter Try.func5, Try.ntmps5
  go_upto_region 1 with fail
  obtain ⟨N, hN⟩ : ∃ N, N = w.heap.size := ⟨_, rfl⟩
  rw [← hN] at HB0 ⊢
  have HNN := hide hN
  clear hN
  generalize w.alloc (.cells #[.int .u64 (now : Int), .int .u64 (fi : Int), .int .u64 (st : Int), .int .i64 m, .int .u64 (tt : Int)] 37) = w1 at *
  have b0 : w1.cell? ⟨N, 0, none⟩ = some (.int .u64 (now : Int)) := HB0.out.cell 0
  have HNEW := hide (new_g now w1 [N] HN.out (fun g hg => by rw [List.mem_singleton.1 hg]; exact HB0.out.lt))
  unfold pw at HNEW HREF
  go_upto_region 5 with (first
    | (go_at_call 7; refine HNEW.out.mono ?_; rintro e w2 ⟨wp, rfl, hm⟩; have M2 := hide hm; have HB2 := hide (HB0.out.keep hm.bel); have c0 : w2.cell? ⟨N, 0, none⟩ = some (.int .u64 (now : Int)) := HB2.out.cell 0; clear hm)
    | (go_at_call 8; refine (HREF.out w2).mono ?_; rintro e w3 ⟨rp, rfl, hr1, hr2, hr3⟩; have D3 := hide (Duo.startG M2.out HBW.out hr1 hr2 hr3 (fun g hg => by rw [List.mem_singleton.1 hg]; exact HB2.out.lt)); have HB3 := hide (HB2.out.keep hr3); clear hr1 hr2 hr3 b0 c0 M2)
    | (go_at_call 9; refine (live_true w3).mono ?_; rintro e w4 ⟨rfl, hb4⟩; have D4 := hide (D3.out.below hb4); have HB4 := hide (HB3.out.keep hb4); clear hb4 D3 HB3))
  have b3 : w4.cell? ⟨N, 3, none⟩ = some (.int .i64 m) := HB4.out.cell 3
  have f3 := HB4.out.frozen 3
  clear HB0 HB2 HNEW HREF
  go_upto_if 26 with fail
  go_cut [26] (fun v26 wx => ∃ (z : Bool) (mm : Int), v26 = .bool z ∧ mm ≤ 8194 ∧ Hid (Duo w wx wp rp now now [] [] [N]) ∧ Hid (Bl wx N [.int .u64 (now : Int), .int .u64 (fi : Int), .int .u64 (st : Int), .int .i64 mm, .int .u64 (tt : Int)] 37))
  case first =>
    by_cases hm : 8194 < m
    · have HB5 : Hid (Bl (w4.setCell ⟨N, 3, none⟩ (.int .i64 8194)) N [.int .u64 (now : Int), .int .u64 (fi : Int), .int .u64 (st : Int), .int .i64 8194, .int .u64 (tt : Int)] 37) := hide (HB4.out.set 3 _)
      have D5 : Hid (Duo w (w4.setCell ⟨N, 3, none⟩ (.int .i64 8194)) wp rp now now [] [] [N]) := hide (D4.out.apart (Fr.setCell [N] w4 N 3 _ (by simp)) (fun b hb => hb) (fun b hb => by rw [List.mem_singleton.1 hb, HNN.out]; exact Nat.le_refl _))
      go_wp2_with fail
      go_meet
      case rel => exact ⟨_, 8194, rfl, by omega, D5, HB5⟩
    · have hm' : m ≤ 8194 := by omega
      go_wp2_with fail
      go_meet
      case rel => exact ⟨_, m, rfl, hm', D4, HB4⟩
  case rest =>
    obtain ⟨z, mm, rfl, hmm, D5, HB5⟩ := hcut
    clear D4 HB4 b3 f3
    have b3 : wc.cell? ⟨N, 3, none⟩ = some (.int .i64 mm) := HB5.out.cell 3
    go_wp2_with fail
    go_loopw [5] (fun v5 wr => ∃ i : Nat, i ≤ 8194 ∧ v5 = .int .i64 (i : Int) ∧ Hid (∃ L, Duo w wr wp rp now now L L [N]) ∧ Hid (Bl wr N [.int .u64 (now : Int), .int .u64 (fi : Int), .int .u64 (st : Int), .int .i64 mm, .int .u64 (tt : Int)] 37)) (fun v5 _ => 8194 - (intOf v5).toNat)
    case atStart => exact ⟨0, by omega, rfl, ⟨[], D5.out⟩, HB5⟩
    case round =>
      clear D5 HB5 b3
      obtain ⟨i, hi, rfl, HI, HB⟩ := hrel
      obtain ⟨L, hI⟩ := HI.out
      have D0 := hide hI
      have HF := hide hI.facts
      have b1 : wr.cell? ⟨N, 1, none⟩ = some (.int .u64 (fi : Int)) := HB.out.cell 1
      have b2 : wr.cell? ⟨N, 2, none⟩ = some (.int .u64 (st : Int)) := HB.out.cell 2
      have b3 : wr.cell? ⟨N, 3, none⟩ = some (.int .i64 mm) := HB.out.cell 3
      have b4 : wr.cell? ⟨N, 4, none⟩ = some (.int .u64 (tt : Int)) := HB.out.cell 4
      clear HI hI
      by_cases him : (i : Int) < mm
      · have hi8 : (i : Int) ≤ 8194 := by omega
        obtain ⟨a, ha, hab⟩ : ∃ a : Nat, IntKind.u64.wrap ((fi : Int) + IntKind.u64.wrap ((st : Int) * ((i : Int) % 512))) = (a : Int) ∧ a < 18446744073709551616 := by
          rw [IntKind.wrap_u64]
          generalize (fi : Int) + IntKind.u64.wrap ((st : Int) * ((i : Int) % 512)) = q
          have h1 := Int.emod_nonneg q (show (18446744073709551616 : Int) ≠ 0 by omega)
          have h2 := Int.emod_lt_of_pos q (show (0 : Int) < 18446744073709551616 by omega)
          exact ⟨(q % 18446744073709551616).toNat, by omega, by omega⟩
        have HG0 : Hid (∀ W, Bl W N [.int .u64 (now : Int), .int .u64 (fi : Int), .int .u64 (st : Int), .int .i64 mm, .int .u64 (tt : Int)] 37 → ∀ g ∈ [N], g < W.heap.size) := hide fun W hW g hg => by rw [List.mem_singleton.1 hg]; exact hW.lt
        have HC1 := hide (add_d D0.out (HG0.out _ HB.out) i a (by omega) hab)
        have HC2 : Hid (∀ W, Duo w W wp rp now now (addL now L i a) L [N] → (∀ g ∈ [N], g < W.heap.size) → Calls Try.prog 15 #[pw rp, .int .u64 (i : Int), .int .u64 (a : Int)] W fun e w' => e = .returned (.int .i64 (addE now L i a : Int)) ∧ Duo w w' wp rp now now (addL now L i a) (addL now L i a) [N] ∧ Held [N] W w') := hide fun W hW hg => radd_d hW hg HF.out.len i a
        generalize addL now L i a = L1 at *
        generalize addE now L i a = e1 at *
        unfold pw at HC1 HC2
        have HIM := hide him
        go_upto_region 12 with fail
        clear ha hab
        go_wp2_with (first
          | (go_at_call 13; refine (num_any _ _).mono ?_; rintro e wx ⟨rfl, hwx⟩; have hwy := hwx.symm; subst hwy; clear hwx)
          | (go_at_call 14; refine HC1.out.mono ?_; rintro e w5 ⟨rfl, hd5, hh5⟩; have D5 := hide hd5; have HB5 := hide (hh5.bl HB.out (by simp)); clear hd5 hh5)
          | (go_at_call 15; refine (HC2.out w5 D5.out (HG0.out _ HB5.out)).mono ?_; rintro e w6 ⟨rfl, hd6, hh6⟩; have D6 := hide hd6; have HB6 := hide (hh6.bl HB5.out (by simp)); clear hd6 hh6))
        go_roundw
        case rel => exact ⟨i + 1, by have := HIM.out; omega, by simp, ⟨L1, D6.out⟩, HB6⟩
        case measure => simp [intOf]; have := HIM.out; omega
      · have HLE : Hid (∀ W, Duo w W wp rp now now L L [N] → Calls Try.prog 16 #[pw wp] W fun e w' => e = .returned (.int .i64 (L.length : Int)) ∧ w' = W) := hide fun W hW => len_d hW
        have HSP : Hid (∀ W, Duo w W wp rp now now L L [N] → Calls Try.prog 17 #[pw wp] W fun e w' => e = .returned (spreadV now L) ∧ Below W.heap.size W w') := hide fun W hW => spread_d hW
        have HRS : Hid (∀ W, Duo w W wp rp now now L L [N] → Calls Try.prog 18 #[pw rp] W fun e w' => e = .returned (spreadV now L) ∧ Below W.heap.size W w') := hide fun W hW => rspread_d hW HF.out.len HF.out.big HF.out.nowb
        have HOK : Hid (L.length ≤ 8192 ∧ Rise L ∧ ∀ p ∈ L, now < p.2) := hide (by
          obtain ⟨S, hs⟩ := D0.out.ok
          exact ⟨hs.len, hs.rise, fun p hp => (hs.big p hp).2.2⟩)
        have HC1 : Hid (∀ W, Duo w W wp rp now now L L [N] → (∀ g ∈ [N], g < W.heap.size) → Calls Try.prog 19 #[pw wp, .int .u64 (tt : Int)] W fun e w' => ∃ ao n c, e = .returned (.tuple #[.slice ao n c, .int .i64 (if tt < now then 70 else 0)]) ∧ Own w' W.heap.size (.slice ao n c) (told tt L) ∧ Duo w w' wp rp (max now tt) now (advL tt L) L (vb (.slice ao n c) ++ [N]) ∧ Held [N] W w') := hide fun W hW hg => advance_d hW hg tt HT.out
        have HC2 : Hid (∀ W G, Duo w W wp rp (max now tt) now (advL tt L) L G → (∀ g ∈ G, g < W.heap.size) → Calls Try.prog 20 #[pw rp, .int .u64 (tt : Int)] W fun e w' => ∃ ao n c, e = .returned (.tuple #[.slice ao n c, .int .i64 (if tt < now then 70 else 0)]) ∧ Own w' W.heap.size (.slice ao n c) (told tt L) ∧ Duo w w' wp rp (max now tt) (max now tt) (advL tt L) (advL tt L) G ∧ Held G W w') := hide fun W G hW hg => radvance_d hW hg HOK.out.1 HOK.out.2.1 HOK.out.2.2 tt
        have HWH : Hid (∀ W G, Duo w W wp rp (max now tt) (max now tt) (advL tt L) (advL tt L) G → Calls Try.prog 12 #[pw wp, pw rp] W fun e w' => e = .returned (.bool true) ∧ Below W.heap.size W w') := hide fun W G h => whole_any wp rp _ _ G w W h
        have HTL : Hid ((told tt L).length ≤ 8192) := hide (by
          rw [told_due, List.length_map]
          exact Nat.le_trans (dueL_len tt L) HOK.out.1)
        generalize told tt L = T at *
        generalize advL tt L = L1 at *
        generalize max now tt = nw at *
        obtain ⟨er, her⟩ : ∃ er : Int, er = (if tt < now then 70 else 0) := ⟨_, rfl⟩
        rw [← her] at HC1 HC2
        clear her
        obtain ⟨ao, c, c0, c1⟩ := D0.out.cells
        obtain ⟨n, hn⟩ : ∃ n, n = L.length := ⟨_, rfl⟩
        rw [← hn] at c0 HLE
        have hn8 : (n : Int) ≤ 8192 := by have := HF.out.len; omega
        obtain ⟨y0, y1, y2, y3, y4, hsv⟩ := spread_form now L
        have hse := five_eq y0 y1 y2 y3 y4
        rw [hsv] at HSP HRS
        clear hsv hn b1 b2
        unfold pw at HLE HSP HRS HC1 HC2 HWH
        have D1 := hide (D0.out.drewN 1)
        go_upto_region 14 with fail
        go_region_held (fun W => W.cell? ⟨rp, 0, none⟩ = some (.slice ao n c)) (go_keep) (first
          | (go_at_call 16; refine (HLE.out _ D1.out).mono ?_; rintro e wx ⟨rfl, hwx⟩; have hwy := hwx.symm; subst hwy; clear hwx)
          | (go_at_call 17; refine (HSP.out _ D1.out).mono ?_; rintro e w6 ⟨rfl, hb6⟩; have hb6' : Below wr.heap.size wr w6 := (below_drewN (Below.refl wr.heap.size wr) 1).trans hb6; have d0 := cell_kept c0 hb6'; have D6 := hide (D0.out.below hb6'); have HB6 := hide (HB.out.keep hb6'); clear hb6 hb6')
          | (go_at_call 18; refine (HRS.out w6 D6.out).mono ?_; rintro e w7 ⟨rfl, hb7⟩; have f0 := cell_kept d0 hb7; have D7 := hide (D6.out.below hb7); have HB7 := hide (HB6.out.keep hb7); have g4 : w7.cell? ⟨N, 4, none⟩ = some (.int .u64 (tt : Int)) := HB7.out.cell 4; clear hb7))
        all_goals
          go_upto_region 18 with (first
            | (go_at_call 19; refine (HC1.out w7 D7.out (fun g hg => by rw [List.mem_singleton.1 hg]; exact HB7.out.lt)).mono ?_; rintro e w8 ⟨lo, ln, lc, rfl, ho8, hd8, hh8⟩; have HB8 := hide (hh8.bl HB7.out (by simp)); have k4 : w8.cell? ⟨N, 4, none⟩ = some (.int .u64 (tt : Int)) := HB8.out.cell 4; have D8 := hide hd8; have O8 := hide ho8; clear hd8 hh8 ho8)
            | (go_at_call 20; refine (HC2.out w8 _ D8.out (fun g hg => by rcases List.mem_append.1 hg with hg | hg; exact (O8.out.lt g (mem_vb.1 hg)).2; rw [List.mem_singleton.1 hg]; exact HB8.out.lt)).mono ?_; rintro e w9 ⟨mo, mn, mc, rfl, ho9, hd9, hh9⟩; have D9 := hide hd9; have O9 := hide ho9; have O8b := hide (O8.out.same fun g hg => hh9 g (List.mem_append_left _ (mem_vb.2 hg))); clear hd9 hh9 ho9))
          obtain ⟨hln, hrl, _⟩ := own_form O8b.out
          obtain ⟨hmn, hrm, _⟩ := own_form O9.out
          have HLN := hide hln
          have HMN := hide hmn
          have HRL := hide hrl
          have HRM := hide hrm
          have hl8 : (ln : Int) ≤ 8192 := by have := HTL.out; omega
          clear hln hmn hrl hrm
          go_wp2_with (first
            | (go_at_call 13; refine (num_any _ _).mono ?_; rintro e wx ⟨rfl, hwx⟩; have hwy := hwx.symm; subst hwy; clear hwx)
            | (go_at_call 21; refine (ids_any _ _ _ _ _ _ T T w9 HRL.out HRM.out HLN.out HMN.out (by omega)).mono ?_; rw [decide_eq_true rfl]; rintro e w10 ⟨rfl, q, hw10⟩; have D10 : Hid (Duo w w10 wp rp nw nw L1 L1 (vb (.slice lo ln lc) ++ [N])) := hide (by rw [hw10]; exact D9.out.drewN q); clear hw10)
            | (go_at_call 12; refine (HWH.out w10 _ D10.out).mono ?_; rintro e w11 ⟨rfl, hb11⟩; have HBF := hide (D10.out.bel.trans (hb11.mono D10.out.bel.size)); clear hb11))
          go_ret
          exact ⟨rfl, HBF.out⟩
end Go.Proofs.Ytmngmkbiibhmkaa
/- WheelFills answers true for every time, first time, step, number and time to go on to: a wheel that is filled, up to its limit and beyond, and gone on, answers as the document's does; and it leaves its argument as it was. -/
namespace Go.Proofs.Ytmngmkbiibhmkaa
open Go.ChangeShapes Go.WideShapes Go.ChangeAt Go.RowKit
open Go.ChangeMaps (open_string shut_string)

set_option maxRecDepth 100000 in
theorem wheelFills_contract (H : Type) (enc : TypeId × Value → H) (W : World) (base : Nat) (args : Array Value) (ds gs : List (DataW H)) (before : List MemPlace)
    (hval : ∀ (j : Nat) t v, Try.f5.params[j]? = some t → args[j]? = some v → Value.okWide Try.prog W .any base t v)
    (hW : DataW.Whole enc Try.prog Try.f5.params.toList Rows.wheelFillsSpec.vars false W args.toList ds gs before) :
    Calls Try.prog 5 args W fun e W' => ∃ v, e = .returned v ∧ Rows.wheelFillsSpec.post enc Try.prog Try.f5 false true false false W args v W' := by
  have hW' := hW
  obtain ⟨p, q, hA0, hV, rfl, hfz, hnd⟩ := hW
  have hA : DataW.TrodAll enc Try.prog W 0 (fun _ => true) true Try.f5.params.toList args.toList ds p := hA0
  rw [Try.params5] at hA hval
  obtain ⟨v0, vs0, d0, ds0, p0, q0, hargs, rfl, rfl, h0, r0⟩ := trodAll_cons hA
  obtain ⟨rfl, rfl, rfl⟩ := trodAll_nil r0
  obtain rfl : args = #[v0] := by cases args; simp_all
  obtain ⟨rfl, rfl⟩ := trodVars_none hV
  have k0 := h0
  obtain ⟨now0, fi0, st0, m0, tt0, rfl, hn0, hf0, hs0, ht0, lt0⟩ := open_fill (hval 0 37 v0 rfl rfl) h0
  clear hA0
  refine (wheelFills_walk now0 fi0 st0 m0 tt0 W hn0 hf0 hs0 ht0).mono fun e W' ⟨he, bel⟩ => ?_
  subst he
  exact ⟨_, rfl, _, _, _, [], _, [], hW', trodAll_mk1 (shut_bool Try.underlying4 _), (trodAll_cons_mk (Below.trod laidOut (by kernel_rfl) (of_decide_eq_true (by kernel_rfl)) k0 bel lt0) trodAll_mk0), rfl, bel.frame _, fun h => by cases h⟩

set_option maxRecDepth 100000 in
theorem wheelFills_lifted (os : Os) (started : os.Started) (H : Type) (enc : TypeId × Value → H) :
    ReturnsInHanded {} Try.checked os 5 .any (Rows.wheelFillsSpec.pre6 enc Try.prog Try.f5 Rows.wheelFillsRow.domain false) (Rows.wheelFillsSpec.post enc Try.prog Try.f5 false true false false) := by
  refine returnsInHanded_of_change_sized (C := Try.checked) ownKnobs started (by kernel_rfl) Try.func5
    (ChangeSpec.witness6 (enc := enc) (C := Try.checked) false ⟨#[], #[.agg #[.int .u64 0, .int .u64 0, .int .u64 0, .int .i64 0, .int .u64 0]], []⟩ 8 (by kernel_rfl) (by kernel_rfl) (by kernel_rfl) (by kernel_rfl)) ?_
  intro W base args ds gs before hval hW _ _ _
  exact wheelFills_contract H enc W base args ds gs before hval hW

theorem wheelFills_holds : Rows.WheelFillsSaid :=
  OpenClaim.holds_of_wide 5 Try.f5 rfl rfl rfl rfl rfl rfl rfl ⟨rfl, rfl, rfl, rfl, rfl⟩ rfl rfl rfl rfl rfl (by kernel_rfl) Try.func5 (by kernel_rfl)
    (of_decide_eq_true (by kernel_rfl)) (by unfold Func.isWrapper; first | (rw [if_pos (by decide +kernel)]; kernel_rfl) | (rw [if_neg (by decide +kernel)]; exact ⟨rfl, rfl⟩))
    (fun os started H enc _ => wheelFills_lifted os started H enc)
#print axioms wheelFills_holds
end Go.Proofs.Ytmngmkbiibhmkaa
