/- The contract of play: a story on the program's disk alone. -/
import Derived.Test.YticbfcognnofbaaDCrash
import Derived.Test.YticbfcognnofbaaOpen3
import Derived.Deep.Slices
namespace Go.Proofs.Yticbfcognnofbaa
open Go.RowKit Go.Maps

structure Ac where
  kind : Int
  nm : Nm
  tn : Nm
  p : List Nat
  n : Int
  dir : Int
  ts : List Int
structure AOk (x : Ac) : Prop where
  nm : x.nm.length ≤ maxLen
  tn : x.tn.length ≤ maxLen
  pl : x.p.length ≤ 140737488351232
  pb : ∀ b ∈ x.p, b < 256
  n : x.n ≤ 9223372036854775807
  tl : x.ts.length * 8 ≤ 140737488351232
structure ASee (w : World) (ao : Option Addr) (l : List Ac) : Prop where
  cell : ∀ (i : Nat) x, l[i]? = some x → ∃ b off pao pc tao tc, ao = some ⟨b, off, none⟩ ∧ w.cell? ⟨b, off + i * 7, none⟩ = some (.int .i64 x.kind) ∧ w.cell? ⟨b, off + i * 7 + 1, none⟩ = some (.string (str x.nm)) ∧ w.cell? ⟨b, off + i * 7 + 2, none⟩ = some (.string (str x.tn)) ∧ w.cell? ⟨b, off + i * 7 + 3, none⟩ = some (.slice pao x.p.length pc) ∧ w.cell? ⟨b, off + i * 7 + 4, none⟩ = some (.int .i64 x.n) ∧ w.cell? ⟨b, off + i * 7 + 5, none⟩ = some (.int .i64 x.dir) ∧ w.cell? ⟨b, off + i * 7 + 6, none⟩ = some (.slice tao x.ts.length tc) ∧ Row w pao x.p ∧ IRow w tao x.ts
theorem ASee.keep {w w' : World} {ao : Option Addr} {l : List Ac} (h : ASee w ao l) (hb : Below w.heap.size w w') : ASee w' ao l := ⟨fun i x hx => by
  obtain ⟨b, off, pao, pc, tao, tc, h0, h1, h2, h3, h4, h5, h6, h7, h8, h9⟩ := h.cell i x hx
  exact ⟨b, off, pao, pc, tao, tc, h0, cell_kept h1 hb, cell_kept h2 hb, cell_kept h3 hb, cell_kept h4 hb, cell_kept h5 hb, cell_kept h6 hb, cell_kept h7 hb, h8.keep hb, h9.keep hb⟩⟩
/-- One act on plain data. -/
def act (S : DS) (x : Ac) : DS :=
  if x.kind = 1 then (create S x.nm).2 else if x.kind = 2 then (append S x.nm x.p).2 else if x.kind = 3 then (sync S x.nm).2 else if x.kind = 4 then (rename S x.nm x.tn).2 else if x.kind = 5 then (remove S x.nm).2 else if x.kind = 6 then (syncDir S).2 else if x.kind = 10 then arm S x.n else S
def acts (S : DS) (l : List Ac) : DS := l.foldl act S
theorem acts_snoc (S : DS) (l : List Ac) (x : Ac) : acts S (l ++ [x]) = act (acts S l) x := by simp [acts]
theorem acts_take {S : DS} {l : List Ac} {k : Nat} {x : Ac} (h : l[k]? = some x) : acts S (l.take (k + 1)) = act (acts S (l.take k)) x := by
  rw [List.take_add_one, h, Option.toList_some, acts_snoc]
theorem Dsk.outer {w w1 w' : World} {dp : Nat} {S : DS} (h : Dsk w1 w' dp S) (hb : Below w.heap.size w w1) : Dsk w w' dp S := by
  obtain ⟨L, h1, h2⟩ := h.rep
  exact ⟨⟨L, h1, fun b hm => Nat.le_trans hb.size (h2 b hm)⟩, h.ok, hb.trans (h.bel.mono hb.size)⟩
def PlayPost (fs : List Fi) (room : Int) (l : List Ac) (w : World) (e : Ending) (w' : World) : Prop :=
  (if newErr fs room = 0 then ∃ dp, e = .returned (.pointer (some ⟨dp, 0, none⟩)) ∧ Dsk w w' dp (acts (born fs room.toNat) l) else e = .returned (.pointer none)) ∧ Below w.heap.size w w'
set_option maxHeartbeats 8000000 in
set_option maxRecDepth 100000 in
theorem play_any (fao : Option Addr) (fn fc : Nat) (fs : List Fi) (room : Int) (aao : Option Addr) (an ac : Nat) (l : List Ac) (w : World) (hf : FSee w fao fs) (hfn : fn = fs.length) (hfl : fn * 40 ≤ 140737488351232) (hfs : ∀ f ∈ fs, f.1.length ≤ maxLen ∧ f.1.length ≤ 281474976710656 ∧ f.2.length ≤ 140737488355328) (hfb : ∀ f ∈ fs, ∀ x ∈ f.2, x < 256) (hr : room ≤ 9223372036854775807)
    (ha : ASee w aao l) (han : an = l.length) (hal : an ≤ 4611686018427387903) (hao : ∀ x ∈ l, AOk x) :
    Calls Try.prog 15 #[.agg #[.slice fao fn fc, .int .i64 room, .slice aao an ac]] w fun e w' => True ∧ PlayPost fs room l w e w' := by
  obtain ⟨PP, hPP⟩ : ∃ PP, PP = PlayPost fs room l w := ⟨_, rfl⟩
  rw [← hPP]
  have HPN : Hid (∀ w', newErr fs room ≠ 0 → Below w.heap.size w w' → PP (.returned (.pointer none)) w') := fun w' h1 h2 => by rw [hPP]; unfold PlayPost; rw [if_neg h1]; exact ⟨rfl, h2⟩
  have HPY : Hid (∀ dp w', newErr fs room = 0 → Dsk w w' dp (acts (born fs room.toNat) l) → PP (.returned (.pointer (some ⟨dp, 0, none⟩))) w') := fun dp w' h1 h2 => by rw [hPP]; unfold PlayPost; rw [if_pos h1]; exact ⟨⟨dp, rfl, h2⟩, h2.bel⟩
  clear hPP
  have HB := hide (Bl.new w #[.slice fao fn fc, .int .i64 room, .slice aao an ac] 28)
  have HU := hide (below_new w (.cells #[.slice fao fn fc, .int .i64 room, .slice aao an ac] 28))
  have HA := hide (ha.keep HU.out)
  have HC := hide (copied_any fao fn fc fs (w.alloc (.cells #[.slice fao fn fc, .int .i64 room, .slice aao an ac] 28)).drew ((hf.keep HU.out).keep (below_drewN (Below.refl _ _) 1)) hfn hfl (fun f hf => (hfs f hf).2.2))
  obtain ⟨N, hN⟩ : ∃ N, N = w.heap.size := ⟨_, rfl⟩
  have HFS := hide hfs
  have HFB := hide hfb
  have HAN := hide han
  have HAL := hide hal
  have HAO := hide hao
  have HR := hide hr
  clear hf hfn hfl hfs hfb hr ha han hal hao
  go_enter Try.func15, Try.ntmps15
  go_upto_region 1 with fail
  rw [← hN] at HB ⊢
  have HNW := hide hN
  clear hN
  generalize w.alloc (.cells #[.slice fao fn fc, .int .i64 room, .slice aao an ac] 28) = u at *
  have c0 : u.cell? ⟨N, 0, none⟩ = some (.slice fao fn fc) := HB.out.cell 0
  have c1 : u.cell? ⟨N, 1, none⟩ = some (.int .i64 room) := HB.out.cell 1
  by_cases h0 : newErr fs room = 0
  · have HNEW : Hid (∀ W vao m cap us, FOwn W u.heap.size (.slice vao m cap) fs us → Calls Try.prog 27 #[.slice vao m cap, .int .i64 room] W fun e w' => ∃ dp, e = .returned (.tuple #[.pointer (some ⟨dp, 0, none⟩), .int .i64 0]) ∧ Dsk W w' dp (born fs room.toNat)) := fun W vao m cap us hF => by
      have hm : m = fs.length ∧ m ≤ cap := by
        rcases hF.row.2 with ⟨e, e2⟩ | ⟨g, cap', cur, e, _, _, h3, _⟩
        · injection e with _ e3 e4; omega
        · injection e with _ e3 e4; omega
      exact new_dsk vao m cap fs room W hF.see hm.1 hm.2 HFS.out HFB.out HR.out h0
    have H0 := hide h0
    clear h0
    go_region_held (fun W => W.cell? ⟨N, 0, none⟩ = some (.slice fao fn fc) ∧ W.cell? ⟨N, 1, none⟩ = some (.int .i64 room)) (go_keep) (first | (go_at_call 31; refine HC.out.mono ?_; rintro e w1 ⟨vao, m, cap, rfl, ⟨us, hF⟩, hb⟩; have HF := hide hF; have hb1 := below_undrew hb; have HB1 := hide hb1; have d0 := cell_kept c0 hb1; have d1 := cell_kept c1 hb1; clear hF hb hb1 HC) | (go_at_call 27; refine (HNEW.out _ _ _ _ _ HF.out).mono ?_; rintro e w2 ⟨dp, rfl, hd⟩; have HD := hide hd; have e0 := cell_kept d0 hd.bel; have e1 := cell_kept d1 hd.bel; clear hd))
    clear e0 e1 d0 d1 c0 c1 HNEW HF
    go_wp2_with (first | (go_at_call 9; refine (num_any _ _).mono ?_; rintro e wx ⟨rfl, hwx⟩; subst hwx) | fail)
    have HUW1 : Hid (Below w.heap.size w w1) := HU.out.trans (HB1.out.mono HU.out.size)
    obtain ⟨S0, hS0⟩ : ∃ S0, S0 = born fs room.toNat := ⟨_, rfl⟩
    have HS0 := hide hS0
    rw [← hS0] at HD
    clear hS0
    go_loopw [5] (fun i wr => ∃ k : Nat, k ≤ an ∧ i = .int .i64 (k : Int) ∧ Hid (Dsk w1 wr dp (acts S0 (l.take k)))) (fun i _ => an - (intOf i).toNat)
    case atStart => exact ⟨0, Nat.zero_le _, rfl, HD.out⟩
    case round =>
      obtain ⟨k, hk, rfl, HDK⟩ := hrel
      have hBL : Bl wr N [.slice fao fn fc, .int .i64 room, .slice aao an ac] 28 := (HB.out.keep HB1.out).keep HDK.out.bel
      have n2 : wr.cell? ⟨N, 2, none⟩ = some (.slice aao an ac) := hBL.cell 2
      clear hBL
      by_cases hlt : k < an
      · obtain ⟨x, hx⟩ : ∃ x, l[k]? = some x := ⟨_, List.getElem?_eq_getElem (by rw [← HAN.out]; exact hlt)⟩
        obtain ⟨ab, aoff, pao, pc, tao, tc, rfl, x0, x1, x2, x3, x4, x5, x6, x8, x9⟩ := ((HA.out.keep HB1.out).keep HDK.out.bel).cell k x hx
        have HX := hide (HAO.out x (List.mem_of_getElem? hx))
        have HTK : Hid (acts S0 (l.take (k + 1)) = act (acts S0 (l.take k)) x) := acts_take hx
        generalize acts S0 (l.take k) = S at *
        obtain ⟨snm, hsnm⟩ : ∃ s, s = str x.nm := ⟨_, rfl⟩
        obtain ⟨stn, hstn⟩ : ∃ s, s = str x.tn := ⟨_, rfl⟩
        obtain ⟨pl, hpl⟩ : ∃ n, n = x.p.length := ⟨_, rfl⟩
        obtain ⟨tl, htl⟩ : ∃ n, n = x.ts.length := ⟨_, rfl⟩
        rw [← hsnm] at x1
        rw [← hstn] at x2
        rw [← hpl] at x3
        rw [← htl] at x6
        have HSNM := hide hsnm
        have HSTN := hide hstn
        have HPL := hide hpl
        have hki : (k : Int) < (an : Int) := by omega
        have hkb : (k : Int) + 1 ≤ 4611686018427387904 := by have := HAL.out; omega
        have hkd : x.kind = 1 ∨ x.kind = 2 ∨ x.kind = 3 ∨ x.kind = 4 ∨ x.kind = 5 ∨ x.kind = 6 ∨ x.kind = 10 ∨ (¬ x.kind = 1 ∧ ¬ x.kind = 2 ∧ ¬ x.kind = 3 ∧ ¬ x.kind = 4 ∧ ¬ x.kind = 5 ∧ ¬ x.kind = 6 ∧ ¬ x.kind = 10) := by omega
        have HKD := hide hkd
        clear hx hsnm hstn hpl htl hkd
        go_upto_region 8 with fail
        have HV := hide (Bl.new wr #[.int .i64 x.kind, .string snm, .string stn, .slice pao pl pc, .int .i64 x.n, .int .i64 x.dir, .slice tao tl tc] 41)
        have HBV := hide (below_new wr (.cells #[.int .i64 x.kind, .string snm, .string stn, .slice pao pl pc, .int .i64 x.n, .int .i64 x.dir, .slice tao tl tc] 41))
        have HDV := hide (HDK.out.below HBV.out)
        obtain ⟨M, hM⟩ : ∃ M, M = wr.heap.size := ⟨_, rfl⟩
        rw [← hM] at HV ⊢
        clear x0 x1 x2 x3 x4 x5 x6 x9 hM n2 HDK
        generalize wr.alloc (.cells #[.int .i64 x.kind, .string snm, .string stn, .slice pao pl pc, .int .i64 x.n, .int .i64 x.dir, .slice tao tl tc] 41) = wv at *
        have v0 : wv.cell? ⟨M, 0, none⟩ = some (.int .i64 x.kind) := HV.out.cell 0
        have v1 : wv.cell? ⟨M, 1, none⟩ = some (.string snm) := HV.out.cell 1
        have v2 : wv.cell? ⟨M, 2, none⟩ = some (.string stn) := HV.out.cell 2
        have v3 : wv.cell? ⟨M, 3, none⟩ = some (.slice pao pl pc) := HV.out.cell 3
        have v4 : wv.cell? ⟨M, 4, none⟩ = some (.int .i64 x.n) := HV.out.cell 4
        rcases HKD.out with hkd | hkd | hkd | hkd | hkd | hkd | hkd | hkd
        · have HC : Hid (Calls Try.prog 28 #[.pointer (some ⟨dp, 0, none⟩), .string snm] wv fun e w' => ∃ code, e = .returned (.int .i64 code) ∧ Dsk w1 w' dp (act S x)) := by
            have h1 := create_dsk HDV.out x.nm HX.out.nm
            rw [show act S x = (create S x.nm).2 by unfold act; rw [hkd]; rfl, HSNM.out]
            exact h1.mono fun e w' ⟨he, hd⟩ => ⟨_, he, hd⟩
          rw [hkd] at v0
          clear hkd
          go_wp2_with (first | (go_at_call 28; refine HC.out.mono ?_; rintro e w9 ⟨code, rfl, hd9⟩; have HD9 := hide hd9; clear hd9) | fail)
          go_roundw
          case rel => exact ⟨k + 1, by omega, by simp, by rw [HTK.out]; exact HD9.out⟩
          case measure => simp [intOf]; omega
        · have HDVA := HDV
          have HY8 := hide (x8.keep HBV.out)
          have HOPA : Hid (∀ (W : World) (uao : Option Addr) (un ucap : Nat), Below wv.heap.size wv W → Own W 0 (.slice uao un ucap) x.p → (∀ g, (Value.slice uao un ucap).ownBlock = some g → wv.heap.size ≤ g) → Calls Try.prog 29 #[.pointer (some ⟨dp, 0, none⟩), .string snm, .slice uao un ucap] W fun e w' => ∃ code, e = .returned (.int .i64 code) ∧ Dsk w1 w' dp (act S x)) := fun W uao un ucap g1 g2 g3 => by
            rw [show act S x = (append S x.nm x.p).2 by unfold act; rw [hkd]; rfl, HSNM.out]
            obtain ⟨ao', cap', e, _, hrow⟩ := g2.read
            injection e with e1 e2 e3
            subst e1; subst e3
            refine (append_dsk HDV.out x.nm HX.out.nm g1 uao un ucap x.p e2 hrow (fun a ha => ?_) (by rw [e2]; have := HX.out.pl; omega) HX.out.pb).mono fun e w' ⟨he, hd⟩ => ⟨_, he, hd⟩
            subst ha
            exact g3 a.block rfl
          rw [hkd] at v0
          clear hkd
          have HE := hide (own_new wv 0 [] (Nat.zero_le _) (Nat.zero_le _))
          have HYE := hide (HY8.out.keep (below_new wv (.cells #[] 5)))
          have z1 := cell_kept v1 (below_new wv (.cells #[] 5))
          have z3 := cell_kept v3 (below_new wv (.cells #[] 5))
          go_wp2_with fail
          go_region_law (first
            | (refine law_appB rfl (.tmp 48) (.tmp 50) rfl (.slice (some ⟨wv.heap.size, 0, none⟩) 0 0) [] rfl HE.out pao pl pc x.p HPL.out rfl HYE.out (by have := HX.out.pl; simp; omega) ?_; intro uao un ucap w3 h3 g3 l3; have HOU := hide (show Own w3 0 (.slice uao un ucap) x.p from h3); have hann := app_new (grown_undrew g3) l3; have HCUR := hide hann.1; have HNG := hide hann.2; have zz1 := cell_kept v1 hann.1; clear h3 g3 l3 hann)
            | (refine law_call rfl 52 rfl 29 #[.pointer (some ⟨dp, 0, none⟩), .string snm, .slice uao un ucap] (by unfold execOp; simp; go_simp) (HOPA.out _ _ _ _ HCUR.out HOU.out HNG.out) ?_; rintro ε w9 ⟨code, rfl, hd9⟩; refine ⟨_, rfl, ?_⟩; have HD9 := hide hd9; clear hd9))
          all_goals
            clear HOPA HE HYE z1 z3 zz1 HOU HCUR HNG v1 v3
            go_wp2_with fail
            go_roundw
            case rel => exact ⟨k + 1, by omega, by simp, by rw [HTK.out]; exact HD9.out⟩
            case measure => simp [intOf]; omega
        · have HC : Hid (Calls Try.prog 20 #[.pointer (some ⟨dp, 0, none⟩), .string snm] wv fun e w' => ∃ code, e = .returned (.int .i64 code) ∧ Dsk w1 w' dp (act S x)) := by
            have h1 := sync_dsk HDV.out x.nm HX.out.nm
            rw [show act S x = (sync S x.nm).2 by unfold act; rw [hkd]; rfl, HSNM.out]
            exact h1.mono fun e w' ⟨he, hd⟩ => ⟨_, he, hd⟩
          rw [hkd] at v0
          clear hkd
          go_wp2_with (first | (go_at_call 20; refine HC.out.mono ?_; rintro e w9 ⟨code, rfl, hd9⟩; have HD9 := hide hd9; clear hd9) | fail)
          go_roundw
          case rel => exact ⟨k + 1, by omega, by simp, by rw [HTK.out]; exact HD9.out⟩
          case measure => simp [intOf]; omega
        · have HC : Hid (Calls Try.prog 44 #[.pointer (some ⟨dp, 0, none⟩), .string snm, .string stn] wv fun e w' => ∃ code, e = .returned (.int .i64 code) ∧ Dsk w1 w' dp (act S x)) := by
            have h1 := rename_dsk HDV.out x.nm x.tn HX.out.nm HX.out.tn
            rw [show act S x = (rename S x.nm x.tn).2 by unfold act; rw [hkd]; rfl, HSNM.out, HSTN.out]
            exact h1.mono fun e w' ⟨he, hd⟩ => ⟨_, he, hd⟩
          rw [hkd] at v0
          clear hkd
          go_wp2_with (first | (go_at_call 44; refine HC.out.mono ?_; rintro e w9 ⟨code, rfl, hd9⟩; have HD9 := hide hd9; clear hd9) | fail)
          go_roundw
          case rel => exact ⟨k + 1, by omega, by simp, by rw [HTK.out]; exact HD9.out⟩
          case measure => simp [intOf]; omega
        · have HC : Hid (Calls Try.prog 46 #[.pointer (some ⟨dp, 0, none⟩), .string snm] wv fun e w' => ∃ code, e = .returned (.int .i64 code) ∧ Dsk w1 w' dp (act S x)) := by
            have h1 := remove_dsk HDV.out x.nm HX.out.nm
            rw [show act S x = (remove S x.nm).2 by unfold act; rw [hkd]; rfl, HSNM.out]
            exact h1.mono fun e w' ⟨he, hd⟩ => ⟨_, he, hd⟩
          rw [hkd] at v0
          clear hkd
          go_wp2_with (first | (go_at_call 46; refine HC.out.mono ?_; rintro e w9 ⟨code, rfl, hd9⟩; have HD9 := hide hd9; clear hd9) | fail)
          go_roundw
          case rel => exact ⟨k + 1, by omega, by simp, by rw [HTK.out]; exact HD9.out⟩
          case measure => simp [intOf]; omega
        · have HC : Hid (Calls Try.prog 21 #[.pointer (some ⟨dp, 0, none⟩)] wv fun e w' => ∃ code, e = .returned (.int .i64 code) ∧ Dsk w1 w' dp (act S x)) := by
            have h1 := syncDir_dsk HDV.out
            rw [show act S x = (syncDir S).2 by unfold act; rw [hkd]; rfl]
            exact h1.mono fun e w' ⟨he, hd⟩ => ⟨_, he, hd⟩
          rw [hkd] at v0
          clear hkd
          go_wp2_with (first | (go_at_call 21; refine HC.out.mono ?_; rintro e w9 ⟨code, rfl, hd9⟩; have HD9 := hide hd9; clear hd9) | fail)
          go_roundw
          case rel => exact ⟨k + 1, by omega, by simp, by rw [HTK.out]; exact HD9.out⟩
          case measure => simp [intOf]; omega
        · have HC : Hid (Calls Try.prog 17 #[.pointer (some ⟨dp, 0, none⟩), .int .i64 x.n] wv fun e w' => e = .returned (.tuple #[]) ∧ Dsk w1 w' dp (act S x)) := by
            have h1 := arm_dsk HDV.out x.n HX.out.n
            rw [show act S x = arm S x.n by unfold act; rw [hkd]; rfl]
            exact h1
          rw [hkd] at v0
          clear hkd
          go_wp2_with (first | (go_at_call 17; refine HC.out.mono ?_; rintro e w9 ⟨rfl, hd9⟩; have HD9 := hide hd9; clear hd9) | fail)
          go_roundw
          case rel => exact ⟨k + 1, by omega, by simp, by rw [HTK.out]; exact HD9.out⟩
          case measure => simp [intOf]; omega
        · obtain ⟨q1, q2, q3, q4, q5, q6, q7⟩ := hkd
          have HEQ : Hid (act S x = S) := by show _ = _; unfold act; rw [if_neg q1, if_neg q2, if_neg q3, if_neg q4, if_neg q5, if_neg q6, if_neg q7]
          have HD9 : Hid (Dsk w1 wv dp (act S x)) := by rw [HEQ.out]; exact HDV.out
          generalize x.kind = kd at *
          have b1 : (kd == 1) = false := by rw [beq_eq_false_iff_ne]; exact q1
          have b2 : (kd == 2) = false := by rw [beq_eq_false_iff_ne]; exact q2
          have b3 : (kd == 3) = false := by rw [beq_eq_false_iff_ne]; exact q3
          have b4 : (kd == 4) = false := by rw [beq_eq_false_iff_ne]; exact q4
          have b5 : (kd == 5) = false := by rw [beq_eq_false_iff_ne]; exact q5
          have b6 : (kd == 6) = false := by rw [beq_eq_false_iff_ne]; exact q6
          have b7 : (kd == 10) = false := by rw [beq_eq_false_iff_ne]; exact q7
          go_wp2_with fail
          go_roundw
          case rel => exact ⟨k + 1, by omega, by simp, by rw [HTK.out]; exact HD9.out⟩
          case measure => simp [intOf]; omega
      · have hki : ¬ (k : Int) < (an : Int) := by omega
        have hte : l.take k = l := List.take_of_length_le (by have := HAN.out; omega)
        rw [hte, HS0.out] at HDK
        have HX := hide (HPY.out dp wr H0.out (HDK.out.outer HUW1.out))
        clear hte
        go_wp2_with fail
        first | (go_ret; exact ⟨trivial, HX.out⟩) | exact HX.out
  · have HNEW : Hid (∀ W vao m cap us, FOwn W u.heap.size (.slice vao m cap) fs us → Calls Try.prog 27 #[.slice vao m cap, .int .i64 room] W fun e w' => e = .returned (.tuple #[.pointer none, .int .i64 (newErr fs room : Int)]) ∧ Below W.heap.size W w') := fun W vao m cap us hF => by
      have hm : m = fs.length ∧ m ≤ cap := by
        rcases hF.row.2 with ⟨e, e2⟩ | ⟨g, cap', cur, e, _, _, h3, _⟩
        · injection e with _ e3 e4; omega
        · injection e with _ e3 e4; omega
      exact new_none vao m cap fs room W hF.see hm.1 hm.2 HFS.out HR.out h0
    have H0 := hide h0
    have hne : ((newErr fs room : Int) != 0) = true := by simp; omega
    have hne2 : ¬ (newErr fs room : Int) = 0 := by omega
    have HX : Hid (∀ w', Below w.heap.size w w' → PP (.returned (.pointer none)) w') := fun w' hb => HPN.out w' h0 hb
    clear h0
    generalize newErr fs room = ne at *
    go_region_held (fun W => W.cell? ⟨N, 0, none⟩ = some (.slice fao fn fc) ∧ W.cell? ⟨N, 1, none⟩ = some (.int .i64 room)) (go_keep) (first | (go_at_call 31; refine HC.out.mono ?_; rintro e w1 ⟨vao, m, cap, rfl, ⟨us, hF⟩, hb⟩; have HF := hide hF; have hb1 := below_undrew hb; have HB1 := hide hb1; have d0 := cell_kept c0 hb1; have d1 := cell_kept c1 hb1; clear hF hb hb1 HC) | (go_at_call 27; refine (HNEW.out _ _ _ _ _ HF.out).mono ?_; rintro e w2 ⟨rfl, hd⟩; have HD := hide hd; have e0 := cell_kept d0 hd; have e1 := cell_kept d1 hd; clear hd))
    clear e0 e1 d0 d1 c0 c1 HNEW HF
    go_wp2_with (first | (go_at_call 9; refine (num_any _ _).mono ?_; rintro e wx ⟨rfl, hwx⟩; subst hwx) | fail)
    have HY := hide (HX.out _ ((HU.out.trans (HB1.out.mono HU.out.size)).trans (HD.out.mono (by have h1 := HU.out.size; have h2 := HB1.out.size; omega))))
    first | (go_ret; exact ⟨trivial, HY.out⟩) | exact HY.out
end Go.Proofs.Yticbfcognnofbaa
/- What a reading of arguments gives of a story, an act, a crash: their rows in memory, within the reach. -/
namespace Go.Proofs.Yticbfcognnofbaa
open Go.ChangeShapes Go.WideShapes Go.ChangeAt Go.RowKit

/-- All sizes within a datum are within the reach. -/
def Wt {H : Type} (t : TypeId) (d : DataW H) : Prop := ∀ x ∈ d.weights Try.prog t, x ≤ reachBytes
theorem wt_param {H : Type} {ts : List TypeId} {ds : List (DataW H)} (h : (DataW.weightsEach Try.prog ts ds).all (fun x => decide (x ≤ reachBytes)) = true) {j : Nat} {t : TypeId} {d : DataW H} (ht : ts[j]? = some t) (hd : ds[j]? = some d) : Wt t d := fun x hx => by
  have := List.all_eq_true.1 h _ (DataW.weights_mem_each ht hd x hx)
  simpa using this
theorem wt_field {H : Type} {t t1 : TypeId} {fs : Array Field} {parts : List (DataW H)} {d : DataW H} {j : Nat} (hu : Try.prog.underlying t = some (.struct fs)) (h : Wt t (.agg parts)) (ht : (fs.toList.map (·.type))[j]? = some t1) (hd : parts[j]? = some d) : Wt t1 d := fun x hx => by
  refine h x ?_
  simp only [DataW.weights, hu]
  exact DataW.weights_mem_each ht hd x hx
theorem weightsAll_mem {H : Type} {P : Program} {e : TypeId} {d : DataW H} : ∀ {l : List (DataW H)}, d ∈ l → ∀ n ∈ d.weights P e, n ∈ DataW.weightsAll P e l
  | x :: l, h, n, hn => by
    rw [DataW.weightsAll, List.mem_append]
    rcases List.mem_cons.1 h with rfl | h
    · exact .inl hn
    · exact .inr (weightsAll_mem h n hn)
theorem wt_elem {H : Type} {t e : TypeId} {elems spare : List (DataW H)} {d : DataW H} (hu : Try.prog.underlying t = some (.slice e)) (h : Wt t (.slice elems spare)) (hd : d ∈ elems) : Wt e d := fun x hx => by
  refine h x ?_
  simp only [DataW.weights, hu]
  exact List.mem_cons_of_mem _ (List.mem_append_left _ (weightsAll_mem hd x hx))
theorem wt_len {H : Type} {t e : TypeId} {elems spare : List (DataW H)} (hu : Try.prog.underlying t = some (.slice e)) (h : Wt t (.slice elems spare)) : elems.length * Try.prog.bytesOf e ≤ 140737488351232 := by
  have := h ((elems.length + spare.length) * Try.prog.bytesOf e) (by simp only [DataW.weights, hu]; exact List.mem_cons_self ..)
  simp only [reachBytes] at this
  have h2 : elems.length * Try.prog.bytesOf e ≤ (elems.length + spare.length) * Try.prog.bytesOf e := Nat.mul_le_mul_right _ (by omega)
  omega
theorem wt_str {H : Type} {t : TypeId} {b : List UInt8} (h : Wt (H := H) t (.lit (.string b))) : b.length ≤ 140737488351232 := by
  have := h b.length (by simp [DataW.weights])
  simpa [reachBytes] using this
theorem by_u8 : Try.prog.bytesOf 5 = 1 := by kernel_rfl
theorem by_int : Try.prog.bytesOf 3 = 8 := by kernel_rfl
theorem by_file : Try.prog.bytesOf 54 = 40 := by kernel_rfl
theorem by_act : Try.prog.bytesOf 41 = 104 := by kernel_rfl
theorem ce_int : Try.prog.cellsOf 3 = 1 := by kernel_rfl
theorem ce_str : Try.prog.cellsOf 9 = 1 := by kernel_rfl
theorem ce_bys : Try.prog.cellsOf 36 = 1 := by kernel_rfl
theorem ce_ints : Try.prog.cellsOf 37 = 1 := by kernel_rfl
theorem ce_fls : Try.prog.cellsOf 25 = 1 := by kernel_rfl
theorem ce_acts : Try.prog.cellsOf 26 = 1 := by kernel_rfl
theorem ce_file : Try.prog.cellsOf 54 = 2 := by kernel_rfl
theorem ce_crash : Try.prog.cellsOf 39 = 2 := by kernel_rfl
theorem ce_act : Try.prog.cellsOf 41 = 7 := by kernel_rfl
theorem ce_story : Try.prog.cellsOf 28 = 3 := by kernel_rfl
theorem nats_of (l : List Int) (h : ∀ n ∈ l, (Lit.int .u8 n).wf = true) : ∃ xs : List Nat, l = xs.map (fun n : Nat => (n : Int)) ∧ ∀ x ∈ xs, x < 256 := by
  induction l with
  | nil => exact ⟨[], rfl, by simp⟩
  | cons n l ih =>
    obtain ⟨xs, rfl, hb⟩ := ih (fun m hm => h m (by simp [hm]))
    have hn := bounds_u8 (h n (by simp))
    refine ⟨n.toNat :: xs, ?_, ?_⟩
    · simp only [List.map_cons, List.cons.injEq, and_true]; omega
    · intro x hx
      rcases List.mem_cons.1 hx with rfl | hx
      · omega
      · exact hb x hx
section
variable {H : Type} {enc : TypeId × Value → H} {W : World}
theorem field_bytes {n : Nat} {v : Value} {y : DataW H × List MemPlace} (h : DataW.trod enc Try.prog W 0 (fun _ => true) true n 36 [v] = some y) :
    ∃ ao xs cap, v = .slice ao xs.length cap ∧ xs.length ≤ cap ∧ Row W ao xs ∧ (∀ x ∈ xs, x < 256) ∧ (Wt 36 y.1 → xs.length ≤ 140737488351232) := by
  rcases open_ints Try.underlying36 Try.underlying5 (by kernel_rfl) h with ⟨hcs, hx⟩ | ⟨x, len0, cap0, zs, hcs, _, hl, hm, hz, hx, hcell, hwz⟩
  · simp only [List.cons.injEq, and_true] at hcs
    subst hcs
    subst hx
    exact ⟨none, [], 0, rfl, Nat.le_refl _, .inl rfl, by simp, fun _ => by simp⟩
  · simp only [List.cons.injEq, and_true] at hcs
    subst hcs
    subst hx
    have hzl : zs.length = cap0 := by simpa using hz
    obtain ⟨xs, hxs, hb⟩ := nats_of (zs.take len0) (fun n hn => hwz n (List.mem_of_mem_take hn))
    have hlen : xs.length = len0 := by
      have := congrArg List.length hxs
      simp only [List.length_take, List.length_map] at this
      omega
    subst hlen
    have hel : (lits (H := H) .u8 (zs.take xs.length)).length = xs.length := by simp only [lits, List.length_map, List.length_take]; omega
    refine ⟨some x, xs, cap0, rfl, hl, ?_, hb, fun hw => ?_⟩
    · by_cases h0 : xs = []
      · exact .inl h0
      · obtain ⟨b, off, rfl, hc⟩ := ints_at hcell (by have := List.length_pos_iff.2 h0; omega)
        refine .inr ⟨b, off, rfl, fun i hi => ?_⟩
        rw [hc i (by omega)]
        have : zs.getD i 0 = ((xs.getD i 0 : Nat) : Int) := by
          have h2 : (zs.take xs.length)[i]? = (xs.map fun n : Nat => (n : Int))[i]? := by rw [hxs]
          rw [List.getElem?_take, if_pos hi, List.getElem?_map] at h2
          simp only [List.getD, h2, List.getElem?_eq_getElem hi, Option.map_some, Option.getD_some]
        rw [this]
    · have := wt_len Try.underlying36 hw
      rw [by_u8, hel] at this
      omega
theorem field_ints {n : Nat} {v : Value} {y : DataW H × List MemPlace} (h : DataW.trod enc Try.prog W 0 (fun _ => true) true n 37 [v] = some y) :
    ∃ ao zs cap, v = .slice ao zs.length cap ∧ IRow W ao zs ∧ (Wt 37 y.1 → zs.length * 8 ≤ 140737488351232) := by
  rcases open_ints Try.underlying37 Try.underlying3 (by kernel_rfl) h with ⟨hcs, hx⟩ | ⟨x, len0, cap0, zs, hcs, _, hl, hm, hz, hx, hcell, hwz⟩
  · simp only [List.cons.injEq, and_true] at hcs
    subst hcs
    subst hx
    exact ⟨none, [], 0, rfl, .inl rfl, fun _ => by simp⟩
  · simp only [List.cons.injEq, and_true] at hcs
    subst hcs
    subst hx
    have hzl : zs.length = cap0 := by simpa using hz
    have hlen : (zs.take len0).length = len0 := by rw [List.length_take]; omega
    refine ⟨some x, zs.take len0, cap0, by rw [hlen], ?_, fun hw => ?_⟩
    · by_cases h0 : len0 = 0
      · exact .inl (by rw [h0]; rfl)
      · obtain ⟨b, off, rfl, hc⟩ := ints_at hcell (by omega)
        refine .inr ⟨b, off, rfl, fun i hi => ?_⟩
        rw [hlen] at hi
        rw [hc i (by omega)]
        simp [List.getD, hi]
    · have := wt_len Try.underlying37 hw
      rw [by_int] at this
      simp only [lits, List.length_map] at this
      exact this
set_option maxRecDepth 100000 in
theorem field_file {n : Nat} {cs : List Value} {x : DataW H × List MemPlace} (hl : cs.length = 2) (h : DataW.trod enc Try.prog W 0 (fun _ => true) true n 54 cs = some x) :
    ∃ (f : Fi) (bao : Option Addr) (bc : Nat), cs = [.string (str f.1), .slice bao f.2.length bc] ∧ Row W bao f.2 ∧ (∀ b ∈ f.2, b < 256) ∧ (Wt 54 x.1 → f.1.length ≤ 140737488351232 ∧ f.2.length ≤ 140737488351232) := by
  obtain ⟨ys, k, _, hx, _, hlen, hfs⟩ := DataW.trod_struct Try.underlying54 h
  match cs, hl, ys, hlen, hx, hfs with
  | [v0, v1], _, [y0, y1], _, hx, hfs =>
    have g0 := hfs 0 _ rfl
    have g1 := hfs 1 _ rfl
    simp [ce_str, ce_bys] at g0 g1
    obtain ⟨s, e0, x0, _⟩ := DataW.trod_string Try.underlying9 g0
    obtain ⟨ao, xs, cap, rfl, _, hr, hb, hw1⟩ := field_bytes g1
    simp only [List.cons.injEq, and_true] at e0
    subst e0
    refine ⟨(nmOf s, xs), ao, cap, by rw [str_nmOf], hr, hb, fun hw => ?_⟩
    rw [hx] at hw
    have h0 : Wt 9 y0.1 := wt_field (j := 0) Try.underlying54 hw rfl rfl
    have h1 : Wt 36 y1.1 := wt_field (j := 1) Try.underlying54 hw rfl rfl
    rw [x0] at h0
    exact ⟨wt_str h0, hw1 h1⟩
set_option maxRecDepth 100000 in
theorem field_act {n : Nat} {cs : List Value} {x : DataW H × List MemPlace} (hl : cs.length = 7) (h : DataW.trod enc Try.prog W 0 (fun _ => true) true n 41 cs = some x) :
    ∃ (f : Ac) (pao : Option Addr) (pc : Nat) (tao : Option Addr) (tc : Nat), cs = [.int .i64 f.kind, .string (str f.nm), .string (str f.tn), .slice pao f.p.length pc, .int .i64 f.n, .int .i64 f.dir, .slice tao f.ts.length tc] ∧ Row W pao f.p ∧ f.p.length ≤ pc ∧ IRow W tao f.ts ∧ (Wt 41 x.1 → AOk f) := by
  obtain ⟨ys, k, _, hx, _, hlen, hfs⟩ := DataW.trod_struct Try.underlying41 h
  match cs, hl, ys, hlen, hx, hfs with
  | [v0, v1, v2, v3, v4, v5, v6], _, [y0, y1, y2, y3, y4, y5], _, hx, hfs =>
    have g0 := hfs 0 _ rfl
    have g1 := hfs 1 _ rfl
    have g2 := hfs 2 _ rfl
    have g3 := hfs 3 _ rfl
    have g4 := hfs 4 _ rfl
    have g5 := hfs 5 _ rfl
    simp [ce_str, ce_bys, ce_int, ce_crash] at g0 g1 g2 g3 g4 g5
    obtain ⟨z0, e0, x0, _⟩ := DataW.trod_int Try.underlying3 g0
    obtain ⟨s1, e1, x1, _⟩ := DataW.trod_string Try.underlying9 g1
    obtain ⟨s2, e2, x2, _⟩ := DataW.trod_string Try.underlying9 g2
    obtain ⟨ao, xs, cap, rfl, hcp, hr, hb, hw3⟩ := field_bytes g3
    obtain ⟨z4, e4, x4, w4⟩ := DataW.trod_int Try.underlying3 g4
    obtain ⟨zs, k5, _, hx5, _, hlen5, hfs5⟩ := DataW.trod_struct Try.underlying39 g5
    match zs, hlen5, hx5, hfs5 with
    | [u0, u1], _, hx5, hfs5 =>
      have j0 := hfs5 0 _ rfl
      have j1 := hfs5 1 _ rfl
      simp [ce_int, ce_ints] at j0 j1
      obtain ⟨z5, e5, x5, _⟩ := DataW.trod_int Try.underlying3 j0
      obtain ⟨tao, ts, tc, rfl, ht, hw6⟩ := field_ints j1
      simp only [List.cons.injEq, and_true] at e0 e1 e2 e4 e5
      subst e0 e1 e2 e4 e5
      refine ⟨⟨z0, nmOf s1, nmOf s2, xs, z4, z5, ts⟩, ao, cap, tao, tc, by simp only [str_nmOf], hr, hcp, ht, fun hw => ?_⟩
      rw [hx] at hw
      have h1 : Wt 9 y1.1 := wt_field (j := 1) Try.underlying41 hw rfl rfl
      have h2 : Wt 9 y2.1 := wt_field (j := 2) Try.underlying41 hw rfl rfl
      have h3 : Wt 36 y3.1 := wt_field (j := 3) Try.underlying41 hw rfl rfl
      have h5 : Wt 39 y5.1 := wt_field (j := 5) Try.underlying41 hw rfl rfl
      rw [hx5] at h5
      have h6 : Wt 37 u1.1 := wt_field (j := 1) Try.underlying39 h5 rfl rfl
      rw [x1] at h1
      rw [x2] at h2
      have l1 := wt_str h1
      have l2 := wt_str h2
      exact ⟨by unfold maxLen; exact Nat.le_trans l1 (by decide), by unfold maxLen; exact Nat.le_trans l2 (by decide), hw3 h3, hb, (bounds_i64 w4).2, hw6 h6⟩
set_option maxRecDepth 100000 in
theorem field_files {n : Nat} {v : Value} {x : DataW H × List MemPlace} (h : DataW.trod enc Try.prog W 0 (fun _ => true) true n 25 [v] = some x) :
    ∃ (ao : Option Addr) (fs : List Fi) (cap : Nat), v = .slice ao fs.length cap ∧ FSee W ao fs ∧ (∀ f ∈ fs, ∀ b ∈ f.2, b < 256) ∧ (Wt 25 x.1 → fs.length * 40 ≤ 140737488351232 ∧ ∀ f ∈ fs, f.1.length ≤ 140737488351232 ∧ f.2.length ≤ 140737488351232) := by
  rcases Deep.open_slice Try.underlying25 h with ⟨hcs, hx⟩ | ⟨a, len0, cap0, m, k, D, Pl, hcs, _, hl, hm, hmm, hx, hc⟩
  · simp only [List.cons.injEq, and_true] at hcs
    subst hcs
    exact ⟨none, [], 0, rfl, ⟨fun i x hx => by simp at hx⟩, (fun f hf => by cases hf), fun _ => ⟨by simp, fun f hf => by cases hf⟩⟩
  · simp only [List.cons.injEq, and_true] at hcs
    subst hcs
    have hlm : len0 ≤ m := by rw [hmm]; split <;> omega
    have each : ∀ i, i < len0 → ∃ f : Fi, (∃ bao bc, W.cell? (a.add (i * 2)) = some (.string (str f.1)) ∧ W.cell? (a.add (i * 2 + 1)) = some (.slice bao f.2.length bc) ∧ Row W bao f.2) ∧ (∀ b ∈ f.2, b < 256) ∧ (Wt 54 (D i) → f.1.length ≤ 140737488351232 ∧ f.2.length ≤ 140737488351232) := fun i hi => by
      obtain ⟨cs', h1, h2⟩ := hc i (by omega)
      rw [ce_file] at h1
      obtain ⟨_, hlen, hcell⟩ := World.cells?_some h1
      obtain ⟨f, bao, bc, rfl, hr, hb, hw⟩ := field_file hlen h2
      have q0 := hcell 0 (by omega)
      have q1 := hcell 1 (by omega)
      rw [Deep.add_add] at q0 q1
      exact ⟨f, ⟨bao, bc, q0, q1, hr⟩, hb, hw⟩
    have hinh : Inhabited Fi := ⟨([], [])⟩
    obtain ⟨f, hfi⟩ := Deep.choose_lt each
    refine ⟨some a, (List.range len0).map f, cap0, by simp, ⟨fun i x hix => ?_⟩, ?_, fun hw => ?_⟩
    · rw [List.getElem?_map] at hix
      obtain ⟨i', hi', rfl⟩ := Option.map_eq_some_iff.1 hix
      obtain ⟨hil, e⟩ := List.getElem?_eq_some_iff.1 hi'
      rw [List.length_range] at hil
      rw [List.getElem_range] at e
      subst e
      obtain ⟨⟨bao, bc, c0, c1, hr⟩, _⟩ := hfi i hil
      obtain ⟨b, off, q⟩ := a
      have hq : q = none := by
        have := (hfi 0 (by omega)).1
        first
        | (obtain ⟨_, _, c00, _⟩ := this; simpa [Addr.add] using World.cell?_spot c00)
        | (obtain ⟨_, _, _, _, c00, _⟩ := this; simpa [Addr.add] using World.cell?_spot c00)
      subst hq
      rw [Go.WideShapes.add_plain] at c0 c1
      exact ⟨b, off, bao, bc, rfl, c0, by rw [Nat.add_assoc]; exact c1, hr⟩
    · intro g hg
      obtain ⟨i, hi, rfl⟩ := List.mem_map.1 hg
      exact (hfi i (List.mem_range.1 hi)).2.1
    · rw [hx] at hw
      have h1 := wt_len Try.underlying25 hw
      rw [by_file] at h1
      refine ⟨by simpa using h1, fun g hg => ?_⟩
      obtain ⟨i, hi, rfl⟩ := List.mem_map.1 hg
      exact (hfi i (List.mem_range.1 hi)).2.2 (wt_elem Try.underlying25 hw (List.mem_map.2 ⟨i, hi, rfl⟩))
set_option maxRecDepth 100000 in
theorem field_acts {n : Nat} {v : Value} {x : DataW H × List MemPlace} (h : DataW.trod enc Try.prog W 0 (fun _ => true) true n 26 [v] = some x) :
    ∃ (ao : Option Addr) (l : List Ac) (cap : Nat), v = .slice ao l.length cap ∧ ASee W ao l ∧ (Wt 26 x.1 → l.length * 104 ≤ 140737488351232 ∧ ∀ f ∈ l, AOk f) := by
  rcases Deep.open_slice Try.underlying26 h with ⟨hcs, hx⟩ | ⟨a, len0, cap0, m, k, D, Pl, hcs, _, hl, hm, hmm, hx, hc⟩
  · simp only [List.cons.injEq, and_true] at hcs
    subst hcs
    exact ⟨none, [], 0, rfl, ⟨fun i x hx => by simp at hx⟩, fun _ => ⟨by simp, fun f hf => by cases hf⟩⟩
  · simp only [List.cons.injEq, and_true] at hcs
    subst hcs
    have hlm : len0 ≤ m := by rw [hmm]; split <;> omega
    have each : ∀ i, i < len0 → ∃ f : Ac, (∃ pao pc tao tc, W.cell? (a.add (i * 7)) = some (.int .i64 f.kind) ∧ W.cell? (a.add (i * 7 + 1)) = some (.string (str f.nm)) ∧ W.cell? (a.add (i * 7 + 2)) = some (.string (str f.tn)) ∧ W.cell? (a.add (i * 7 + 3)) = some (.slice pao f.p.length pc) ∧ W.cell? (a.add (i * 7 + 4)) = some (.int .i64 f.n) ∧ W.cell? (a.add (i * 7 + 5)) = some (.int .i64 f.dir) ∧ W.cell? (a.add (i * 7 + 6)) = some (.slice tao f.ts.length tc) ∧ Row W pao f.p ∧ IRow W tao f.ts) ∧ (Wt 41 (D i) → AOk f) := fun i hi => by
      obtain ⟨cs', h1, h2⟩ := hc i (by omega)
      rw [ce_act] at h1
      obtain ⟨_, hlen, hcell⟩ := World.cells?_some h1
      obtain ⟨f, pao, pc, tao, tc, rfl, hr, _, ht, hw⟩ := field_act hlen h2
      have q0 := hcell 0 (by omega)
      have q1 := hcell 1 (by omega)
      have q2 := hcell 2 (by omega)
      have q3 := hcell 3 (by omega)
      have q4 := hcell 4 (by omega)
      have q5 := hcell 5 (by omega)
      have q6 := hcell 6 (by omega)
      rw [Deep.add_add] at q0 q1 q2 q3 q4 q5 q6
      exact ⟨f, ⟨pao, pc, tao, tc, q0, q1, q2, q3, q4, q5, q6, hr, ht⟩, hw⟩
    have hinh : Inhabited Ac := ⟨⟨0, [], [], [], 0, 0, []⟩⟩
    obtain ⟨f, hfi⟩ := Deep.choose_lt each
    refine ⟨some a, (List.range len0).map f, cap0, by simp, ⟨fun i x hix => ?_⟩, fun hw => ?_⟩
    · rw [List.getElem?_map] at hix
      obtain ⟨i', hi', rfl⟩ := Option.map_eq_some_iff.1 hix
      obtain ⟨hil, e⟩ := List.getElem?_eq_some_iff.1 hi'
      rw [List.length_range] at hil
      rw [List.getElem_range] at e
      subst e
      obtain ⟨⟨pao, pc, tao, tc, c0, c1, c2, c3, c4, c5, c6, hr, ht⟩, _⟩ := hfi i hil
      obtain ⟨b, off, q⟩ := a
      have hq : q = none := by
        have := (hfi 0 (by omega)).1
        first
        | (obtain ⟨_, _, c00, _⟩ := this; simpa [Addr.add] using World.cell?_spot c00)
        | (obtain ⟨_, _, _, _, c00, _⟩ := this; simpa [Addr.add] using World.cell?_spot c00)
      subst hq
      rw [Go.WideShapes.add_plain] at c0 c1 c2 c3 c4 c5 c6
      rw [← Nat.add_assoc] at c1 c2 c3 c4 c5 c6
      exact ⟨b, off, pao, pc, tao, tc, rfl, c0, c1, c2, c3, c4, c5, c6, hr, ht⟩
    · rw [hx] at hw
      have h1 := wt_len Try.underlying26 hw
      rw [by_act] at h1
      refine ⟨by simpa using h1, fun g hg => ?_⟩
      obtain ⟨i, hi, rfl⟩ := List.mem_map.1 hg
      exact (hfi i (List.mem_range.1 hi)).2 (wt_elem Try.underlying26 hw (List.mem_map.2 ⟨i, hi, rfl⟩))
set_option maxRecDepth 100000 in
/-- A crash, opened. -/
theorem open_crash {base : Nat} {v : Value} {d : DataW H} {p : List MemPlace} (hval : Value.okWide Try.prog W .any base 39 v) (h : DataW.Trod enc Try.prog W 0 (fun _ => true) true 39 v d p) :
    ∃ (dir : Int) (ao : Option Addr) (ts : List Int) (cap : Nat), v = .agg #[.int .i64 dir, .slice ao ts.length cap] ∧ IRow W ao ts ∧ (∀ x ∈ p, x.block < W.heap.size) ∧ (Wt 39 d → ts.length * 8 ≤ 140737488351232) := by
  obtain ⟨cs, rfl, hsz⟩ := okWide_struct Try.underlying39 hval
  rw [ce_crash] at hsz
  obtain ⟨fuel, hf⟩ := h
  have hlt := DataW.trod_lt fuel _ _ _ hf
  obtain ⟨ys, n, _, hx, _, hlen, hfs⟩ := DataW.trod_struct Try.underlying39 hf
  obtain ⟨cs⟩ := cs
  match cs, hsz, ys, hlen, hx, hfs with
  | [v0, v1], _, [y0, y1], _, hx, hfs =>
    have j0 := hfs 0 _ rfl
    have j1 := hfs 1 _ rfl
    simp [ce_int, ce_ints, Value.cells] at j0 j1
    obtain ⟨z0, e0, x0, _⟩ := DataW.trod_int Try.underlying3 j0
    obtain ⟨tao, ts, tc, rfl, ht, hw⟩ := field_ints j1
    simp only [List.cons.injEq, and_true] at e0
    subst e0
    simp only [Prod.mk.injEq] at hx
    exact ⟨z0, tao, ts, tc, rfl, ht, hlt, fun h => hw (wt_field (j := 1) Try.underlying39 (by rw [hx.1] at h; exact h) rfl rfl)⟩
set_option maxRecDepth 100000 in
/-- An act, opened. -/
theorem open_act {base : Nat} {v : Value} {d : DataW H} {p : List MemPlace} (hval : Value.okWide Try.prog W .any base 41 v) (h : DataW.Trod enc Try.prog W 0 (fun _ => true) true 41 v d p) :
    ∃ (f : Ac) (pao : Option Addr) (pc : Nat) (tao : Option Addr) (tc : Nat), v = .agg #[.int .i64 f.kind, .string (str f.nm), .string (str f.tn), .slice pao f.p.length pc, .int .i64 f.n, .int .i64 f.dir, .slice tao f.ts.length tc] ∧ Row W pao f.p ∧ f.p.length ≤ pc ∧ IRow W tao f.ts ∧ (∀ x ∈ p, x.block < W.heap.size) ∧ (Wt 41 d → AOk f) := by
  obtain ⟨cs, rfl, hsz⟩ := okWide_struct Try.underlying41 hval
  rw [ce_act] at hsz
  obtain ⟨fuel, hf⟩ := h
  have hlt := DataW.trod_lt fuel _ _ _ hf
  obtain ⟨f, pao, pc, tao, tc, e, h1, h2, h3, h4⟩ := field_act (by simpa [Value.cells] using hsz) hf
  refine ⟨f, pao, pc, tao, tc, ?_, h1, h2, h3, hlt, h4⟩
  obtain ⟨cs⟩ := cs
  simp only [Value.cells] at e
  rw [show cs = _ from e]
set_option maxRecDepth 100000 in
/-- A story, opened. -/
theorem open_story {base : Nat} {v : Value} {d : DataW H} {p : List MemPlace} (hval : Value.okWide Try.prog W .any base 28 v) (h : DataW.Trod enc Try.prog W 0 (fun _ => true) true 28 v d p) :
    ∃ (fao : Option Addr) (fs : List Fi) (fc : Nat) (room : Int) (aao : Option Addr) (l : List Ac) (ac : Nat), v = .agg #[.slice fao fs.length fc, .int .i64 room, .slice aao l.length ac] ∧ FSee W fao fs ∧ (∀ f ∈ fs, ∀ b ∈ f.2, b < 256) ∧ room ≤ 9223372036854775807 ∧ ASee W aao l ∧ (∀ x ∈ p, x.block < W.heap.size) ∧
      (Wt 28 d → (fs.length * 40 ≤ 140737488351232 ∧ ∀ f ∈ fs, f.1.length ≤ maxLen ∧ f.1.length ≤ 281474976710656 ∧ f.2.length ≤ 140737488355328) ∧ l.length * 104 ≤ 140737488351232 ∧ ∀ x ∈ l, AOk x) := by
  obtain ⟨cs, rfl, hsz⟩ := okWide_struct Try.underlying28 hval
  rw [ce_story] at hsz
  obtain ⟨fuel, hf⟩ := h
  have hlt := DataW.trod_lt fuel _ _ _ hf
  obtain ⟨ys, n, _, hx, _, hlen, hfs⟩ := DataW.trod_struct Try.underlying28 hf
  obtain ⟨cs⟩ := cs
  match cs, hsz, ys, hlen, hx, hfs with
  | [v0, v1, v2], _, [y0, y1, y2], _, hx, hfs =>
    have j0 := hfs 0 _ rfl
    have j1 := hfs 1 _ rfl
    have j2 := hfs 2 _ rfl
    simp [ce_int, ce_fls, ce_acts, Value.cells] at j0 j1 j2
    obtain ⟨fao, fs, fc, rfl, hF, hb, hw0⟩ := field_files j0
    obtain ⟨z, e1, x1, w1⟩ := DataW.trod_int Try.underlying3 j1
    obtain ⟨aao, l, ac, rfl, hA, hw2⟩ := field_acts j2
    simp only [List.cons.injEq, and_true] at e1
    subst e1
    simp only [Prod.mk.injEq] at hx
    refine ⟨fao, fs, fc, z, aao, l, ac, rfl, hF, hb, (bounds_i64 w1).2, hA, hlt, fun hw => ?_⟩
    rw [hx.1] at hw
    have h0 := hw0 (wt_field (j := 0) Try.underlying28 hw rfl rfl)
    refine ⟨⟨h0.1, fun f hf => ?_⟩, hw2 (wt_field (j := 2) Try.underlying28 hw rfl rfl)⟩
    have := h0.2 f hf
    exact ⟨by unfold maxLen; exact Nat.le_trans this.1 (by decide), by omega, by omega⟩
end
end Go.Proofs.Yticbfcognnofbaa
/- A story's opening, once more: what the document's disk asks of it. -/
namespace Go.Proofs.Yticbfcognnofbaa
open Go.ChangeShapes Go.WideShapes Go.ChangeAt Go.RowKit
section
variable {H : Type} {enc : TypeId × Value → H} {W : World}
set_option maxRecDepth 100000 in
/-- A story, opened: what its files hold is within the reach. -/
theorem open_story2 {base : Nat} {v : Value} {d : DataW H} {p : List MemPlace} (hval : Value.okWide Try.prog W .any base 28 v) (h : DataW.Trod enc Try.prog W 0 (fun _ => true) true 28 v d p) :
    ∃ (fao : Option Addr) (fs : List Fi) (fc : Nat) (room : Int) (aao : Option Addr) (l : List Ac) (ac : Nat), v = .agg #[.slice fao fs.length fc, .int .i64 room, .slice aao l.length ac] ∧ FSee W fao fs ∧ (∀ f ∈ fs, ∀ b ∈ f.2, b < 256) ∧ room ≤ 9223372036854775807 ∧ ASee W aao l ∧ (∀ x ∈ p, x.block < W.heap.size) ∧
      (Wt 28 d → (fs.length * 40 ≤ 140737488351232 ∧ ∀ f ∈ fs, f.1.length ≤ maxLen ∧ f.1.length ≤ 281474976710656 ∧ f.2.length ≤ 140737488355328 ∧ f.2.length ≤ 140737488351232) ∧ l.length * 104 ≤ 140737488351232 ∧ ∀ x ∈ l, AOk x) := by
  obtain ⟨cs, rfl, hsz⟩ := okWide_struct Try.underlying28 hval
  rw [ce_story] at hsz
  obtain ⟨fuel, hf⟩ := h
  have hlt := DataW.trod_lt fuel _ _ _ hf
  obtain ⟨ys, n, _, hx, _, hlen, hfs⟩ := DataW.trod_struct Try.underlying28 hf
  obtain ⟨cs⟩ := cs
  match cs, hsz, ys, hlen, hx, hfs with
  | [v0, v1, v2], _, [y0, y1, y2], _, hx, hfs =>
    have j0 := hfs 0 _ rfl
    have j1 := hfs 1 _ rfl
    have j2 := hfs 2 _ rfl
    simp [ce_int, ce_fls, ce_acts, Value.cells] at j0 j1 j2
    obtain ⟨fao, fs, fc, rfl, hF, hb, hw0⟩ := field_files j0
    obtain ⟨z, e1, x1, w1⟩ := DataW.trod_int Try.underlying3 j1
    obtain ⟨aao, l, ac, rfl, hA, hw2⟩ := field_acts j2
    simp only [List.cons.injEq, and_true] at e1
    subst e1
    simp only [Prod.mk.injEq] at hx
    refine ⟨fao, fs, fc, z, aao, l, ac, rfl, hF, hb, (bounds_i64 w1).2, hA, hlt, fun hw => ?_⟩
    rw [hx.1] at hw
    have h0 := hw0 (wt_field (j := 0) Try.underlying28 hw rfl rfl)
    refine ⟨⟨h0.1, fun f hf => ?_⟩, hw2 (wt_field (j := 2) Try.underlying28 hw rfl rfl)⟩
    have := h0.2 f hf
    exact ⟨by unfold maxLen; exact Nat.le_trans this.1 (by decide), by omega, by omega, by omega⟩
end
end Go.Proofs.Yticbfcognnofbaa
