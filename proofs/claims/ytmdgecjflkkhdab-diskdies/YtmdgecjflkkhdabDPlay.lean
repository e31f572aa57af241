/- The contract of play: a story on the program's disk alone. -/
import Derived.Test.YtmdgecjflkkhdabDCrash
namespace Go.Proofs.Ytmdgecjflkkhdab
open Go.RowKit Go.Maps

structure Ac where
  kind : Int
  nm : Nm
  tn : Nm
  p : List Nat
  n : Int
  dir : Int
  ts : List Int
structure AOk (x : Ac) : Prop where
  nm : x.nm.length ≤ maxLen
  tn : x.tn.length ≤ maxLen
  pl : x.p.length ≤ 140737488351232
  pb : ∀ b ∈ x.p, b < 256
  n : x.n ≤ 9223372036854775807
  tl : x.ts.length * 8 ≤ 140737488351232
structure ASee (w : World) (ao : Option Addr) (l : List Ac) : Prop where
  cell : ∀ (i : Nat) x, l[i]? = some x → ∃ b off pao pc tao tc, ao = some ⟨b, off, none⟩ ∧ w.cell? ⟨b, off + i * 7, none⟩ = some (.int .i64 x.kind) ∧ w.cell? ⟨b, off + i * 7 + 1, none⟩ = some (.string (str x.nm)) ∧ w.cell? ⟨b, off + i * 7 + 2, none⟩ = some (.string (str x.tn)) ∧ w.cell? ⟨b, off + i * 7 + 3, none⟩ = some (.slice pao x.p.length pc) ∧ w.cell? ⟨b, off + i * 7 + 4, none⟩ = some (.int .i64 x.n) ∧ w.cell? ⟨b, off + i * 7 + 5, none⟩ = some (.int .i64 x.dir) ∧ w.cell? ⟨b, off + i * 7 + 6, none⟩ = some (.slice tao x.ts.length tc) ∧ Row w pao x.p ∧ IRow w tao x.ts
theorem ASee.keep {w w' : World} {ao : Option Addr} {l : List Ac} (h : ASee w ao l) (hb : Below w.heap.size w w') : ASee w' ao l := ⟨fun i x hx => by
  obtain ⟨b, off, pao, pc, tao, tc, h0, h1, h2, h3, h4, h5, h6, h7, h8, h9⟩ := h.cell i x hx
  exact ⟨b, off, pao, pc, tao, tc, h0, cell_kept h1 hb, cell_kept h2 hb, cell_kept h3 hb, cell_kept h4 hb, cell_kept h5 hb, cell_kept h6 hb, cell_kept h7 hb, h8.keep hb, h9.keep hb⟩⟩
/-- One act on plain data. -/
def act (S : DS) (x : Ac) : DS :=
  if x.kind = 1 then (create S x.nm).2 else if x.kind = 2 then (append S x.nm x.p).2 else if x.kind = 3 then (sync S x.nm).2 else if x.kind = 4 then (rename S x.nm x.tn).2 else if x.kind = 5 then (remove S x.nm).2 else if x.kind = 6 then (syncDir S).2 else if x.kind = 10 then arm S x.n else S
def acts (S : DS) (l : List Ac) : DS := l.foldl act S
theorem acts_snoc (S : DS) (l : List Ac) (x : Ac) : acts S (l ++ [x]) = act (acts S l) x := by simp [acts]
theorem acts_take {S : DS} {l : List Ac} {k : Nat} {x : Ac} (h : l[k]? = some x) : acts S (l.take (k + 1)) = act (acts S (l.take k)) x := by
  rw [List.take_add_one, h, Option.toList_some, acts_snoc]
theorem Dsk.outer {w w1 w' : World} {dp : Nat} {S : DS} (h : Dsk w1 w' dp S) (hb : Below w.heap.size w w1) : Dsk w w' dp S := by
  obtain ⟨L, h1, h2⟩ := h.rep
  exact ⟨⟨L, h1, fun b hm => Nat.le_trans hb.size (h2 b hm)⟩, h.ok, hb.trans (h.bel.mono hb.size)⟩
def PlayPost (fs : List Fi) (room : Int) (l : List Ac) (w : World) (e : Ending) (w' : World) : Prop :=
  (if newErr fs room = 0 then ∃ dp, e = .returned (.pointer (some ⟨dp, 0, none⟩)) ∧ Dsk w w' dp (acts (born fs room.toNat) l) else e = .returned (.pointer none)) ∧ Below w.heap.size w w'
set_option maxHeartbeats 8000000 in
set_option maxRecDepth 100000 in
theorem play_any (fao : Option Addr) (fn fc : Nat) (fs : List Fi) (room : Int) (aao : Option Addr) (an ac : Nat) (l : List Ac) (w : World) (hf : FSee w fao fs) (hfn : fn = fs.length) (hfl : fn * 40 ≤ 140737488351232) (hfs : ∀ f ∈ fs, f.1.length ≤ maxLen ∧ f.1.length ≤ 281474976710656 ∧ f.2.length ≤ 140737488355328) (hfb : ∀ f ∈ fs, ∀ x ∈ f.2, x < 256) (hr : room ≤ 9223372036854775807)
    (ha : ASee w aao l) (han : an = l.length) (hal : an ≤ 4611686018427387903) (hao : ∀ x ∈ l, AOk x) :
    Calls Try.prog 6 #[.agg #[.slice fao fn fc, .int .i64 room, .slice aao an ac]] w fun e w' => True ∧ PlayPost fs room l w e w' := by
  obtain ⟨PP, hPP⟩ : ∃ PP, PP = PlayPost fs room l w := ⟨_, rfl⟩
  rw [← hPP]
  have HPN : Hid (∀ w', newErr fs room ≠ 0 → Below w.heap.size w w' → PP (.returned (.pointer none)) w') := fun w' h1 h2 => by rw [hPP]; unfold PlayPost; rw [if_neg h1]; exact ⟨rfl, h2⟩
  have HPY : Hid (∀ dp w', newErr fs room = 0 → Dsk w w' dp (acts (born fs room.toNat) l) → PP (.returned (.pointer (some ⟨dp, 0, none⟩))) w') := fun dp w' h1 h2 => by rw [hPP]; unfold PlayPost; rw [if_pos h1]; exact ⟨⟨dp, rfl, h2⟩, h2.bel⟩
  clear hPP
  have HB := hide (Bl.new w #[.slice fao fn fc, .int .i64 room, .slice aao an ac] 25)
  have HU := hide (below_new w (.cells #[.slice fao fn fc, .int .i64 room, .slice aao an ac] 25))
  have HA := hide (ha.keep HU.out)
  have HC := hide (copied_any fao fn fc fs (w.alloc (.cells #[.slice fao fn fc, .int .i64 room, .slice aao an ac] 25)).drew ((hf.keep HU.out).keep (below_drewN (Below.refl _ _) 1)) hfn hfl (fun f hf => (hfs f hf).2.2))
  obtain ⟨N, hN⟩ : ∃ N, N = w.heap.size := ⟨_, rfl⟩
  have HFS := hide hfs
  have HFB := hide hfb
  have HAN := hide han
  have HAL := hide hal
  have HAO := hide hao
  have HR := hide hr
  clear hf hfn hfl hfs hfb hr ha han hal hao
  go_enter Try.func6, Try.ntmps6
  go_upto_region 1 with fail
  rw [← hN] at HB ⊢
  have HNW := hide hN
  clear hN
  generalize w.alloc (.cells #[.slice fao fn fc, .int .i64 room, .slice aao an ac] 25) = u at *
  have c0 : u.cell? ⟨N, 0, none⟩ = some (.slice fao fn fc) := HB.out.cell 0
  have c1 : u.cell? ⟨N, 1, none⟩ = some (.int .i64 room) := HB.out.cell 1
  by_cases h0 : newErr fs room = 0
  · have HNEW : Hid (∀ W vao m cap us, FOwn W u.heap.size (.slice vao m cap) fs us → Calls Try.prog 10 #[.slice vao m cap, .int .i64 room] W fun e w' => ∃ dp, e = .returned (.tuple #[.pointer (some ⟨dp, 0, none⟩), .int .i64 0]) ∧ Dsk W w' dp (born fs room.toNat)) := fun W vao m cap us hF => by
      have hm : m = fs.length ∧ m ≤ cap := by
        rcases hF.row.2 with ⟨e, e2⟩ | ⟨g, cap', cur, e, _, _, h3, _⟩
        · injection e with _ e3 e4; omega
        · injection e with _ e3 e4; omega
      exact new_dsk vao m cap fs room W hF.see hm.1 hm.2 HFS.out HFB.out HR.out h0
    have H0 := hide h0
    clear h0
    go_region_held (fun W => W.cell? ⟨N, 0, none⟩ = some (.slice fao fn fc) ∧ W.cell? ⟨N, 1, none⟩ = some (.int .i64 room)) (go_keep) (first | (go_at_call 11; refine HC.out.mono ?_; rintro e w1 ⟨vao, m, cap, rfl, ⟨us, hF⟩, hb⟩; have HF := hide hF; have hb1 := below_undrew hb; have HB1 := hide hb1; have d0 := cell_kept c0 hb1; have d1 := cell_kept c1 hb1; clear hF hb hb1 HC) | (go_at_call 10; refine (HNEW.out _ _ _ _ _ HF.out).mono ?_; rintro e w2 ⟨dp, rfl, hd⟩; have HD := hide hd; have e0 := cell_kept d0 hd.bel; have e1 := cell_kept d1 hd.bel; clear hd))
    clear e0 e1 d0 d1 c0 c1 HNEW HF
    go_wp2_with (first | (go_at_call 12; refine (num_any _ _).mono ?_; rintro e wx ⟨rfl, hwx⟩; subst hwx) | fail)
    have HUW1 : Hid (Below w.heap.size w w1) := HU.out.trans (HB1.out.mono HU.out.size)
    obtain ⟨S0, hS0⟩ : ∃ S0, S0 = born fs room.toNat := ⟨_, rfl⟩
    have HS0 := hide hS0
    rw [← hS0] at HD
    clear hS0
    go_loopw [5] (fun i wr => ∃ k : Nat, k ≤ an ∧ i = .int .i64 (k : Int) ∧ Hid (Dsk w1 wr dp (acts S0 (l.take k)))) (fun i _ => an - (intOf i).toNat)
    case atStart => exact ⟨0, Nat.zero_le _, rfl, HD.out⟩
    case round =>
      obtain ⟨k, hk, rfl, HDK⟩ := hrel
      have hBL : Bl wr N [.slice fao fn fc, .int .i64 room, .slice aao an ac] 25 := (HB.out.keep HB1.out).keep HDK.out.bel
      have n2 : wr.cell? ⟨N, 2, none⟩ = some (.slice aao an ac) := hBL.cell 2
      clear hBL
      by_cases hlt : k < an
      · obtain ⟨x, hx⟩ : ∃ x, l[k]? = some x := ⟨_, List.getElem?_eq_getElem (by rw [← HAN.out]; exact hlt)⟩
        obtain ⟨ab, aoff, pao, pc, tao, tc, rfl, x0, x1, x2, x3, x4, x5, x6, x8, x9⟩ := ((HA.out.keep HB1.out).keep HDK.out.bel).cell k x hx
        have HX := hide (HAO.out x (List.mem_of_getElem? hx))
        have HTK : Hid (acts S0 (l.take (k + 1)) = act (acts S0 (l.take k)) x) := acts_take hx
        generalize acts S0 (l.take k) = S at *
        obtain ⟨snm, hsnm⟩ : ∃ s, s = str x.nm := ⟨_, rfl⟩
        obtain ⟨stn, hstn⟩ : ∃ s, s = str x.tn := ⟨_, rfl⟩
        obtain ⟨pl, hpl⟩ : ∃ n, n = x.p.length := ⟨_, rfl⟩
        obtain ⟨tl, htl⟩ : ∃ n, n = x.ts.length := ⟨_, rfl⟩
        rw [← hsnm] at x1
        rw [← hstn] at x2
        rw [← hpl] at x3
        rw [← htl] at x6
        have HSNM := hide hsnm
        have HSTN := hide hstn
        have HPL := hide hpl
        have hki : (k : Int) < (an : Int) := by omega
        have hkb : (k : Int) + 1 ≤ 4611686018427387904 := by have := HAL.out; omega
        have hkd : x.kind = 1 ∨ x.kind = 2 ∨ x.kind = 3 ∨ x.kind = 4 ∨ x.kind = 5 ∨ x.kind = 6 ∨ x.kind = 10 ∨ (¬ x.kind = 1 ∧ ¬ x.kind = 2 ∧ ¬ x.kind = 3 ∧ ¬ x.kind = 4 ∧ ¬ x.kind = 5 ∧ ¬ x.kind = 6 ∧ ¬ x.kind = 10) := by omega
        have HKD := hide hkd
        clear hx hsnm hstn hpl htl hkd
        go_upto_region 8 with fail
        have HV := hide (Bl.new wr #[.int .i64 x.kind, .string snm, .string stn, .slice pao pl pc, .int .i64 x.n, .int .i64 x.dir, .slice tao tl tc] 50)
        have HBV := hide (below_new wr (.cells #[.int .i64 x.kind, .string snm, .string stn, .slice pao pl pc, .int .i64 x.n, .int .i64 x.dir, .slice tao tl tc] 50))
        have HDV := hide (HDK.out.below HBV.out)
        obtain ⟨M, hM⟩ : ∃ M, M = wr.heap.size := ⟨_, rfl⟩
        rw [← hM] at HV ⊢
        clear x0 x1 x2 x3 x4 x5 x6 x9 hM n2 HDK
        generalize wr.alloc (.cells #[.int .i64 x.kind, .string snm, .string stn, .slice pao pl pc, .int .i64 x.n, .int .i64 x.dir, .slice tao tl tc] 50) = wv at *
        have v0 : wv.cell? ⟨M, 0, none⟩ = some (.int .i64 x.kind) := HV.out.cell 0
        have v1 : wv.cell? ⟨M, 1, none⟩ = some (.string snm) := HV.out.cell 1
        have v2 : wv.cell? ⟨M, 2, none⟩ = some (.string stn) := HV.out.cell 2
        have v3 : wv.cell? ⟨M, 3, none⟩ = some (.slice pao pl pc) := HV.out.cell 3
        have v4 : wv.cell? ⟨M, 4, none⟩ = some (.int .i64 x.n) := HV.out.cell 4
        rcases HKD.out with hkd | hkd | hkd | hkd | hkd | hkd | hkd | hkd
        · have HC : Hid (Calls Try.prog 25 #[.pointer (some ⟨dp, 0, none⟩), .string snm] wv fun e w' => ∃ code, e = .returned (.int .i64 code) ∧ Dsk w1 w' dp (act S x)) := by
            have h1 := create_dsk HDV.out x.nm HX.out.nm
            rw [show act S x = (create S x.nm).2 by unfold act; rw [hkd]; rfl, HSNM.out]
            exact h1.mono fun e w' ⟨he, hd⟩ => ⟨_, he, hd⟩
          rw [hkd] at v0
          clear hkd
          go_wp2_with (first | (go_at_call 25; refine HC.out.mono ?_; rintro e w9 ⟨code, rfl, hd9⟩; have HD9 := hide hd9; clear hd9) | fail)
          go_roundw
          case rel => exact ⟨k + 1, by omega, by simp, by rw [HTK.out]; exact HD9.out⟩
          case measure => simp [intOf]; omega
        · have HDVA := HDV
          have HY8 := hide (x8.keep HBV.out)
          have HOPA : Hid (∀ (W : World) (uao : Option Addr) (un ucap : Nat), Below wv.heap.size wv W → Own W 0 (.slice uao un ucap) x.p → (∀ g, (Value.slice uao un ucap).ownBlock = some g → wv.heap.size ≤ g) → Calls Try.prog 26 #[.pointer (some ⟨dp, 0, none⟩), .string snm, .slice uao un ucap] W fun e w' => ∃ code, e = .returned (.int .i64 code) ∧ Dsk w1 w' dp (act S x)) := fun W uao un ucap g1 g2 g3 => by
            rw [show act S x = (append S x.nm x.p).2 by unfold act; rw [hkd]; rfl, HSNM.out]
            obtain ⟨ao', cap', e, _, hrow⟩ := g2.read
            injection e with e1 e2 e3
            subst e1; subst e3
            refine (append_dsk HDV.out x.nm HX.out.nm g1 uao un ucap x.p e2 hrow (fun a ha => ?_) (by rw [e2]; have := HX.out.pl; omega) HX.out.pb).mono fun e w' ⟨he, hd⟩ => ⟨_, he, hd⟩
            subst ha
            exact g3 a.block rfl
          rw [hkd] at v0
          clear hkd
          have HE := hide (own_new wv 0 [] (Nat.zero_le _) (Nat.zero_le _))
          have HYE := hide (HY8.out.keep (below_new wv (.cells #[] 5)))
          have z1 := cell_kept v1 (below_new wv (.cells #[] 5))
          have z3 := cell_kept v3 (below_new wv (.cells #[] 5))
          go_wp2_with fail
          go_region_law (first
            | (refine law_appB rfl (.tmp 48) (.tmp 50) rfl (.slice (some ⟨wv.heap.size, 0, none⟩) 0 0) [] rfl HE.out pao pl pc x.p HPL.out rfl HYE.out (by have := HX.out.pl; simp; omega) ?_; intro uao un ucap w3 h3 g3 l3; have HOU := hide (show Own w3 0 (.slice uao un ucap) x.p from h3); have hann := app_new (grown_undrew g3) l3; have HCUR := hide hann.1; have HNG := hide hann.2; have zz1 := cell_kept v1 hann.1; clear h3 g3 l3 hann)
            | (refine law_call rfl 52 rfl 26 #[.pointer (some ⟨dp, 0, none⟩), .string snm, .slice uao un ucap] (by unfold execOp; simp; go_simp) (HOPA.out _ _ _ _ HCUR.out HOU.out HNG.out) ?_; rintro ε w9 ⟨code, rfl, hd9⟩; refine ⟨_, rfl, ?_⟩; have HD9 := hide hd9; clear hd9))
          all_goals
            clear HOPA HE HYE z1 z3 zz1 HOU HCUR HNG v1 v3
            go_wp2_with fail
            go_roundw
            case rel => exact ⟨k + 1, by omega, by simp, by rw [HTK.out]; exact HD9.out⟩
            case measure => simp [intOf]; omega
        · have HC : Hid (Calls Try.prog 27 #[.pointer (some ⟨dp, 0, none⟩), .string snm] wv fun e w' => ∃ code, e = .returned (.int .i64 code) ∧ Dsk w1 w' dp (act S x)) := by
            have h1 := sync_dsk HDV.out x.nm HX.out.nm
            rw [show act S x = (sync S x.nm).2 by unfold act; rw [hkd]; rfl, HSNM.out]
            exact h1.mono fun e w' ⟨he, hd⟩ => ⟨_, he, hd⟩
          rw [hkd] at v0
          clear hkd
          go_wp2_with (first | (go_at_call 27; refine HC.out.mono ?_; rintro e w9 ⟨code, rfl, hd9⟩; have HD9 := hide hd9; clear hd9) | fail)
          go_roundw
          case rel => exact ⟨k + 1, by omega, by simp, by rw [HTK.out]; exact HD9.out⟩
          case measure => simp [intOf]; omega
        · have HC : Hid (Calls Try.prog 28 #[.pointer (some ⟨dp, 0, none⟩), .string snm, .string stn] wv fun e w' => ∃ code, e = .returned (.int .i64 code) ∧ Dsk w1 w' dp (act S x)) := by
            have h1 := rename_dsk HDV.out x.nm x.tn HX.out.nm HX.out.tn
            rw [show act S x = (rename S x.nm x.tn).2 by unfold act; rw [hkd]; rfl, HSNM.out, HSTN.out]
            exact h1.mono fun e w' ⟨he, hd⟩ => ⟨_, he, hd⟩
          rw [hkd] at v0
          clear hkd
          go_wp2_with (first | (go_at_call 28; refine HC.out.mono ?_; rintro e w9 ⟨code, rfl, hd9⟩; have HD9 := hide hd9; clear hd9) | fail)
          go_roundw
          case rel => exact ⟨k + 1, by omega, by simp, by rw [HTK.out]; exact HD9.out⟩
          case measure => simp [intOf]; omega
        · have HC : Hid (Calls Try.prog 29 #[.pointer (some ⟨dp, 0, none⟩), .string snm] wv fun e w' => ∃ code, e = .returned (.int .i64 code) ∧ Dsk w1 w' dp (act S x)) := by
            have h1 := remove_dsk HDV.out x.nm HX.out.nm
            rw [show act S x = (remove S x.nm).2 by unfold act; rw [hkd]; rfl, HSNM.out]
            exact h1.mono fun e w' ⟨he, hd⟩ => ⟨_, he, hd⟩
          rw [hkd] at v0
          clear hkd
          go_wp2_with (first | (go_at_call 29; refine HC.out.mono ?_; rintro e w9 ⟨code, rfl, hd9⟩; have HD9 := hide hd9; clear hd9) | fail)
          go_roundw
          case rel => exact ⟨k + 1, by omega, by simp, by rw [HTK.out]; exact HD9.out⟩
          case measure => simp [intOf]; omega
        · have HC : Hid (Calls Try.prog 21 #[.pointer (some ⟨dp, 0, none⟩)] wv fun e w' => ∃ code, e = .returned (.int .i64 code) ∧ Dsk w1 w' dp (act S x)) := by
            have h1 := syncDir_dsk HDV.out
            rw [show act S x = (syncDir S).2 by unfold act; rw [hkd]; rfl]
            exact h1.mono fun e w' ⟨he, hd⟩ => ⟨_, he, hd⟩
          rw [hkd] at v0
          clear hkd
          go_wp2_with (first | (go_at_call 21; refine HC.out.mono ?_; rintro e w9 ⟨code, rfl, hd9⟩; have HD9 := hide hd9; clear hd9) | fail)
          go_roundw
          case rel => exact ⟨k + 1, by omega, by simp, by rw [HTK.out]; exact HD9.out⟩
          case measure => simp [intOf]; omega
        · have HC : Hid (Calls Try.prog 19 #[.pointer (some ⟨dp, 0, none⟩), .int .i64 x.n] wv fun e w' => e = .returned (.tuple #[]) ∧ Dsk w1 w' dp (act S x)) := by
            have h1 := arm_dsk HDV.out x.n HX.out.n
            rw [show act S x = arm S x.n by unfold act; rw [hkd]; rfl]
            exact h1
          rw [hkd] at v0
          clear hkd
          go_wp2_with (first | (go_at_call 19; refine HC.out.mono ?_; rintro e w9 ⟨rfl, hd9⟩; have HD9 := hide hd9; clear hd9) | fail)
          go_roundw
          case rel => exact ⟨k + 1, by omega, by simp, by rw [HTK.out]; exact HD9.out⟩
          case measure => simp [intOf]; omega
        · obtain ⟨q1, q2, q3, q4, q5, q6, q7⟩ := hkd
          have HEQ : Hid (act S x = S) := by show _ = _; unfold act; rw [if_neg q1, if_neg q2, if_neg q3, if_neg q4, if_neg q5, if_neg q6, if_neg q7]
          have HD9 : Hid (Dsk w1 wv dp (act S x)) := by rw [HEQ.out]; exact HDV.out
          generalize x.kind = kd at *
          have b1 : (kd == 1) = false := by rw [beq_eq_false_iff_ne]; exact q1
          have b2 : (kd == 2) = false := by rw [beq_eq_false_iff_ne]; exact q2
          have b3 : (kd == 3) = false := by rw [beq_eq_false_iff_ne]; exact q3
          have b4 : (kd == 4) = false := by rw [beq_eq_false_iff_ne]; exact q4
          have b5 : (kd == 5) = false := by rw [beq_eq_false_iff_ne]; exact q5
          have b6 : (kd == 6) = false := by rw [beq_eq_false_iff_ne]; exact q6
          have b7 : (kd == 10) = false := by rw [beq_eq_false_iff_ne]; exact q7
          go_wp2_with fail
          go_roundw
          case rel => exact ⟨k + 1, by omega, by simp, by rw [HTK.out]; exact HD9.out⟩
          case measure => simp [intOf]; omega
      · have hki : ¬ (k : Int) < (an : Int) := by omega
        have hte : l.take k = l := List.take_of_length_le (by have := HAN.out; omega)
        rw [hte, HS0.out] at HDK
        have HX := hide (HPY.out dp wr H0.out (HDK.out.outer HUW1.out))
        clear hte
        go_wp2_with fail
        first | (go_ret; exact ⟨trivial, HX.out⟩) | exact HX.out
  · have HNEW : Hid (∀ W vao m cap us, FOwn W u.heap.size (.slice vao m cap) fs us → Calls Try.prog 10 #[.slice vao m cap, .int .i64 room] W fun e w' => e = .returned (.tuple #[.pointer none, .int .i64 (newErr fs room : Int)]) ∧ Below W.heap.size W w') := fun W vao m cap us hF => by
      have hm : m = fs.length ∧ m ≤ cap := by
        rcases hF.row.2 with ⟨e, e2⟩ | ⟨g, cap', cur, e, _, _, h3, _⟩
        · injection e with _ e3 e4; omega
        · injection e with _ e3 e4; omega
      exact new_none vao m cap fs room W hF.see hm.1 hm.2 HFS.out HR.out h0
    have H0 := hide h0
    have hne : ((newErr fs room : Int) != 0) = true := by simp; omega
    have hne2 : ¬ (newErr fs room : Int) = 0 := by omega
    have HX : Hid (∀ w', Below w.heap.size w w' → PP (.returned (.pointer none)) w') := fun w' hb => HPN.out w' h0 hb
    clear h0
    generalize newErr fs room = ne at *
    go_region_held (fun W => W.cell? ⟨N, 0, none⟩ = some (.slice fao fn fc) ∧ W.cell? ⟨N, 1, none⟩ = some (.int .i64 room)) (go_keep) (first | (go_at_call 11; refine HC.out.mono ?_; rintro e w1 ⟨vao, m, cap, rfl, ⟨us, hF⟩, hb⟩; have HF := hide hF; have hb1 := below_undrew hb; have HB1 := hide hb1; have d0 := cell_kept c0 hb1; have d1 := cell_kept c1 hb1; clear hF hb hb1 HC) | (go_at_call 10; refine (HNEW.out _ _ _ _ _ HF.out).mono ?_; rintro e w2 ⟨rfl, hd⟩; have HD := hide hd; have e0 := cell_kept d0 hd; have e1 := cell_kept d1 hd; clear hd))
    clear e0 e1 d0 d1 c0 c1 HNEW HF
    go_wp2_with (first | (go_at_call 12; refine (num_any _ _).mono ?_; rintro e wx ⟨rfl, hwx⟩; subst hwx) | fail)
    have HY := hide (HX.out _ ((HU.out.trans (HB1.out.mono HU.out.size)).trans (HD.out.mono (by have h1 := HU.out.size; have h2 := HB1.out.size; omega))))
    first | (go_ret; exact ⟨trivial, HY.out⟩) | exact HY.out
end Go.Proofs.Ytmdgecjflkkhdab
