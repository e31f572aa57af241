/- The contracts of one and same. -/
import Derived.Test.YtmdgecjflkkhdabDGuard
import Derived.Test.YtmdgecjflkkhdabDFiles
import Derived.Test.YtmdgecjflkkhdabDPlay
namespace Go.Proofs.Ytmdgecjflkkhdab
open Go.RowKit Go.Maps

/-- One call that changes, on plain data. -/
def opOf (x : Ac) (S : DS) : Nat × DS := if x.kind = 1 then create S x.nm else if x.kind = 2 then append S x.nm x.p else if x.kind = 3 then sync S x.nm else if x.kind = 4 then rename S x.nm x.tn else if x.kind = 5 then remove S x.nm else syncDir S
theorem Held.under {G : Nat → Prop} {w w1 w' : World} (h : Held G w1 w') (k : Held G w w1) : Held G w w' := k.trans h
def OnePost (G : Nat → Prop) (w0 w : World) (dp : Nat) (R : Nat × DS) (e : Ending) (w' : World) : Prop := e = .returned (.int .i64 (R.1 : Int)) ∧ DskG G w0 w' dp R.2 ∧ Held G w w'
set_option maxHeartbeats 8000000 in
set_option maxRecDepth 100000 in
theorem one_g {G : Nat → Prop} {w0 w : World} {dp : Nat} {S : DS} (h : DskG G w0 w dp S) (x : Ac) (hx : AOk x) (pao : Option Addr) (pl pc : Nat) (tao : Option Addr) (tl tc : Nat) (hpl : pl = x.p.length) (hr : Row w pao x.p) :
    Calls Try.prog 20 #[pf dp, .agg #[.int .i64 x.kind, .string (str x.nm), .string (str x.tn), .slice pao pl pc, .int .i64 x.n, .int .i64 x.dir, .slice tao tl tc]] w fun e w' => True ∧ OnePost G w0 w dp (opOf x S) e w' := by
  obtain ⟨PP, hPP⟩ : ∃ PP, PP = OnePost G w0 w dp (opOf x S) := ⟨_, rfl⟩
  rw [← hPP]
  obtain ⟨snm, hsnm⟩ : ∃ s, s = str x.nm := ⟨_, rfl⟩
  obtain ⟨stn, hstn⟩ : ∃ s, s = str x.tn := ⟨_, rfl⟩
  rw [← hsnm, ← hstn]
  have HV := hide (Bl.new w #[.int .i64 x.kind, .string snm, .string stn, .slice pao pl pc, .int .i64 x.n, .int .i64 x.dir, .slice tao tl tc] 50)
  have HBV := hide (below_new w (.cells #[.int .i64 x.kind, .string snm, .string stn, .slice pao pl pc, .int .i64 x.n, .int .i64 x.dir, .slice tao tl tc] 50))
  have HDV := hide (h.below HBV.out)
  have HRV := hide (hr.keep HBV.out)
  have HX := hide hx
  have HPL := hide hpl
  have HSNM := hide hsnm
  have HSTN := hide hstn
  have HPP := hide hPP
  have hkd : x.kind = 1 ∨ x.kind = 2 ∨ x.kind = 3 ∨ x.kind = 4 ∨ x.kind = 5 ∨ (¬ x.kind = 1 ∧ ¬ x.kind = 2 ∧ ¬ x.kind = 3 ∧ ¬ x.kind = 4 ∧ ¬ x.kind = 5) := by omega
  have HKD := hide hkd
  unfold pf
  clear hx hpl hr hsnm hstn hPP hkd h
  go_enter Try.func20, Try.ntmps20
  go_upto_region 1 with fail
  obtain ⟨M, hM⟩ : ∃ M, M = w.heap.size := ⟨_, rfl⟩
  rw [← hM] at HV ⊢
  clear hM
  generalize w.alloc (.cells #[.int .i64 x.kind, .string snm, .string stn, .slice pao pl pc, .int .i64 x.n, .int .i64 x.dir, .slice tao tl tc] 50) = wv at *
  have v0 : wv.cell? ⟨M, 0, none⟩ = some (.int .i64 x.kind) := HV.out.cell 0
  have v1 : wv.cell? ⟨M, 1, none⟩ = some (.string snm) := HV.out.cell 1
  have v2 : wv.cell? ⟨M, 2, none⟩ = some (.string stn) := HV.out.cell 2
  have v3 : wv.cell? ⟨M, 3, none⟩ = some (.slice pao pl pc) := HV.out.cell 3
  rcases HKD.out with hkd | hkd | hkd | hkd | hkd | hkd
  · have HC : Hid (Calls Try.prog 25 #[.pointer (some ⟨dp, 0, none⟩), .string snm] wv fun e w' => ∃ code, e = .returned (.int .i64 code) ∧ PP (.returned (.int .i64 code)) w') := by
      have h1 := create_g HDV.out.1 x.nm HX.out.nm
      rw [HPP.out, HSNM.out, show opOf x S = create S x.nm by unfold opOf; rw [hkd]; rfl]
      exact h1.mono fun e w' ⟨he, hd, hh⟩ => ⟨_, he, rfl, hd, hh.under HDV.out.2⟩
    rw [hkd] at v0
    clear hkd
    go_wp2_with (first | (go_at_call 25; refine HC.out.mono ?_; rintro e w9 ⟨code, rfl, hd9⟩; have HD9 := hide hd9; clear hd9) | fail)
    first | (go_ret; exact ⟨trivial, HD9.out⟩) | exact HD9.out
  · have HOPA : Hid (∀ (W : World) (uao : Option Addr) (un ucap : Nat), Below wv.heap.size wv W → Own W 0 (.slice uao un ucap) x.p → (∀ g, (Value.slice uao un ucap).ownBlock = some g → wv.heap.size ≤ g) → Calls Try.prog 26 #[.pointer (some ⟨dp, 0, none⟩), .string snm, .slice uao un ucap] W fun e w' => ∃ code, e = .returned (.int .i64 code) ∧ PP (.returned (.int .i64 code)) w') := fun W uao un ucap g1 g2 g3 => by
      rw [HPP.out, HSNM.out, show opOf x S = append S x.nm x.p by unfold opOf; rw [hkd]; rfl]
      obtain ⟨ao', cap', e, _, hrow⟩ := g2.read
      injection e with e1 e2 e3
      subst e1; subst e3
      refine (append_g HDV.out.1 x.nm HX.out.nm g1 uao un ucap x.p e2 hrow (fun a ha => ?_) (by rw [e2]; have := HX.out.pl; omega) HX.out.pb).mono fun e w' ⟨he, hd, hh⟩ => ⟨_, he, rfl, hd, hh.under HDV.out.2⟩
      subst ha
      exact g3 a.block rfl
    rw [hkd] at v0
    clear hkd
    have HE := hide (own_new wv 0 [] (Nat.zero_le _) (Nat.zero_le _))
    have HYE := hide (HRV.out.keep (below_new wv (.cells #[] 5)))
    have z1 := cell_kept v1 (below_new wv (.cells #[] 5))
    have z3 := cell_kept v3 (below_new wv (.cells #[] 5))
    go_wp2_with fail
    go_region_law (first
      | (refine law_appB rfl (.tmp 18) (.tmp 20) rfl (.slice (some ⟨wv.heap.size, 0, none⟩) 0 0) [] rfl HE.out pao pl pc x.p HPL.out rfl HYE.out (by have := HX.out.pl; simp; omega) ?_; intro uao un ucap w3 h3 g3 l3; have HOU := hide (show Own w3 0 (.slice uao un ucap) x.p from h3); have hann := app_new (grown_undrew g3) l3; have HCUR := hide hann.1; have HNG := hide hann.2; have zz1 := cell_kept v1 hann.1; clear h3 g3 l3 hann)
      | (refine law_call rfl 22 rfl 26 #[.pointer (some ⟨dp, 0, none⟩), .string snm, .slice uao un ucap] (by unfold execOp; simp; go_simp) (HOPA.out _ _ _ _ HCUR.out HOU.out HNG.out) ?_; rintro ε w9 ⟨code, rfl, hd9⟩; refine ⟨_, rfl, ?_⟩; have HD9 := hide hd9; clear hd9))
    all_goals
      clear HOPA HE HYE z1 z3 zz1 HOU HCUR HNG v1 v3
      first | (go_wp2_with fail; go_ret; exact ⟨trivial, HD9.out⟩) | (go_wp2_with fail; exact HD9.out) | (go_ret; exact ⟨trivial, HD9.out⟩)
  · have HC : Hid (Calls Try.prog 27 #[.pointer (some ⟨dp, 0, none⟩), .string snm] wv fun e w' => ∃ code, e = .returned (.int .i64 code) ∧ PP (.returned (.int .i64 code)) w') := by
      have h1 := sync_g HDV.out.1 x.nm HX.out.nm
      rw [HPP.out, HSNM.out, show opOf x S = sync S x.nm by unfold opOf; rw [hkd]; rfl]
      exact h1.mono fun e w' ⟨he, hd, hh⟩ => ⟨_, he, rfl, hd, hh.under HDV.out.2⟩
    rw [hkd] at v0
    clear hkd
    go_wp2_with (first | (go_at_call 27; refine HC.out.mono ?_; rintro e w9 ⟨code, rfl, hd9⟩; have HD9 := hide hd9; clear hd9) | fail)
    first | (go_ret; exact ⟨trivial, HD9.out⟩) | exact HD9.out
  · have HC : Hid (Calls Try.prog 28 #[.pointer (some ⟨dp, 0, none⟩), .string snm, .string stn] wv fun e w' => ∃ code, e = .returned (.int .i64 code) ∧ PP (.returned (.int .i64 code)) w') := by
      have h1 := rename_g HDV.out.1 x.nm x.tn HX.out.nm HX.out.tn
      rw [HPP.out, HSNM.out, HSTN.out, show opOf x S = rename S x.nm x.tn by unfold opOf; rw [hkd]; rfl]
      exact h1.mono fun e w' ⟨he, hd, hh⟩ => ⟨_, he, rfl, hd, hh.under HDV.out.2⟩
    rw [hkd] at v0
    clear hkd
    go_wp2_with (first | (go_at_call 28; refine HC.out.mono ?_; rintro e w9 ⟨code, rfl, hd9⟩; have HD9 := hide hd9; clear hd9) | fail)
    first | (go_ret; exact ⟨trivial, HD9.out⟩) | exact HD9.out
  · have HC : Hid (Calls Try.prog 29 #[.pointer (some ⟨dp, 0, none⟩), .string snm] wv fun e w' => ∃ code, e = .returned (.int .i64 code) ∧ PP (.returned (.int .i64 code)) w') := by
      have h1 := remove_g HDV.out.1 x.nm HX.out.nm
      rw [HPP.out, HSNM.out, show opOf x S = remove S x.nm by unfold opOf; rw [hkd]; rfl]
      exact h1.mono fun e w' ⟨he, hd, hh⟩ => ⟨_, he, rfl, hd, hh.under HDV.out.2⟩
    rw [hkd] at v0
    clear hkd
    go_wp2_with (first | (go_at_call 29; refine HC.out.mono ?_; rintro e w9 ⟨code, rfl, hd9⟩; have HD9 := hide hd9; clear hd9) | fail)
    first | (go_ret; exact ⟨trivial, HD9.out⟩) | exact HD9.out
  · obtain ⟨k1, k2, k3, k4, k5⟩ := hkd
    have HC : Hid (Calls Try.prog 21 #[.pointer (some ⟨dp, 0, none⟩)] wv fun e w' => ∃ code, e = .returned (.int .i64 code) ∧ PP (.returned (.int .i64 code)) w') := by
      have h1 := syncDir_g HDV.out.1
      rw [HPP.out, show opOf x S = syncDir S by unfold opOf; rw [if_neg k1, if_neg k2, if_neg k3, if_neg k4, if_neg k5]]
      exact h1.mono fun e w' ⟨he, hd, hh⟩ => ⟨_, he, rfl, hd, hh.under HDV.out.2⟩
    generalize x.kind = kd at *
    have e1 : ((kd : Int) == 1) = false := by rw [beq_eq_false_iff_ne]; exact k1
    have e2 : ((kd : Int) == 2) = false := by rw [beq_eq_false_iff_ne]; exact k2
    have e3 : ((kd : Int) == 3) = false := by rw [beq_eq_false_iff_ne]; exact k3
    have e4 : ((kd : Int) == 4) = false := by rw [beq_eq_false_iff_ne]; exact k4
    have e5 : ((kd : Int) == 5) = false := by rw [beq_eq_false_iff_ne]; exact k5
    go_wp2_with (first | (go_at_call 21; refine HC.out.mono ?_; rintro e w9 ⟨code, rfl, hd9⟩; have HD9 := hide hd9; clear hd9) | fail)
    first | (go_ret; exact ⟨trivial, HD9.out⟩) | exact HD9.out
set_option maxHeartbeats 1000000 in
set_option maxRecDepth 100000 in
theorem same_true (lao wao : Option Addr) (n lc wc : Nat) (fs : List Fi) (w : World) (hl : FSee w lao fs) (hw : FSee w wao fs) (hn : n = fs.length) (hb : n ≤ 64) (hs : ∀ f ∈ fs, f.2.length ≤ 4194304) :
    Calls Try.prog 22 #[.slice lao n lc, .slice wao n wc] w fun e w' => e = .returned (.bool true) ∧ Below w.heap.size w w' := by
  have HO := hide (ours_any wao n wc fs w hw hn (by omega) (fun f hf => by have := hs f hf; omega))
  have HL := hide hl
  have HN := hide hn
  have HB := hide hb
  have HF : Hid (∀ W vao m cap us, FSee W lao fs → ROwn W w.heap.size (.slice vao m cap) fs us → Calls Try.prog 16 #[.slice lao n lc, .slice vao m cap] W fun e w' => e = .returned (.bool true) ∧ ∃ m, w' = W.drewN m) := fun W vao m cap us g1 g2 => by
    have hm : m = n := by obtain ⟨a', c', e'⟩ := ownsRow_slice g2.row; injection e' with _ e2 _; rw [e2, HN.out]
    subst hm
    exact files_true lao vao m lc cap fs W g1 g2.see HN.out (by have := HB.out; omega)
  clear hl hw hn hb hs
  go_enter Try.func22, Try.ntmps22
  go_wp2_with (first | (go_at_call 15; refine HO.out.mono ?_; rintro e w2 ⟨vao, m, cap, rfl, ⟨us, h2⟩, b2⟩; have H2 := hide h2; have B2 := hide b2; have L2 := hide (HL.out.keep b2); clear h2 b2) | (go_at_call 16; refine (HF.out _ _ _ _ _ L2.out H2.out).mono ?_; rintro e w3 ⟨rfl, m3, h3⟩; have H3 : Hid (Below w2.heap.size w2 w3) := (by rw [h3]; exact below_drewN (Below.refl _ _) _); clear h3) | fail)
  go_ret
  exact ⟨rfl, B2.out.trans (H3.out.mono B2.out.size)⟩
end Go.Proofs.Ytmdgecjflkkhdab
