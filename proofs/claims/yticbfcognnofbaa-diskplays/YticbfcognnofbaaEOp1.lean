/- The contracts of the document's part, Arm, goes, used, Free. -/
import Derived.Test.YticbfcognnofbaaERep
namespace Go.Proofs.Yticbfcognnofbaa
open Go.RowKit Go.Maps

set_option maxHeartbeats 400000 in
theorem epart_any (n : Int) (most : Nat) (w : World) (hm : most ≤ 9223372036854775807) :
    Calls Try.prog 68 #[.int .i64 n, .int .i64 (most : Int)] w fun e w' => e = .returned (.int .i64 (part n most : Int)) ∧ w' = w := by
  obtain ⟨r, hr⟩ : ∃ r : Int, r = part n most := ⟨_, rfl⟩
  rw [← hr]
  have HR : Hid (r = min (max n 0) (most : Int)) := by show _ = _; rw [hr]; unfold part; omega
  clear hr
  by_cases h1 : n < 0
  · go_enter Try.func68, Try.ntmps68
    go_wp2
    go_ret
    exact ⟨ret_int (by rw [HR.out]; omega), rfl⟩
  · by_cases h2 : (most : Int) < n
    · go_enter Try.func68, Try.ntmps68
      go_wp2
      go_ret
      exact ⟨ret_int (by rw [HR.out]; omega), rfl⟩
    · go_enter Try.func68, Try.ntmps68
      go_wp2
      go_ret
      exact ⟨ret_int (by rw [HR.out]; omega), rfl⟩
theorem RRep.box1 {w : World} {rp : Nat} {S : DS} {L : RL} (h : RRep w rp S L) (n : Nat) : RRep (w.setCell ⟨rp, 6, none⟩ (.int .i64 (n : Int))) rp { S with armed := n } L :=
  h.setBox 6 _ rfl rfl rfl rfl h.dir h.safe rfl rfl h.sep
theorem RRep.box2 {w : World} {rp : Nat} {S : DS} {L : RL} (h : RRep w rp S L) (n : Nat) : RRep (w.setCell ⟨rp, 5, none⟩ (.int .i64 (n : Int))) rp { S with ops := n } L :=
  h.setBox 5 _ rfl rfl rfl rfl h.dir h.safe rfl rfl h.sep
theorem RRep.box3 {w : World} {rp : Nat} {S : DS} {L : RL} (h : RRep w rp S L) (b : Bool) : RRep (w.setCell ⟨rp, 7, none⟩ (.bool b)) rp { S with dead := b } L :=
  h.setBox 7 _ rfl rfl rfl rfl h.dir h.safe rfl rfl h.sep
theorem RAft.mk0 {w w' : World} {rp : Nat} {L : RL} {S : DS} (h : RRep w' rp S L) (hf : Fr (L.mut rp) w w') : RAft w w' rp L S := ⟨L, h, hf, fun _ hm => .inl hm⟩
set_option maxHeartbeats 1000000 in
set_option maxRecDepth 100000 in
theorem earm_any (rp : Nat) (S : DS) (L : RL) (n : Int) (w : World) (h : RRep w rp S L) :
    Calls Try.prog 49 #[pf rp, .int .i64 n] w fun e w' => e = .returned (.tuple #[]) ∧ RAft w w' rp L (arm S n) := by
  obtain ⟨c0, c1, c2, c3, c4, c5, c6, c7⟩ := h.c
  have f6 := h.box.frozen 6
  have H := hide h
  unfold arm
  unfold pf
  cases hd : S.dead with
  | true =>
    rw [hd] at c7
    clear h hd c0 c1 c2 c3 c4 c5
    go_enter Try.func49, Try.ntmps49
    go_wp2
    (try simp only [Exit.inBlock, Exit.then]); refine bodyPost_ret (results_none rfl _ _ _) rfl ?_
    exact ⟨rfl, by simpa using RAft.same H.out (Below.refl _ _)⟩
  | false =>
    rw [hd] at c7
    have HZ := hide (h.box1 0)
    have HZF := hide (Fr.rp (w := w) (rp := rp) (i := 6) (v := .int .i64 ((0 : Nat) : Int)) (L := L))
    have z6 := HZ.out.c.2.2.2.2.2.2.1
    have zf := HZ.out.box.frozen 6
    have HS : Hid (0 < n → RAft w ((w.setCell ⟨rp, 6, none⟩ (.int .i64 ((0 : Nat) : Int))).setCell ⟨rp, 6, none⟩ (.int .i64 n)) rp L { S with armed := n.toNat, dead := false }) := fun hn => by
      have := (h.box1 0).box1 n.toNat
      rw [show ((n.toNat : Nat) : Int) = n by omega] at this
      rw [show ({ S with armed := n.toNat, dead := false } : DS) = { S with armed := n.toNat } by rw [← hd]]
      exact .mk0 this (Fr.rp.trans Fr.rp (fun x hx => .inl hx))
    have HS0 : Hid (¬ 0 < n → RAft w (w.setCell ⟨rp, 6, none⟩ (.int .i64 ((0 : Nat) : Int))) rp L { S with armed := n.toNat, dead := false }) := fun hn => by
      have := h.box1 0
      rw [show ({ S with armed := n.toNat, dead := false } : DS) = { S with armed := 0 } by rw [← hd, show n.toNat = 0 by omega]]
      exact .mk0 this Fr.rp
    rw [show ((0 : Nat) : Int) = 0 from rfl] at HS HS0 z6 zf
    clear h hd c0 c1 c2 c3 c4 c5 H HZ HZF
    by_cases hn : 0 < n
    · have HE := hide (HS.out hn)
      go_enter Try.func49, Try.ntmps49
      go_wp2
      go_end0
      exact ⟨rfl, HE.out⟩
    · have HE := hide (HS0.out hn)
      go_enter Try.func49, Try.ntmps49
      go_wp2
      go_end0
      exact ⟨rfl, HE.out⟩
def goneS (S : DS) : DS := if S.armed = 1 then { S with armed := 0, dead := true } else { S with armed := S.armed - 1, ops := S.ops + 1 }
theorem goes_eq {S : DS} (f : DS → DS) (h : S.ops < 1048576) : goes S f = if S.armed = 1 then (51, goneS S) else (0, f (goneS S)) := by
  unfold goes goneS
  rw [if_neg (by omega)]
  split <;> rfl
set_option maxHeartbeats 1000000 in
set_option maxRecDepth 100000 in
theorem egoes_any (rp : Nat) (S : DS) (L : RL) (w : World) (h : RRep w rp S L) (ho : S.ops < 1048576) (ha : S.armed ≤ 9223372036854775807) :
    Calls Try.prog 70 #[pf rp] w fun e w' => e = .returned (.int .i64 (if S.armed = 1 then 51 else 0)) ∧ RRep w' rp (goneS S) L ∧ Fr (L.mut rp) w w' := by
  obtain ⟨c0, c1, c2, c3, c4, c5, c6, c7⟩ := h.c
  have f5 := h.box.frozen 5
  have f6 := h.box.frozen 6
  have f7 := h.box.frozen 7
  unfold goneS
  unfold pf
  by_cases h0 : S.armed = 0
  · have h1 : ¬ S.armed = 1 := by omega
    rw [if_neg h1, if_neg h1]
    have HE : Hid (RRep (w.setCell ⟨rp, 5, none⟩ (.int .i64 ((S.ops : Int) + 1))) rp { S with armed := S.armed - 1, ops := S.ops + 1 } L) := by
      have := h.box2 (S.ops + 1)
      rw [show (((S.ops + 1 : Nat)) : Int) = (S.ops : Int) + 1 by omega] at this
      rw [show S.armed - 1 = S.armed by omega]
      exact this
    rw [h0] at c6
    have hob : (S.ops : Int) + 1 ≤ 4611686018427387904 := by omega
    generalize ({ S with armed := S.armed - 1, ops := S.ops + 1 } : DS) = S2 at *
    generalize S.ops = o at *
    clear h c0 c1 c2 c3 c4 c7 h0 h1 ha ho
    go_enter Try.func70, Try.ntmps70
    go_wp2
    go_ret
    exact ⟨rfl, HE.out, Fr.rp⟩
  · by_cases h1 : S.armed = 1
    · rw [if_pos h1, if_pos h1]
      have HE : Hid (RRep ((w.setCell ⟨rp, 6, none⟩ (.int .i64 0)).setCell ⟨rp, 7, none⟩ (.bool true)) rp { S with armed := 0, dead := true } L) := (h.box1 0).box3 true
      have z6 : (w.setCell ⟨rp, 6, none⟩ (.int .i64 0)).cell? ⟨rp, 6, none⟩ = some (.int .i64 0) := (h.box1 0).c.2.2.2.2.2.2.1
      have z7 : (w.setCell ⟨rp, 6, none⟩ (.int .i64 0)).cell? ⟨rp, 7, none⟩ = some (.bool S.dead) := (h.box1 0).c.2.2.2.2.2.2.2
      have zf : (w.setCell ⟨rp, 6, none⟩ (.int .i64 0)).frozen? ⟨rp, 7, none⟩ = false := (h.box1 0).box.frozen 7
      rw [h1] at c6
      have c6' : w.cell? ⟨rp, 6, none⟩ = some (.int .i64 1) := c6
      clear h c0 c1 c2 c3 c4 c5 c7 h0 h1 ha ho c6
      go_enter Try.func70, Try.ntmps70
      go_wp2
      go_ret
      exact ⟨rfl, HE.out, Fr.rp.trans Fr.rp (fun x hx => .inl hx)⟩
    · rw [if_neg h1, if_neg h1]
      obtain ⟨a, hae⟩ : ∃ a, a = S.armed - 1 := ⟨_, rfl⟩
      have hea : S.armed = a + 1 := by omega
      have HE : Hid (RRep ((w.setCell ⟨rp, 6, none⟩ (.int .i64 (a : Int))).setCell ⟨rp, 5, none⟩ (.int .i64 ((S.ops : Int) + 1))) rp { S with armed := S.armed - 1, ops := S.ops + 1 } L) := by
        have := (h.box1 a).box2 (S.ops + 1)
        rw [show (((S.ops + 1 : Nat)) : Int) = (S.ops : Int) + 1 by omega] at this
        rw [← hae]
        exact this
      have z6 : (w.setCell ⟨rp, 6, none⟩ (.int .i64 (a : Int))).cell? ⟨rp, 6, none⟩ = some (.int .i64 (a : Int)) := (h.box1 a).c.2.2.2.2.2.2.1
      have z5 : (w.setCell ⟨rp, 6, none⟩ (.int .i64 (a : Int))).cell? ⟨rp, 5, none⟩ = some (.int .i64 (S.ops : Int)) := (h.box1 a).c.2.2.2.2.2.1
      have zf : (w.setCell ⟨rp, 6, none⟩ (.int .i64 (a : Int))).frozen? ⟨rp, 5, none⟩ = false := (h.box1 a).box.frozen 5
      rw [hea] at c6
      have hob : (S.ops : Int) + 1 ≤ 4611686018427387904 := by omega
      have ha0 : 0 < a := by omega
      have q : wrap64 (((a + 1 : Nat) : Int) - 1) = (a : Int) := by unfold wrap64; omega
      have q2 : IntKind.i64.wrap (((a + 1 : Nat) : Int) - 1) = (a : Int) := by rw [IntKind.wrap_i64]; omega
      have hp : (0 : Int) < ((a + 1 : Nat) : Int) := by omega
      have hz : ¬ (a : Int) = 0 := by omega
      have hz2 : ((a : Int) == 0) = false := by simp; omega
      generalize ({ S with armed := S.armed - 1, ops := S.ops + 1 } : DS) = S2 at *
      generalize S.ops = o at *
      generalize ((a + 1 : Nat) : Int) = a1 at *
      clear h c0 c1 c2 c3 c4 c5 c7 h0 h1 ha ho hea hae
      go_enter Try.func70, Try.ntmps70
      go_wp2
      go_ret
      exact ⟨rfl, HE.out, Fr.rp.trans Fr.rp (fun x hx => .inl hx)⟩
theorem sizes_take {fs : List Fl} {d : Dir} {k : Nat} {p : Nm × Nat} (h : d[k]? = some p) : sizes fs (d.take (k + 1)) = sizes fs (d.take k) + (flAt fs p.2).bys.length := by
  rw [List.take_add_one, h]
  simp [sizes]
theorem sizes_take_le {fs : List Fl} (d : Dir) (k : Nat) : sizes fs (d.take k) ≤ sizes fs d := by
  have : sizes fs d = sizes fs (d.take k) + sizes fs (d.drop k) := by
    unfold sizes
    rw [← List.sum_append, ← List.map_append, List.take_append_drop]
  omega
set_option maxHeartbeats 1000000 in
set_option maxRecDepth 100000 in
theorem eused_any (rp : Nat) (S : DS) (L : RL) (w : World) (h : RRep w rp S L) (hO : Ok S) :
    Calls Try.prog 67 #[pf rp] w fun e w' => e = .returned (.int .i64 (sizes S.files S.dir : Int)) ∧ ∃ m, w' = w.drewN m := by
  obtain ⟨n, hn⟩ : ∃ n, n = S.dir.length := ⟨_, rfl⟩
  have HN := hide hn
  have H := hide h
  have HO := hide hO
  have HSM := hide hO.small
  have HDL : Hid (n ≤ 64) := by rw [hn]; exact hO.dir.len
  obtain ⟨ao, cap, hdv⟩ := ownsRow_slice h.dir
  rw [← hn] at hdv
  have c2 := h.c.2.2.1
  rw [hdv] at c2
  unfold pf
  clear h hO hn
  go_enter Try.func67, Try.ntmps67
  go_wp2_with fail
  go_loopw [3, 4] (fun z i wr => ∃ k m : Nat, k ≤ n ∧ i = .int .i64 (k : Int) ∧ z = .int .i64 ((sizes S.files (S.dir.take k) : Nat) : Int) ∧ wr = w.drewN m) (fun _ i _ => n - (intOf i).toNat)
  case atStart => exact ⟨0, 0, Nat.zero_le _, rfl, rfl, rfl⟩
  case round =>
    obtain ⟨k, m, hk, rfl, rfl, rfl⟩ := hrel
    have d2 : (w.drewN m).cell? ⟨rp, 2, none⟩ = some (.slice ao n cap) := c2
    by_cases hlt : k < n
    · obtain ⟨⟨pn, pi⟩, hp⟩ : ∃ p, S.dir[k]? = some p := ⟨_, List.getElem?_eq_getElem (by rw [← HN.out]; exact hlt)⟩
      have hpi : pi < S.files.length := HO.out.dir.num _ (List.mem_of_getElem? hp)
      obtain ⟨g, cap2, e1, x1, x2, hcap⟩ := (H.out.drewN m).dirAt hp
      obtain ⟨gf, cf, bo, bc, e3, hcf, -, y1, y2, -, -⟩ := (H.out.drewN m).file hpi
      have d1 : (w.drewN m).cell? ⟨rp, 1, none⟩ = some (.slice (some ⟨gf, 0, none⟩) S.files.length cf) := by rw [← e3]; exact (H.out.drewN m).c.2.1
      rw [hdv, ← HN.out] at e1
      injection e1 with e1 _ e4
      subst e1; subst e4
      rw [← HN.out] at hcap
      have HSZ : Hid (sizes S.files (S.dir.take (k + 1)) = sizes S.files (S.dir.take k) + (flAt S.files pi).bys.length) := sizes_take (fs := S.files) hp
      have hb1 := sizes_take_le (fs := S.files) S.dir (k + 1)
      have hsum : ((sizes S.files (S.dir.take k) : Nat) : Int) + (((flAt S.files pi).bys.length : Nat) : Int) ≤ 4611686018427387904 := by have := HSZ.out; have := HSM.out; omega
      have HD : Hid (∀ q, (w.drewN m).drewN q = w.drewN (m + q)) := fun q => World.drewN_drewN w m q
      have hpf : (pi : Int) < (S.files.length : Int) := by omega
      have hki : (k : Int) < (n : Int) := by omega
      have hkb : (k : Int) + 1 ≤ 4611686018427387904 := by have := HDL.out; omega
      have hpi0 : (0 : Int) ≤ (pi : Int) := by omega
      obtain ⟨z2, hz2⟩ : ∃ z, z = sizes S.files (S.dir.take (k + 1)) := ⟨_, rfl⟩
      have HZ2 := hide hz2
      rw [← hz2] at HSZ
      generalize sizes S.files (S.dir.take k) = z at *
      generalize (flAt S.files pi).bys.length = bl at *
      generalize S.files.length = fl at *
      generalize w.drewN m = wm at *
      clear hp hb1 hz2 hdv e3 x1 y2
      go_upto_region 5 with fail
      go_quiet (fail)
      go_wp2_with fail
      go_roundw
      case rel => exact ⟨k + 1, _, by omega, by simp, by rw [← HZ2.out, HSZ.out]; simp, HD.out _⟩
      case measure => simp [intOf]; omega
    · have hki : ¬ (k : Int) < (n : Int) := by omega
      have hte : S.dir.take k = S.dir := List.take_of_length_le (by have := HN.out; omega)
      rw [hte]
      clear hte
      go_wp2_with fail
      go_ret
      exact ⟨rfl, m, rfl⟩
set_option maxHeartbeats 1000000 in
set_option maxRecDepth 100000 in
theorem efree_any (rp : Nat) (S : DS) (L : RL) (w : World) (h : RRep w rp S L) (hO : Ok S) :
    Calls Try.prog 37 #[pf rp] w fun e w' => e = .returned (.int .i64 (if S.dead then 0 else (S.room : Int) - (sizes S.files S.dir : Int))) ∧ ∃ m, w' = w.drewN m := by
  obtain ⟨c0, c1, c2, c3, c4, c5, c6, c7⟩ := h.c
  have HU := hide hO.used
  have HRM := hide hO.room
  have HC : Hid (∀ m, Calls Try.prog 67 #[pf rp] (w.drewN m) fun e w' => e = .returned (.int .i64 (sizes S.files S.dir : Int)) ∧ ∃ q, w' = (w.drewN m).drewN q) := fun m => eused_any rp S L (w.drewN m) (h.drewN m) hO
  generalize sizes S.files S.dir = z at *
  generalize S.room = m at *
  unfold pf at *
  cases hd : S.dead with
  | true =>
    rw [hd] at c7
    clear h hd hO HC
    go_enter Try.func37, Try.ntmps37
    go_wp2
    go_ret
    exact ⟨rfl, 0, rfl⟩
  | false =>
    rw [hd] at c7
    have q : wrap64 ((m : Int) - (z : Int)) = (m : Int) - (z : Int) := by have := HU.out; have := HRM.out; unfold wrap64; omega
    have q2 : IntKind.i64.wrap ((m : Int) - (z : Int)) = (m : Int) - (z : Int) := by have := HU.out; have := HRM.out; rw [IntKind.wrap_i64]; omega
    clear h hd hO c1 c2 c3 c4 c5 c6
    go_enter Try.func37, Try.ntmps37
    go_upto_region 3 with fail
    go_quiet ((go_at_call 67; exact Calls.quiet_of (HC.out _)))
    go_wp2_with fail
    go_ret
    exact ⟨rfl, _, rfl⟩
end Go.Proofs.Yticbfcognnofbaa
