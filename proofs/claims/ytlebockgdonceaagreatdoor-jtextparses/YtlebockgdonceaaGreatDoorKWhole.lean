/- The contract of the reader's number. The contract of the reader's value, at every depth. The contracts of the reader's whole, and of Parse. -/
import Derived.Test.YtlebockgdonceaaGreatDoorKWord
import Derived.Test.YtlebockgdonceaaGreatDoorKLit
import Derived.Test.YtlebockgdonceaaGreatDoorKObj
namespace Go.Proofs.YtlebockgdonceaaGreatDoor
open Go.RowKit

theorem clone_any (s : ByteArray) (w : World) (hs : s.size ≤ 281474976710656) : Calls Tryz.prog 41 #[.string s] w fun e w' => e = .returned (.string s) ∧ Below w.heap.size w w' := by
  have c : Calls Tryz.prog 59 #[.string s] w fun e w' => e = .returned (.string s) ∧ Below w.heap.size w w' := Any.stringslite_Clone laysM316 s w hs
  go_enter Tryz.func41, Tryz.ntmps41
  go_wp2_with fail
  refine c.mono ?_
  rintro e w' ⟨rfl, hb⟩
  go_wp2
  go_ret
  exact ⟨rfl, hb⟩
theorem below_undrew {w w' : World} (h : Below w.drew.heap.size w.drew w') : Below w.heap.size w w' := ⟨h.os, h.tape, h.output, h.size, h.block⟩
set_option maxHeartbeats 2000000 in
set_option maxRecDepth 100000 in
theorem number_any (R : Nat) (s : ByteArray) (p e q : Nat) (w : World) (h : RB w R s p e q) (hp : p < s.size) (hs : s.size ≤ 16384) :
    Calls Tryz.prog 26 #[.pointer (some ⟨R, 0, none⟩)] w fun ε w' => Rd R s e q w isJ (fun t v _ => v = jv 3 (bstr t) (.slice none 0 0) (.slice none 0 0)) (numAt (sbytes s) p) ε w' := by
  have hl := sbytes_length s
  have hR := h.lt
  have hlt := sbytes_lt s
  have hdr : (sbytes (bstr ((sbytes s).drop p))) = (sbytes s).drop p := sbytes_bstr (lt_drop hlt p)
  have hsz : (bstr ((sbytes s).drop p)).size = s.size - p := by rw [bstr_size, List.length_drop, hl]
  have hlr := litRun_le ((sbytes s).drop p) 0
  rw [List.length_drop, hl] at hlr
  have hcut := fun w => str_from s p (p : Int) rfl (by omega) w
  obtain ⟨n, hn⟩ : ∃ n, n = (litRun 0 ((sbytes s).drop p)).1 := ⟨_, rfl⟩
  obtain ⟨b, hb⟩ : ∃ b, b = litDone (litRun 0 ((sbytes s).drop p)).2 := ⟨_, rfl⟩
  have hlc : ∀ W, Calls Tryz.prog 40 #[.string (bstr ((sbytes s).drop p))] W fun ε W' => ε = .returned (.tuple #[.int .i64 (n : Int), .bool b]) ∧ W' = W := by
    intro W
    have := literal_any (bstr ((sbytes s).drop p)) W (by omega)
    rw [hdr, litC_run] at this
    rw [hn, hb]
    exact this
  have HN : Hid (numAt (sbytes s) p = if b = true then .ok (((sbytes s).drop p).take n) (p + n) else if p + n < s.size then .error 44 (p + n) else .error 3 s.size) := by
    show _ = _
    unfold numAt
    rw [hb, hn, hl]
  have hpn : p + n ≤ s.size := by omega
  have HCL : Hid (∀ W, Calls Tryz.prog 40 #[.string (bstr ((sbytes s).drop p))] W fun ε W' => ε = .returned (.tuple #[.int .i64 (n : Int), .bool b]) ∧ W' = W) := hlc
  have HMID : Hid ((((sbytes s).take (p + n)).drop p) = ((sbytes s).drop p).take n) := by show _ = _; rw [List.drop_take]; simp
  have hmid := fun w => str_mid s p (p + n) (p : Int) ((p : Int) + (n : Int)) rfl (by omega) (by omega) hpn w
  rw [HMID.out] at hmid
  have HSZ2 : Hid ((bstr (((sbytes s).drop p).take n)).size ≤ 281474976710656) := by show _ ≤ _; rw [bstr_size, List.length_take, List.length_drop]; omega
  clear hn hb hlc hdr hsz hlr hlt hl
  generalize bstr ((sbytes s).drop p) = sd at *
  generalize ((sbytes s).drop p).take n = tx at *
  have c0 := h.c0
  have c1 := h.c1
  have H := hide (h.keep (below_new w (.cells #[.int .i64 0, .string ⟨#[]⟩, .slice none 0 0, .slice none 0 0] 25)))
  have hJ := hide (Jb.new w 0 ⟨#[]⟩ (.slice none 0 0) (.slice none 0 0))
  clear h
  go_enter Tryz.func26, Tryz.ntmps26
  have HA := hide (But.alloc R w (.cells #[.int .i64 0, .string ⟨#[]⟩, .slice none 0 0, .slice none 0 0] 25))
  go_wp2_with fail
  generalize w.alloc (.cells #[.int .i64 0, .string ⟨#[]⟩, .slice none 0 0, .slice none 0 0] 25) = w1 at *
  clear c0 c1
  have c0 := H.out.c0
  have c1 := H.out.c1
  go_quiet ((go_at_call 40; exact Calls.quiet_of_same (HCL.out _)))
  have H2 := hide (H.out.drewN nq)
  have hJ2 : Hid (Jb (w1.drewN nq) w.heap.size 0 ⟨#[]⟩ (.slice none 0 0) (.slice none 0 0)) := hJ.out
  have HA2 := hide (HA.out.trans (But.drewN R w1 nq))
  generalize w1.drewN nq = w2 at *
  clear c0 c1 H hJ HA
  have c0 := H2.out.c0
  have c1 := H2.out.c1
  have f1 := H2.out.fz 1
  cases b with
  | true =>
    rw [if_pos rfl] at HN
    go_wp2_with fail
    have H3 : Hid (RB (w2.setCell ⟨R, 1, none⟩ (.int .i64 ((p : Int) + (n : Int)))) R s (p + n) e q) := by
      show RB _ _ _ _ _ _
      have := H2.out.move (p + n)
      simpa using this
    have hJ3 := hide (hJ2.out.but (But.setCell R w2 1 (.int .i64 ((p : Int) + (n : Int)))) (by omega))
    have HA3 := hide (HA2.out.trans (But.setCell R w2 1 (.int .i64 ((p : Int) + (n : Int)))))
    generalize w2.setCell ⟨R, 1, none⟩ (.int .i64 ((p : Int) + (n : Int))) = w3 at *
    clear c0 c1 f1 H2 hJ2 HA2
    have c0 := H3.out.c0
    have c1 : w3.cell? ⟨R, 1, none⟩ = some (.int .i64 ((p : Int) + (n : Int))) := by have := H3.out.c1; simpa using this
    have hne : R ≠ w.heap.size := Nat.ne_of_lt hR
    have hne2 : w.heap.size ≠ R := hne.symm
    go_region_held (fun W => W.cell? ⟨R, 0, none⟩ = some (.string s) ∧ W.cell? ⟨R, 1, none⟩ = some (.int .i64 ((p : Int) + (n : Int)))) (go_keep) (first | (go_at_call 41; refine (clone_any _ _ HSZ2.out).mono ?_; rintro ε w4 ⟨rfl, hb4⟩; have hb5 := below_undrew hb4; have hJ4 := hide (hJ3.out.keep hb5); have H4 := hide (H3.out.keep hb5); have HA4 := hide (HA3.out.trans (But.of hb5)); clear hb4 hb5; have d0 := H4.out.c0; have d1 : w4.cell? ⟨R, 1, none⟩ = some (.int .i64 ((p : Int) + (n : Int))) := (by have := H4.out.c1; simpa using this); have j0 := hJ4.out.c0; have j1 := hJ4.out.c1; have j2 := hJ4.out.c2; have j3 := hJ4.out.c3; have g0 := hJ4.out.fz 0; have g1 := hJ4.out.fz 1; have g2 := hJ4.out.fz 2; have g3 := hJ4.out.fz 3))
    go_wp2_with fail
    refine bodyPost_ret (v := .tuple #[.agg #[.int .i64 3, .string (bstr tx), .slice none 0 0, .slice none 0 0], .bool true]) (by simp [results, Tryz.results26, go_sem, j0, j1, j2, j3]) rfl ?_
    rw [HN.out]
    exact ⟨⟨_, rfl, ⟨_, _, _, _, _, _, _, _, rfl⟩, rfl⟩, Bl.but H4.out (But.put4 _ _ _ _ _ _) (by omega), HA4.out.new (Nat.le_refl _) (But.put4 _ _ _ _ _ _)⟩
  | false =>
    rw [if_neg (by decide)] at HN
    by_cases hpl : p + n < s.size
    · rw [if_pos hpl] at HN
      go_wp2_with fail
      have H3 : Hid (RB (w2.setCell ⟨R, 1, none⟩ (.int .i64 ((p : Int) + (n : Int)))) R s (p + n) e q) := by
        show RB _ _ _ _ _ _
        have := H2.out.move (p + n)
        simpa using this
      have hJ3 := hide (hJ2.out.but (But.setCell R w2 1 (.int .i64 ((p : Int) + (n : Int)))) (by omega))
      have HA3 := hide (HA2.out.trans (But.setCell R w2 1 (.int .i64 ((p : Int) + (n : Int)))))
      generalize w2.setCell ⟨R, 1, none⟩ (.int .i64 ((p : Int) + (n : Int))) = w3 at *
      clear c0 c1 f1 H2 hJ2 HA2
      refine (look_some R s (p + n) e q w3 H3.out hpl).mono ?_
      rintro ε w4 ⟨rfl, h4, hb4⟩
      have H4 := hide h4
      have hJ4 := hide (hJ3.out.but hb4 (by omega))
      have HA4 := hide (HA3.out.trans hb4)
      have d1 := h4.c1
      clear h4 hb4 H3 hJ3 HA3
      go_wp2_with fail
      refine (fail_any R s (p + n) e q 44 (p + n) w4 H4.out).mono ?_
      rintro ε w5 ⟨rfl, h5, hb5⟩
      have H5 := hide h5
      have hJ5 := hide (hJ4.out.but hb5 (by omega))
      have HA5 := hide (HA4.out.trans hb5)
      have j0 := hJ5.out.c0
      have j1 := hJ5.out.c1
      have j2 := hJ5.out.c2
      have j3 := hJ5.out.c3
      have g0 := hJ5.out.fz 0
      have g1 := hJ5.out.fz 1
      have g2 := hJ5.out.fz 2
      have g3 := hJ5.out.fz 3
      clear h5 hb5
      go_wp2_with fail
      refine bodyPost_ret (v := .tuple #[.agg #[.int .i64 0, .string ⟨#[]⟩, .slice none 0 0, .slice none 0 0], .bool false]) (by simp [results, Tryz.results26, go_sem, j0, j1, j2, j3]) rfl ?_
      rw [HN.out]
      exact ⟨⟨_, _, rfl, isJ_zero, Bl.but H5.out (But.put4 _ _ _ _ _ _) (by omega)⟩, HA5.out.new (Nat.le_refl _) (But.put4 _ _ _ _ _ _)⟩
    · rw [if_neg hpl] at HN
      have hpe : p + n = s.size := by omega
      have HPE := hide hpe
      clear hpe
      go_wp2_with fail
      have H3 : Hid (RB (w2.setCell ⟨R, 1, none⟩ (.int .i64 ((p : Int) + (n : Int)))) R s (p + n) e q) := by
        show RB _ _ _ _ _ _
        have := H2.out.move (p + n)
        simpa using this
      have hJ3 := hide (hJ2.out.but (But.setCell R w2 1 (.int .i64 ((p : Int) + (n : Int)))) (by omega))
      have HA3 := hide (HA2.out.trans (But.setCell R w2 1 (.int .i64 ((p : Int) + (n : Int)))))
      generalize w2.setCell ⟨R, 1, none⟩ (.int .i64 ((p : Int) + (n : Int))) = w3 at *
      clear c0 c1 f1 H2 hJ2 HA2
      refine (look_none R s (p + n) e q w3 H3.out HPE.out).mono ?_
      rintro ε w5 ⟨rfl, h5, hb5⟩
      have H5 := hide h5
      have hJ5 := hide (hJ3.out.but hb5 (by omega))
      have HA5 := hide (HA3.out.trans hb5)
      have j0 := hJ5.out.c0
      have j1 := hJ5.out.c1
      have j2 := hJ5.out.c2
      have j3 := hJ5.out.c3
      have g0 := hJ5.out.fz 0
      have g1 := hJ5.out.fz 1
      have g2 := hJ5.out.fz 2
      have g3 := hJ5.out.fz 3
      clear h5 hb5
      go_wp2_with fail
      refine bodyPost_ret (v := .tuple #[.agg #[.int .i64 0, .string ⟨#[]⟩, .slice none 0 0, .slice none 0 0], .bool false]) (by simp [results, Tryz.results26, go_sem, j0, j1, j2, j3]) rfl ?_
      rw [HN.out, ← HPE.out]
      exact ⟨⟨_, _, rfl, isJ_zero, Bl.but H5.out (But.put4 _ _ _ _ _ _) (by omega)⟩, HA5.out.new (Nat.le_refl _) (But.put4 _ _ _ _ _ _)⟩
end Go.Proofs.YtlebockgdonceaaGreatDoor
namespace Go.Proofs.YtlebockgdonceaaGreatDoor
open Go.RowKit

def subAt (s : By) : Nat → Option (Nat → Out J)
  | 0 => none
  | d + 1 => some (vAt s d)
theorem vAt_eq (s : By) (d p : Nat) : vAt s d p = vStep s (subAt s d) p := by cases d <;> rfl
theorem set_num : ∀ c, c < 256 → hasB (sbytes ⟨#[45, 48, 49, 50, 51, 52, 53, 54, 55, 56, 57]⟩) c = decide (c = 45 ∨ isDigit c = true) := by
  intro c hc
  rw [Bool.eq_iff_iff]
  simp [hasB, sbytes, isDigit]
  omega
theorem set_open : ∀ c, c < 256 → hasB (sbytes ⟨#[91, 123]⟩) c = decide (c = 91 ∨ c = 123) := by
  intro c hc
  rw [Bool.eq_iff_iff]
  simp [hasB, sbytes]
def vokV (w : World) : J → Value → World → Prop := fun j v w' => ∃ x : JV, v = x.val ∧ JRep w' j x (fun b => w.heap.size ≤ b ∧ b < w'.heap.size)
/-- An arm that answers what a call has answered. -/
theorem arm {α : Type} {R : Nat} {s : ByteArray} {e q : Nat} {w w1 w2 : World} {vok : α → Value → World → Prop} {o : Out α} {f : α → J} {ε : Ending} (hRN : R < w.heap.size) (hb : But R w w1) (hJ : Jb w1 w.heap.size 0 ⟨#[]⟩ (.slice none 0 0) (.slice none 0 0))
    (hr : Rd R s e q w1 isJ vok o ε w2) (hv : ∀ a p' v, o = .ok a p' → vok a v w2 → ∃ x : JV, v = x.val ∧ JRep w2 (f a) x (fun b => w1.heap.size ≤ b ∧ b < w2.heap.size)) :
    ∃ (x : JV) (okb : Bool), ε = .returned (.tuple #[x.val, .bool okb]) ∧ Jb w2 w.heap.size 0 ⟨#[]⟩ (.slice none 0 0) (.slice none 0 0) ∧ Rd R s e q w isJ (vokV w) (o.map f) (.returned (.tuple #[x.val, .bool okb])) (put4 w2 w.heap.size 0 x) := by
  have hz := Bl.lt hJ
  cases o with
  | ok a p' =>
    obtain ⟨⟨v, rfl, _, h2⟩, h3, h4⟩ := hr
    obtain ⟨x, rfl, hj⟩ := hv a p' v rfl h2
    have hbp := put4_but w2 w.heap.size 0 x
    refine ⟨x, true, rfl, hJ.but h4 (by omega), ⟨_, rfl, isJ_val x, x, rfl, (JRep.stay _ _ _ hj (fun b hb => hbp.block b hb.2 (by omega))).wide (fun b hb => ⟨by omega, by rw [put4_size]; exact hb.2⟩)⟩, Bl.but h3 hbp (by omega), (hb.trans h4).new (Nat.le_refl _) hbp⟩
  | error e' q' =>
    obtain ⟨⟨v, p', rfl, hj, h3⟩, h4⟩ := hr
    obtain ⟨x, rfl⟩ := isJ_out hj
    have hbp := put4_but w2 w.heap.size 0 x
    exact ⟨x, false, rfl, hJ.but h4 (by omega), ⟨_, p', rfl, isJ_val x, Bl.but h3 hbp (by omega)⟩, (hb.trans h4).new (Nat.le_refl _) hbp⟩
/-- An arm that makes a Json of a text. -/
theorem armT {R : Nat} {s : ByteArray} {e q : Nat} {w w1 w2 : World} {o : Out By} {ε : Ending} (hRN : R < w.heap.size) (hb : But R w w1) (hJ : Jb w1 w.heap.size 0 ⟨#[]⟩ (.slice none 0 0) (.slice none 0 0))
    (hr : Rd R s e q w1 isStr (fun (t : By) v _ => v = .string (bstr t) ∧ (∀ x ∈ t, x < 256) ∧ t.length ≤ 65536) o ε w2) :
    ∃ (t : ByteArray) (okb : Bool), ε = .returned (.tuple #[.string t, .bool okb]) ∧ Jb w2 w.heap.size 0 ⟨#[]⟩ (.slice none 0 0) (.slice none 0 0) ∧ Rd R s e q w isJ (vokV w) (o.map fun t => .mk 4 t [] []) (.returned (.tuple #[(⟨4, t, none, 0, 0, none, 0, 0⟩ : JV).val, .bool okb])) (put4 w2 w.heap.size 0 ⟨4, t, none, 0, 0, none, 0, 0⟩) := by
  have hz := Bl.lt hJ
  cases o with
  | ok a p' =>
    obtain ⟨⟨v, rfl, _, rfl, h2, _⟩, h3, h4⟩ := hr
    have hbp := put4_but w2 w.heap.size 0 ⟨4, bstr a, none, 0, 0, none, 0, 0⟩
    exact ⟨bstr a, true, rfl, hJ.but h4 (by omega), ⟨_, rfl, isJ_val _, _, rfl, jrep_leaf _ _ _ _ h2⟩, Bl.but h3 hbp (by omega), (hb.trans h4).new (Nat.le_refl _) hbp⟩
  | error e' q' =>
    obtain ⟨⟨v, p', rfl, ⟨t, rfl⟩, h3⟩, h4⟩ := hr
    have hbp := put4_but w2 w.heap.size 0 ⟨4, t, none, 0, 0, none, 0, 0⟩
    exact ⟨t, false, rfl, hJ.but h4 (by omega), ⟨_, p', rfl, isJ_val _, Bl.but h3 hbp (by omega)⟩, (hb.trans h4).new (Nat.le_refl _) hbp⟩
/-- An arm that answers a fault of its own. -/
theorem armF {R : Nat} {s : ByteArray} {p e q e' q' : Nat} {w w1 w2 : World} {o : Out J} (hRN : R < w.heap.size) (hb : But R w w1) (hJ : Jb w1 w.heap.size 0 ⟨#[]⟩ (.slice none 0 0) (.slice none 0 0)) (h3 : RB w2 R s p e' q') (h4 : But R w1 w2) (ho : o = .error e' q') :
    Jb w2 w.heap.size 0 ⟨#[]⟩ (.slice none 0 0) (.slice none 0 0) ∧ Rd R s e q w isJ (vokV w) o (.returned (.tuple #[JV.zero.val, .bool false])) (put4 w2 w.heap.size 0 JV.zero) := by
  have hbp := put4_but w2 w.heap.size 0 JV.zero
  subst ho
  exact ⟨hJ.but h4 (by omega), ⟨_, p, rfl, isJ_val _, Bl.but h3 hbp (by omega)⟩, (hb.trans h4).new (Nat.le_refl _) hbp⟩
theorem leaf_vok {w w2 : World} {k : Int} {t : By} {v : Value} (ht : ∀ x ∈ t, x < 256) (h : v = jv k (bstr t) (.slice none 0 0) (.slice none 0 0)) : ∃ x : JV, v = x.val ∧ JRep w2 (.mk k t [] []) x (fun b => w.heap.size ≤ b ∧ b < w2.heap.size) :=
  ⟨⟨k, bstr t, none, 0, 0, none, 0, 0⟩, h, jrep_leaf _ _ _ _ ht⟩
theorem numAt_lt {s : By} {p q : Nat} {t : By} (hs : ∀ x ∈ s, x < 256) (h : numAt s p = .ok t q) : ∀ x ∈ t, x < 256 := by
  unfold numAt at h
  split at h
  · injection h with h1 h2
    subst h1
    intro x hx
    exact hs x (List.mem_of_mem_drop (List.mem_of_mem_take hx))
  · split at h <;> cases h
set_option maxHeartbeats 4000000 in
set_option maxRecDepth 100000 in
theorem value_step (d : Nat) (hd : d ≤ 32) (hsub : ∀ d', d = d' + 1 → ValueOk d') : ValueOk d := by
  intro R s p e q w h hp hs hR hT
  have hl := sbytes_length s
  have hRl := h.lt
  have HSUB := hide hsub
  have HSL := hide (sbytes_lt s)
  have H := hide (h.keep (below_new w (.cells #[.int .i64 0, .string ⟨#[]⟩, .slice none 0 0, .slice none 0 0] 25)))
  have HT := hide (hT.keep (below_new w (.cells #[.int .i64 0, .string ⟨#[]⟩, .slice none 0 0, .slice none 0 0] 25)))
  have hJ := hide (Jb.new w 0 ⟨#[]⟩ (.slice none 0 0) (.slice none 0 0))
  have HA := hide (But.alloc R w (.cells #[.int .i64 0, .string ⟨#[]⟩, .slice none 0 0, .slice none 0 0] 25))
  obtain ⟨D, hD⟩ : ∃ D : Int, D = 32 - (d : Int) := ⟨_, rfl⟩
  rw [← hD]
  have HD := hide hD
  have hD1 : 0 ≤ D := by omega
  have hD2 : D ≤ 32 := by omega
  obtain ⟨o, ho⟩ : ∃ o, o = vAt (sbytes s) d p := ⟨_, rfl⟩
  rw [← ho]
  have HO := hide ho
  show Calls Tryz.prog _ _ _ fun ε w' => Rd R s e q w isJ (vokV w) o ε w'
  have HL := hide hl
  clear h hT hsub hD ho hl
  go_enter Tryz.func14, Tryz.ntmps14
  go_wp2_with fail
  generalize w.alloc (.cells #[.int .i64 0, .string ⟨#[]⟩, .slice none 0 0, .slice none 0 0] 25) = w1 at *
  by_cases hpl : p < s.size
  · obtain ⟨c, hc⟩ : ∃ c, c = bt (sbytes s) p := ⟨_, rfl⟩
    have HC := hide hc
    have hcl : c < 256 := by rw [hc]; exact byte_lt s p
    have HV1 : Hid (o = vStep (sbytes s) (subAt (sbytes s) d) p) := by rw [HO.out]; exact vAt_eq _ _ _
    have HV : Hid (o = if c = 110 then (wordAt (sbytes s) p [110, 117, 108, 108]).map fun _ => .mk 0 [] [] []
        else if c = 102 then (wordAt (sbytes s) p [102, 97, 108, 115, 101]).map fun _ => .mk 1 [] [] []
        else if c = 116 then (wordAt (sbytes s) p [116, 114, 117, 101]).map fun _ => .mk 2 [] [] []
        else if c = 45 ∨ isDigit c = true then (numAt (sbytes s) p).map fun t => .mk 3 t [] []
        else if c = 34 then (textAt (sbytes s) p).map fun t => .mk 4 t [] []
        else if c = 91 ∨ c = 123 then
          match subAt (sbytes s) d with
          | none => .error 46 p
          | some f => if c = 91 then (inAt (sbytes s) 93 (fun _ => f) p).map fun l => .mk 5 [] [] l
            else (inAt (sbytes s) 125 (memAt (sbytes s) f) p).map fun l => .mk 6 [] (l.map (·.1)) (l.map (·.2))
        else .error 40 p) := by
      have := HV1.out
      unfold vStep at this
      rw [if_pos (by rw [HL.out]; exact hpl), ← HC.out] at this
      exact hide this
    refine (look_some R s p e q w1 H.out hpl).mono ?_
    rintro ε w2 ⟨rfl, h2, hb2⟩
    rw [← hc]
    have H2 := hide h2
    have HT2 := hide (HT.out.but hb2 hR)
    have hJ2 := hide (hJ.out.but hb2 (by omega))
    have HA2 := hide (HA.out.trans hb2)
    have d1 := h2.c1
    have HN1 := hide (set_num c hcl)
    have HN2 := hide (set_open c hcl)
    clear h2 hb2 H HT hJ HA hc HV1 HO HL
    by_cases hc110 : c = 110
    · subst hc110
      rw [if_pos rfl] at HV
      go_wp2_with fail
      refine (word_any R s ⟨#[110, 117, 108, 108]⟩ 0 p e q w2 H2.out (by omega) hs (by decide)).mono ?_
      intro ε w3 h3
      obtain ⟨x, okb, rfl, hJ3, hfin⟩ := arm (f := fun _ => .mk 0 [] [] []) hRl HA2.out hJ2.out h3 (fun a _ v _ hv => leaf_vok (t := []) (fun x hx => by cases hx) hv)
      rw [show sbytes ⟨#[110, 117, 108, 108]⟩ = [110, 117, 108, 108] from rfl, ← HV.out] at hfin
      clear h3
      have FIN := hide hfin
      simp only [put4, JV.val, Nat.zero_add] at FIN
      have j0 := hJ3.c0
      have j1 := hJ3.c1
      have j2 := hJ3.c2
      have j3 := hJ3.c3
      have g0 := hJ3.fz 0
      have g1 := hJ3.fz 1
      have g2 := hJ3.fz 2
      have g3 := hJ3.fz 3
      clear hJ3 hfin
      rw [show x.val = .agg #[.int .i64 x.k, .string x.t, .slice x.an x.ln x.cn, .slice x.ai x.li x.ci] from rfl]
      go_wp2_with fail
      refine bodyPost_ret (v := .tuple #[.agg #[.int .i64 x.k, .string x.t, .slice x.an x.ln x.cn, .slice x.ai x.li x.ci], .bool okb]) (by simp [results, Tryz.results14, go_sem, j0, j1, j2, j3]) rfl ?_
      exact FIN.out
    by_cases hc102 : c = 102
    · subst hc102
      rw [if_neg (by decide), if_pos rfl] at HV
      go_wp2_with fail
      refine (word_any R s ⟨#[102, 97, 108, 115, 101]⟩ 1 p e q w2 H2.out (by omega) hs (by decide)).mono ?_
      intro ε w3 h3
      obtain ⟨x, okb, rfl, hJ3, hfin⟩ := arm (f := fun _ => .mk 1 [] [] []) hRl HA2.out hJ2.out h3 (fun a _ v _ hv => leaf_vok (t := []) (fun x hx => by cases hx) hv)
      rw [show sbytes ⟨#[102, 97, 108, 115, 101]⟩ = [102, 97, 108, 115, 101] from rfl, ← HV.out] at hfin
      clear h3
      have FIN := hide hfin
      simp only [put4, JV.val, Nat.zero_add] at FIN
      have j0 := hJ3.c0
      have j1 := hJ3.c1
      have j2 := hJ3.c2
      have j3 := hJ3.c3
      have g0 := hJ3.fz 0
      have g1 := hJ3.fz 1
      have g2 := hJ3.fz 2
      have g3 := hJ3.fz 3
      clear hJ3 hfin
      rw [show x.val = .agg #[.int .i64 x.k, .string x.t, .slice x.an x.ln x.cn, .slice x.ai x.li x.ci] from rfl]
      go_wp2_with fail
      refine bodyPost_ret (v := .tuple #[.agg #[.int .i64 x.k, .string x.t, .slice x.an x.ln x.cn, .slice x.ai x.li x.ci], .bool okb]) (by simp [results, Tryz.results14, go_sem, j0, j1, j2, j3]) rfl ?_
      exact FIN.out
    by_cases hc116 : c = 116
    · subst hc116
      rw [if_neg (by decide), if_neg (by decide), if_pos rfl] at HV
      go_wp2_with fail
      refine (word_any R s ⟨#[116, 114, 117, 101]⟩ 2 p e q w2 H2.out (by omega) hs (by decide)).mono ?_
      intro ε w3 h3
      obtain ⟨x, okb, rfl, hJ3, hfin⟩ := arm (f := fun _ => .mk 2 [] [] []) hRl HA2.out hJ2.out h3 (fun a _ v _ hv => leaf_vok (t := []) (fun x hx => by cases hx) hv)
      rw [show sbytes ⟨#[116, 114, 117, 101]⟩ = [116, 114, 117, 101] from rfl, ← HV.out] at hfin
      clear h3
      have FIN := hide hfin
      simp only [put4, JV.val, Nat.zero_add] at FIN
      have j0 := hJ3.c0
      have j1 := hJ3.c1
      have j2 := hJ3.c2
      have j3 := hJ3.c3
      have g0 := hJ3.fz 0
      have g1 := hJ3.fz 1
      have g2 := hJ3.fz 2
      have g3 := hJ3.fz 3
      clear hJ3 hfin
      rw [show x.val = .agg #[.int .i64 x.k, .string x.t, .slice x.an x.ln x.cn, .slice x.ai x.li x.ci] from rfl]
      go_wp2_with fail
      refine bodyPost_ret (v := .tuple #[.agg #[.int .i64 x.k, .string x.t, .slice x.an x.ln x.cn, .slice x.ai x.li x.ci], .bool okb]) (by simp [results, Tryz.results14, go_sem, j0, j1, j2, j3]) rfl ?_
      exact FIN.out
    rw [if_neg hc110, if_neg hc102, if_neg hc116] at HV
    have n110 : ¬ ((c : Int) = 110) := by omega
    have n102 : ¬ ((c : Int) = 102) := by omega
    have n116 : ¬ ((c : Int) = 116) := by omega
    clear hc110 hc102 hc116
    go_wp2_with fail
    refine (isOf_any c _ w2 hcl).mono ?_
    rintro ε wx ⟨rfl, hx⟩
    rw [hx, HN1.out]
    clear hx wx
    by_cases hdg : c = 45 ∨ isDigit c = true
    · rw [if_pos hdg] at HV
      rw [decide_eq_true hdg]
      clear hdg
      go_wp2_with fail
      refine (number_any R s p e q w2 H2.out hpl hs).mono ?_
      intro ε w3 h3
      obtain ⟨x, okb, rfl, hJ3, hfin⟩ := arm (f := fun t => .mk 3 t [] []) hRl HA2.out hJ2.out h3 (fun a _ v ho hv => leaf_vok (numAt_lt HSL.out ho) hv)
      rw [← HV.out] at hfin
      clear h3
      have FIN := hide hfin
      simp only [put4, JV.val, Nat.zero_add] at FIN
      have j0 := hJ3.c0
      have j1 := hJ3.c1
      have j2 := hJ3.c2
      have j3 := hJ3.c3
      have g0 := hJ3.fz 0
      have g1 := hJ3.fz 1
      have g2 := hJ3.fz 2
      have g3 := hJ3.fz 3
      clear hJ3 hfin
      rw [show x.val = .agg #[.int .i64 x.k, .string x.t, .slice x.an x.ln x.cn, .slice x.ai x.li x.ci] from rfl]
      go_wp2_with fail
      refine bodyPost_ret (v := .tuple #[.agg #[.int .i64 x.k, .string x.t, .slice x.an x.ln x.cn, .slice x.ai x.li x.ci], .bool okb]) (by simp [results, Tryz.results14, go_sem, j0, j1, j2, j3]) rfl ?_
      exact FIN.out
    rw [if_neg hdg] at HV
    rw [decide_eq_false hdg]
    clear hdg
    by_cases hc34 : c = 34
    · rw [if_pos hc34] at HV
      have HQ : Hid (quotAt (sbytes s) p = textAt (sbytes s) p) := by
        show _ = _
        unfold quotAt
        rw [if_pos (by rw [sbytes_length]; exact hpl), ← HC.out, if_pos hc34]
      subst hc34
      go_wp2_with fail
      refine (quoted_any R s p e q w2 H2.out (by omega) hs hR HT2.out).mono ?_
      intro ε w3 h3
      rw [HQ.out] at h3
      obtain ⟨t, okb, rfl, hJ3, hfin⟩ := armT hRl HA2.out hJ2.out h3
      rw [← HV.out] at hfin
      clear h3
      have FIN := hide hfin
      simp only [put4, JV.val, Nat.zero_add] at FIN
      have j0 := hJ3.c0
      have j1 := hJ3.c1
      have j2 := hJ3.c2
      have j3 := hJ3.c3
      have g0 := hJ3.fz 0
      have g1 := hJ3.fz 1
      have g2 := hJ3.fz 2
      have g3 := hJ3.fz 3
      clear hJ3 hfin
      go_wp2_with fail
      refine bodyPost_ret (v := .tuple #[.agg #[.int .i64 4, .string t, .slice none 0 0, .slice none 0 0], .bool okb]) (by simp [results, Tryz.results14, go_sem, j0, j1, j2, j3]) rfl ?_
      exact FIN.out
    rw [if_neg hc34] at HV
    have n34 : ¬ ((c : Int) = 34) := by omega
    clear hc34
    go_wp2_with fail
    refine (isOf_any c _ w2 hcl).mono ?_
    rintro ε wx ⟨rfl, hx⟩
    rw [hx, HN2.out]
    clear hx wx
    by_cases hop : c = 91 ∨ c = 123
    · rw [if_pos hop] at HV
      rw [decide_eq_true hop]
      cases d with
      | zero =>
        have HV : Hid (o = .error 46 p) := HV.out
        have hD3 : D = 32 := by have := HD.out; omega
        subst hD3
        clear hop
        go_wp2_with fail
        refine (fail_any R s p e q 46 p w2 H2.out).mono ?_
        rintro ε w3 ⟨rfl, h3, hb3⟩
        obtain ⟨hJ3, hfin⟩ := armF (o := o) (e := e) (q := q) hRl HA2.out hJ2.out h3 hb3 HV.out
        clear h3 hb3
        have FIN := hide hfin
        simp only [put4, JV.val, JV.zero, Nat.zero_add] at FIN
        have j0 := hJ3.c0
        have j1 := hJ3.c1
        have j2 := hJ3.c2
        have j3 := hJ3.c3
        have g0 := hJ3.fz 0
        have g1 := hJ3.fz 1
        have g2 := hJ3.fz 2
        have g3 := hJ3.fz 3
        clear hJ3 hfin
        go_wp2_with fail
        refine bodyPost_ret (v := .tuple #[.agg #[.int .i64 0, .string ⟨#[]⟩, .slice none 0 0, .slice none 0 0], .bool false]) (by simp [results, Tryz.results14, go_sem, j0, j1, j2, j3]) rfl ?_
        exact FIN.out
      | succ d =>
        have hD3 : D < 32 := by have := HD.out; omega
        have HD4 : Hid (D = 31 - (d : Int)) := by show _ = _; have := HD.out; omega
        have HVO := hide (HSUB.out d rfl)
        by_cases h91 : c = 91
        · have HW : Hid (o = (inAt (sbytes s) 93 (fun _ => vAt (sbytes s) d) p).map fun l => .mk 5 [] [] l) := by
            have := HV.out
            simp only [subAt] at this
            rw [if_pos h91] at this
            exact hide this
          subst h91
          clear hop
          go_wp2_with fail
          rw [HD4.out]
          refine (list_any d HVO.out R s p e q w2 (by omega) H2.out hpl hs hR HT2.out).mono ?_
          intro ε w3 h3
          obtain ⟨x, okb, rfl, hJ3, hfin⟩ := arm (f := fun l => .mk 5 [] [] l) hRl HA2.out hJ2.out h3 (fun a _ v _ hv => hv)
          rw [← HW.out] at hfin
          clear h3
          have FIN := hide hfin
          simp only [put4, JV.val, Nat.zero_add] at FIN
          have j0 := hJ3.c0
          have j1 := hJ3.c1
          have j2 := hJ3.c2
          have j3 := hJ3.c3
          have g0 := hJ3.fz 0
          have g1 := hJ3.fz 1
          have g2 := hJ3.fz 2
          have g3 := hJ3.fz 3
          clear hJ3 hfin
          rw [show x.val = .agg #[.int .i64 x.k, .string x.t, .slice x.an x.ln x.cn, .slice x.ai x.li x.ci] from rfl]
          go_wp2_with fail
          refine bodyPost_ret (v := .tuple #[.agg #[.int .i64 x.k, .string x.t, .slice x.an x.ln x.cn, .slice x.ai x.li x.ci], .bool okb]) (by simp [results, Tryz.results14, go_sem, j0, j1, j2, j3]) rfl ?_
          exact FIN.out
        · have h123 : c = 123 := by omega
          have HW : Hid (o = (inAt (sbytes s) 125 (memAt (sbytes s) (vAt (sbytes s) d)) p).map fun l => .mk 6 [] (fsts l) (snds l)) := by
            have := HV.out
            simp only [subAt] at this
            rw [if_neg h91] at this
            exact hide this
          clear hop h91
          subst h123
          go_wp2_with fail
          rw [HD4.out]
          refine (object_any d HVO.out R s p e q w2 (by omega) H2.out hpl hs hR HT2.out).mono ?_
          intro ε w3 h3
          obtain ⟨x, okb, rfl, hJ3, hfin⟩ := arm (f := fun l => .mk 6 [] (fsts l) (snds l)) hRl HA2.out hJ2.out h3 (fun a _ v _ hv => hv)
          rw [← HW.out] at hfin
          clear h3
          have FIN := hide hfin
          simp only [put4, JV.val, Nat.zero_add] at FIN
          have j0 := hJ3.c0
          have j1 := hJ3.c1
          have j2 := hJ3.c2
          have j3 := hJ3.c3
          have g0 := hJ3.fz 0
          have g1 := hJ3.fz 1
          have g2 := hJ3.fz 2
          have g3 := hJ3.fz 3
          clear hJ3 hfin
          rw [show x.val = .agg #[.int .i64 x.k, .string x.t, .slice x.an x.ln x.cn, .slice x.ai x.li x.ci] from rfl]
          go_wp2_with fail
          refine bodyPost_ret (v := .tuple #[.agg #[.int .i64 x.k, .string x.t, .slice x.an x.ln x.cn, .slice x.ai x.li x.ci], .bool okb]) (by simp [results, Tryz.results14, go_sem, j0, j1, j2, j3]) rfl ?_
          exact FIN.out
    · rw [if_neg hop] at HV
      rw [decide_eq_false hop]
      have n91 : ¬ ((c : Int) = 91) := by omega
      have n123 : ¬ ((c : Int) = 123) := by omega
      clear hop
      go_wp2_with fail
      refine (fail_any R s p e q 40 p w2 H2.out).mono ?_
      rintro ε w3 ⟨rfl, h3, hb3⟩
      obtain ⟨hJ3, hfin⟩ := armF (o := o) (e := e) (q := q) hRl HA2.out hJ2.out h3 hb3 HV.out
      clear h3 hb3
      have FIN := hide hfin
      simp only [put4, JV.val, JV.zero, Nat.zero_add] at FIN
      have j0 := hJ3.c0
      have j1 := hJ3.c1
      have j2 := hJ3.c2
      have j3 := hJ3.c3
      have g0 := hJ3.fz 0
      have g1 := hJ3.fz 1
      have g2 := hJ3.fz 2
      have g3 := hJ3.fz 3
      clear hJ3 hfin
      go_wp2_with fail
      refine bodyPost_ret (v := .tuple #[.agg #[.int .i64 0, .string ⟨#[]⟩, .slice none 0 0, .slice none 0 0], .bool false]) (by simp [results, Tryz.results14, go_sem, j0, j1, j2, j3]) rfl ?_
      exact FIN.out
  · have hpe : p = s.size := by omega
    refine (look_none R s p e q w1 H.out hpe).mono ?_
    rintro ε w2 ⟨rfl, h2, hb2⟩
    obtain ⟨hJ2, hfin⟩ := armF (o := o) (e := e) (q := q) hRl HA.out hJ.out h2 hb2 (by rw [HO.out, vAt_eq]; unfold vStep; rw [if_neg (by rw [HL.out]; omega), HL.out, hpe])
    have FIN := hide hfin
    simp only [put4, JV.val, JV.zero, Nat.zero_add] at FIN
    have j0 := hJ2.c0
    have j1 := hJ2.c1
    have j2 := hJ2.c2
    have j3 := hJ2.c3
    have g0 := hJ2.fz 0
    have g1 := hJ2.fz 1
    have g2 := hJ2.fz 2
    have g3 := hJ2.fz 3
    clear hJ2 hfin h2 hb2 hpe
    go_wp2_with fail
    refine bodyPost_ret (v := .tuple #[.agg #[.int .i64 0, .string ⟨#[]⟩, .slice none 0 0, .slice none 0 0], .bool false]) (by simp [results, Tryz.results14, go_sem, j0, j1, j2, j3]) rfl ?_
    exact FIN.out
theorem value_any (d : Nat) (hd : d ≤ 32) : ValueOk d := by
  induction d with
  | zero => exact value_step 0 hd (fun d' h => by omega)
  | succ d ih => exact value_step (d + 1) hd (fun d' h => by
      have : d' = d := by omega
      subst this
      exact ih (by omega))
end Go.Proofs.YtlebockgdonceaaGreatDoor
namespace Go.Proofs.YtlebockgdonceaaGreatDoor
open Go.RowKit

def wholeAt (s : By) : Out J := match vAt s 32 (skip s 0) with
  | .error e q => .error e q
  | .ok v q => if skip s q < s.length then .error 4 (skip s q) else .ok v (skip s q)
theorem parse_whole (s : By) (hs : s.length ≤ 16384) : parse s = match wholeAt s with
    | .error e q => (J.zero, e, q)
    | .ok v _ => (v, 0, 0) := by
  unfold parse wholeAt
  rw [if_neg (by omega)]
  cases vAt s 32 (skip s 0) with
  | error e q => rfl
  | ok v q =>
    simp only
    by_cases h : skip s q < s.length
    · rw [if_pos h, if_pos h]
    · rw [if_neg h, if_neg h]
/-- Whole's answer, by value's and the blanks behind it. -/
theorem whole_fin {R : Nat} {s : ByteArray} {e q : Nat} {w W : World} {x : JV} {okb : Bool} {o : Out J} (hb : But R w W) (h : match o with
    | .ok j p' => okb = true ∧ RB W R s p' e q ∧ JRep W j x (fun b => w.heap.size ≤ b ∧ b < W.heap.size)
    | .error e' q' => okb = false ∧ ∃ p', RB W R s p' e' q') : Rd R s e q w isJ (vokV w) o (.returned (.tuple #[x.val, .bool okb])) W := by
  cases o with
  | ok j p' =>
    obtain ⟨rfl, h1, h2⟩ := h
    exact ⟨⟨_, rfl, isJ_val x, x, rfl, h2⟩, h1, hb⟩
  | error e' q' =>
    obtain ⟨rfl, p', h1⟩ := h
    exact ⟨⟨_, p', rfl, isJ_val x, h1⟩, hb⟩

set_option maxHeartbeats 4000000 in
set_option maxRecDepth 100000 in
theorem whole_any (R : Nat) (s : ByteArray) (e q : Nat) (w : World) (h : RB w R s 0 e q) (hs : s.size ≤ 16384) (hR : 2 ≤ R) (hT : Tabs w) :
    Calls Tryz.prog 9 #[.pointer (some ⟨R, 0, none⟩)] w fun ε w' => Rd R s e q w isJ (vokV w) (wholeAt (sbytes s)) ε w' := by
  have HL := hide (sbytes_length s)
  have hRl := h.lt
  have H := hide (h.keep (below_new w (.cells #[.int .i64 0, .string ⟨#[]⟩, .slice none 0 0, .slice none 0 0] 25)))
  have HT := hide (hT.keep (below_new w (.cells #[.int .i64 0, .string ⟨#[]⟩, .slice none 0 0, .slice none 0 0] 25)))
  have hJ := hide (Jb.new w 0 ⟨#[]⟩ (.slice none 0 0) (.slice none 0 0))
  have HA := hide (But.alloc R w (.cells #[.int .i64 0, .string ⟨#[]⟩, .slice none 0 0, .slice none 0 0] 25))
  obtain ⟨k0, hk0⟩ : ∃ k, k = skip (sbytes s) 0 := ⟨_, rfl⟩
  have hk1 : k0 ≤ s.size := by
    have := skip_le (s := sbytes s) (p := 0) (Nat.zero_le _)
    rw [HL.out, ← hk0] at this
    exact this
  obtain ⟨o, ho⟩ : ∃ o, o = wholeAt (sbytes s) := ⟨_, rfl⟩
  rw [← ho]
  have HO : Hid (o = match vAt (sbytes s) 32 k0 with
    | .error e q => .error e q
    | .ok v q => if skip (sbytes s) q < s.size then .error 4 (skip (sbytes s) q) else .ok v (skip (sbytes s) q)) := by
    show _ = _
    rw [ho, hk0, ← HL.out]
    rfl
  have HK0 := hide hk0
  clear h hT ho hk0
  go_enter Tryz.func9, Tryz.ntmps9
  go_wp2_with fail
  generalize w.alloc (.cells #[.int .i64 0, .string ⟨#[]⟩, .slice none 0 0, .slice none 0 0] 25) = w1 at *
  refine (blanks_any R s 0 e q w1 H.out (Nat.zero_le _) hs).mono ?_
  rintro ε w2 ⟨rfl, h2, hb2⟩
  rw [← HK0.out] at h2
  have H2 := hide h2
  have HT2 := hide (HT.out.but hb2 hR)
  have hJ2 := hide (hJ.out.but hb2 (by omega))
  have HA2 := hide (HA.out.trans hb2)
  clear h2 hb2 H HT hJ HA
  go_wp2_with fail
  refine (value_any 32 (Nat.le_refl _) R s k0 e q w2 H2.out hk1 hs hR HT2.out).mono ?_
  intro ε w3 h3
  have HS1 : Hid (∃ (x : JV) (okb : Bool), ε = .returned (.tuple #[x.val, .bool okb]) ∧ But R w2 w3 ∧ (match vAt (sbytes s) 32 k0 with
      | .ok j p' => okb = true ∧ RB w3 R s p' e q ∧ JRep w3 j x (fun b => w2.heap.size ≤ b ∧ b < w3.heap.size)
      | .error e' q' => okb = false ∧ ∃ p', RB w3 R s p' e' q')) := by
    show ∃ x, _
    cases ho : vAt (sbytes s) 32 k0 with
    | ok j p' =>
      rw [ho] at h3
      obtain ⟨⟨v, rfl, _, x, rfl, hr⟩, h2, hb⟩ := h3
      exact ⟨x, true, rfl, hb, rfl, h2, hr⟩
    | error e' q' =>
      rw [ho] at h3
      obtain ⟨⟨v, p', rfl, hj, h2⟩, hb⟩ := h3
      obtain ⟨x, rfl⟩ := isJ_out hj
      exact ⟨x, false, rfl, hb, rfl, p', h2⟩
  obtain ⟨x, okb, rfl, hb3, hout⟩ := HS1.out
  have hJ3 := hide (hJ2.out.but hb3 (by omega))
  have HA3 := hide (HA2.out.trans hb3)
  have hz2 := Bl.lt hJ2.out
  have hz3 := hb3.size
  have HJX := hide (Jb.new w3 x.k x.t (.slice x.an x.ln x.cn) (.slice x.ai x.li x.ci))
  have HB4 := hide (below_new w3 (.cells #[.int .i64 x.k, .string x.t, .slice x.an x.ln x.cn, .slice x.ai x.li x.ci] 25))
  have hJ4 := hide (hJ3.out.keep HB4.out)
  have HA4 := hide (HA3.out.trans (But.of HB4.out))
  clear HS1 hb3 h3 H2 HT2 hJ2 HA2
  rw [show x.val = .agg #[.int .i64 x.k, .string x.t, .slice x.an x.ln x.cn, .slice x.ai x.li x.ci] from rfl]
  cases ho : vAt (sbytes s) 32 k0 with
  | error e' q' =>
    rw [ho] at hout HO
    obtain ⟨rfl, p', h1⟩ := hout
    have HF := hide (h1.keep HB4.out)
    have FIN : Hid (Rd R s e q w isJ (vokV w) o (.returned (.tuple #[x.val, .bool false])) (put4 (w3.alloc (.cells #[.int .i64 x.k, .string x.t, .slice x.an x.ln x.cn, .slice x.ai x.li x.ci] 25)) w.heap.size 0 x)) := by
      show Rd _ _ _ _ _ _ _ _ _ _
      have hbp := put4_but (w3.alloc (.cells #[.int .i64 x.k, .string x.t, .slice x.an x.ln x.cn, .slice x.ai x.li x.ci] 25)) w.heap.size 0 x
      rw [HO.out]
      exact whole_fin (HA4.out.new (Nat.le_refl _) hbp) ⟨rfl, p', Bl.but HF.out hbp (by omega)⟩
    simp only [put4, JV.val, Nat.zero_add] at FIN
    clear h1 ho HF HA4 HA3 hJ3
    have j0 := hJ4.out.c0
    have j1 := hJ4.out.c1
    have j2 := hJ4.out.c2
    have j3 := hJ4.out.c3
    have g0 := hJ4.out.fz 0
    have g1 := hJ4.out.fz 1
    have g2 := hJ4.out.fz 2
    have g3 := hJ4.out.fz 3
    have x0 := HJX.out.c0
    have x1 := HJX.out.c1
    have x2 := HJX.out.c2
    have x3 := HJX.out.c3
    go_wp2_with fail
    refine bodyPost_ret (v := .tuple #[.agg #[.int .i64 x.k, .string x.t, .slice x.an x.ln x.cn, .slice x.ai x.li x.ci], .bool false]) (by simp [results, Tryz.results9, go_sem, j0, j1, j2, j3]) rfl ?_
    exact FIN.out
  | ok j p' =>
    rw [ho] at hout HO
    obtain ⟨rfl, h1, hj⟩ := hout
    have hp' := (vAt_bd s 32 k0 p' j hk1 ho).2
    have H4 := hide (h1.keep HB4.out)
    have HR4 := hide (JRep.stay _ _ _ hj (fun b hb => HB4.out.block b hb.2))
    clear h1 hj ho HA3 hJ3
    go_wp2_with fail
    have hz4 : (w3.alloc (.cells #[.int .i64 x.k, .string x.t, .slice x.an x.ln x.cn, .slice x.ai x.li x.ci] 25)).heap.size = w3.heap.size + 1 := by simp
    generalize w3.alloc (.cells #[.int .i64 x.k, .string x.t, .slice x.an x.ln x.cn, .slice x.ai x.li x.ci] 25) = w4 at *
    refine (blanks_any R s p' e q w4 H4.out hp' hs).mono ?_
    rintro ε w5 ⟨rfl, h5, hb5⟩
    obtain ⟨k2, hk2⟩ : ∃ k, k = skip (sbytes s) p' := ⟨_, rfl⟩
    have hk3 := skip_le (s := sbytes s) (p := p') (by rw [HL.out]; exact hp')
    rw [HL.out, ← hk2] at hk3
    rw [← hk2] at h5 HO
    have hz5 := hb5.size
    have H5 := hide h5
    have HR5 := hide (JRep.stay _ _ _ HR4.out (fun b hb => hb5.block b (by omega) (by omega)))
    have hJ5 := hide (hJ4.out.but hb5 (by omega))
    have HJX5 := hide (HJX.out.but hb5 (by omega))
    have HA5 := hide (HA4.out.trans hb5)
    generalize w3.heap.size = b3 at *
    have c0 := h5.c0
    have c1 := h5.c1
    clear hk2 h5 hb5 hJ4 HJX HA4 HR4 H4
    go_wp2_with fail
    go_quiet (fail)
    have H6 := hide (H5.out.drewN nq)
    have hJ6 : Hid (Jb (w5.drewN nq) w.heap.size 0 ⟨#[]⟩ (.slice none 0 0) (.slice none 0 0)) := hJ5.out
    have HJX6 : Hid (Jb (w5.drewN nq) b3 x.k x.t (.slice x.an x.ln x.cn) (.slice x.ai x.li x.ci)) := HJX5.out
    have HA6 := hide (HA5.out.trans (But.drewN R w5 nq))
    have HR6 : Hid (JRep (w5.drewN nq) j x (fun b => w2.heap.size ≤ b ∧ b < b3)) := JRep.stay _ _ _ HR5.out (fun b hb => rfl)
    have hz6 : b3 < (w5.drewN nq).heap.size := by show b3 < w5.heap.size; omega
    generalize w5.drewN nq = w6 at *
    clear c0 c1 H5 hJ5 HJX5 HA5 HR5
    have d1 := H6.out.c1
    have j0 := hJ6.out.c0
    have j1 := hJ6.out.c1
    have j2 := hJ6.out.c2
    have j3 := hJ6.out.c3
    have g0 := hJ6.out.fz 0
    have g1 := hJ6.out.fz 1
    have g2 := hJ6.out.fz 2
    have g3 := hJ6.out.fz 3
    have x0 := HJX6.out.c0
    have x1 := HJX6.out.c1
    have x2 := HJX6.out.c2
    have x3 := HJX6.out.c3
    by_cases hkl : k2 < s.size
    · rw [if_pos hkl] at HO
      have hne : R ≠ w.heap.size := Nat.ne_of_lt hRl
      have hne2 : w.heap.size ≠ R := hne.symm
      have hne3 : b3 ≠ w.heap.size := by omega
      have hne4 : w.heap.size ≠ b3 := hne3.symm
      clear j0 j1 j2 j3 g0 g1 g2 g3 x0 x1 x2 x3 d1
      have d1 := H6.out.c1
      have x0 := HJX6.out.c0
      have x1 := HJX6.out.c1
      have x2 := HJX6.out.c2
      have x3 := HJX6.out.c3
      go_wp2_with fail
      go_region_held (fun W => W.cell? ⟨b3, 0, none⟩ = some (.int .i64 x.k) ∧ W.cell? ⟨b3, 1, none⟩ = some (.string x.t) ∧ W.cell? ⟨b3, 2, none⟩ = some (.slice x.an x.ln x.cn) ∧ W.cell? ⟨b3, 3, none⟩ = some (.slice x.ai x.li x.ci) ∧ W.cell? ⟨R, 1, none⟩ = some (.int .i64 (k2 : Int))) (go_keep) (first | (go_at_call 15; refine (fail_any R s k2 e q 4 k2 _ (by exact H6.out)).mono ?_; rintro ε w7 ⟨rfl, h7, hb7⟩; have hb8 : But R w6 w7 := ⟨hb7.os, hb7.tape, hb7.output, hb7.size, hb7.block⟩; have H7 := hide h7; have hJ7 := hide (hJ6.out.but hb8 (by omega)); have HJX7 := hide (HJX6.out.but hb8 (by omega)); have HA7 := hide (HA6.out.trans hb8); clear hb7 hb8 h7; have j0 := hJ7.out.c0; have j1 := hJ7.out.c1; have j2 := hJ7.out.c2; have j3 := hJ7.out.c3; have g0 := hJ7.out.fz 0; have g1 := hJ7.out.fz 1; have g2 := hJ7.out.fz 2; have g3 := hJ7.out.fz 3; have y0 := HJX7.out.c0; have y1 := HJX7.out.c1; have y2 := HJX7.out.c2; have y3 := HJX7.out.c3; have e1 := H7.out.c1))
      have FIN : Hid (Rd R s e q w isJ (vokV w) o (.returned (.tuple #[x.val, .bool false])) (put4 w7 w.heap.size 0 x)) := by
        show Rd _ _ _ _ _ _ _ _ _ _
        have hbp := put4_but w7 w.heap.size 0 x
        rw [HO.out]
        exact whole_fin (HA7.out.new (Nat.le_refl _) hbp) ⟨rfl, k2, Bl.but H7.out hbp (by omega)⟩
      simp only [put4, JV.val, Nat.zero_add] at FIN
      go_wp2_with fail
      refine bodyPost_ret (v := .tuple #[.agg #[.int .i64 x.k, .string x.t, .slice x.an x.ln x.cn, .slice x.ai x.li x.ci], .bool false]) (by simp [results, Tryz.results9, go_sem, j0, j1, j2, j3]) rfl ?_
      exact FIN.out
    · rw [if_neg hkl] at HO
      have FIN : Hid (Rd R s e q w isJ (vokV w) o (.returned (.tuple #[x.val, .bool true])) (put4 w6 w.heap.size 0 x)) := by
        show Rd _ _ _ _ _ _ _ _ _ _
        have hbp := put4_but w6 w.heap.size 0 x
        rw [HO.out]
        exact whole_fin (HA6.out.new (Nat.le_refl _) hbp) ⟨rfl, Bl.but H6.out hbp (by omega), (JRep.stay _ _ _ HR6.out (fun b hb => hbp.block b (by omega) (by omega))).wide (fun b hb => ⟨by omega, by rw [put4_size]; omega⟩)⟩
      simp only [put4, JV.val, Nat.zero_add] at FIN
      go_wp2_with fail
      refine bodyPost_ret (v := .tuple #[.agg #[.int .i64 x.k, .string x.t, .slice x.an x.ln x.cn, .slice x.ai x.li x.ci], .bool true]) (by simp [results, Tryz.results9, go_sem, j0, j1, j2, j3]) rfl ?_
      exact FIN.out

/-- What Parse answers. -/
def PAns (w : World) (j : J) (n q : Nat) : Ending → World → Prop := fun ε w' => ∃ x : JV, ε = .returned (.tuple #[x.val, .int .i64 (n : Int), .int .i64 (q : Int)]) ∧ JRep w' j x (fun b => w.heap.size ≤ b ∧ b < w'.heap.size) ∧ Below w.heap.size w w'
theorem PAns.drew {w W : World} {j : J} {n q : Nat} {ε : Ending} (h : PAns w j n q ε W) : PAns w j n q ε W.drew := by
  obtain ⟨x, h1, h2, h3⟩ := h
  exact ⟨x, h1, JRep.stay _ _ _ h2 (fun b _ => rfl), ⟨h3.os, h3.tape, h3.output, h3.size, h3.block⟩⟩
theorem but_below {R B : Nat} {w w' : World} (h : But R w w') (hR : B ≤ R) (hB : B ≤ w.heap.size) : Below B w w' := ⟨h.os, h.tape, h.output, h.size, fun k hk => h.block k (by omega) (by omega)⟩

set_option maxHeartbeats 4000000 in
set_option maxRecDepth 100000 in
theorem parse_any (s : ByteArray) (w : World) (hT : Tabs w) (h2 : 2 ≤ w.heap.size) (hs : s.size ≤ 9223372036854775807) :
    Calls Tryz.prog 4 #[.string s] w fun ε w' => PAns w (parse (sbytes s)).1 (parse (sbytes s)).2.1 (parse (sbytes s)).2.2 ε w' := by
  have HL := hide (sbytes_length s)
  by_cases hbig : s.size ≤ 16384
  · have HP := hide (parse_whole (sbytes s) (by rw [HL.out]; exact hbig))
    generalize parse (sbytes s) = pp at *
    have hJ1 := Jb.new w 0 ⟨#[]⟩ (.slice none 0 0) (.slice none 0 0)
    have hb1 := below_new w (.cells #[.int .i64 0, .string ⟨#[]⟩, .slice none 0 0, .slice none 0 0] 25)
    have hz1 : (w.alloc (.cells #[.int .i64 0, .string ⟨#[]⟩, .slice none 0 0, .slice none 0 0] 25)).heap.size = w.heap.size + 1 := by simp
    have hb2 := below_new (w.alloc (.cells #[.int .i64 0, .string ⟨#[]⟩, .slice none 0 0, .slice none 0 0] 25)) (.cells #[.string s, .int .i64 0, .int .i64 0, .int .i64 0] 37)
    have HR2 : Hid (RB ((w.alloc (.cells #[.int .i64 0, .string ⟨#[]⟩, .slice none 0 0, .slice none 0 0] 25)).alloc (.cells #[.string s, .int .i64 0, .int .i64 0, .int .i64 0] 37)) (w.heap.size + 1) s 0 0 0) := by
      rw [← hz1]
      exact Bl.new _ #[.string s, .int .i64 0, .int .i64 0, .int .i64 0] 37
    have HT2 := hide ((hT.keep hb1).keep hb2)
    have HJ2 := hide (Bl.keep hJ1 hb2)
    have HB2 : Hid (Below w.heap.size w ((w.alloc (.cells #[.int .i64 0, .string ⟨#[]⟩, .slice none 0 0, .slice none 0 0] 25)).alloc (.cells #[.string s, .int .i64 0, .int .i64 0, .int .i64 0] 37))) := ((Below.refl _ _).alloc (Nat.le_refl _) _).alloc (by omega) _
    have hz2 : ((w.alloc (.cells #[.int .i64 0, .string ⟨#[]⟩, .slice none 0 0, .slice none 0 0] 25)).alloc (.cells #[.string s, .int .i64 0, .int .i64 0, .int .i64 0] 37)).heap.size = w.heap.size + 2 := by simp
    have hle : ¬ ((16384 : Int) < (s.size : Int)) := by omega
    clear hT hb1 hb2 hz1 hJ1
    go_enter Tryz.func4, Tryz.ntmps4
    go_wp2_with fail
    generalize (w.alloc (.cells #[.int .i64 0, .string ⟨#[]⟩, .slice none 0 0, .slice none 0 0] 25)).alloc (.cells #[.string s, .int .i64 0, .int .i64 0, .int .i64 0] 37) = w2 at *
    refine (whole_any (w.heap.size + 1) s 0 0 w2 HR2.out hbig (by omega) HT2.out).mono ?_
    intro ε w3 h3
    have HS1 : Hid (∃ (x : JV) (okb : Bool), ε = .returned (.tuple #[x.val, .bool okb]) ∧ But (w.heap.size + 1) w2 w3 ∧ (match wholeAt (sbytes s) with
        | .ok j p' => okb = true ∧ JRep w3 j x (fun b => w2.heap.size ≤ b ∧ b < w3.heap.size)
        | .error e' q' => okb = false ∧ ∃ p', RB w3 (w.heap.size + 1) s p' e' q')) := by
      show ∃ x, _
      cases ho : wholeAt (sbytes s) with
      | ok j p' =>
        rw [ho] at h3
        obtain ⟨⟨v, rfl, _, x, rfl, hr⟩, h2, hb⟩ := h3
        exact ⟨x, true, rfl, hb, rfl, hr⟩
      | error e' q' =>
        rw [ho] at h3
        obtain ⟨⟨v, p', rfl, hj, h2⟩, hb⟩ := h3
        obtain ⟨x, rfl⟩ := isJ_out hj
        exact ⟨x, false, rfl, hb, rfl, p', h2⟩
    obtain ⟨x, okb, rfl, hb3, hout⟩ := HS1.out
    have hz3 := hb3.size
    have HJX := hide (Jb.new w3 x.k x.t (.slice x.an x.ln x.cn) (.slice x.ai x.li x.ci))
    have HB4 := hide (below_new w3 (.cells #[.int .i64 x.k, .string x.t, .slice x.an x.ln x.cn, .slice x.ai x.li x.ci] 25))
    have HJ4 : Hid (Jb (w3.alloc (.cells #[.int .i64 x.k, .string x.t, .slice x.an x.ln x.cn, .slice x.ai x.li x.ci] 25)) w.heap.size 0 ⟨#[]⟩ (.slice none 0 0) (.slice none 0 0)) := Bl.keep (Bl.but HJ2.out hb3 (by omega)) HB4.out
    have HA3 : Hid (Below w.heap.size w w3) := ⟨hb3.os.trans HB2.out.os, hb3.tape.trans HB2.out.tape, hb3.output.trans HB2.out.output, by omega, fun k hk => (hb3.block k (by omega) (by omega)).trans (HB2.out.block k hk)⟩
    have HA4 := hide (HA3.out.alloc HA3.out.size (.cells #[.int .i64 x.k, .string x.t, .slice x.an x.ln x.cn, .slice x.ai x.li x.ci] 25))
    clear HS1 hb3 h3 HR2 HT2 HJ2 HB2 hle
    rw [show x.val = .agg #[.int .i64 x.k, .string x.t, .slice x.an x.ln x.cn, .slice x.ai x.li x.ci] from rfl]
    have hz4 : (w3.alloc (.cells #[.int .i64 x.k, .string x.t, .slice x.an x.ln x.cn, .slice x.ai x.li x.ci] 25)).heap.size = w3.heap.size + 1 := by simp
    cases ho : wholeAt (sbytes s) with
    | error e' q' =>
      rw [ho] at hout HP
      obtain ⟨rfl, p', h1⟩ := hout
      have HF := hide (h1.keep HB4.out)
      have HPP : Hid (pp = (J.zero, e', q')) := HP.out
      have FIN : Hid (PAns w pp.1 pp.2.1 pp.2.2 (.returned (.tuple #[JV.zero.val, .int .i64 (e' : Int), .int .i64 (q' : Int)])) (put4 (w3.alloc (.cells #[.int .i64 x.k, .string x.t, .slice x.an x.ln x.cn, .slice x.ai x.li x.ci] 25)) w.heap.size 0 JV.zero)) := by
        show PAns _ _ _ _ _ _
        rw [HPP.out]
        exact ⟨JV.zero, rfl, jrep_leaf _ 0 [] _ (fun x hx => by cases hx), HA4.out.trans (but_below (put4_but _ w.heap.size 0 JV.zero) (Nat.le_refl _) HA4.out.size)⟩
      simp only [put4, JV.val, JV.zero, Nat.zero_add] at FIN
      have d2 := HF.out.c2
      have d3 := HF.out.c3
      clear h1 ho HF HA4 HA3 HP HPP
      have j0 := HJ4.out.c0
      have j1 := HJ4.out.c1
      have j2 := HJ4.out.c2
      have j3 := HJ4.out.c3
      have g0 := HJ4.out.fz 0
      have g1 := HJ4.out.fz 1
      have g2 := HJ4.out.fz 2
      have g3 := HJ4.out.fz 3
      have x0 := HJX.out.c0
      have x1 := HJX.out.c1
      have x2 := HJX.out.c2
      have x3 := HJX.out.c3
      go_wp2_with fail
      generalize w3.alloc (.cells #[.int .i64 x.k, .string x.t, .slice x.an x.ln x.cn, .slice x.ai x.li x.ci] 25) = w4 at *
      go_region
      all_goals go_wp2_with fail
      all_goals refine bodyPost_ret (v := .tuple #[.agg #[.int .i64 0, .string ⟨#[]⟩, .slice none 0 0, .slice none 0 0], .int .i64 (e' : Int), .int .i64 (q' : Int)]) (by simp [results, Tryz.results4, go_sem, j0, j1, j2, j3]) rfl ?_
      all_goals first | exact FIN.out | exact PAns.drew FIN.out | exact PAns.drew (PAns.drew FIN.out)
    | ok j p' =>
      rw [ho] at hout HP
      obtain ⟨rfl, h1⟩ := hout
      have HPP : Hid (pp = (j, 0, 0)) := HP.out
      have FIN : Hid (PAns w pp.1 pp.2.1 pp.2.2 (.returned (.tuple #[x.val, .int .i64 0, .int .i64 0])) (put4 (w3.alloc (.cells #[.int .i64 x.k, .string x.t, .slice x.an x.ln x.cn, .slice x.ai x.li x.ci] 25)) w.heap.size 0 x)) := by
        show PAns _ _ _ _ _ _
        rw [HPP.out]
        have hbp := put4_but (w3.alloc (.cells #[.int .i64 x.k, .string x.t, .slice x.an x.ln x.cn, .slice x.ai x.li x.ci] 25)) w.heap.size 0 x
        exact ⟨x, rfl, (JRep.stay _ _ _ h1 (fun b hb => (hbp.block b (by omega) (by omega)).trans (HB4.out.block b hb.2))).wide (fun b hb => ⟨by omega, by rw [put4_size]; omega⟩), HA4.out.trans (but_below hbp (Nat.le_refl _) HA4.out.size)⟩
      simp only [put4, JV.val, Nat.zero_add] at FIN
      clear h1 ho HA4 HA3 HP HPP
      have j0 := HJ4.out.c0
      have j1 := HJ4.out.c1
      have j2 := HJ4.out.c2
      have j3 := HJ4.out.c3
      have g0 := HJ4.out.fz 0
      have g1 := HJ4.out.fz 1
      have g2 := HJ4.out.fz 2
      have g3 := HJ4.out.fz 3
      have x0 := HJX.out.c0
      have x1 := HJX.out.c1
      have x2 := HJX.out.c2
      have x3 := HJX.out.c3
      go_wp2_with fail
      refine bodyPost_ret (v := .tuple #[.agg #[.int .i64 x.k, .string x.t, .slice x.an x.ln x.cn, .slice x.ai x.li x.ci], .int .i64 0, .int .i64 0]) (by simp [results, Tryz.results4, go_sem, j0, j1, j2, j3]) rfl ?_
      exact FIN.out
  · have HP : Hid (parse (sbytes s) = (J.zero, 1, 0)) := by
      show _ = _
      unfold parse
      rw [if_pos (by rw [HL.out]; omega)]
    generalize parse (sbytes s) = pp at *
    have hJ := hide (Jb.new w 0 ⟨#[]⟩ (.slice none 0 0) (.slice none 0 0))
    have FIN : Hid (PAns w pp.1 pp.2.1 pp.2.2 (.returned (.tuple #[JV.zero.val, .int .i64 1, .int .i64 0])) (w.alloc (.cells #[.int .i64 0, .string ⟨#[]⟩, .slice none 0 0, .slice none 0 0] 25))) := by
      show PAns _ _ _ _ _ _
      rw [HP.out]
      exact ⟨JV.zero, rfl, jrep_leaf _ 0 [] _ (fun x hx => by cases hx), below_new _ _⟩
    simp only [JV.val, JV.zero] at FIN
    have j0 := hJ.out.c0
    have j1 := hJ.out.c1
    have j2 := hJ.out.c2
    have j3 := hJ.out.c3
    have g0 := hJ.out.fz 0
    have g1 := hJ.out.fz 1
    have g2 := hJ.out.fz 2
    have g3 := hJ.out.fz 3
    have hgt : (16384 : Int) < (s.size : Int) := by omega
    clear hbig hT HP
    go_enter Tryz.func4, Tryz.ntmps4
    go_wp2_with fail
    refine bodyPost_ret (v := .tuple #[.agg #[.int .i64 0, .string ⟨#[]⟩, .slice none 0 0, .slice none 0 0], .int .i64 1, .int .i64 0]) (by simp [results, Tryz.results4, go_sem, j0, j1, j2, j3]) rfl ?_
    exact FIN.out
end Go.Proofs.YtlebockgdonceaaGreatDoor
