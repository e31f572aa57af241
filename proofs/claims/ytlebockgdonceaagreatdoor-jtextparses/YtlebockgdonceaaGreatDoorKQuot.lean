/- The contract of the reader's character. The contract of the reader's quoted: a text. -/
import Derived.Test.YtlebockgdonceaaGreatDoorJFull
import Derived.Test.YtlebockgdonceaaGreatDoorKDec
import Derived.Test.YtlebockgdonceaaGreatDoorKWord
import Derived.Test.YtlebockgdonceaaGreatDoorKBase
import Derived.Test.YtlebockgdonceaaGreatDoorKEsc
import Derived.Test.YtlebockgdonceaaGreatDoorKBuild
namespace Go.Proofs.YtlebockgdonceaaGreatDoor
open Go.RowKit

def charAt (s : By) (p : Nat) : Out Nat := match chr (s.drop p) with
  | .ok k => .ok (codeOf k (s.drop p)) (p + k)
  | .error false => .error 43 p
  | .error true => .error 3 s.length
theorem decodeGo_at (s : ByteArray) (p : Nat) (hp : p < s.size) : Lib.decodeGo (bstr ((sbytes s).drop p)) = decOf (chr ((sbytes s).drop p)) ((sbytes s).drop p) := by
  have hl : (bstr ((sbytes s).drop p)).size = s.size - p := by rw [bstr_size, List.length_drop, sbytes_length]
  unfold Lib.decodeGo
  rw [if_neg (by omega), decode_chr _ 0 (by omega), List.drop_zero, sbytes_bstr (lt_drop (sbytes_lt s) p)]
set_option maxHeartbeats 2000000 in
set_option maxRecDepth 100000 in
theorem character_any (R : Nat) (s : ByteArray) (p e q : Nat) (w : World) (h : RB w R s p e q) (hp : p < s.size) (hs : s.size ≤ 16384) (hT : Tabs w) :
    Calls Tryz.prog 43 #[.pointer (some ⟨R, 0, none⟩)] w fun ε w' => Rd R s e q w isRune (fun (n : Nat) v _ => n < 1114112 ∧ v = .int .i32 (n : Int)) (charAt (sbytes s) p) ε w' := by
  have HL := hide (sbytes_length s)
  have HD := hide (decodeGo_at s p hp)
  have hcut := fun w => str_from s p (p : Int) rfl (by omega) w
  have HSZ : Hid (0 < (bstr ((sbytes s).drop p)).size) := by show _ < _; rw [bstr_size, List.length_drop, sbytes_length]; omega
  have HSB := hide (sbytes_bstr (lt_drop (sbytes_lt s) p))
  have c0 := h.c0
  have c1 := h.c1
  have H := hide h
  have HT := hide hT
  clear h hT
  obtain ⟨sd, hsd⟩ : ∃ sd, sd = bstr ((sbytes s).drop p) := ⟨_, rfl⟩
  rw [← hsd] at hcut HD HSZ HSB
  clear hsd
  cases hc : chr ((sbytes s).drop p) with
  | ok k =>
    obtain ⟨hu, hlt, hsur, hk1, hk2⟩ := utf_code hc
    have hkk := chr_ok hc
    rw [List.length_drop, HL.out] at hkk
    have HO : Hid (charAt (sbytes s) p = .ok (codeOf k ((sbytes s).drop p)) (p + k)) := by show _ = _; unfold charAt; rw [hc]
    rw [hc] at HD
    have HD2 : Hid (Lib.decodeGo sd = (codeOf k ((sbytes s).drop p), k)) := HD.out
    obtain ⟨hkk1, hkk2, hkk3, _⟩ := hkk
    generalize codeOf k ((sbytes s).drop p) = n at *
    have hne : (((n : Int) != 65533) = true) ∨ (1 < k) := by
      rcases (show k = 1 ∨ 1 < k by omega) with e | e
      · left; have := hk1 e; rw [bne_iff_ne]; omega
      · right; exact e
    clear hu hc HD hk1 hk2 hsur
    go_enter Tryz.func43, Tryz.ntmps43
    go_wp2_with fail
    go_quiet (fail)
    have H2 := hide (H.out.drewN nq)
    have HT2 : Hid (Tabs (w.drewN nq)) := HT.out
    have HB2 := hide (But.drewN R w nq)
    generalize w.drewN nq = w2 at *
    clear c0 c1 H HT
    go_wp2_with fail
    refine (Any.utf8_DecodeRuneInString lays197 sd w2 HT2.out).mono ?_
    rintro ε w3 ⟨rfl, hb3⟩
    rw [HD2.out]
    have H3 := hide (H2.out.keep hb3)
    have HB3 := hide (HB2.out.trans (But.of hb3))
    have d1 := H3.out.c1
    have f1 := H3.out.fz 1
    clear hb3 H2 HB2
    have hmove : Hid (RB (w3.setCell ⟨R, 1, none⟩ (.int .i64 ((p : Int) + (k : Int)))) R s (p + k) e q) := by
      show RB _ _ _ _ _ _
      have := H3.out.move (p + k)
      simpa using this
    rcases hne with hne | hne
    · have hne2 : ((n : Int) == 65533) = false := by simpa using hne
      go_wp2_with fail
      go_ret2
      rw [HO.out]
      exact ⟨⟨_, rfl, ⟨n, by omega, rfl⟩, hlt, rfl⟩, hmove.out, HB3.out.trans (But.setCell _ _ _ _)⟩
    · have hk2 : decide ((1 : Int) < (k : Int)) = true := by simp; omega
      cases hq : ((n : Int) == 65533) with
      | true =>
        have hq2 : ((n : Int) != 65533) = false := by simpa using hq
        go_wp2_with fail
        go_ret2
        rw [HO.out]
        exact ⟨⟨_, rfl, ⟨n, by omega, rfl⟩, hlt, rfl⟩, hmove.out, HB3.out.trans (But.setCell _ _ _ _)⟩
      | false =>
        have hq2 : ((n : Int) != 65533) = true := by simpa using hq
        go_wp2_with fail
        go_ret2
        rw [HO.out]
        exact ⟨⟨_, rfl, ⟨n, by omega, rfl⟩, hlt, rfl⟩, hmove.out, HB3.out.trans (But.setCell _ _ _ _)⟩
  | error bb => cases bb with
    | false =>
      have HO : Hid (charAt (sbytes s) p = .error 43 p) := by show _ = _; unfold charAt; rw [hc]
      rw [hc] at HD
      have HD2 : Hid (Lib.decodeGo sd = (65533, 1)) := HD.out
      have HF : Hid (fullB (sbytes sd) = true) := by show _ = _; unfold fullB; rw [HSB.out, hc]; rfl
      clear hc HD
      go_enter Tryz.func43, Tryz.ntmps43
      go_wp2_with fail
      go_quiet (fail)
      have H2 := hide (H.out.drewN nq)
      have HT2 : Hid (Tabs (w.drewN nq)) := HT.out
      have HB2 := hide (But.drewN R w nq)
      generalize w.drewN nq = w2 at *
      clear c0 c1 H HT
      go_wp2_with fail
      refine (Any.utf8_DecodeRuneInString lays197 sd w2 HT2.out).mono ?_
      rintro ε w3 ⟨rfl, hb3⟩
      rw [HD2.out]
      have H3 := hide (H2.out.keep hb3)
      have HB3 := hide (HB2.out.trans (But.of hb3))
      have HT3 := hide (HT2.out.keep hb3)
      clear hb3 H2 HB2
      go_wp2_with fail
      refine (full_any sd w3 HSZ.out HT3.out).mono ?_
      rintro ε w4 ⟨rfl, hb4⟩
      rw [HF.out]
      have H4 := hide (H3.out.keep hb4)
      have HB4 := hide (HB3.out.trans (But.of hb4))
      have d1 := H4.out.c1
      clear hb4
      go_wp2_with fail
      refine (fail_any R s p e q 43 p w4 H4.out).mono ?_
      rintro ε w5 ⟨rfl, h5, hb5⟩
      go_wp2_with fail
      go_ret2
      rw [HO.out]
      exact ⟨⟨_, _, rfl, ⟨0, by omega, rfl⟩, h5⟩, HB4.out.trans hb5⟩
    | true =>
      have HO : Hid (charAt (sbytes s) p = .error 3 s.size) := by show _ = _; unfold charAt; rw [hc, HL.out]
      rw [hc] at HD
      have HD2 : Hid (Lib.decodeGo sd = (65533, 1)) := HD.out
      have HF : Hid (fullB (sbytes sd) = false) := by show _ = _; unfold fullB; rw [HSB.out, hc]; rfl
      clear hc HD
      go_enter Tryz.func43, Tryz.ntmps43
      go_wp2_with fail
      go_quiet (fail)
      have H2 := hide (H.out.drewN nq)
      have HT2 : Hid (Tabs (w.drewN nq)) := HT.out
      have HB2 := hide (But.drewN R w nq)
      generalize w.drewN nq = w2 at *
      clear c0 c1 H HT
      go_wp2_with fail
      refine (Any.utf8_DecodeRuneInString lays197 sd w2 HT2.out).mono ?_
      rintro ε w3 ⟨rfl, hb3⟩
      rw [HD2.out]
      have H3 := hide (H2.out.keep hb3)
      have HB3 := hide (HB2.out.trans (But.of hb3))
      have HT3 := hide (HT2.out.keep hb3)
      clear hb3 H2 HB2
      go_wp2_with fail
      refine (full_any sd w3 HSZ.out HT3.out).mono ?_
      rintro ε w4 ⟨rfl, hb4⟩
      rw [HF.out]
      have H4 := hide (H3.out.keep hb4)
      have HB4 := hide (HB3.out.trans (But.of hb4))
      have d0 := H4.out.c0
      clear hb4
      go_wp2_with fail
      refine (fail_any R s p e q 3 s.size w4 H4.out).mono ?_
      rintro ε w5 ⟨rfl, h5, hb5⟩
      go_wp2_with fail
      go_ret2
      rw [HO.out]
      exact ⟨⟨_, _, rfl, ⟨0, by omega, rfl⟩, h5⟩, HB4.out.trans hb5⟩
end Go.Proofs.YtlebockgdonceaaGreatDoor
namespace Go.Proofs.YtlebockgdonceaaGreatDoor
open Go.RowKit

theorem four_bound {s : By} : ∀ (k p n m q : Nat), fourAt s k p n = .ok m q → m < (n + 1) * 16 ^ k
  | 0, p, n, m, q, h => by unfold fourAt at h; injection h with h1 h2; omega
  | k + 1, p, n, m, q, h => by
    unfold fourAt at h
    split at h
    · split at h
      · rename_i d hd
        have hd16 : d < 16 := by unfold hexv at hd; repeat' split at hd
                                 all_goals first | (injection hd with hd; omega) | cases hd
        have := four_bound k _ _ _ _ h
        have h2 : (16 * n + d + 1) * 16 ^ k ≤ (16 * (n + 1)) * 16 ^ k := Nat.mul_le_mul_right _ (by omega)
        rw [Nat.pow_succ]
        have h3 : (n + 1) * (16 ^ k * 16) = (16 * (n + 1)) * 16 ^ k := by rw [Nat.mul_comm (16 ^ k) 16, ← Nat.mul_assoc, Nat.mul_comm (n + 1) 16]
        omega
      · cases h
    · cases h
theorem esc_valid {s : By} {p r q : Nat} (h : escAt s p = .ok r q) : r < 1114112 ∧ (r < 55296 ∨ 57344 ≤ r) := by
  unfold escAt at h
  split at h
  · split at h
    · rename_i b hb
      injection h with h1 h2
      subst h1
      unfold shortOf at hb
      repeat' split at hb
      all_goals first | (injection hb with hb; omega) | cases hb
    · split at h
      · unfold uniAt at h
        cases e : fourAt s 4 (p + 2) 0 with
        | error _ _ => rw [e] at h; cases h
        | ok n q1 =>
          rw [e] at h
          simp only at h
          have hb := four_bound 4 _ _ _ _ e
          split at h
          · injection h with h1 h2; omega
          · split at h
            · cases h
            · unfold halfAt at h
              split at h
              · split at h
                · split at h
                  · split at h
                    · cases e2 : fourAt s 4 (q1 + 2) 0 with
                      | error _ _ => rw [e2] at h; cases h
                      | ok m q2 =>
                        rw [e2] at h
                        simp only at h
                        split at h
                        · injection h with h1 h2; omega
                        · cases h
                    · cases h
                  · cases h
                · cases h
              · cases h
      · cases h
  · cases h
theorem has34 (c : Nat) : hasB (sbytes ⟨#[34]⟩) c = decide (c = 34) := by rw [Bool.eq_iff_iff]; simp [hasB, sbytes]
theorem Tabs.below {w w' : World} {B : Nat} (h : Tabs w) (hb : Below B w w') (hB : 2 ≤ B) : Tabs w' := by
  have key : ∀ a v, w.cell? a = some v → a.block < 2 → w'.cell? a = some v := fun a v ha h2 => by rw [hb.cell (by omega)]; exact ha
  exact ⟨fun c hc => key _ _ (h.1 c hc) (by show (0 : Nat) < 2; omega), fun i hi => ⟨key _ _ (h.2 i hi).1 (by show (1 : Nat) < 2; omega), key _ _ (h.2 i hi).2 (by show (1 : Nat) < 2; omega)⟩⟩
def isStr (v : Value) : Prop := ∃ s, v = .string s
/-- A text whose " must stand at a place. -/
def quotAt (s : By) (p : Nat) : Out By := if p < s.length then if bt s p = 34 then textAt s p else .error 40 p else .error 3 s.length
set_option maxHeartbeats 4000000 in
set_option maxRecDepth 100000 in
theorem quoted_any (R : Nat) (s : ByteArray) (p e q : Nat) (w : World) (h : RB w R s p e q) (hp : p ≤ s.size) (hs : s.size ≤ 16384) (hR : 2 ≤ R) (hT : Tabs w) :
    Calls Tryz.prog 27 #[.pointer (some ⟨R, 0, none⟩)] w fun ε w' => Rd R s e q w isStr (fun (t : By) v _ => v = .string (bstr t) ∧ (∀ x ∈ t, x < 256) ∧ t.length ≤ 65536) (quotAt (sbytes s) p) ε w' := by
  have HL := hide (sbytes_length s)
  have HSL := hide (sbytes_lt s)
  have H := hide h
  have HT := hide hT
  have hRl := h.lt
  clear h hT
  by_cases hps : p < s.size
  · by_cases hc : bt (sbytes s) p = 34
    · have HO : Hid (quotAt (sbytes s) p = strAt (sbytes s) (s.size + 1) (p + 1) []) := by show _ = _; unfold quotAt textAt; rw [HL.out, if_pos hps, if_pos hc]
      go_enter Tryz.func27, Tryz.ntmps27
      go_wp2_with fail
      refine (take_in R s _ p e q _ H.out hps hs (by rw [has34]; simpa using hc)).mono ?_
      rintro ε w1 ⟨rfl, h1, hb1⟩
      rw [hc]
      have H1 := hide (h1.keep (below_new w1 (.cells #[.pointer none, .slice none 0 0] 70)))
      have HT1 := hide ((HT.out.but hb1 hR).keep (below_new w1 (.cells #[.pointer none, .slice none 0 0] 70)))
      have HB1 := hide (hb1.trans (But.alloc R w1 (.cells #[.pointer none, .slice none 0 0] 70)))
      have hRB := h1.lt
      have hwB := hb1.size
      have HI1 := hide (IsB.new w1)
      have HSZ : Hid (w1.heap.size ≤ (w1.alloc (.cells #[.pointer none, .slice none 0 0] 70)).heap.size) := (below_new w1 _).size
      clear h1 hb1 hc
      go_wp2_with fail
      generalize w1.heap.size = B at *
      generalize w1.alloc (.cells #[.pointer none, .slice none 0 0] 70) = w2 at *
      go_loopw [] (fun wr => ∃ (k n : Nat) (acc : By), p + 1 ≤ k ∧ k ≤ s.size ∧ Hid (RB wr R s k e q) ∧ Hid (Tabs wr) ∧ Hid (But R w wr) ∧ Hid (IsB B B acc wr) ∧ Hid (B ≤ wr.heap.size) ∧ Hid (s.size < k + n) ∧ Hid (strAt (sbytes s) n k acc = strAt (sbytes s) (s.size + 1) (p + 1) []) ∧ Hid (∀ x ∈ acc, x < 256) ∧ acc.length ≤ 4 * (k - (p + 1))) (fun wr => s.size - posOf R wr)
      case atStart => exact ⟨p + 1, s.size + 1, [], Nat.le_refl _, by omega, H1, HT1, HB1, HI1, HSZ, by show _ < _; omega, rfl, (fun x hx => by cases hx), by simp⟩
      case round =>
        obtain ⟨k, n, acc, hk1, hk, HR, HTr, HB, HI, HBz, HN, HS, HX, hal⟩ := hrel
        clear H1 HT1 HB1 HI1 HSZ
        have HN0 : Hid (∃ m, n = m + 1) := by show ∃ m, _; have := HN.out; exact ⟨n - 1, by omega⟩
        obtain ⟨n, rfl⟩ := HN0.out
        clear HN0
        by_cases hks : k < s.size
        · have hcl := byte_lt s k
          by_cases h34 : bt (sbytes s) k = 34
          · have HO2 : Hid (strAt (sbytes s) (s.size + 1) (p + 1) [] = .ok acc (k + 1)) := by show _ = _; rw [← HS.out, strAt, HL.out, if_pos hks, if_pos h34]
            go_wp2_with fail
            refine (look_some R s k e q _ HR.out hks).mono ?_
            rintro ε w3 ⟨rfl, h3, hb3⟩
            rw [h34]
            have H3 := hide h3
            have HB3 := hide (HB.out.trans hb3)
            have HI3 := hide (HI.out.but hb3 (by omega))
            have HZ3 : Hid (B ≤ w3.heap.size) := Nat.le_trans HBz.out hb3.size
            have d1 := h3.c1
            have f1 := h3.fz 1
            clear h3 hb3
            go_wp2_with fail
            have H4 : Hid (RB (w3.setCell ⟨R, 1, none⟩ (.int .i64 ((k : Int) + 1))) R s (k + 1) e q) := by
              show RB _ _ _ _ _ _
              have := H3.out.move (k + 1)
              simpa using this
            have HB4 := hide (HB3.out.trans (But.setCell R w3 1 (.int .i64 ((k : Int) + 1))))
            have HI4 := hide (HI3.out.but (But.setCell R w3 1 (.int .i64 ((k : Int) + 1))) (by omega))
            have HZ4 : Hid (B ≤ (w3.setCell ⟨R, 1, none⟩ (.int .i64 ((k : Int) + 1))).heap.size) := Nat.le_trans HZ3.out (But.setCell R w3 1 (.int .i64 ((k : Int) + 1))).size
            generalize w3.setCell ⟨R, 1, none⟩ (.int .i64 ((k : Int) + 1)) = w4 at *
            refine (getB_any B B w4 acc HI4.out HX.out HZ4.out).mono ?_
            rintro ε w5 ⟨rfl, hb5⟩
            go_wp2_with fail
            go_ret2
            rw [HO.out, HO2.out]
            exact ⟨⟨_, rfl, ⟨_, rfl⟩, rfl, HX.out, by omega⟩, Bl.below H4.out hb5 (by omega), HB4.out.low hb5 hwB⟩
          · by_cases h32 : bt (sbytes s) k < 32
            · have HO2 : Hid (strAt (sbytes s) (s.size + 1) (p + 1) [] = .error 41 k) := by show _ = _; rw [← HS.out, strAt, HL.out, if_pos hks, if_neg h34, if_pos h32]
              have q1 : ((bt (sbytes s) k : Int) == 34) = false := by rw [beq_eq_false_iff_ne]; omega
              have q2 : decide ((bt (sbytes s) k : Int) < 32) = true := by rw [decide_eq_true_eq]; omega
              clear h34 h32
              go_wp2_with fail
              refine (look_some R s k e q _ HR.out hks).mono ?_
              rintro ε w3 ⟨rfl, h3, hb3⟩
              have H3 := hide h3
              have HB3 := hide (HB.out.trans hb3)
              have d1 := h3.c1
              clear h3 hb3
              go_wp2_with fail
              refine (fail_any R s k e q 41 k _ H3.out).mono ?_
              rintro ε w4 ⟨rfl, h4, hb4⟩
              go_wp2_with fail
              go_ret2
              rw [HO.out, HO2.out]
              exact ⟨⟨_, _, rfl, ⟨_, rfl⟩, h4⟩, HB3.out.trans hb4⟩
            · have q1 : ((bt (sbytes s) k : Int) == 34) = false := by rw [beq_eq_false_iff_ne]; omega
              have q2 : decide ((bt (sbytes s) k : Int) < 32) = false := by rw [decide_eq_false_iff_not]; omega
              by_cases h92 : bt (sbytes s) k = 92
              · have q3 : ((bt (sbytes s) k : Int) == 92) = true := by rw [beq_iff_eq]; omega
                have HW : Hid (strAt (sbytes s) (s.size + 1) (p + 1) [] = match escAt (sbytes s) k with
                    | .error e q => .error e q
                    | .ok r q => strAt (sbytes s) n q (acc ++ utf r)) := by
                  show _ = _; rw [← HS.out, strAt, HL.out, if_pos hks, if_neg h34, if_neg h32, if_pos h92]; rfl
                clear h34 h32 h92
                go_wp2_with fail
                refine (look_some R s k e q _ HR.out hks).mono ?_
                rintro ε w3 ⟨rfl, h3, hb3⟩
                have H3 := hide h3
                have HB3 := hide (HB.out.trans hb3)
                have HI3 := hide (HI.out.but hb3 (by omega))
                have HT3 := hide (HTr.out.but hb3 hR)
                have HZ3 : Hid (B ≤ w3.heap.size) := Nat.le_trans HBz.out hb3.size
                clear h3 hb3
                go_wp2_with fail
                refine (escape_any R s k e q _ H3.out hks hs).mono ?_
                intro ε w4 h4
                cases ho : escAt (sbytes s) k with
                | error e1 q3' =>
                  rw [ho] at h4 HW
                  obtain ⟨⟨v, p', rfl, ⟨r, hr, rfl⟩, h5⟩, hb5⟩ := h4
                  have H5 := hide h5
                  have HB5 := hide (HB3.out.trans hb5)
                  clear h5 hb5 ho
                  go_wp2_with fail
                  go_ret2
                  rw [HO.out, HW.out]
                  exact ⟨⟨_, _, rfl, ⟨_, rfl⟩, H5.out⟩, HB5.out⟩
                | ok r q3' =>
                  rw [ho] at h4 HW
                  obtain ⟨⟨v, rfl, _, hr, rfl⟩, h5, hb5⟩ := h4
                  have hv := esc_valid ho
                  have hbd := escAt_bounds ho
                  rw [HL.out] at hbd
                  have H4 := hide h5
                  have HB4 := hide (HB3.out.trans hb5)
                  have HI4 := hide (HI3.out.but hb5 (by omega))
                  have HT4 := hide (HT3.out.but hb5 hR)
                  have HZ4 : Hid (B ≤ w4.heap.size) := Nat.le_trans HZ3.out hb5.size
                  have HST : Hid (strAt (sbytes s) n q3' (acc ++ utf r) = strAt (sbytes s) (s.size + 1) (p + 1) []) := HW.out.symm
                  have HXT : Hid (∀ x ∈ acc ++ utf r, x < 256) := lt_append HX.out (utf_lt hr)
                  clear h5 hb5 ho H3 HB3 HI3 HT3 HZ3
                  go_wp2_with fail
                  refine (putR_any B B _ acc r HI4.out hr hv.2 (by omega) HZ4.out).mono ?_
                  rintro ε w5 ⟨⟨n5, rfl⟩, h5, hb5⟩
                  have H5 := hide (Bl.below H4.out hb5 (by omega))
                  have HT5 := hide (Tabs.below HT4.out hb5 (by omega))
                  have HB5 := hide (HB4.out.low hb5 hwB)
                  have HI5 := hide h5
                  have HZ5 : Hid (B ≤ w5.heap.size) := Nat.le_trans HZ4.out hb5.size
                  clear h5 hb5
                  go_wp2_with fail
                  go_roundw
                  case rel => exact ⟨q3', n, acc ++ utf r, by omega, by omega, H5, HT5, HB5, HI5, HZ5, by show _ < _; have := HN.out; omega, HST, HXT, by have := (utf_len r).2; rw [List.length_append]; omega⟩
                  case measure => rw [RB.pos H5.out, HR.out.pos]; omega
              · have q3 : ((bt (sbytes s) k : Int) == 92) = false := by rw [beq_eq_false_iff_ne]; omega
                have HW : Hid (strAt (sbytes s) (s.size + 1) (p + 1) [] = match chr ((sbytes s).drop k) with
                    | .ok m => strAt (sbytes s) n (k + m) (acc ++ ((sbytes s).drop k).take m)
                    | .error false => .error 43 k
                    | .error true => .error 3 s.size) := by
                  show _ = _; rw [← HS.out, strAt, HL.out, if_pos hks, if_neg h34, if_neg h32, if_neg h92]; rfl
                clear h34 h32 h92
                go_wp2_with fail
                refine (look_some R s k e q _ HR.out hks).mono ?_
                rintro ε w3 ⟨rfl, h3, hb3⟩
                have H3 := hide h3
                have HB3 := hide (HB.out.trans hb3)
                have HI3 := hide (HI.out.but hb3 (by omega))
                have HT3 := hide (HTr.out.but hb3 hR)
                have HZ3 : Hid (B ≤ w3.heap.size) := Nat.le_trans HBz.out hb3.size
                clear h3 hb3
                go_wp2_with fail
                refine (character_any R s k e q _ H3.out hks hs HT3.out).mono ?_
                intro ε w4 h4
                unfold charAt at h4
                cases ho : chr ((sbytes s).drop k) with
                | error bb => cases bb with
                  | false =>
                    rw [ho] at h4 HW
                    obtain ⟨⟨v, p', rfl, ⟨r, hr, rfl⟩, h5⟩, hb5⟩ := h4
                    have H5 := hide h5
                    have HB5 := hide (HB3.out.trans hb5)
                    clear h5 hb5 ho
                    go_wp2_with fail
                    go_ret2
                    rw [HO.out, HW.out]
                    exact ⟨⟨_, _, rfl, ⟨_, rfl⟩, H5.out⟩, HB5.out⟩
                  | true =>
                    rw [ho] at h4 HW
                    rw [HL.out] at h4
                    obtain ⟨⟨v, p', rfl, ⟨r, hr, rfl⟩, h5⟩, hb5⟩ := h4
                    have H5 := hide h5
                    have HB5 := hide (HB3.out.trans hb5)
                    clear h5 hb5 ho
                    go_wp2_with fail
                    go_ret2
                    rw [HO.out, HW.out]
                    exact ⟨⟨_, _, rfl, ⟨_, rfl⟩, H5.out⟩, HB5.out⟩
                | ok m =>
                  rw [ho] at h4 HW
                  obtain ⟨⟨v, rfl, _, hr, rfl⟩, h5, hb5⟩ := h4
                  obtain ⟨hu, _, hv, _, _⟩ := utf_code ho
                  have hkk := chr_ok ho
                  rw [List.length_drop, HL.out] at hkk
                  obtain ⟨hm1, hm2, hm3, _⟩ := hkk
                  have H4 := hide h5
                  have HB4 := hide (HB3.out.trans hb5)
                  have HI4 := hide (HI3.out.but hb5 (by omega))
                  have HT4 := hide (HT3.out.but hb5 hR)
                  have HZ4 : Hid (B ≤ w4.heap.size) := Nat.le_trans HZ3.out hb5.size
                  have HST : Hid (strAt (sbytes s) n (k + m) (acc ++ utf (codeOf m ((sbytes s).drop k))) = strAt (sbytes s) (s.size + 1) (p + 1) []) := by show _ = _; rw [hu]; exact HW.out.symm
                  have HXT : Hid (∀ x ∈ acc ++ utf (codeOf m ((sbytes s).drop k)), x < 256) := lt_append HX.out (utf_lt hr)
                  clear h5 hb5 ho H3 HB3 HI3 HT3 HZ3 hu
                  generalize codeOf m ((sbytes s).drop k) = r at *
                  go_wp2_with fail
                  refine (putR_any B B _ acc r HI4.out hr hv (by omega) HZ4.out).mono ?_
                  rintro ε w5 ⟨⟨n5, rfl⟩, h5, hb5⟩
                  have H5 := hide (Bl.below H4.out hb5 (by omega))
                  have HT5 := hide (Tabs.below HT4.out hb5 (by omega))
                  have HB5 := hide (HB4.out.low hb5 hwB)
                  have HI5 := hide h5
                  have HZ5 : Hid (B ≤ w5.heap.size) := Nat.le_trans HZ4.out hb5.size
                  clear h5 hb5
                  go_wp2_with fail
                  go_roundw
                  case rel => exact ⟨(k + m), n, acc ++ utf r, by omega, by omega, H5, HT5, HB5, HI5, HZ5, by show _ < _; have := HN.out; omega, HST, HXT, by have := (utf_len r).2; rw [List.length_append]; omega⟩
                  case measure => rw [RB.pos H5.out, HR.out.pos]; omega
        · have HO2 : Hid (strAt (sbytes s) (s.size + 1) (p + 1) [] = .error 3 s.size) := by show _ = _; rw [← HS.out, strAt, HL.out, if_neg hks]
          have HPE : Hid (k = s.size) := by show _ = _; omega
          go_wp2_with fail
          refine (look_none R s k e q _ HR.out HPE.out).mono ?_
          rintro ε w3 ⟨rfl, h3, hb3⟩
          go_wp2_with fail
          go_ret2
          rw [HO.out, HO2.out, ← HPE.out]
          exact ⟨⟨_, _, rfl, ⟨_, rfl⟩, h3⟩, HB.out.trans hb3⟩
    · have HO : Hid (quotAt (sbytes s) p = .error 40 p) := by show _ = _; unfold quotAt; rw [HL.out, if_pos hps, if_neg hc]
      go_enter Tryz.func27, Tryz.ntmps27
      go_wp2_with fail
      refine (take_out R s _ p e q _ H.out hps (by rw [has34]; simpa using hc)).mono ?_
      rintro ε w1 ⟨rfl, h1, hb1⟩
      go_wp2_with fail
      go_ret2
      rw [HO.out]
      exact ⟨⟨_, _, rfl, ⟨_, rfl⟩, h1⟩, hb1⟩
  · have HO : Hid (quotAt (sbytes s) p = .error 3 s.size) := by show _ = _; unfold quotAt; rw [HL.out, if_neg hps]
    have HPE : Hid (p = s.size) := by show _ = _; omega
    go_enter Tryz.func27, Tryz.ntmps27
    go_wp2_with fail
    refine (take_end R s _ p e q _ H.out HPE.out).mono ?_
    rintro ε w1 ⟨rfl, h1, hb1⟩
    go_wp2_with fail
    go_ret2
    rw [HO.out, ← HPE.out]
    exact ⟨⟨_, _, rfl, ⟨_, rfl⟩, h1⟩, hb1⟩
end Go.Proofs.YtlebockgdonceaaGreatDoor
