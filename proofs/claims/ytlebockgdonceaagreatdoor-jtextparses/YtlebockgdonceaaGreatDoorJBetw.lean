/- The contract of the reader's between: elements with commas between, whatever reads one. -/
import Derived.Test.YtlebockgdonceaaGreatDoorKQuot
import Derived.Test.YtlebockgdonceaaGreatDoorKMath
import Derived.Test.YtlebockgdonceaaGreatDoorKBase
namespace Go.Proofs.YtlebockgdonceaaGreatDoor
open Go.RowKit

/-- What a call answers that reads elements by a closure: Inv of what was read, or Fin beside the fault. -/
def Bt {α : Type} (R : Nat) (s : ByteArray) (e q : Nat) (Inv : World → List α → Prop) (Fin : World → Prop) : Out (List α) → Ending → World → Prop
  | .ok l p', ε, w' => ε = .returned (.bool true) ∧ RB w' R s p' e q ∧ Inv w' l
  | .error e' q', ε, w' => ε = .returned (.bool false) ∧ (∃ p', RB w' R s p' e' q') ∧ Fin w'
/-- What the closure answers. -/
def El {α : Type} (R : Nat) (s : ByteArray) (e q : Nat) (Inv : World → List α → Prop) (Fin : World → Prop) (acc : List α) : Out α → Ending → World → Prop
  | .ok a p', ε, w' => ε = .returned (.bool true) ∧ RB w' R s p' e q ∧ Inv w' (acc ++ [a])
  | .error e' q', ε, w' => ε = .returned (.bool false) ∧ (∃ p', RB w' R s p' e' q') ∧ Fin w'
theorem comma_set (c d : Nat) (hd : d < 256) : hasB (sbytes (bstr [44, d])) c = (decide (c = 44) || decide (c = d)) := by
  rw [sbytes_bstr (by intro x hx; simp at hx; omega)]
  rw [Bool.eq_iff_iff]
  simp [hasB]
theorem close_set (c d : Nat) (hd : d < 256) : hasB (sbytes (bstr [d])) c = decide (c = d) := has_one c d hd

set_option maxHeartbeats 4000000 in
set_option maxRecDepth 100000 in
theorem between_any {α : Type} (R : Nat) (s : ByteArray) (p e q close : Nat) (fn : FuncId) (cap : Array Value) (Inv : World → List α → Prop) (Fin : World → Prop) (f : List α → Nat → Out α) (w : World)
    (hent : ∀ args w, (callFunc fn args).run Tryz.prog w = .ok (.enter fn args) w)
    (hel : ∀ w acc p, Inv w acc → RB w R s p e q → p ≤ s.size → acc.length ≤ p → Calls Tryz.prog fn cap w fun ε w' => El R s e q Inv Fin acc (f acc p) ε w')
    (hfd : ∀ acc p a q', p ≤ s.size → f acc p = .ok a q' → p < q' ∧ q' ≤ s.size)
    (hmove : ∀ w w' acc, Inv w acc → But R w w' → Inv w' acc) (hfin : ∀ w acc, Inv w acc → Fin w)
    (hI : Inv w []) (h : RB w R s p e q) (hp : p < s.size) (hs : s.size ≤ 16384) (hc : close < 256) (hc44 : close ≠ 44) :
    Calls Tryz.prog 45 #[.pointer (some ⟨R, 0, none⟩), .string (bstr [close]), .func (.func fn) #[] cap] w fun ε w' => Bt R s e q Inv Fin (inAt (sbytes s) close f p) ε w' := by
  have HL := hide (sbytes_length s)
  have HEL := hide hel
  have HFD := hide hfd
  have HMV := hide hmove
  have HFI := hide hfin
  have c1 := h.c1
  have f1 := h.fz 1
  have H1 : Hid (RB (w.setCell ⟨R, 1, none⟩ (.int .i64 ((p : Int) + 1))) R s (p + 1) e q) := by
    show RB _ _ _ _ _ _
    have := h.move (p + 1)
    simpa using this
  have HI1 := hide (hmove _ _ _ hI (But.setCell R w 1 (.int .i64 ((p : Int) + 1))))
  clear h hI hel hfd hmove hfin
  have hk1 := skip_le (s := sbytes s) (p := p + 1) (by rw [HL.out]; omega)
  have hk2 := skip_ge (sbytes s) (p + 1)
  rw [HL.out] at hk1
  have hca : ∀ w, (Op.stringOp .add ⟨#[44]⟩ (bstr [close])).run Tryz.prog w = .ok (.string (bstr [44, close])) w := fun w => add_str (x := [44]) (y := [close]) (by simp) w
  go_enter Tryz.func45, Tryz.ntmps45
  go_wp2_with fail
  generalize w.setCell ⟨R, 1, none⟩ (.int .i64 ((p : Int) + 1)) = w1 at *
  clear c1 f1
  refine (blanks_any R s (p + 1) e q w1 H1.out (by omega) hs).mono ?_
  rintro ε w2 ⟨rfl, h2, hb2⟩
  obtain ⟨k, hk⟩ : ∃ k, k = skip (sbytes s) (p + 1) := ⟨_, rfl⟩
  have HK := hide hk
  rw [← hk] at h2 hk1 hk2
  have H2 := hide h2
  have HI2 := hide (HMV.out _ _ _ HI1.out hb2)
  have c0 := h2.c0
  have c1 := h2.c1
  clear h2 hb2 hk H1 HI1
  go_wp2_with fail
  go_quiet ((go_at_call 22; exact Calls.quiet_of_same (stands_any _ _ _ _)))
  have H3 := hide (H2.out.drewN nq)
  have HI3 := hide (HMV.out _ _ _ HI2.out (But.drewN R w2 nq))
  generalize w2.drewN nq = w3 at *
  clear c0 c1 H2 HI2
  cases hst : standsB (sbytes s) k (sbytes (bstr [close])) with
  | true =>
    have HO : Hid (inAt (sbytes s) close f p = .ok [] (k + 1)) := by
      show _ = _
      unfold standsB at hst
      rw [close_set _ _ hc, HL.out] at hst
      simp only [Bool.and_eq_true, decide_eq_true_eq] at hst
      unfold inAt
      rw [← HK.out, HL.out, if_pos hst]
    have d1 := H3.out.c1
    have g1 := H3.out.fz 1
    go_wp2_with fail
    go_ret
    rw [HO.out]
    refine ⟨rfl, ?_, HMV.out _ _ _ HI3.out (But.setCell _ _ _ _)⟩
    have := H3.out.move (k + 1)
    simpa using this
  | false =>
    have HO : Hid (inAt (sbytes s) close f p = seqAt (sbytes s) close f (s.size + 1) k []) := by
      show _ = _
      unfold standsB at hst
      rw [close_set _ _ hc, HL.out] at hst
      unfold inAt
      rw [← HK.out, HL.out, if_neg ?_]
      rintro ⟨h1, h2⟩
      simp [h1, h2] at hst
    clear hst
    go_wp2_with fail
    go_loopw [] (fun wr => ∃ (k n : Nat) (acc : List α), k ≤ s.size ∧ acc.length ≤ k ∧ Hid (RB wr R s k e q) ∧ Hid (Inv wr acc) ∧ Hid (s.size < k + n) ∧ Hid (seqAt (sbytes s) close f n k acc = inAt (sbytes s) close f p)) (fun wr => s.size - posOf R wr)
    case atStart => exact ⟨k, s.size + 1, [], hk1, Nat.zero_le _, H3, HI3, by show _ < _; omega, HO.out.symm⟩
    case round =>
      clear H3 HI3 HO hk1 hk2 HK
      obtain ⟨k, n, acc, hk, hal, HR, HI, HN, HS⟩ := hrel
      have HN0 : Hid (∃ m, n = m + 1) := by show ∃ m, _; have := HN.out; exact ⟨n - 1, by omega⟩
      obtain ⟨n, rfl⟩ := HN0.out
      clear HN0
      go_wp2_with fail
      refine (HEL.out _ acc k HI.out HR.out hk hal).mono ?_
      intro ε w4 h4
      cases ho : f acc k with
      | error e1 q1 =>
        have HO2 : Hid (inAt (sbytes s) close f p = .error e1 q1) := by show _ = _; rw [← HS.out, seqAt, ho]
        rw [ho] at h4
        obtain ⟨rfl, ⟨p', h5⟩, h6⟩ := h4
        have H5 := hide h5
        have H6 := hide h6
        clear h5 h6 ho
        go_wp2_with fail
        go_ret
        rw [HO2.out]
        exact ⟨rfl, ⟨_, H5.out⟩, H6.out⟩
      | ok a q1 =>
        obtain ⟨hq1, hq2⟩ := HFD.out acc k a q1 hk ho
        have HW : Hid (inAt (sbytes s) close f p = if skip (sbytes s) q1 < s.size then
            if bt (sbytes s) (skip (sbytes s) q1) = close then .ok (acc ++ [a]) (skip (sbytes s) q1 + 1)
            else if bt (sbytes s) (skip (sbytes s) q1) = 44 then seqAt (sbytes s) close f n (skip (sbytes s) (skip (sbytes s) q1 + 1)) (acc ++ [a])
            else .error 40 (skip (sbytes s) q1)
          else .error 3 s.size) := by show _ = _; rw [← HS.out, seqAt, ho, HL.out]
        have hm1 := skip_ge (sbytes s) q1
        have hm2 := skip_le (s := sbytes s) (p := q1) (by rw [HL.out]; exact hq2)
        rw [HL.out] at hm2
        rw [ho] at h4
        obtain ⟨rfl, h5, h6⟩ := h4
        have H5 := hide h5
        have H6 := hide h6
        clear h5 h6 ho
        go_wp2_with fail
        refine (blanks_any R s q1 e q w4 H5.out hq2 hs).mono ?_
        rintro ε w5 ⟨rfl, h7, hb7⟩
        generalize skip (sbytes s) q1 = m at *
        have H7 := hide h7
        have H8 := hide (HMV.out _ _ _ H6.out hb7)
        clear h7 hb7 H5 H6
        by_cases hms : m < s.size
        · rw [if_pos hms] at HW
          have hcl := byte_lt s m
          by_cases h1 : bt (sbytes s) m = close
          · rw [if_pos h1] at HW
            have hne : ((bt (sbytes s) m : Int) != 44) = true := by rw [bne_iff_ne]; omega
            have hin : hasB (sbytes (bstr [44, close])) (bt (sbytes s) m) = true := by rw [comma_set _ _ hc]; simp [h1]
            clear h1
            go_wp2_with fail
            refine (take_in R s _ m e q _ H7.out hms hs hin).mono ?_
            rintro ε w6 ⟨rfl, h9, hb9⟩
            have H9 := hide h9
            have H10 := hide (HMV.out _ _ _ H8.out hb9)
            clear h9 hb9 hin
            go_wp2_with fail
            go_ret
            rw [HW.out]
            exact ⟨rfl, H9.out, H10.out⟩
          · rw [if_neg h1] at HW
            by_cases h2 : bt (sbytes s) m = 44
            · rw [if_pos h2] at HW
              have hne : ((bt (sbytes s) m : Int) != 44) = false := by rw [bne_eq_false_iff_eq]; omega
              have hin : hasB (sbytes (bstr [44, close])) (bt (sbytes s) m) = true := by rw [comma_set _ _ hc]; simp [h2]
              clear h1 h2
              go_wp2_with fail
              refine (take_in R s _ m e q _ H7.out hms hs hin).mono ?_
              rintro ε w6 ⟨rfl, h9, hb9⟩
              have H9 := hide h9
              have H10 := hide (HMV.out _ _ _ H8.out hb9)
              clear h9 hb9 hin
              have hn1 := skip_ge (sbytes s) (m + 1)
              have hn2 := skip_le (s := sbytes s) (p := m + 1) (by rw [HL.out]; omega)
              rw [HL.out] at hn2
              go_wp2_with fail
              refine (blanks_any R s (m + 1) e q w6 H9.out (by omega) hs).mono ?_
              rintro ε w7 ⟨rfl, h11, hb11⟩
              have H11 := hide h11
              have H12 := hide (HMV.out _ _ _ H10.out hb11)
              clear h11 hb11
              go_wp2_with fail
              go_roundw
              case rel => exact ⟨_, n, acc ++ [a], hn2, by rw [List.length_append, List.length_singleton]; omega, H11, H12, by show _ < _; have := HN.out; omega, HW.out.symm⟩
              case measure => rw [RB.pos H11.out, HR.out.pos]; omega
            · rw [if_neg h2] at HW
              have hin : hasB (sbytes (bstr [44, close])) (bt (sbytes s) m) = false := by rw [comma_set _ _ hc]; simp [h1, h2]
              clear h1 h2
              go_wp2_with fail
              refine (take_out R s _ m e q _ H7.out hms hin).mono ?_
              rintro ε w6 ⟨rfl, h9, hb9⟩
              have H9 := hide h9
              have H10 := hide (HMV.out _ _ _ H8.out hb9)
              clear h9 hb9 hin
              go_wp2_with fail
              go_ret
              rw [HW.out]
              exact ⟨rfl, ⟨_, H9.out⟩, HFI.out _ _ H10.out⟩
        · rw [if_neg hms] at HW
          have HPE : Hid (m = s.size) := by show _ = _; omega
          go_wp2_with fail
          refine (take_end R s _ m e q _ H7.out HPE.out).mono ?_
          rintro ε w6 ⟨rfl, h9, hb9⟩
          have H9 := hide h9
          have H10 := hide (HMV.out _ _ _ H8.out hb9)
          clear h9 hb9
          go_wp2_with fail
          go_ret
          rw [HW.out, ← HPE.out]
          exact ⟨rfl, ⟨_, H9.out⟩, HFI.out _ _ H10.out⟩
end Go.Proofs.YtlebockgdonceaaGreatDoor
