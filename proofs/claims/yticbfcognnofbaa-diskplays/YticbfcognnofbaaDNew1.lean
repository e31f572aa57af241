/- The contract of fault; a disk that begins. -/
import Derived.Test.YticbfcognnofbaaDLeft2
import Derived.Test.YticbfcognnofbaaDBegin
namespace Go.Proofs.Yticbfcognnofbaa
open Go.RowKit Go.Maps



set_option maxHeartbeats 1000000 in
set_option maxRecDepth 100000 in
theorem fault_any (bn : Nat) (bs : List Nat) (d : Dir) (nm : Nm) (ao : Option Addr) (n c : Nat) (w : World) (h : DirAt w bn bs d) (hl : nm.length ≤ maxLen) :
    Calls Try.prog 61 #[.map (some bn), .agg #[.string (str nm), .slice ao n c]] w fun e w' => e = .returned (.int .i64 (faultOf d nm n : Int)) ∧ Below w.heap.size w w' := by
  have HB := hide (Bl.new w #[.string (str nm), .slice ao n c] 54)
  have HU := hide (below_new w (.cells #[.string (str nm), .slice ao n c] 54))
  have HD := hide (h.alloc (.cells #[.string (str nm), .slice ao n c] 54))
  have HI : Hid (∀ W, Calls Try.prog 63 #[.string (str nm)] W fun e w' => e = .returned (.bool (isNm nm)) ∧ w' = W) := fun W => isName_any nm W hl
  have hlk := HD.out.look hl
  obtain ⟨N, hN⟩ : ∃ N, N = w.heap.size := ⟨_, rfl⟩
  unfold faultOf
  clear h
  cases hin : isNm nm with
  | false =>
    rw [hin] at HI
    simp only [if_true]
    clear hlk
    go_enter Try.func61, Try.ntmps61
    go_upto_region 1 with fail
    rw [← hN] at HB ⊢
    have HNW := hide hN
    clear hN
    generalize w.alloc (.cells #[.string (str nm), .slice ao n c] 54) = u at *
    have b0 : u.cell? ⟨N, 0, none⟩ = some (.string (str nm)) := HB.out.cell 0
    go_wp2_with (first | (go_at_call 63; refine (HI.out _).mono ?_; rintro e w3 ⟨rfl, hw3⟩; subst hw3))
    go_ret
    exact ⟨rfl, HU.out⟩
  | true =>
    rw [hin] at HI
    simp only [Bool.true_eq_false, if_false]
    cases hg : dget nm d with
    | some i =>
      rw [hg] at hlk
      simp only [Option.isSome_some, if_true]
      rw [show ptrOf bs (some i) = pf (bs.getD i 0) from rfl] at hlk
      generalize bs.getD i 0 = b at *
      unfold pf at *
      go_enter Try.func61, Try.ntmps61
      go_upto_region 1 with fail
      rw [← hN] at HB ⊢
      have HNW := hide hN
      clear hN
      generalize w.alloc (.cells #[.string (str nm), .slice ao n c] 54) = u at *
      have b0 : u.cell? ⟨N, 0, none⟩ = some (.string (str nm)) := HB.out.cell 0
      go_wp2_with (first | (go_at_call 63; refine (HI.out _).mono ?_; rintro e w3 ⟨rfl, hw3⟩; subst hw3))
      go_ret
      exact ⟨rfl, HU.out⟩
    | none =>
      rw [hg] at hlk
      simp only [Option.isSome_none, Bool.false_eq_true, if_false]
      rw [show ptrOf bs none = .pointer none from rfl] at hlk
      by_cases hn : 4194304 < n
      · rw [if_pos hn]
        have q : decide ((4194304 : Int) < (n : Int)) = true := decide_eq_true (by omega)
        clear hn
        go_enter Try.func61, Try.ntmps61
        go_upto_region 1 with fail
        rw [← hN] at HB ⊢
        have HNW := hide hN
        clear hN
        generalize w.alloc (.cells #[.string (str nm), .slice ao n c] 54) = u at *
        have b0 : u.cell? ⟨N, 0, none⟩ = some (.string (str nm)) := HB.out.cell 0
        have b1 : u.cell? ⟨N, 1, none⟩ = some (.slice ao n c) := HB.out.cell 1
        go_wp2_with (first | (go_at_call 63; refine (HI.out _).mono ?_; rintro e w3 ⟨rfl, hw3⟩; subst hw3))
        go_ret
        exact ⟨rfl, HU.out⟩
      · rw [if_neg hn]
        have q : decide ((4194304 : Int) < (n : Int)) = false := decide_eq_false (by omega)
        clear hn
        go_enter Try.func61, Try.ntmps61
        go_upto_region 1 with fail
        rw [← hN] at HB ⊢
        have HNW := hide hN
        clear hN
        generalize w.alloc (.cells #[.string (str nm), .slice ao n c] 54) = u at *
        have b0 : u.cell? ⟨N, 0, none⟩ = some (.string (str nm)) := HB.out.cell 0
        have b1 : u.cell? ⟨N, 1, none⟩ = some (.slice ao n c) := HB.out.cell 1
        go_wp2_with (first | (go_at_call 63; refine (HI.out _).mono ?_; rintro e w3 ⟨rfl, hw3⟩; subst hw3))
        go_ret
        exact ⟨rfl, HU.out⟩
end Go.Proofs.Yticbfcognnofbaa
