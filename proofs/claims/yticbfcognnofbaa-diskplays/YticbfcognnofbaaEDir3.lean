/- The contracts of the document's changed and Name. -/
import Derived.Test.YticbfcognnofbaaEDir2
namespace Go.Proofs.Yticbfcognnofbaa
open Go.RowKit Go.Maps

set_option maxHeartbeats 1000000 in
set_option maxRecDepth 100000 in
/-- A directory behind a change: the same row, or a new one. -/
theorem echanged_any (v : Value) (d : Dir) (B : Nat) (c : Ch) (w : World) (h : EOwn w B v d) (hl : d.length ≤ 100000) (hn : ∀ p ∈ d, p.1 ≠ []) :
    Calls Try.prog 69 #[v, .agg #[.string (str c.fr), .string (str c.tn), .int .i64 (c.fl : Int)]] w fun e w' => ∃ u, e = .returned u ∧ EOwn w' 0 u (chd c d) ∧ (∀ g, u.ownBlock = some g → v.ownBlock = some g ∨ w.heap.size ≤ g) ∧ Below w.heap.size w w' := by
  obtain ⟨fr, tn, fl⟩ := c
  have HB := hide (below_new w (.cells #[.string (str fr), .string (str tn), .int .i64 (fl : Int)] 113))
  have HBN := hide (Bl.new w #[.string (str fr), .string (str tn), .int .i64 (fl : Int)] 113)
  have H := hide (owns_keep h HB.out)
  obtain ⟨ao, cap, rfl⟩ := ownsRow_slice h
  simp only
  have HL := hide hl
  have e0 : fr = [] → ddel fr d = d := fun e => by rw [e]; exact ddel_nil hn
  have HCH : Hid (chd ⟨fr, tn, fl⟩ d = if tn = [] then ddel fr d else dput tn fl (ddel fr d)) := rfl
  have HDL := hide (ddel_length_le fr d)
  generalize chd ⟨fr, tn, fl⟩ d = r at *
  obtain ⟨W0, hW0⟩ : ∃ W0, W0 = w.heap.size := ⟨_, rfl⟩
  have HW := hide hW0
  suffices HSU : ∀ PP : Ending → World → Prop, (∀ u w', EOwn w' 0 u r → (∀ g, u.ownBlock = some g → Value.ownBlock (.slice ao d.length cap) = some g ∨ w.heap.size ≤ g) → Below w.heap.size w w' → PP (.returned u) w') → Calls Try.prog 69 #[.slice ao d.length cap, .agg #[.string (str fr), .string (str tn), .int .i64 (fl : Int)]] w fun e w' => True ∧ PP e w' from (HSU _ (fun u w' h1 h2 h3 => ⟨u, rfl, h1, h2, h3⟩)).mono fun _ _ h => h.2
  intro PP hPP
  have HPP := hide hPP
  have HWI : Hid (∀ W, Below w.heap.size w W → EOwn W B (.slice ao d.length cap) d → Calls Try.prog 78 #[.slice ao d.length cap, .string (str fr)] W fun e w' => ∃ u, e = .returned u ∧ EOwn w' W.heap.size u (ddel fr d) ∧ Below W.heap.size W w') := fun W _ hE => ewithout_any _ d B fr W hE (by omega)
  have HWT : Hid (∀ W u d2 B2, EOwn W B2 u d2 → d2.length ≤ 100000 → Calls Try.prog 66 #[u, .string (str tn), .int .i64 (fl : Int)] W fun e w' => ∃ u', e = .returned u' ∧ EOwn w' W.heap.size u' (dput tn fl d2) ∧ Below W.heap.size W w') := fun W u d2 B2 hE hl2 => ewith_any u d2 B2 tn fl W hE hl2
  clear h hl hn hPP
  by_cases h1 : fr = [] <;> by_cases h2 : tn = []
  · have hr : r = d := by rw [HCH.out, if_pos h2, e0 h1]
    rw [hr] at HPP
    have HE := hide (HPP.out _ _ (owns_lower H.out (Nat.zero_le _)) (fun g hg => .inl hg) HB.out)
    subst h1
    subst h2
    clear hr hW0 e0
    rw [str_nil] at *
    go_enter Try.func69, Try.ntmps69
    go_wp2_with fail
    first | (go_ret; exact ⟨trivial, HE.out⟩) | exact HE.out
  · have hr : r = dput tn fl d := by rw [HCH.out, if_neg h2, e0 h1]
    rw [hr] at HPP
    subst h1
    have n1 : (str tn).toList.isEmpty = false := by rw [str_toList]; simpa using h2
    have n2 : ¬ (str tn).toList = [] := by rw [str_toList]; exact h2
    have c1 := HBN.out.cell 1
    have HW2 := hide (HWT.out _ _ _ _ H.out HL.out)
    clear hr hW0 e0 h2 HWI HWT
    rw [str_nil] at *
    generalize str tn = t at *
    go_enter Try.func69, Try.ntmps69
    go_wp2_with (first | (go_at_call 66; refine HW2.out.mono ?_; rintro e w2 ⟨u2, rfl, h2, b2⟩; have HE := hide (HPP.out u2 w2 (owns_lower h2 (Nat.zero_le _)) (fun g hg => .inr (by have := owns_ge h2 g hg; have := HB.out.size; omega)) (HB.out.trans (b2.mono HB.out.size))); clear h2 b2) | fail)
    first | (go_ret; exact ⟨trivial, HE.out⟩) | exact HE.out
  · have hr : r = ddel fr d := by rw [HCH.out, if_pos h2]
    rw [hr] at HPP
    subst h2
    have n1 : (str fr).toList.isEmpty = false := by rw [str_toList]; simpa using h1
    have n2 : ¬ (str fr).toList = [] := by rw [str_toList]; exact h1
    have HW2 := hide (HWI.out _ HB.out H.out)
    have HC1 : Hid (∀ W, Below (w.alloc (.cells #[.string (str fr), .string (str []), .int .i64 (fl : Int)] 113)).heap.size (w.alloc (.cells #[.string (str fr), .string (str []), .int .i64 (fl : Int)] 113)) W → W.cell? ⟨w.heap.size, 1, none⟩ = some (.string (str []))) := fun W hb => (HBN.out.keep hb).cell 1
    clear hr hW0 e0 h1 HWI HWT
    rw [str_nil] at *
    generalize str fr = t at *
    go_enter Try.func69, Try.ntmps69
    go_wp2_with (first | (go_at_call 78; refine HW2.out.mono ?_; rintro e w2 ⟨u2, rfl, h2, b2⟩; have x1 := HC1.out w2 b2; have HE := hide (HPP.out u2 w2 (owns_lower h2 (Nat.zero_le _)) (fun g hg => .inr (by have := owns_ge h2 g hg; have := HB.out.size; omega)) (HB.out.trans (b2.mono HB.out.size))); clear h2 b2) | fail)
    first | (go_ret; exact ⟨trivial, HE.out⟩) | exact HE.out
  · have hr : r = dput tn fl (ddel fr d) := by rw [HCH.out, if_neg h2]
    rw [hr] at HPP
    have n1 : (str fr).toList.isEmpty = false := by rw [str_toList]; simpa using h1
    have n2 : ¬ (str fr).toList = [] := by rw [str_toList]; exact h1
    have m1 : (str tn).toList.isEmpty = false := by rw [str_toList]; simpa using h2
    have m2 : ¬ (str tn).toList = [] := by rw [str_toList]; exact h2
    have HW2 := hide (HWI.out _ HB.out H.out)
    have HC1 : Hid (∀ W, Below (w.alloc (.cells #[.string (str fr), .string (str tn), .int .i64 (fl : Int)] 113)).heap.size (w.alloc (.cells #[.string (str fr), .string (str tn), .int .i64 (fl : Int)] 113)) W → W.cell? ⟨w.heap.size, 1, none⟩ = some (.string (str tn)) ∧ W.cell? ⟨w.heap.size, 2, none⟩ = some (.int .i64 (fl : Int))) := fun W hb => ⟨(HBN.out.keep hb).cell 1, (HBN.out.keep hb).cell 2⟩
    have HL2 : Hid ((ddel fr d).length ≤ 100000) := by have := HDL.out; have := HL.out; show _ ≤ _; omega
    clear hr hW0 e0 h1 h2 HWI
    generalize str fr = t at *
    generalize str tn = t2 at *
    go_enter Try.func69, Try.ntmps69
    go_wp2_with (first | (go_at_call 78; refine HW2.out.mono ?_; rintro e w2 ⟨u2, rfl, h2, b2⟩; obtain ⟨x1, x2⟩ := HC1.out w2 b2; have H2 := hide h2; have B2 := hide (HB.out.trans (b2.mono HB.out.size)); clear h2 b2) | (go_at_call 66; refine (HWT.out _ _ _ _ H2.out HL2.out).mono ?_; rintro e w3 ⟨u3, rfl, h3, b3⟩; have HE := hide (HPP.out u3 w3 (owns_lower h3 (Nat.zero_le _)) (fun g hg => .inr (by have := owns_ge h3 g hg; have := B2.out.size; omega)) (B2.out.trans (b3.mono B2.out.size))); clear h3 b3) | fail)
    first | (go_ret; exact ⟨trivial, HE.out⟩) | exact HE.out
theorem nm_len (nm : Nm) : isNm nm = (decide (1 ≤ nm.length) && decide (nm.length ≤ 32) && (nm.all fun c => mayB c.toNat)) := by
  unfold isNm
  congr 2
  cases nm <;> simp
set_option maxHeartbeats 1000000 in
set_option maxRecDepth 100000 in
/-- The byte test of a name, in the document's order. -/
theorem ename_any (nm : Nm) (w : World) (hl : nm.length ≤ maxLen) :
    Calls Try.prog 64 #[.string (str nm)] w fun e w' => e = .returned (.bool (isNm nm)) ∧ w' = w := by
  unfold maxLen at hl
  obtain ⟨n, hn⟩ : ∃ n, n = nm.length := ⟨_, rfl⟩
  have hs : (str nm).size = n := by rw [str_size, hn]
  obtain ⟨r, hr⟩ : ∃ r, r = isNm nm := ⟨_, rfl⟩
  have HR : Hid (r = (decide (1 ≤ n) && decide (n ≤ 32) && (nm.all fun c => mayB c.toNat))) := by show _ = _; rw [hr, nm_len, hn]
  rw [← hr]
  have HX : ∀ k, k < n → ∀ w, (Instr.index 9 (.string (str nm)) (.int .i64 (k : Int))).run Try.prog w = .ok (.int .u8 (((sbytes (str nm)).getD k 0 : Nat) : Int)) w := fun k hk w => str_index _ _ (by rw [hs]; exact hk) w
  have HB : Hid (∀ k, (sbytes (str nm)).getD k 0 < 256) := lt_get (sbytes_lt _)
  have HA := hide (nm_all nm)
  rw [← hn] at hl HA
  have HLN := hide hl
  clear hr hn hl
  go_enter Try.func64, Try.ntmps64
  go_wp2_with fail
  go_loopw [3] (fun i wr => ∃ k : Nat, k ≤ n ∧ i = .int .i64 (k : Int) ∧ Hid (∀ j, j < k → mayB ((sbytes (str nm)).getD j 0) = true) ∧ wr = w) (fun i _ => n - (intOf i).toNat)
  case atStart => exact ⟨0, Nat.zero_le _, rfl, fun j hj => by omega, rfl⟩
  case round =>
    obtain ⟨k, hk, rfl, HK, rfl⟩ := hrel
    by_cases hlt : k < n
    · have hx := HX k hlt
      have hki : (k : Int) < (n : Int) := by omega
      have hkb : (k : Int) + 1 ≤ 9223372036854775807 := by have := HLN.out; omega
      have HC256 := hide (HB.out k)
      obtain ⟨c, hc⟩ : ∃ c, c = (sbytes (str nm)).getD k 0 := ⟨_, rfl⟩
      have HMB : Hid (mayB c = mayB ((sbytes (str nm)).getD k 0)) := by show _ = _; rw [hc]
      rw [← hc] at hx
      clear HX hc
      obtain ⟨r2, hr2⟩ : ∃ r, r = mayB c := ⟨_, rfl⟩
      have HR2 := hide hr2
      rw [← hr2] at HMB
      clear hr2
      go_upto_region 5 with fail
      go_cut [5] (fun f wx => f = .bool r2 ∧ wx = wr)
      case first =>
        clear hkb hki hx hk hlt hs HA HK HB HLN HR HMB
        by_cases h1 : 97 ≤ c <;> by_cases h2 : c ≤ 122 <;> by_cases h3 : 48 ≤ c <;> by_cases h4 : c ≤ 57 <;> by_cases h5 : c = 46 <;> by_cases h6 : c = 45 <;> by_cases h7 : c = 95
        all_goals first | (exfalso; omega) | skip
        all_goals
          go_wp2_with fail
          go_meet
          case rel => exact ⟨congrArg Value.bool (by rw [HR2.out]; first | (simp [mayB, *]; done) | (simp [mayB, *]; omega)), rfl⟩
      case rest =>
        obtain ⟨rfl, hwc⟩ := hcut
        subst hwc
        cases r2 with
        | true =>
          go_wp2_with fail
          go_roundw
          case rel => exact ⟨k + 1, by omega, by simp, fun j hj => by rcases Nat.lt_or_eq_of_le (Nat.le_of_lt_succ hj) with h | h; exact HK.out j h; rw [h]; exact HMB.out.symm, by first | trivial | rfl⟩
          case measure => simp [intOf]; omega
        | false =>
          go_wp2_with fail
          go_ret
          exact ⟨ret_bool (by rw [HR.out]; symm; rw [Bool.and_eq_false_iff]; right; rw [Bool.eq_false_iff]; intro h; have := HA.out.1 h k hlt; rw [← HMB.out] at this; cases this), by first | rfl | trivial⟩
    · have hki : ¬ (k : Int) < (n : Int) := by omega
      have HAL : Hid ((nm.all fun c => mayB c.toNat) = true) := HA.out.2 fun j hj => HK.out j (by omega)
      have HR3 : Hid (r = (decide (1 ≤ n) && decide (n ≤ 32))) := by show _ = _; rw [HR.out, HAL.out, Bool.and_true]
      clear HX HA HK
      by_cases h1 : 1 ≤ n <;> by_cases h2 : n ≤ 32
      all_goals first | (exfalso; omega) | skip
      all_goals
        go_wp2_with fail
        go_ret
        exact ⟨ret_bool (by rw [HR3.out]; first | (simp [*]; done) | (simp [*]; omega)), by first | rfl | trivial⟩
end Go.Proofs.Yticbfcognnofbaa
