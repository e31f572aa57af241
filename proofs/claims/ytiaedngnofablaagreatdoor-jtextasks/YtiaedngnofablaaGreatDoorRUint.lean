/- The contract of the document's Uint. -/
import Derived.Test.YtiaedngnofablaaGreatDoorRFit
namespace Go.Proofs.YtiaedngnofablaaGreatDoor
open Go.RowKit

/-- The number that decimal digits write. -/
def tenN (l : By) : Nat := l.foldl (fun n c => 10 * n + (c - 48)) 0
theorem tenN_snoc (l : By) (c : Nat) : tenN (l ++ [c]) = 10 * tenN l + (c - 48) := by unfold tenN; rw [List.foldl_append]; rfl
theorem tenN_grows (a : By) : ∀ (b : By), tenN a ≤ tenN (a ++ b) := by
  intro b
  induction b generalizing a with
  | nil => rw [List.append_nil]; exact Nat.le_refl _
  | cons c b ih =>
    have h := ih (a ++ [c])
    rw [List.append_assoc, List.singleton_append] at h
    have := tenN_snoc a c
    omega
theorem tenN_take (l : By) (i : Nat) : tenN (l.take i) ≤ tenN l := by
  have := tenN_grows (l.take i) (l.drop i)
  rw [List.take_append_drop] at this
  exact this
/-- The number of sixty-four bits without a sign that a Json of kind k and text t tells. -/
def uOf (k : Int) (t : By) : Option Nat := if k = 3 ∧ t ≠ [] ∧ ¬ (t.getD 0 0 = 48 ∧ 1 < t.length) ∧ t.all isDigit = true ∧ tenN t < 18446744073709551616 then some (tenN t) else none
def uVal (o : Option Nat) : Value := .tuple #[.int .u64 ((o.getD 0 : Nat) : Int), .bool o.isSome]
theorem uOf_none {k : Int} {t : By} (h : ¬ (k = 3 ∧ t ≠ [] ∧ ¬ (t.getD 0 0 = 48 ∧ 1 < t.length) ∧ t.all isDigit = true ∧ tenN t < 18446744073709551616)) : uOf k t = none := if_neg h
theorem isDigit_span {c : Nat} : isDigit c = true ↔ 48 ≤ c ∧ c ≤ 57 := by unfold isDigit; rw [decide_eq_true_iff]

theorem str_empty (s : ByteArray) : s.toList.isEmpty = decide (s.size = 0) := by
  have e : s.toList.length = s.size := by
    have e2 : ∀ l : List Nat, (bstr l).toList = l.map fun n => UInt8.ofNat n := fun l => by simp [bstr]
    have e3 := e2 (sbytes s)
    rw [bstr_sbytes] at e3
    rw [e3, List.length_map, sbytes_length]
  rw [← e]
  cases s.toList <;> simp
set_option maxHeartbeats 4000000 in
set_option maxRecDepth 100000 in
theorem ruint_any (x : JV) (w : World) (hs : x.t.size ≤ 4611686018427387904) :
    Calls Tryz.prog 28 #[x.val] w fun e w' => e = .returned (uVal (uOf x.k (sbytes x.t))) ∧ Below w.heap.size w w' := by
  obtain ⟨U, hU⟩ : ∃ U, U = uOf x.k (sbytes x.t) := ⟨_, rfl⟩
  rw [← hU]
  have HB := hide (below_new w (.cells #[.int .i64 x.k, .string x.t, .slice x.an x.ln x.cn, .slice x.ai x.li x.ci] 25))
  have HJ := hide (Jb.new w x.k x.t (.slice x.an x.ln x.cn) (.slice x.ai x.li x.ci))
  obtain ⟨k, s, an, ln, cn, ai, li, ci⟩ := x
  rw [show JV.val ⟨k, s, an, ln, cn, ai, li, ci⟩ = .agg #[.int .i64 k, .string s, .slice an ln cn, .slice ai li ci] from rfl]
  simp only at HB HJ hs hU
  obtain ⟨n, hn⟩ : ∃ n, n = s.size := ⟨_, rfl⟩
  obtain ⟨xs, HX⟩ : ∃ xs, Hid (xs = sbytes s) := ⟨_, rfl⟩
  have HN : Hid (n = xs.length) := by show _ = _; rw [hn, HX.out, sbytes_length]
  rw [← HX.out] at hU
  rw [← hn] at hs
  have HS : Hid (n = s.size) := hn
  have hlen : (s.size : Int) = (n : Int) := by rw [hn]
  have HUU := hide hU
  have HNO : Hid (¬ (k = 3 ∧ xs ≠ [] ∧ ¬ (xs.getD 0 0 = 48 ∧ 1 < xs.length) ∧ xs.all isDigit = true ∧ tenN xs < 18446744073709551616) → uVal U = .tuple #[.int .u64 0, .bool false]) := fun h => by rw [HUU.out, uOf_none h]; rfl
  clear hn hU
  go_enter Tryz.func28, Tryz.ntmps28
  go_upto_region 1 with fail
  have HB2 := hide HB.out
  obtain ⟨N, hN⟩ : ∃ N, N = w.heap.size := ⟨_, rfl⟩
  rw [← hN] at HB HJ ⊢
  clear hN
  generalize w.alloc (.cells #[.int .i64 k, .string s, .slice an ln cn, .slice ai li ci] 25) = w1 at *
  have j0 := HJ.out.c0
  have j1 := HJ.out.c1
  clear HJ HB
  by_cases hk : k = 3
  · have hkb : (k != 3) = false := by simp [hk]
    have HK := hide hk
    clear hk
    by_cases hn0 : n = 0
    · have he : s.toList.isEmpty = true := by rw [str_empty, ← HS.out, hn0]; rfl
      have HZ := hide (HNO.out (fun h => h.2.1 (List.length_eq_zero_iff.1 (by have := HN.out; omega))))
      clear HNO HUU
      go_wp2_with fail
      go_ret2
      exact ⟨by rw [HZ.out]; rfl, HB2.out⟩
    · have he : s.toList.isEmpty = false := by rw [str_empty, ← HS.out, decide_eq_false hn0]
      have hix := str_index s 0 (by rw [← HS.out]; omega)
      rw [← HX.out] at hix
      have hx0 : xs.getD 0 0 < 256 := by rw [HX.out]; exact lt_get (sbytes_lt s) 0
      have hix0 : ∀ w : World, (Instr.index 9 (.string s) (.int .i64 0)).run Tryz.prog w = .ok (.int .u8 ((xs.getD 0 0 : Nat) : Int)) w := hix
      clear hix
      have HH : Hid (xs.getD 0 0 = xs.getD 0 0) := rfl
      obtain ⟨c0, HC0⟩ : ∃ c, Hid (c = xs.getD 0 0) := ⟨_, rfl⟩
      rw [← HC0.out] at hix0 hx0
      clear HH
      by_cases hlead : c0 = 48 ∧ 1 < n
      · obtain ⟨h48, h1n⟩ := hlead
        have b48 : ((c0 : Int) == 48) = true := by rw [beq_iff_eq]; omega
        have b1 : (1 : Int) < (n : Int) := by omega
        have HZ := hide (HNO.out (fun h => h.2.2.1 ⟨by rw [← HC0.out]; exact h48, by rw [← HN.out]; exact h1n⟩))
        clear HNO HUU
        subst h48
        go_wp2_with fail
        go_ret2
        exact ⟨by rw [HZ.out]; rfl, HB2.out⟩
      · have HYES : Hid (xs.all isDigit = true → tenN xs < 18446744073709551616 → uVal U = .tuple #[.int .u64 ((tenN xs : Nat) : Int), .bool true]) := fun h1 h2 => by
          rw [HUU.out]
          unfold uOf
          rw [if_pos ⟨HK.out, fun e => hn0 (by rw [HN.out, e]; rfl), by rw [← HC0.out, ← HN.out]; exact hlead, h1, h2⟩]
          rfl
        clear HUU
        go_upto_region 2 with fail
        go_cut [26] (fun c wx => c = .bool false ∧ wx = w1)
        case first =>
          by_cases h48 : c0 = 48
          · have b1 : decide ((1 : Int) < (n : Int)) = false := by simp; omega
            have b1' : ¬ ((1 : Int) < (n : Int)) := by omega
            clear hlead
            subst h48
            go_wp2_with fail
            go_meet
            case rel => exact ⟨rfl, rfl⟩
          · have b48 : ((c0 : Int) == 48) = false := by rw [beq_eq_false_iff_ne]; omega
            clear hlead
            go_wp2_with fail
            go_meet
            case rel => exact ⟨rfl, rfl⟩
        case rest =>
          obtain ⟨rfl, hw⟩ := hcut
          have hw' := hw.symm
          subst hw'
          go_wp2_with fail
          go_loopw [5, 6] (fun v i wr => ∃ m p : Nat, (m ≤ n ∧ p < 18446744073709551616) ∧ i = .int .i64 (m : Int) ∧ v = .int .u64 (p : Int) ∧ Hid (p = tenN (xs.take m)) ∧ Hid ((xs.take m).all isDigit = true) ∧ Hid (Below w.heap.size w wr)) (fun _ i _ => n - (intOf i).toNat)
          case atStart => exact ⟨0, 0, ⟨Nat.zero_le _, by decide⟩, rfl, rfl, by show _ = _; rw [List.take_zero]; rfl, by show _ = _; rw [List.take_zero]; rfl, HB2⟩
          case round =>
            clear HB2
            obtain ⟨m, p, ⟨hm, hp⟩, rfl, rfl, HP, HA, HB⟩ := hrel
            by_cases hlt : m < n
            · have hix := str_index s m (by rw [← HS.out]; exact hlt)
              rw [← HX.out] at hix
              have hxk : xs.getD m 0 < 256 := by rw [HX.out]; exact lt_get (sbytes_lt s) m
              have hmi : (m : Int) < (n : Int) := by omega
              have HTK : Hid (xs.take (m + 1) = xs.take m ++ [xs.getD m 0]) := take_getD (by rw [← HN.out]; exact hlt)
              have HIN : Hid (xs.all isDigit = true → isDigit (xs.getD m 0) = true) := fun h => by
                rw [List.all_eq_true] at h
                have hml : m < xs.length := by rw [← HN.out]; exact hlt
                have e : xs.getD m 0 = xs[m] := by simp [List.getD, hml]
                rw [e]; exact h _ (List.getElem_mem hml)
              generalize xs.getD m 0 = c at *
              by_cases hc1 : c < 48
              · have g1 : (c : Int) < 48 := by omega
                have HZ := hide (HNO.out (fun h => by have := isDigit_span.1 (HIN.out h.2.2.2.1); omega))
                go_wp2_with fail
                go_ret2
                exact ⟨by rw [HZ.out]; rfl, HB.out⟩
              · have g1 : ¬ ((c : Int) < 48) := by omega
                by_cases hc2 : 57 < c
                · have g2 : (57 : Int) < (c : Int) := by omega
                  have HZ := hide (HNO.out (fun h => by have := isDigit_span.1 (HIN.out h.2.2.2.1); omega))
                  go_wp2_with fail
                  go_ret2
                  exact ⟨by rw [HZ.out]; rfl, HB.out⟩
                · have g2 : ¬ ((57 : Int) < (c : Int)) := by omega
                  obtain ⟨dd, hdd⟩ : ∃ dd : Nat, dd = c - 48 := ⟨_, rfl⟩
                  have hw8 : IntKind.u8.wrap ((c : Int) - 48) = (dd : Int) := by rw [IntKind.wrap_u8]; omega
                  have hd9 : dd ≤ 9 := by omega
                  have HSN : Hid (tenN (xs.take (m + 1)) = 10 * p + dd) := by show _ = _; rw [HTK.out, tenN_snoc, ← HP.out, hdd]
                  have HA2 : Hid ((xs.take (m + 1)).all isDigit = true) := by
                    show _ = _
                    rw [HTK.out, List.all_append, HA.out]
                    have : isDigit c = true := isDigit_span.2 ⟨by omega, by omega⟩
                    simp [this]
                  clear hdd
                  by_cases ho : 10 * p + dd < 18446744073709551616
                  · have w1u : IntKind.u64.wrap (10 * (p : Int)) = 10 * (p : Int) := by rw [IntKind.wrap_u64]; omega
                    have w2u : IntKind.u64.wrap (10 * (p : Int) + (dd : Int)) = 10 * (p : Int) + (dd : Int) := by rw [IntKind.wrap_u64]; omega
                    have k1 : ¬ ((1844674407370955161 : Int) < (p : Int)) := by omega
                    by_cases hpe : p = 1844674407370955161
                    · have k3 : ¬ ((5 : Int) < (dd : Int)) := by omega
                      subst hpe
                      go_wp2_with fail
                      go_roundw
                      case rel => exact ⟨m + 1, 10 * 1844674407370955161 + dd, ⟨by omega, ho⟩, by go_num, by first | rfl | go_num | simp, HSN.out.symm, HA2, HB⟩
                      case measure => simp [intOf]; omega
                    · have k2 : ((p : Int) == 1844674407370955161) = false := by rw [beq_eq_false_iff_ne]; omega
                      go_wp2_with fail
                      go_roundw
                      case rel => exact ⟨m + 1, 10 * p + dd, ⟨by omega, ho⟩, by go_num, by first | rfl | go_num | simp, HSN.out.symm, HA2, HB⟩
                      case measure => simp [intOf]; omega
                  · have HZ := hide (HNO.out (fun h => by
                      have h1 := h.2.2.2.2
                      have h2 := tenN_take xs (m + 1)
                      rw [HSN.out] at h2
                      omega))
                    by_cases hpg : 1844674407370955161 < p
                    · have k1 : (1844674407370955161 : Int) < (p : Int) := by omega
                      go_wp2_with fail
                      go_ret2
                      exact ⟨by rw [HZ.out]; rfl, HB.out⟩
                    · have k1 : ¬ ((1844674407370955161 : Int) < (p : Int)) := by omega
                      obtain rfl : p = 1844674407370955161 := by omega
                      have k3 : (5 : Int) < (dd : Int) := by omega
                      go_wp2_with fail
                      go_ret2
                      exact ⟨by rw [HZ.out]; rfl, HB.out⟩
            · have hmi : ¬ ((m : Int) < (n : Int)) := by omega
              have HT : Hid (xs.take m = xs) := by show _ = _; rw [List.take_of_length_le (by rw [← HN.out]; omega)]
              have HZ : Hid (uVal U = .tuple #[.int .u64 (p : Int), .bool true]) := by
                show _ = _
                have h1 := HP.out
                have h2 := HA.out
                rw [HT.out] at h1 h2
                rw [HYES.out h2 (by omega), h1]
              go_wp2_with fail
              go_ret2
              exact ⟨by rw [HZ.out]; rfl, HB.out⟩
  · have hkb : (k != 3) = true := by simp [hk]
    have HZ := hide (HNO.out (fun h => hk h.1))
    clear HNO HUU
    go_wp2_with fail
    go_ret2
    exact ⟨by rw [HZ.out]; rfl, HB2.out⟩
end Go.Proofs.YtiaedngnofablaaGreatDoor
