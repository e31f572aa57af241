/- The contract of Parse of the program: for every text. -/
import Derived.Test.YtlhgjicichjbgaaGreatDoorPairRow
import Derived.Test.YtlhgjicichjbgaaGreatDoorCutFn
namespace Go.Proofs.YtlhgjicichjbgaaGreatDoor
open Go.RowKit


set_option linter.unusedSimpArgs false in
set_option maxHeartbeats 1000000 in
set_option maxRecDepth 100000 in
theorem parse_any (s : ByteArray) (w : World) (hsz : s.size ≤ 9223372036854775807) (hM : MaxL w) :
    Calls Tryz.prog 118 #[.string s] w fun e w' => ∃ v, e = .returned (.tuple #[v, .int .i64 ((parOut (sbytes s)).2.1 : Nat), .int .i64 ((parOut (sbytes s)).2.2 : Nat)]) ∧ Hid (POwn 63 w' w.heap.size v (parOut (sbytes s)).1 ∧ Below w.heap.size w w') := by
  obtain ⟨xs, HX⟩ : ∃ xs, Hid (xs = sbytes s) := ⟨_, rfl⟩
  have HZ : Hid (s.size = xs.length) := by show _ = _; rw [HX.out, sbytes_length]
  have HXB : Hid (∀ x ∈ xs, x < 256) := by rw [HX.out]; exact sbytes_lt s
  have HM : Hid (MaxL w) := hM
  obtain ⟨i0, hi, hz0, hz1, hz2⟩ := info_parts infoPair
  obtain ⟨n, hn⟩ : ∃ n, n = s.size := ⟨_, rfl⟩
  have HN : Hid (n = s.size) := hn
  have hlen : (s.size : Int) = (n : Int) := by rw [hn]
  rw [← hn] at hsz
  rw [← HX.out]
  clear hn hM
  by_cases hbig : 16384 < n
  · have hbi : (16384 : Int) < (n : Int) := by omega
    have HR : Hid (parOut xs = ([], 1, 0)) := by show _ = _; unfold parOut; rw [if_pos (by rw [← HZ.out, ← HN.out]; exact hbig)]
    rw [HR.out]
    go_enter Tryz.func118, Tryz.ntmps118
    go_wp2
    go_step3
    go_wp2
    rw [Exit.noGoto_ret]
    go_ret3
    exact ⟨_, rfl, pown_nil _ _ _, Below.refl _ _⟩
  · obtain ⟨R, HR⟩ : ∃ R, Hid (R = parse xs 0 []) := ⟨_, rfl⟩
    obtain ⟨O, HO⟩ : ∃ O, Hid (O = parOut xs) := ⟨_, rfl⟩
    have HOR : Hid (O = outOf R) := by show _ = _; rw [HO.out, HR.out]; unfold parOut; rw [if_neg (by rw [← HZ.out, ← HN.out]; exact hbig)]
    rw [← HO.out]
    have hbi : (n : Int) ≤ 16384 := by omega
    go_enter Tryz.func118, Tryz.ntmps118
    go_wp2
    go_step3
    go_wp2
    go_step3
    go_wp2
    go_loopw [5, 6, 7, 8] (fun v f q i wr => ∃ (k : Nat) (acc : List Two), (k ≤ n + 1 ∧ acc.length ≤ 64) ∧ f = .int .i64 0 ∧ q = .int .i64 0 ∧ i = .int .i64 k ∧ Hid (POwn 63 wr w.heap.size v acc ∧ Below w.heap.size w wr) ∧ Hid (R = parse (xs.drop k) k acc)) (fun _ _ _ i _ => n + 1 - (intOf i).toNat)
    case atStart => exact ⟨0, [], ⟨by omega, by simp⟩, rfl, rfl, rfl, ⟨pown_nil _ _ _, Below.refl _ _⟩, by show _ = _; rw [List.drop_zero]; exact HR.out⟩
    case round =>
      obtain ⟨k, acc, ⟨hk, hacc⟩, rfl, rfl, rfl, HI, HD⟩ := hrel
      have hs := HI.out.2.size
      obtain ⟨ao, cap, hv, hcap, _, _⟩ := HI.out.1.shape
      obtain ⟨m, hm⟩ : ∃ m, m = acc.length := ⟨_, rfl⟩
      rw [← hm] at hv hcap hacc
      have HV : Hid (m = acc.length) := hm
      subst hv
      clear hm
      by_cases hlt : k < n
      · have hfr := str_from s k (k : Int) rfl (by rw [← HN.out]; omega)
        rw [← HX.out] at hfr
        obtain ⟨ys, HY⟩ : ∃ ys, Hid (ys = xs.drop k) := ⟨_, rfl⟩
        rw [← HY.out] at hfr
        have HYL : Hid (ys.length = n - k) := by show _ = _; rw [HY.out, List.length_drop, ← HZ.out, ← HN.out]
        have HYB : Hid (sbytes (bstr ys) = ys) := by rw [HY.out]; exact sbytes_bstr (lt_drop HXB.out _)
        have hyz : (bstr ys).size ≤ 16384 := by rw [bstr_size, HYL.out]; omega
        obtain ⟨a, HA⟩ : ∃ a, Hid (a = upTo 38 ys) := ⟨_, rfl⟩
        have hal : a.length ≤ n - k := by have := upTo_le 38 ys; rw [← HA.out, HYL.out] at this; exact this
        rw [← HY.out] at HD
        have HDR : Hid (ys.drop (a.length + 1) = xs.drop (k + a.length + 1)) := by show _ = _; rw [HY.out, List.drop_drop]; congr 1
        have HDR1 : Hid (ys.drop 1 = xs.drop (k + 1)) := by show _ = _; rw [HY.out, List.drop_drop]
        have HAB : Hid (sbytes (bstr a) = a) := by
          refine sbytes_bstr fun x hx => ?_
          rw [HA.out, upTo_take] at hx
          rw [HY.out] at hx
          exact HXB.out x (List.mem_of_mem_drop (List.mem_of_mem_take hx))
        have hlaz : ((bstr a).size : Int) = (a.length : Int) := by rw [bstr_size]
        go_wp2_with fail
        refine (cut_any (bstr ys) 38 _ (by omega) (HM.out.keep HI.out.2)).mono ?_
        rintro e w1 ⟨f, rfl, hb1, _⟩
        rw [HYB.out, show UInt8.toNat 38 = 38 from rfl, ← HA.out]
        have HB1 : Hid (Below w.heap.size w w1) := HI.out.2.trans (hb1.mono hs)
        have HP1 : Hid (POwn 63 w1 w.heap.size (.slice ao m cap) acc) := HI.out.1.keep hb1
        have hs1 := HB1.out.size
        clear hb1
        generalize bstr (ys.drop (a.length + 1)) = aft at *
        by_cases ha0 : a.length = 0
        · have HD2 : Hid (R = parse (xs.drop (k + 1)) (k + 1) acc) := by
            show _ = _
            rw [HD.out, parse_empty k acc (by rw [HYL.out]; omega) (by rw [← HA.out]; exact ha0), HDR1.out]
          rw [List.length_eq_zero_iff] at ha0
          subst ha0
          rw [show bstr [] = { data := #[] } from rfl]
          clear HD
          go_wp2
          go_roundw
          case rel => exact ⟨k + 1, acc, ⟨by omega, by rw [← HV.out]; exact hacc⟩, rfl, rfl, by go_num, ⟨HP1.out, HB1.out⟩, HD2⟩
          case measure => simp [intOf]; omega
        · have hpe := bstr_empty ha0
          by_cases hm64 : m = 64
          · have HD2 : Hid (O = ([], 32, k)) := by
              show _ = _
              rw [HOR.out, HD.out, parse_many k acc (by rw [← HA.out]; exact ha0) (by rw [← HV.out]; exact hm64)]
              rfl
            subst hm64
            clear HD
            go_wp2
            rw [Exit.noGoto_ret]
            go_ret3
            exact ⟨.slice none 0 0, by rw [HD2.out]; rfl, by rw [HD2.out]; exact pown_nil _ _ _, HB1.out⟩
          · have hm64i : ((m : Int) == 64) = false := by rw [beq_eq_false_iff_ne]; omega
            go_wp2_with fail
            refine (parsePair_any (bstr a) w1 (by rw [bstr_size]; omega) (HM.out.keep HB1.out)).mono ?_
            rintro e w2 ⟨rfl, hb2⟩
            rw [HAB.out]
            have HB2 : Hid (Below w.heap.size w w2) := HB1.out.trans (hb2.mono hs1)
            have HP2 : Hid (POwn 63 w2 w.heap.size (.slice ao m cap) acc) := HP1.out.keep hb2
            have hs2 := HB2.out.size
            clear hb2
            cases hp : pairAt a 0 with
            | error ep =>
              obtain ⟨e0, p0⟩ := ep
              have hpk : pairAt (upTo 38 ys) k = .error (e0, k + p0) := by rw [← HA.out, pairAt_shift, hp]; rfl
              have hR : parse ys k acc = .error (e0, k + p0) := parse_bad k acc (by rw [← HA.out]; exact ha0) (by rw [← HV.out]; exact hm64) hpk
              have HD2 : Hid (O = ([], e0, k + p0)) := by
                show _ = _
                rw [HOR.out, HD.out, hR]; rfl
              obtain ⟨h1, h2, _, h4⟩ := parse_err _ _ _ _ _ _ (Nat.le_refl _) hR
              rw [HYL.out] at h4
              have hne : ((e0 : Int) != 0) = true := by rw [bne_iff_ne]; omega
              clear HD hp hpk hR
              simp only [pairRes]
              go_wp2
              rw [Exit.noGoto_ret]
              go_ret3
              exact ⟨.slice none 0 0, by rw [HD2.out]; simp, by rw [HD2.out]; exact pown_nil _ _ _, (HB2.out.alloc hs2 _)⟩
            | ok q =>
              have HD2 : Hid (R = parse (xs.drop (k + a.length + 1)) (k + a.length + 1) (acc ++ [q])) := by
                show _ = _
                rw [HD.out, parse_good k acc (by rw [← HA.out]; exact ha0) (by rw [← HV.out]; exact hm64) (q := q) (by rw [← HA.out]; exact pairAt_any hp k), ← HA.out, HDR.out]
              clear HD hp
              simp only [pairRes]
              obtain ⟨qn, hqn⟩ : ∃ b, b = bstr q.1 := ⟨_, rfl⟩
              obtain ⟨qv, hqv⟩ : ∃ b, b = bstr q.2 := ⟨_, rfl⟩
              rw [← hqn, ← hqv]
              have HQ : Hid (qn = bstr q.1 ∧ qv = bstr q.2) := ⟨hqn, hqv⟩
              clear hqn hqv
              go_wp2_with (first | (at_builtin; refine wpList_append_own _ rfl (.tmp 52) (.tmp 54) 64 rfl w.heap.size 63 i0 (.agg #[.string { data := #[] }, .string { data := #[] }]) 2 32 Tryz.underlying64 hi hz0 hz1 hz2 rfl (by decide) _ acc.length (flat2 acc) rfl (World.ownsRow.alloc (World.ownsRow.alloc HP2.out _) _) ⟨w2.heap.size + 1, 0, none⟩ 1 1 [.string qn, .string qv] rfl rfl (two_new _ _ (by simp) _ _ _) (by intro u hu; simp at hu; rcases hu with rfl | rfl <;> rfl) (by unfold maxLen; rw [← HV.out]; omega) (by rw [← HV.out]; omega) (by simp; omega) ?_; intro v3 w3 hown3 hgrow3 hnil3))
              have HI3 : Hid (POwn 63 w3 w.heap.size v3 (acc ++ [q]) ∧ Below w.heap.size w w3) := by
                refine ⟨?_, ((HB2.out.alloc hs2 _).alloc (by simp; omega) _).grown hgrow3 (by simp; omega) HP2.out.ge⟩
                unfold POwn
                rw [List.length_append, flat2_snoc, ← HQ.out.1, ← HQ.out.2]
                exact hown3
              clear hown3 hgrow3 hnil3
              go_roundw
              case rel => exact ⟨k + a.length + 1, acc ++ [q], ⟨by omega, by rw [List.length_append, ← HV.out]; simp; omega⟩, rfl, rfl, by go_num, HI3, HD2⟩
              case measure => simp [intOf]; omega
      · have HD2 : Hid (O = (acc, 0, 0)) := by
          show _ = _
          rw [HOR.out, HD.out, List.drop_eq_nil_of_le (by rw [← HZ.out, ← HN.out]; omega), parse_nil]; rfl
        clear HD
        go_wp2
        rw [Exit.noGoto_ret]
        go_ret3
        exact ⟨.slice ao m cap, by rw [HD2.out]; rfl, by rw [HD2.out]; exact HI.out.1, HI.out.2⟩
end Go.Proofs.YtlhgjicichjbgaaGreatDoor
