/- The contract of the document's Parse: for every text. -/
import Derived.Test.YtebcodbmkphgaaaDoorPairRow
import Derived.Test.YtebcodbmkphgaaaDoorPairRef
namespace Go.Proofs.YtebcodbmkphgaaaDoor
open Go.RowKit

theorem infoRPair : (Tryd.prog.info? 64).map (fun i => (i.zero, i.size, i.bytes)) = some (some (.agg #[.string { data := #[] }, .string { data := #[] }]), 2, 32) := by kernel_rfl
theorem piece_eq {xs : List Nat} {f i n : Nat} (hn : n = xs.length) (hfi : f ≤ i) (hin : i ≤ n) (h : ∀ m, f ≤ m → m < i → xs.getD m 0 ≠ 38) (he : i = n ∨ xs.getD i 0 = 38) : upTo 38 (xs.drop f) = (xs.take i).drop f ∧ (upTo 38 (xs.drop f)).length = i - f := by
  have gd : ∀ m, (xs.drop f).getD m 0 = xs.getD (f + m) 0 := fun m => by simp [List.getD]
  have hlen : (upTo 38 (xs.drop f)).length = i - f := by
    refine upTo_len (by rw [List.length_drop]; omega) (fun m hm => ?_) ?_
    · rw [gd]; exact h _ (by omega) (by omega)
    · rcases he with rfl | he
      · left; rw [List.length_drop]; omega
      · right; rw [gd, show f + (i - f) = i by omega]; exact he
  refine ⟨?_, hlen⟩
  rw [upTo_take, hlen, List.drop_take]

set_option linter.unusedSimpArgs false in
set_option maxHeartbeats 1600000 in
set_option maxRecDepth 100000 in
theorem refParse_any (s : ByteArray) (w : World) (hsz : s.size ≤ 9223372036854775807) :
    Calls Tryd.prog 15 #[.string s] w fun e w' => ∃ v, e = .returned (.tuple #[v, .int .i64 ((parOut (sbytes s)).2.1 : Nat), .int .i64 ((parOut (sbytes s)).2.2 : Nat)]) ∧ Hid (POwn 64 w' w.heap.size v (parOut (sbytes s)).1 ∧ Below w.heap.size w w') := by
  obtain ⟨xs, HX⟩ : ∃ xs, Hid (xs = sbytes s) := ⟨_, rfl⟩
  have HZ : Hid (s.size = xs.length) := by show _ = _; rw [HX.out, sbytes_length]
  obtain ⟨i0, hi, hz0, hz1, hz2⟩ := info_parts infoRPair
  obtain ⟨n, hn⟩ : ∃ n, n = s.size := ⟨_, rfl⟩
  have HN : Hid (n = s.size) := hn
  have HNX : Hid (n = xs.length) := by show _ = _; rw [hn]; exact HZ.out
  have hlen : (s.size : Int) = (n : Int) := by rw [hn]
  rw [← hn] at hsz
  rw [← HX.out]
  clear hn
  by_cases hbig : 16384 < n
  · have hbi : (16384 : Int) < (n : Int) := by omega
    have HR : Hid (parOut xs = ([], 1, 0)) := by show _ = _; unfold parOut; rw [if_pos (by rw [← HNX.out]; exact hbig)]
    rw [HR.out]
    go_enter Tryd.func15, Tryd.ntmps15
    go_wp2
    go_ret3
    exact ⟨.slice none 0 0, rfl, pown_nil _ _ _, Below.refl _ _⟩
  · obtain ⟨R, HR⟩ : ∃ R, Hid (R = parse xs 0 []) := ⟨_, rfl⟩
    obtain ⟨O, HO⟩ : ∃ O, Hid (O = parOut xs) := ⟨_, rfl⟩
    have HOR : Hid (O = outOf R) := by show _ = _; rw [HO.out, HR.out]; unfold parOut; rw [if_neg (by rw [← HNX.out]; exact hbig)]
    rw [← HO.out]
    have hbi : (n : Int) ≤ 16384 := by omega
    go_enter Tryd.func15, Tryd.ntmps15
    go_wp2
    go_loopw [5, 6, 7] (fun v fr i wr => ∃ (k f : Nat) (acc : List Two), (k ≤ n + 1 ∧ f ≤ k ∧ (k = n + 1 → f = n + 1) ∧ acc.length ≤ 64) ∧ fr = .int .i64 f ∧ i = .int .i64 k ∧ Hid (POwn 64 wr w.heap.size v acc ∧ Below w.heap.size w wr) ∧ Hid (R = parse (xs.drop f) f acc) ∧ Hid (∀ m, f ≤ m → m < k → xs.getD m 0 ≠ 38)) (fun _ _ i _ => n + 1 - (intOf i).toNat)
    case atStart => exact ⟨0, 0, [], ⟨by omega, by omega, by omega, by simp⟩, rfl, rfl, ⟨pown_nil _ _ _, Below.refl _ _⟩, by show _ = _; rw [List.drop_zero]; exact HR.out, fun m _ hm => by omega⟩
    case round =>
      obtain ⟨k, f, acc, ⟨hk, hfk, hkf, hacc⟩, rfl, rfl, HI, HD, HK⟩ := hrel
      have hs := HI.out.2.size
      obtain ⟨ao, cap, hv, hcap, _, _⟩ := HI.out.1.shape
      obtain ⟨m, hm⟩ : ∃ m, m = acc.length := ⟨_, rfl⟩
      rw [← hm] at hv hcap hacc
      have HV : Hid (m = acc.length) := hm
      subst hv
      clear hm
      by_cases hle : k ≤ n
      · by_cases hgo : k < n ∧ xs.getD k 0 ≠ 38
        · obtain ⟨hlt, hne⟩ := hgo
          have hdk : decide ((k : Int) < (n : Int)) = true := by simp; omega
          have hix := str_index s k (by rw [← HN.out]; omega)
          rw [← HX.out] at hix
          have hneI : (((xs.getD k 0 : Nat) : Int) != 38) = true := by rw [bne_iff_ne]; omega
          have HK2 : Hid (∀ m, f ≤ m → m < k + 1 → xs.getD m 0 ≠ 38) := fun m h1 h2 => by
            by_cases h : m < k
            · exact HK.out m h1 h
            · rw [show m = k by omega]; exact hne
          clear HK hne
          generalize xs.getD k 0 = x at *
          go_wp2
          go_roundw
          case rel => exact ⟨k + 1, f, acc, ⟨by omega, by omega, by omega, by rw [← HV.out]; exact hacc⟩, rfl, by go_num, HI, HD, HK2⟩
          case measure => simp [intOf]; omega
        · have hend : k = n ∨ xs.getD k 0 = 38 := by
            by_cases h : k < n
            · right
              by_cases h2 : xs.getD k 0 = 38
              · exact h2
              · exact absurd ⟨h, h2⟩ hgo
            · left; omega
          obtain ⟨hp1, hp2⟩ := piece_eq HNX.out hfk hle HK.out hend
          have HPE : Hid (upTo 38 (xs.drop f) = (xs.take k).drop f) := hp1
          have HPL : Hid ((upTo 38 (xs.drop f)).length = k - f) := hp2
          clear hp1 hp2
          have hguard : n ≤ k ∨ (k < n ∧ ∀ w, (Instr.index 9 (.string s) (.int .i64 (k : Int))).run Tryd.prog w = .ok (.int .u8 38) w) := by
            by_cases h : k < n
            · right
              refine ⟨h, fun w => ?_⟩
              have hx := str_index s k (by rw [← HN.out]; omega) w
              rw [← HX.out] at hx
              rcases hend with h2 | h2
              · omega
              · rw [h2] at hx; exact hx
            · left; omega
          have HKn : Hid (∀ m, k + 1 ≤ m → m < k + 1 → xs.getD m 0 ≠ 38) := fun m h1 h2 => by omega
          by_cases hfl : f < k
          · have hgt : (f : Int) < (k : Int) := by omega
            have hu0 : (upTo 38 (xs.drop f)).length ≠ 0 := by rw [HPL.out]; omega
            have HU0 : Hid ((upTo 38 (xs.drop f)).length ≠ 0) := hu0
            clear hu0 hgo hend
            by_cases hm64 : m = 64
            · have HD2 : Hid (O = ([], 32, f)) := by
                show _ = _
                rw [HOR.out, HD.out, parse_many f acc HU0.out (by rw [← HV.out]; exact hm64)]
                rfl
              subst hm64
              clear HD
              rcases hguard with hg | ⟨hg, hix⟩
              · go_wp2
                go_ret3
                exact ⟨.slice none 0 0, by rw [HD2.out]; rfl, by rw [HD2.out]; exact pown_nil _ _ _, HI.out.2⟩
              · go_wp2
                go_ret3
                exact ⟨.slice none 0 0, by rw [HD2.out]; rfl, by rw [HD2.out]; exact pown_nil _ _ _, HI.out.2⟩
            · have hm64i : ((m : Int) == 64) = false := by rw [beq_eq_false_iff_ne]; omega
              rcases hguard with hg | ⟨hg, hix⟩
              all_goals
                go_wp2_with fail
                refine (refPair_any s f k wr (by rw [← HN.out]; omega) hfk (by rw [← HN.out]; exact hle)).mono ?_
                rintro e w2 ⟨rfl, hb2⟩
                rw [← HX.out, ← HPE.out]
                have HB2 : Hid (Below w.heap.size w w2) := HI.out.2.trans (hb2.mono hs)
                have HP2 : Hid (POwn 64 w2 w.heap.size (.slice ao m cap) acc) := HI.out.1.keep hb2
                have hs2 := HB2.out.size
                clear hb2
                cases hp : pairAt (upTo 38 (xs.drop f)) f with
                | error ep =>
                  obtain ⟨e0, p0⟩ := ep
                  have hR : parse (xs.drop f) f acc = .error (e0, p0) := parse_bad f acc HU0.out (by rw [← HV.out]; exact hm64) hp
                  have HD2 : Hid (O = ([], e0, p0)) := by
                    show _ = _
                    rw [HOR.out, HD.out, hR]; rfl
                  obtain ⟨h1, h2, _, h4⟩ := parse_err _ _ _ _ _ _ (Nat.le_refl _) hR
                  rw [List.length_drop, ← HNX.out] at h4
                  have hne : ((e0 : Int) != 0) = true := by rw [bne_iff_ne]; omega
                  clear HD hp hR
                  simp only [pairRes]
                  go_wp2
                  go_ret3
                  exact ⟨.slice none 0 0, by rw [HD2.out]; first | rfl | simp, by rw [HD2.out]; exact pown_nil _ _ _, HB2.out.alloc hs2 _⟩
                | ok q =>
                  have HD2 : Hid (R = parse (xs.drop (k + 1)) (k + 1) (acc ++ [q])) := by
                    show _ = _
                    rw [HD.out, parse_good f acc HU0.out (by rw [← HV.out]; exact hm64) hp, HPL.out, List.drop_drop]
                    rw [show f + (k - f + 1) = k + 1 by omega, show f + (k - f) + 1 = k + 1 by omega]
                  clear HD hp
                  simp only [pairRes]
                  obtain ⟨qn, hqn⟩ : ∃ b, b = bstr q.1 := ⟨_, rfl⟩
                  obtain ⟨qv, hqv⟩ : ∃ b, b = bstr q.2 := ⟨_, rfl⟩
                  rw [← hqn, ← hqv]
                  have HQ : Hid (qn = bstr q.1 ∧ qv = bstr q.2) := ⟨hqn, hqv⟩
                  clear hqn hqv
                  go_wp2_with (first | (at_builtin; refine wpList_append_own _ rfl (.tmp 49) (.tmp 51) 34 rfl w.heap.size 64 i0 (.agg #[.string { data := #[] }, .string { data := #[] }]) 2 32 Tryd.underlying34 hi hz0 hz1 hz2 rfl (by decide) _ acc.length (flat2 acc) rfl (World.ownsRow.alloc (World.ownsRow.alloc HP2.out _) _) ⟨w2.heap.size + 1, 0, none⟩ 1 1 [.string qn, .string qv] rfl rfl (two_new _ _ (by simp) _ _ _) (by intro u hu; simp at hu; rcases hu with rfl | rfl <;> rfl) (by unfold maxLen; rw [← HV.out]; omega) (by rw [← HV.out]; omega) (by simp; omega) ?_; intro v3 w3 hown3 hgrow3 hnil3))
                  have HI3 : Hid (POwn 64 w3 w.heap.size v3 (acc ++ [q]) ∧ Below w.heap.size w w3) := by
                    refine ⟨?_, ((HB2.out.alloc hs2 _).alloc (by simp; omega) _).grown hgrow3 (by simp; omega) HP2.out.ge⟩
                    unfold POwn
                    rw [List.length_append, flat2_snoc, ← HQ.out.1, ← HQ.out.2]
                    exact hown3
                  clear hown3 hgrow3 hnil3
                  go_roundw
                  case rel => exact ⟨k + 1, k + 1, acc ++ [q], ⟨by omega, by omega, by omega, by rw [List.length_append, ← HV.out]; simp; omega⟩, by go_num, by go_num, HI3, HD2, HKn⟩
                  case measure => simp [intOf]; omega
          · obtain rfl : f = k := by omega
            have HD2 : Hid (R = parse (xs.drop (f + 1)) (f + 1) acc) := by
              show _ = _
              rw [HD.out]
              by_cases h : f < n
              · rw [parse_empty f acc (by rw [List.length_drop, ← HNX.out]; omega) (by rw [HPL.out]; omega), List.drop_drop]
              · rw [List.drop_eq_nil_of_le (by rw [← HNX.out]; omega), List.drop_eq_nil_of_le (by rw [← HNX.out]; omega), parse_nil, parse_nil]
            clear HD hgo hend HK
            rcases hguard with hg | ⟨hg, hix⟩
            all_goals
              go_wp2
              go_roundw
              case rel => exact ⟨f + 1, f + 1, acc, ⟨by omega, by omega, by omega, by rw [← HV.out]; exact hacc⟩, by go_num, by go_num, HI, HD2, HKn⟩
              case measure => simp [intOf]; omega
      · have HD2 : Hid (O = (acc, 0, 0)) := by
          show _ = _
          rw [HOR.out, HD.out, List.drop_eq_nil_of_le (by rw [← HNX.out]; omega), parse_nil]; rfl
        clear HD HK
        go_wp2
        go_ret3
        exact ⟨.slice ao m cap, by rw [HD2.out]; rfl, by rw [HD2.out]; exact HI.out.1, HI.out.2⟩
end Go.Proofs.YtebcodbmkphgaaaDoor
