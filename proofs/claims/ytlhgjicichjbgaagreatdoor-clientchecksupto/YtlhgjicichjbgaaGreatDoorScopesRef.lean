/- The contract of the document's Scopes: for every text. -/
import Derived.Test.YtlhgjicichjbgaaGreatDoorPutFn
namespace Go.Proofs.YtlhgjicichjbgaaGreatDoor
open Go.RowKit

theorem str_midU (s : ByteArray) (a b : Nat) (i j : Int) (hi : i = (a : Int)) (hj : j = (b : Int)) (hab : a ≤ b) (hb : b ≤ s.size) (w : World) : (Instr.slice 9 (.string s) (some (.int .i64 i)) (some (.int .i64 j)) none).run Tryz.prog w = .ok (.string ⟨((s.data.toList.take b).drop a).toArray⟩) w := by
  rw [str_mid s a b i j hi hj hab hb w]
  congr 2
  unfold bstr sbytes
  rw [← List.map_take, ← List.map_drop, ofNat_toNat]
theorem str_indexU (s : ByteArray) (k : Nat) (c : UInt8) (hc : s.data.toList[k]? = some c) (w : World) : (Instr.index 9 (.string s) (.int .i64 (k : Int))).run Tryz.prog w = .ok (.int .u8 ((c.toNat : Nat) : Int)) w := by
  have hk : k < s.size := by
    have := (List.getElem?_eq_some_iff.1 hc).1
    simpa using this
  rw [str_index s k hk w]
  simp [sbytes, List.getD, hc]
theorem scan_start {t : U} (h0 : t ≠ []) (hb : ¬ 256 < t.length) : scoOut t = match scan t [] [] with
    | none => ([], 33)
    | some u => if 32 < u.length then ([], 32) else (u, 0) := by
  obtain ⟨h, r, e⟩ := cutAll_ne t
  rw [scan_all t [] h r [] rfl e, List.nil_append, ← e]
  unfold scoOut
  rw [if_neg hb, if_neg h0]
  by_cases ha : (cutAll t).all isSc = true
  · rw [if_pos ha, if_pos ha]
  · rw [if_neg ha, if_neg ha]
theorem mid_snoc {t : U} {f k : Nat} {c : UInt8} (hf : f ≤ k) (hc : t[k]? = some c) : (t.take (k + 1)).drop f = (t.take k).drop f ++ [c] := by
  have hk := (List.getElem?_eq_some_iff.1 hc).1
  rw [List.take_add_one, hc, List.drop_append_of_le_length (by rw [List.length_take]; omega)]
  rfl
theorem dropU {t : U} {k : Nat} {c : UInt8} (hc : t[k]? = some c) : t.drop k = c :: t.drop (k + 1) := by
  obtain ⟨hk, e⟩ := List.getElem?_eq_some_iff.1 hc
  rw [List.drop_eq_getElem_cons hk, e]

set_option linter.unusedSimpArgs false in
set_option maxHeartbeats 1600000 in
set_option maxRecDepth 100000 in
theorem refScopes_any (s : ByteArray) (w : World) (hsz : s.size ≤ 9223372036854775807) :
    Calls Tryz.prog 34 #[.string s] w fun e w' => ∃ v, e = .returned (.tuple #[v, .int .i64 ((scoOut s.data.toList).2 : Nat)]) ∧ Hid (SOwn w' w.heap.size v (scoOut s.data.toList).1 ∧ Below w.heap.size w w') := by
  obtain ⟨t, ht⟩ : ∃ t, t = s.data.toList := ⟨_, rfl⟩
  have hst : s = ⟨t.toArray⟩ := by rw [ht]
  have htl : s.size = t.length := by rw [hst]; exact u_size t
  rw [← ht]
  have HT : Hid (t = s.data.toList) := ht
  obtain ⟨n, hn⟩ : ∃ n, n = t.length := ⟨_, rfl⟩
  have HN : Hid (n = t.length) := hn
  have hlen : (s.size : Int) = (n : Int) := by rw [htl, hn]
  have HSN : Hid (s.size = n) := by show _ = _; rw [htl, hn]
  rw [htl, ← hn] at hsz
  clear hn ht htl
  by_cases hbig : 256 < n
  · have hbi : (256 : Int) < (n : Int) := by omega
    have HR : Hid (scoOut t = ([], 1)) := by show _ = _; unfold scoOut; rw [if_pos (by rw [← HN.out]; exact hbig)]
    rw [HR.out]
    clear hst
    go_enter Tryz.func34, Tryz.ntmps34
    go_wp2
    go_ret2
    exact ⟨.slice none 0 0, rfl, sown_nil _ _, Below.refl _ _⟩
  · have hbi : (n : Int) ≤ 256 := by omega
    by_cases h0 : t = []
    · have HR : Hid (scoOut t = ([], 0)) := by show _ = _; unfold scoOut; rw [if_neg (by rw [← HN.out]; exact hbig), if_pos h0]
      rw [HR.out]
      subst h0
      have hse : s = { data := #[] } := hst
      subst hse
      go_enter Tryz.func34, Tryz.ntmps34
      go_wp2
      go_ret2
      exact ⟨.slice none 0 0, rfl, sown_nil _ _, Below.refl _ _⟩
    · have hpe : (s.toList == ([] : List UInt8)) = false := by rw [hst]; exact u_nil h0
      obtain ⟨R, HRR⟩ : ∃ R, Hid (R = scan t [] []) := ⟨_, rfl⟩
      obtain ⟨O, HO⟩ : ∃ O, Hid (O = scoOut t) := ⟨_, rfl⟩
      have HON : Hid (R = none → O = ([], 33)) := fun h => by rw [HO.out, scan_start h0 (by rw [← HN.out]; exact hbig), ← HRR.out, h]
      have HOS : Hid (∀ u, R = some u → O = if 32 < u.length then ([], 32) else (u, 0)) := fun u h => by rw [HO.out, scan_start h0 (by rw [← HN.out]; exact hbig), ← HRR.out, h]
      rw [← HO.out]
      clear hst h0
      go_enter Tryz.func34, Tryz.ntmps34
      go_wp2
      go_loopw [4, 5, 6] (fun v fr i wr => ∃ (k f : Nat) (acc : List U), (k ≤ n + 1 ∧ f ≤ k ∧ acc.length ≤ k) ∧ fr = .int .i64 f ∧ i = .int .i64 k ∧ Hid (SOwn wr w.heap.size v acc ∧ Below w.heap.size w wr) ∧ Hid (k ≤ n → R = scan (t.drop k) ((t.take k).drop f) acc) ∧ Hid (k = n + 1 → R = some acc)) (fun _ _ i _ => n + 1 - (intOf i).toNat)
      case atStart => exact ⟨0, 0, [], ⟨by omega, by omega, by simp⟩, rfl, rfl, ⟨sown_nil _ _, Below.refl _ _⟩, fun _ => by rw [HRR.out]; simp, fun h => by omega⟩
      case round =>
        obtain ⟨k, f, acc, ⟨hk, hfk, hacc⟩, rfl, rfl, HI, HD, HE⟩ := hrel
        have hs := HI.out.2.size
        obtain ⟨ao, cap, hv, hcap, _, _⟩ := HI.out.1.shape
        obtain ⟨m, hm⟩ : ∃ m, m = acc.length := ⟨_, rfl⟩
        rw [← hm] at hv hcap hacc
        have HV : Hid (m = acc.length) := hm
        subst hv
        clear hm
        by_cases hle : k ≤ n
        · by_cases hgo : ∃ c : UInt8, t[k]? = some c ∧ c ≠ 32
          · obtain ⟨c, hc, hc32⟩ := hgo
            have hlt : k < n := by have := (List.getElem?_eq_some_iff.1 hc).1; rw [HN.out]; exact this
            have hix := str_indexU s k c (by rw [← HT.out]; exact hc)
            have hne : (((c.toNat : Nat) : Int) != 32) = true := by
              rw [bne_iff_ne]
              intro h
              apply hc32
              apply UInt8.toNat_inj.1
              have : c.toNat = 32 := by omega
              exact this
            have hcl := c.toNat_lt
            have HSC : Hid (R = if letter c = true then scan (t.drop (k + 1)) ((t.take (k + 1)).drop f) acc else none) := by
              show _ = _
              rw [HD.out hle, dropU hc, scan, if_neg hc32, mid_snoc hfk hc]
            have HLT : Hid (okB lets c.toNat = letter c) := okB_letter c
            clear hc hc32 HD
            generalize c.toNat = x at *
            go_wp2_with fail
            refine (refLetter_any x wr hcl).mono ?_
            rintro e w3 ⟨rfl, rfl⟩
            rw [HLT.out]
            cases hlc : letter c with
            | true =>
              have HD2 : Hid (k + 1 ≤ n → R = scan (t.drop (k + 1)) ((t.take (k + 1)).drop f) acc) := fun _ => by rw [HSC.out, if_pos hlc]
              have HE2 : Hid (k + 1 = n + 1 → R = some acc) := fun h => by omega
              clear HSC HE hlc
              go_wp2
              go_roundw
              case rel => exact ⟨k + 1, f, acc, ⟨by omega, by omega, by rw [← HV.out]; omega⟩, rfl, by go_num, HI, HD2, HE2⟩
              case measure => simp [intOf]; omega
            | false =>
              have HF : Hid (O = ([], 33)) := HON.out (by rw [HSC.out, if_neg (by rw [hlc]; simp)])
              clear HSC HE hlc
              go_wp2
              go_ret2
              exact ⟨.slice none 0 0, by rw [HF.out]; rfl, by rw [HF.out]; exact sown_nil _ _, HI.out.2⟩
          · have hend : k = n ∨ t[k]? = some 32 := by
              by_cases h : k < n
              · right
                obtain ⟨c, hc⟩ : ∃ c, t[k]? = some c := ⟨_, List.getElem?_eq_getElem (by rw [← HN.out]; exact h)⟩
                by_cases h2 : c = 32
                · rw [hc, h2]
                · exact absurd ⟨c, hc, h2⟩ hgo
              · left; omega
            have hguard : n ≤ k ∨ (k < n ∧ ∀ w, (Instr.index 9 (.string s) (.int .i64 (k : Int))).run Tryz.prog w = .ok (.int .u8 32) w) := by
              by_cases h : k < n
              · right
                refine ⟨h, fun w => ?_⟩
                rcases hend with h2 | h2
                · omega
                · exact str_indexU s k 32 (by rw [← HT.out]; exact h2) w
              · left; omega
            obtain ⟨cur, HCU⟩ : ∃ cur, Hid (cur = (t.take k).drop f) := ⟨_, rfl⟩
            have HCL : Hid (cur.length = k - f) := by show _ = _; rw [HCU.out, List.length_drop, List.length_take]; have := HN.out; omega
            have HSC : Hid (R = if cur = [] then none else if k = n then some (ins acc cur) else scan (t.drop (k + 1)) [] (ins acc cur)) := by
              show _ = _
              rw [HD.out hle, ← HCU.out]
              by_cases h : k = n
              · rw [List.drop_eq_nil_of_le (by rw [← HN.out]; omega), scan, if_pos h]
              · rcases hend with h2 | h2
                · exact absurd h2 h
                · rw [dropU h2, scan, if_pos rfl, if_neg h]
            clear HD hgo hend
            by_cases hfl : f < k
            · have hcne : cur ≠ [] := fun e => by have := HCL.out; rw [e] at this; simp at this; omega
              have hkf : ((k : Int) == (f : Int)) = false := by rw [beq_eq_false_iff_ne]; omega
              have hsl := str_midU s f k (f : Int) (k : Int) rfl rfl hfk (by rw [HSN.out]; exact hle)
              rw [← HT.out, ← HCU.out] at hsl
              have HD2 : Hid (k + 1 ≤ n → R = scan (t.drop (k + 1)) ((t.take (k + 1)).drop (k + 1)) (ins acc cur)) := fun h => by
                rw [HSC.out, if_neg hcne, if_neg (by omega), show (t.take (k + 1)).drop (k + 1) = [] from List.drop_eq_nil_of_le (by rw [List.length_take]; omega)]
              have HE2 : Hid (k + 1 = n + 1 → R = some (ins acc cur)) := fun h => by rw [HSC.out, if_neg hcne, if_pos (by omega)]
              have hil := ins_len acc cur
              rw [← HV.out] at hil
              clear HSC HE hcne
              rcases hguard with hg | ⟨hg, hix⟩
              all_goals
                go_wp2_with fail
                refine (refPut_any w.heap.size m cap ao acc cur wr HV.out (by omega) hs HI.out.1).mono ?_
                rintro e w3 ⟨v3, rfl, h3⟩
                have HI3 : Hid (SOwn w3 w.heap.size v3 (ins acc cur) ∧ Below w.heap.size w w3) := ⟨h3.out.1, HI.out.2.trans (h3.out.2.mono hs)⟩
                clear h3
                go_wp2
                go_roundw
                case rel => exact ⟨k + 1, k + 1, ins acc cur, ⟨by omega, by omega, by omega⟩, by go_num, by go_num, HI3, HD2, HE2⟩
                case measure => simp [intOf]; omega
            · obtain rfl : f = k := by omega
              have HF : Hid (O = ([], 33)) := HON.out (by
                rw [HSC.out, if_pos]
                exact List.length_eq_zero_iff.1 (by rw [HCL.out]; omega))
              clear HSC HE
              rcases hguard with hg | ⟨hg, hix⟩
              all_goals
                go_wp2
                go_ret2
                exact ⟨.slice none 0 0, by rw [HF.out]; rfl, by rw [HF.out]; exact sown_nil _ _, HI.out.2⟩
        · have HOF : Hid (O = if 32 < m then ([], 32) else (acc, 0)) := by
            show _ = _
            rw [HV.out]
            exact HOS.out acc (HE.out (by omega))
          clear HD HE
          by_cases h32 : 32 < m
          · have HF : Hid (O = ([], 32)) := by show _ = _; rw [HOF.out, if_pos h32]
            have h32i : (32 : Int) < (m : Int) := by omega
            go_wp2
            go_ret2
            exact ⟨.slice none 0 0, by rw [HF.out]; rfl, by rw [HF.out]; exact sown_nil _ _, HI.out.2⟩
          · have HF : Hid (O = (acc, 0)) := by show _ = _; rw [HOF.out, if_neg h32]
            have h32i : (m : Int) ≤ 32 := by omega
            go_wp2
            go_ret2
            exact ⟨.slice ao m cap, by rw [HF.out]; rfl, by rw [HF.out]; exact HI.out.1, HI.out.2⟩
end Go.Proofs.YtlhgjicichjbgaaGreatDoor
