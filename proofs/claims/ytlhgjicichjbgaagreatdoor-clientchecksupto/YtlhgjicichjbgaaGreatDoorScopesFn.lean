/- The contract of Scopes of the program: for every text. -/
import Derived.Test.YtlhgjicichjbgaaGreatDoorScopeFn
import Derived.Test.YtlhgjicichjbgaaGreatDoorStrRow
namespace Go.Proofs.YtlhgjicichjbgaaGreatDoor
open Go.RowKit

/-- The pieces of a text, as the library cuts it. -/
theorem split_any (s : ByteArray) (w : World) (hs : s.size ≤ 256) (hM : MaxL w) :
    Calls Tryz.prog 40 #[.string s, .string { data := #[32] }] w fun e w' => e = .returned (.slice (some ⟨w.heap.size, 0, none⟩) (cutAll s.data.toList).length (cutAll s.data.toList).length) ∧ w' = w.alloc (.cells ((cutAll s.data.toList).map encStr).toArray 9) := by
  obtain ⟨m, hm⟩ := hM
  have hcnt : Lib.countB s { data := #[32] } = s.data.toList.count 32 := Lib.count_one 32 s.data.toList
  have hsp : (Lib.splitB { data := #[32] } 0 (Lib.countB s { data := #[32] }) s).map (·.data.toList) = cutAll s.data.toList := by
    rw [Lib.splitB_data, hcnt]; exact splitK_cut _
  have hlen : Lib.countB s { data := #[32] } + 1 = (cutAll s.data.toList).length := by
    rw [← hsp, List.length_map, Lib.splitB_all _ (by decide) 0 _ s rfl]
  have hcells : (Lib.splitB { data := #[32] } 0 (Lib.countB s { data := #[32] }) s).map Value.string = (cutAll s.data.toList).map encStr := by
    rw [← hsp, List.map_map]
    apply List.map_congr_left
    intro b _
    exact str_u b
  refine Calls.mono (Any.strings_Split lays146 (by kernel_rfl) s { data := #[32] } m w (by omega) hm (by decide)) ?_
  rintro e w' ⟨rfl, rfl⟩
  rw [hlen, hcells]
  exact ⟨rfl, rfl⟩
theorem sort_any (g n : Nat) (l : List U) (w : World) (hn : n = l.length) (hl : n ≤ 1000) (hb : SBlk w g l) :
    Calls Tryz.prog 110 #[.slice (some ⟨g, 0, none⟩) n n] w fun e w' => e = .returned (.tuple #[]) ∧ Hid (SBlk w' g (l.mergeSort fun x y => decide (x ≤ y)) ∧ ∀ B, B ≤ g → Below B w w') := by
  subst hn
  refine Calls.mono (Any.slices_Sort_string lays190 g 0 l.length l w hb.holds hb.lt (by omega)) ?_
  rintro e w' ⟨rfl, q, os, rfl⟩
  exact ⟨rfl, hb.sorted (List.length_mergeSort ..), fun B hB => below_sorted hB (Nat.le_of_lt (Nat.lt_of_le_of_lt hB hb.lt))⟩
theorem compact_any (g n : Nat) (l : List U) (w : World) (hn : n = l.length) (hl : n ≤ 1000) (hb : SBlk w g l) :
    Calls Tryz.prog 111 #[.slice (some ⟨g, 0, none⟩) n n] w fun e w' => e = .returned (.slice (some ⟨g, 0, none⟩) (Lib.compact l).length n) ∧ Hid (SBlk w' g (Lib.compact l ++ List.replicate (n - (Lib.compact l).length) []) ∧ ∀ B, B ≤ g → Below B w w') := by
  subst hn
  refine Calls.mono (Any.slices_Compact_string lays194 g 0 l.length l w hb.holds (by omega) (Nat.le_refl _)) ?_
  rintro e w' ⟨rfl, q, rfl⟩
  have hle : (Lib.compact l).length ≤ l.length := by
    unfold Lib.compact Lib.compactUpTo
    rw [List.length_map]
    have := List.length_filter_le (Lib.keeps l.toArray) (List.range l.length)
    rw [List.length_range] at this
    exact this
  exact ⟨rfl, hb.put (by simp; omega), fun B hB => below_put hB (Nat.le_of_lt (Nat.lt_of_le_of_lt hB hb.lt))⟩
theorem cutAll_len : ∀ l : U, (cutAll l).length ≤ l.length + 1
  | [] => by simp [cutAll]
  | c :: l => by
    have ih := cutAll_len l
    obtain ⟨h, t, e⟩ := cutAll_ne l
    by_cases hc : c = 32
    · subst hc; rw [cutAll_blank]; simp; omega
    · rw [cutAll_cons hc e]; rw [e] at ih; simp at ih ⊢; omega
theorem cutAll_piece : ∀ (l : U) (u : U), u ∈ cutAll l → u.length ≤ l.length
  | [], u, h => by simp [cutAll] at h; subst h; simp
  | c :: l, u, h => by
    obtain ⟨h', t, e⟩ := cutAll_ne l
    by_cases hc : c = 32
    · subst hc
      rw [cutAll_blank] at h
      rcases List.mem_cons.1 h with rfl | h
      · simp
      · have := cutAll_piece l u h; simp; omega
    · rw [cutAll_cons hc e] at h
      rcases List.mem_cons.1 h with rfl | h
      · have := cutAll_piece l h' (by rw [e]; simp); simp; omega
      · have := cutAll_piece l u (by rw [e]; simp [h]); simp; omega

set_option linter.unusedSimpArgs false in
set_option maxHeartbeats 1000000 in
set_option maxRecDepth 100000 in
theorem scopes_any (s : ByteArray) (w : World) (hsz : s.size ≤ 9223372036854775807) (hM : MaxL w) :
    Calls Tryz.prog 61 #[.string s] w fun e w' => ∃ v, e = .returned (.tuple #[v, .int .i64 ((scoOut s.data.toList).2 : Nat)]) ∧ Hid (SOwn w' w.heap.size v (scoOut s.data.toList).1 ∧ Below w.heap.size w w') := by
  have HM : Hid (MaxL w) := hM
  obtain ⟨t, ht⟩ : ∃ t, t = s.data.toList := ⟨_, rfl⟩
  have hst : s = ⟨t.toArray⟩ := by rw [ht]
  have htl : s.size = t.length := by rw [hst]; exact u_size t
  rw [← ht]
  have HT : Hid (t = s.data.toList) := ht
  obtain ⟨n, hn⟩ : ∃ n, n = t.length := ⟨_, rfl⟩
  have HN : Hid (n = t.length) := hn
  have hlen : (s.size : Int) = (n : Int) := by rw [htl, hn]
  have HSN : Hid (s.size = n) := by show _ = _; rw [htl, hn]
  rw [htl, ← hn] at hsz
  clear hn ht hM htl
  by_cases hbig : 256 < n
  · have hbi : (256 : Int) < (n : Int) := by omega
    have HR : Hid (scoOut t = ([], 1)) := by show _ = _; unfold scoOut; rw [if_pos (by rw [← HN.out]; exact hbig)]
    rw [HR.out]
    clear hst
    go_enter Tryz.func61, Tryz.ntmps61
    go_wp2
    go_ret2
    exact ⟨.slice none 0 0, rfl, sown_nil _ _, Below.refl _ _⟩
  · have hbi : (n : Int) ≤ 256 := by omega
    by_cases h0 : t = []
    · have HR : Hid (scoOut t = ([], 0)) := by show _ = _; unfold scoOut; rw [if_neg (by rw [← HN.out]; exact hbig), if_pos h0]
      rw [HR.out]
      subst h0
      have hse : s = { data := #[] } := hst
      subst hse
      go_enter Tryz.func61, Tryz.ntmps61
      go_wp2
      go_ret2
      exact ⟨.slice none 0 0, rfl, sown_nil _ _, Below.refl _ _⟩
    · have hpe : (s.toList == ([] : List UInt8)) = false := by rw [hst]; exact u_nil h0
      obtain ⟨ps, HP⟩ : ∃ ps, Hid (ps = cutAll t) := ⟨_, rfl⟩
      obtain ⟨m, hm⟩ : ∃ m, m = ps.length := ⟨_, rfl⟩
      have HML : Hid (m = ps.length) := hm
      have hml : m ≤ 257 := by have := cutAll_len t; rw [← HP.out, ← HN.out] at this; omega
      have HPB : Hid (∀ u ∈ ps, u.length ≤ 256) := fun u hu => by rw [HP.out] at hu; have := cutAll_piece t u hu; rw [← HN.out] at this; omega
      obtain ⟨O, HO⟩ : ∃ O, Hid (O = scoOut t) := ⟨_, rfl⟩
      have HOR : Hid (O = if ps.all isSc = true then (if 32 < (insAll [] ps).length then ([], 32) else (insAll [] ps, 0)) else ([], 33)) := by
        show _ = _
        rw [HO.out, HP.out]; unfold scoOut; rw [if_neg (by rw [← HN.out]; exact hbig), if_neg h0]
      rw [← HO.out]
      clear hm hst h0
      go_enter Tryz.func61, Tryz.ntmps61
      go_wp2_with fail
      refine (visible_any { data := #[34, 92] } w).mono ?_
      rintro e w1 ⟨rfl, hw1⟩
      have HC1 : Hid (w1.cell? ⟨w.heap.size, 0, none⟩ = some (.string { data := #[34, 92] })) := by show _ = _; rw [hw1]; simp
      have HB1 : Hid (Below w.heap.size w w1) := by rw [hw1]; exact below_new _ _
      have hs1 : w.heap.size < w1.heap.size := by rw [hw1]; simp
      clear hw1
      go_wp2_with fail
      refine (split_any s w1 (by rw [HSN.out]; omega) (HM.out.keep HB1.out)).mono ?_
      rintro e w2 ⟨rfl, hw2⟩
      rw [← HT.out, ← HP.out] at hw2
      rw [← HT.out, ← HP.out, ← HML.out]
      have HK2 : Hid (SBlk w2 w1.heap.size ps ∧ Below w1.heap.size w1 w2) := by
        rw [hw2]
        exact ⟨by unfold SBlk; rw [heap_alloc_new w1 _], below_new _ _⟩
      clear hw2
      generalize hgg : w1.heap.size = g at *
      have HGG : Hid (w1.heap.size = g) := hgg
      clear hgg
      go_wp2
      go_loopw [20] (fun i wr => ∃ k : Nat, k ≤ m ∧ i = .int .i64 k ∧ Hid (SBlk wr g ps ∧ Below g w1 wr) ∧ Hid (∀ j u, j < k → ps[j]? = some u → isSc u = true)) (fun i _ => m - (intOf i).toNat)
      case atStart => exact ⟨0, Nat.zero_le _, rfl, HK2, fun j u hj => by omega⟩
      case round =>
        clear HK2
        obtain ⟨k, hk, rfl, HI, HK⟩ := hrel
        have hsr : g ≤ wr.heap.size := by have := HI.out.2.size; rw [HGG.out] at this; exact this
        by_cases hlt : k < m
        · obtain ⟨u, hu⟩ : ∃ u, ps[k]? = some u := ⟨_, List.getElem?_eq_getElem (by rw [← HML.out]; exact hlt)⟩
          have HU : Hid (ps[k]? = some u) := hu
          have hul : u.length ≤ 256 := HPB.out u (List.mem_of_getElem? hu)
          clear hu
          have hc0 : wr.cell? ⟨g, k, none⟩ = some (.string ⟨u.toArray⟩) := HI.out.1.cell HU.out
          have HCV : Hid (wr.cell? ⟨w.heap.size, 0, none⟩ = some (.string { data := #[34, 92] })) := by
            show _ = _
            rw [HI.out.2.cell (p := ⟨w.heap.size, 0, none⟩) hs1]; exact HC1.out
          have HIS : Hid (isScN (sbytes ⟨u.toArray⟩) = isSc u) := by
            show _ = _
            rw [isScN_eq]
          go_wp2_with fail
          refine (isScope_any w.heap.size ⟨u.toArray⟩ wr (by rw [u_size]; omega) HCV.out).mono ?_
          rintro e w3 ⟨rfl, rfl⟩
          rw [HIS.out]
          cases hok : isSc u with
          | true =>
            have HK2 : Hid (∀ j v, j < k + 1 → ps[j]? = some v → isSc v = true) := fun j v hj hv => by
              by_cases hjk : j < k
              · exact HK.out j v hjk hv
              · rw [show j = k by omega, HU.out] at hv; cases hv; exact hok
            clear hok HK hc0
            go_wp2_with fail
            refine (clone_any ⟨u.toArray⟩ w3 (by rw [u_size]; omega)).mono ?_
            rintro e w4 ⟨rfl, hb4⟩
            have HI4 : Hid (SBlk w4 g ps ∧ Below g w1 w4) := ⟨HI.out.1.keep hb4, HI.out.2.trans (hb4.mono hsr)⟩
            have hc4 : w4.cell? ⟨g, k, none⟩ = some (.string ⟨u.toArray⟩) := HI4.out.1.cell HU.out
            have hf4 : w4.frozen? ⟨g, k, none⟩ = false := HI4.out.1.frozen k
            clear hb4
            go_wp2
            go_roundw
            case rel => exact ⟨k + 1, by omega, by go_num, ⟨by have h := HI4.out.1.set k u; rw [set_same HU.out] at h; exact h, HI4.out.2.setCell (Nat.le_refl _) _⟩, HK2⟩
            case measure => simp [intOf]; omega
          | false =>
            have HD : Hid (O = ([], 33)) := by
              show _ = _
              rw [HOR.out, if_neg]
              intro hall
              rw [List.all_eq_true] at hall
              have := hall u (List.mem_of_getElem? HU.out)
              rw [hok] at this
              cases this
            clear hok HK
            go_wp2
            go_ret2
            exact ⟨.slice none 0 0, by rw [HD.out]; rfl, by rw [HD.out]; exact sown_nil _ _, HB1.out.trans (HI.out.2.mono (by omega))⟩
        · have hall : ps.all isSc = true := by
            rw [List.all_eq_true]
            intro u hu
            obtain ⟨j, hj, rfl⟩ := List.getElem_of_mem hu
            exact HK.out j _ (by rw [← HML.out] at hj; omega) (List.getElem?_eq_getElem hj)
          have HOA : Hid (O = if 32 < (insAll [] ps).length then ([], 32) else (insAll [] ps, 0)) := by show _ = _; rw [HOR.out, if_pos hall]
          clear hall HK
          go_wp2_with fail
          refine (sort_any g m ps wr HML.out (by omega) HI.out.1).mono ?_
          rintro e w3 ⟨rfl, h3⟩
          obtain ⟨ss, HSS⟩ : ∃ ss, Hid (ss = ps.mergeSort fun x y => decide (x ≤ y)) := ⟨_, rfl⟩
          have HI3 : Hid (SBlk w3 g ss ∧ Below g w1 w3) := by rw [HSS.out]; exact ⟨h3.out.1, HI.out.2.trans (h3.out.2 g (Nat.le_refl _))⟩
          have HSL : Hid (m = ss.length) := by show _ = _; rw [HSS.out, List.length_mergeSort]; exact HML.out
          clear h3
          go_wp2_with fail
          refine (compact_any g m ss w3 HSL.out (by omega) HI3.out.1).mono ?_
          rintro e w4 ⟨rfl, h4⟩
          obtain ⟨us, HUS⟩ : ∃ us, Hid (us = Lib.compact ss) := ⟨_, rfl⟩
          rw [← HUS.out]
          have HUI : Hid (us = insAll [] ps) := by show _ = _; rw [HUS.out, HSS.out]; exact compact_sorted ps
          have HI4 : Hid (SBlk w4 g (us ++ List.replicate (m - us.length) []) ∧ Below g w1 w4) := by rw [HUS.out]; exact ⟨h4.out.1, HI3.out.2.trans (h4.out.2 g (Nat.le_refl _))⟩
          have hul : us.length ≤ m := by
            rw [HUS.out, HSL.out]
            unfold Lib.compact Lib.compactUpTo
            rw [List.length_map]
            have := List.length_filter_le (Lib.keeps ss.toArray) (List.range ss.length)
            rw [List.length_range] at this
            exact this
          have HBF : Hid (Below w.heap.size w w4) := HB1.out.trans (HI4.out.2.mono (by omega))
          have HOW : Hid (SOwn w4 w.heap.size (.slice (some ⟨g, 0, none⟩) us.length m) us) := HI4.out.1.own rfl (by simp; omega) (by omega) (by unfold maxLen; omega)
          rw [← HUI.out] at HOA
          clear h4
          by_cases h32 : 32 < us.length
          · have HD : Hid (O = ([], 32)) := by show _ = _; rw [HOA.out, if_pos h32]
            have h32i : (32 : Int) < (us.length : Int) := by omega
            go_wp2
            go_ret2
            exact ⟨.slice none 0 0, by rw [HD.out]; rfl, by rw [HD.out]; exact sown_nil _ _, HBF.out⟩
          · have HD : Hid (O = (us, 0)) := by show _ = _; rw [HOA.out, if_neg h32]
            have h32i : (us.length : Int) ≤ 32 := by omega
            go_wp2
            go_ret2
            exact ⟨.slice (some ⟨g, 0, none⟩) us.length m, by rw [HD.out]; rfl, by rw [HD.out]; exact HOW.out, HBF.out⟩
end Go.Proofs.YtlhgjicichjbgaaGreatDoor
