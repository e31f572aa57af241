/- The contract of the document's pair: for every text up to a size and every two places in it. -/
import Derived.Test.YtebcodbmkphgaaaDoorCutFn
import Derived.Test.YtebcodbmkphgaaaDoorUnRef
namespace Go.Proofs.YtebcodbmkphgaaaDoor
open Go.RowKit

theorem mid_take {l : List Nat} {i k j : Nat} (_h1 : i ≤ k) (h2 : k ≤ j) : (((l.take j).drop i).take (k - i)) = (l.take k).drop i := by
  rw [← List.drop_take, List.take_take]
  congr 2
  omega
theorem mid_get {l : List Nat} {i j m : Nat} (h : i + m < j) (_hj : j ≤ l.length) : ((l.take j).drop i).getD m 0 = l.getD (i + m) 0 := by
  simp [List.getD, h]
theorem mid_len {l : List Nat} {i j : Nat} (hj : j ≤ l.length) : ((l.take j).drop i).length = j - i := by rw [List.length_drop, List.length_take]; omega
theorem mid_lt {l : List Nat} (h : ∀ x ∈ l, x < 256) (i j : Nat) : ∀ x ∈ (l.take j).drop i, x < 256 := fun x hx => h x (List.mem_of_mem_take (List.mem_of_mem_drop hx))

set_option maxHeartbeats 1000000 in
set_option maxRecDepth 100000 in
theorem refPair_any (s : ByteArray) (i j : Nat) (w : World) (hl : s.size ≤ 16384) (hij : i ≤ j) (hj : j ≤ s.size) :
    Calls Tryd.prog 31 #[.string s, .int .i64 (i : Int), .int .i64 (j : Int)] w fun e w' => e = .returned (pairRes (pairAt (((sbytes s).take j).drop i) i)) ∧ Below w.heap.size w w' := by
  obtain ⟨xs, HX⟩ : ∃ xs, Hid (xs = sbytes s) := ⟨_, rfl⟩
  have HZ : Hid (s.size = xs.length) := by show _ = _; rw [HX.out, sbytes_length]
  have HXB : Hid (∀ x ∈ xs, x < 256) := by rw [HX.out]; exact sbytes_lt s
  obtain ⟨n, hn⟩ : ∃ n, n = s.size := ⟨_, rfl⟩
  have HN : Hid (n = s.size) := hn
  rw [← hn] at hl hj
  clear hn
  obtain ⟨p, HPP⟩ : ∃ p, Hid (p = (xs.take j).drop i) := ⟨_, rfl⟩
  have hpl : p.length = j - i := by rw [HPP.out]; exact mid_len (by rw [← HZ.out, ← HN.out]; exact hj)
  obtain ⟨P, HP⟩ : ∃ P, Hid (P = pairAt p i) := ⟨_, rfl⟩
  rw [← HX.out, ← HPP.out, ← HP.out]
  have HPL : Hid (p.length = j - i) := hpl
  clear hpl
  go_enter Tryd.func31, Tryd.ntmps31
  go_wp2
  go_loop [9] (fun q => ∃ k : Nat, (i ≤ k ∧ k ≤ j) ∧ q = .int .i64 k ∧ Hid (∀ m, i + m < k → xs.getD (i + m) 0 ≠ 61)) (fun q => j - (intOf q).toNat)
  case atStart => exact ⟨i, ⟨Nat.le_refl _, hij⟩, rfl, fun m hm => by omega⟩
  case round =>
    obtain ⟨k, ⟨hik, hkj⟩, rfl, HK⟩ := hrel
    have HA : k = j ∨ (k < j ∧ xs.getD k 0 = 61) → Hid (upTo 61 p = (xs.take k).drop i ∧ (upTo 61 p).length = k - i) := fun he => by
      have hlen : (upTo 61 p).length = k - i := by
        refine upTo_len (by rw [HPL.out]; omega) (fun m hm => ?_) ?_
        · rw [HPP.out, mid_get (by omega) (by rw [← HZ.out, ← HN.out]; exact hj)]
          exact HK.out m (by omega)
        · rcases he with rfl | ⟨h1, h2⟩
          · exact .inl HPL.out.symm
          · right
            rw [HPP.out, mid_get (by omega) (by rw [← HZ.out, ← HN.out]; exact hj), show i + (k - i) = k by omega]
            exact h2
      refine ⟨?_, hlen⟩
      rw [upTo_take, hlen, HPP.out, mid_take hik hkj]
    by_cases hlt : k < j
    · have hdk : decide ((k : Int) < (j : Int)) = true := by simp; omega
      have hix := str_index s k (by rw [← HN.out]; omega)
      rw [← HX.out] at hix
      by_cases he : xs.getD k 0 = 61
      · have HA := HA (.inr ⟨hlt, he⟩)
        rw [he] at hix
        have hsl := str_mid s i k (i : Int) (k : Int) rfl rfl hik (by rw [← HN.out]; omega)
        have hsv := str_mid s (k + 1) j ((k : Int) + 1) (j : Int) (by omega) rfl (by omega) (by rw [← HN.out]; omega)
        rw [← HX.out] at hsl hsv
        obtain ⟨a, HAa⟩ : ∃ a, Hid (a = (xs.take k).drop i) := ⟨_, rfl⟩
        obtain ⟨b, HBb⟩ : ∃ b, Hid (b = (xs.take j).drop (k + 1)) := ⟨_, rfl⟩
        rw [← HAa.out] at hsl
        rw [← HBb.out] at hsv
        have hal : a.length = k - i := by rw [HAa.out]; exact mid_len (by rw [← HZ.out, ← HN.out]; omega)
        have hbl : b.length = j - (k + 1) := by rw [HBb.out]; exact mid_len (by rw [← HZ.out, ← HN.out]; omega)
        have HAB : Hid (sbytes (bstr a) = a) := by rw [HAa.out]; exact sbytes_bstr (mid_lt HXB.out _ _)
        have HBB : Hid (sbytes (bstr b) = b) := by rw [HBb.out]; exact sbytes_bstr (mid_lt HXB.out _ _)
        have haz : (bstr a).size ≤ 16384 := by rw [bstr_size]; omega
        have hbz : (bstr b).size ≤ 16384 := by rw [bstr_size]; omega
        have HUA : Hid (upTo 61 p = a) := by rw [HAa.out]; exact HA.out.1
        have HUB : Hid (p.drop ((upTo 61 p).length + 1) = b) := by
          show _ = _
          rw [HA.out.2, HPP.out, HBb.out, List.drop_drop]
          congr 1
          omega
        have HLA : Hid (i + (upTo 61 p).length + 1 = k + 1) := by show _ = _; rw [HA.out.2]; omega
        clear HA he HAa HBb
        have hkne : ((k : Int) == (j : Int)) = false := by rw [beq_eq_false_iff_ne]; omega
        go_wp2_with fail
        refine (refUnescape_any (bstr a) _ (by omega)).mono ?_
        rintro e w2 ⟨rfl, hb2⟩
        have HB2 : Hid (Below (w.heap.size + 1) (w.alloc (Obj.cells #[Value.string { data := #[] }, Value.string { data := #[] }] 64)) w2) := by
          have := hb2; simp at this; exact this
        have hs2 : w.heap.size + 1 ≤ w2.heap.size := by have := HB2.out.size; simp at this; omega
        rw [HAB.out]
        clear hb2
        cases hu : un a 0 with
        | error ep =>
          obtain ⟨e0, p0⟩ := ep
          have HD : Hid (P = .error (e0, i + p0)) := by
            show _ = _
            rw [HP.out]; unfold pairAt; rw [HUA.out, un_at, hu]; simp [shiftP]
          obtain ⟨he0, _, hp0⟩ := un_err _ _ _ _ _ (Nat.le_refl _) hu
          have hne : ((e0 : Int) != 0) = true := by rw [bne_iff_ne]; omega
          clear hu
          simp only [unRes]
          have c0 : w2.cell? ⟨w.heap.size, 0, none⟩ = some (.string { data := #[] }) := by rw [HB2.out.cell (p := ⟨w.heap.size, 0, none⟩) (by simp)]; simp
          have c1 : w2.cell? ⟨w.heap.size, 1, none⟩ = some (.string { data := #[] }) := by rw [HB2.out.cell (p := ⟨w.heap.size, 1, none⟩) (by simp)]; simp
          have f0 : w2.frozen? ⟨w.heap.size, 0, none⟩ = false := by rw [HB2.out.frozen (p := ⟨w.heap.size, 0, none⟩) (by simp)]; simp
          have f1 : w2.frozen? ⟨w.heap.size, 1, none⟩ = false := by rw [HB2.out.frozen (p := ⟨w.heap.size, 1, none⟩) (by simp)]; simp
          go_wp2
          refine bodyPost_ret (v := .tuple #[.agg #[.string { data := #[] }, .string { data := #[] }], .int .i64 (e0 : Int), .int .i64 ((i : Int) + (p0 : Int))]) (by simp [results, Tryd.results31, go_sem, c0, c1]) rfl ⟨by rw [HD.out]; first | rfl | (simp [pairRes]), ?_⟩
          exact ((((below_new _ _).trans (HB2.out.mono (by omega))).setCell (Nat.le_refl _) _).setCell (Nat.le_refl _) _)
        | ok nn =>
          have HU : Hid (un a 0 = .ok nn) := hu
          clear hu
          simp only [unRes]
          go_wp2_with fail
          refine (refUnescape_any (bstr b) w2 (by omega)).mono ?_
          rintro e w3 ⟨rfl, hb3⟩
          have HB3 : Hid (Below (w.heap.size + 1) (w.alloc (Obj.cells #[Value.string { data := #[] }, Value.string { data := #[] }] 64)) w3) := HB2.out.trans (hb3.mono hs2)
          rw [HBB.out]
          clear hb3 HB2
          cases hv : un b 0 with
          | error ep =>
            obtain ⟨e0, p0⟩ := ep
            have HD : Hid (P = .error (e0, k + 1 + p0)) := by
              show _ = _
              rw [HP.out]; unfold pairAt; rw [HUA.out, un_at, HU.out]
              simp only [shiftP]
              rw [← HUA.out, HUB.out, HLA.out, un_at, hv]
              simp [shiftP]
            obtain ⟨he0, _, hp0⟩ := un_err _ _ _ _ _ (Nat.le_refl _) hv
            have hne : ((e0 : Int) != 0) = true := by rw [bne_iff_ne]; omega
            clear hv
            simp only [unRes]
            have c0 : w3.cell? ⟨w.heap.size, 0, none⟩ = some (.string { data := #[] }) := by rw [HB3.out.cell (p := ⟨w.heap.size, 0, none⟩) (by simp)]; simp
            have c1 : w3.cell? ⟨w.heap.size, 1, none⟩ = some (.string { data := #[] }) := by rw [HB3.out.cell (p := ⟨w.heap.size, 1, none⟩) (by simp)]; simp
            have f0 : w3.frozen? ⟨w.heap.size, 0, none⟩ = false := by rw [HB3.out.frozen (p := ⟨w.heap.size, 0, none⟩) (by simp)]; simp
            have f1 : w3.frozen? ⟨w.heap.size, 1, none⟩ = false := by rw [HB3.out.frozen (p := ⟨w.heap.size, 1, none⟩) (by simp)]; simp
            go_wp2
            refine bodyPost_ret (v := .tuple #[.agg #[.string { data := #[] }, .string { data := #[] }], .int .i64 (e0 : Int), .int .i64 ((k : Int) + 1 + (p0 : Int))]) (by simp [results, Tryd.results31, go_sem, c0, c1]) rfl ⟨by rw [HD.out]; first | rfl | (simp [pairRes]), ?_⟩
            exact ((((below_new _ _).trans (HB3.out.mono (by omega))).setCell (Nat.le_refl _) _).setCell (Nat.le_refl _) _)
          | ok v =>
            have HD : Hid (P = .ok (nn, v)) := by
              show _ = _
              rw [HP.out]; unfold pairAt; rw [HUA.out, un_at, HU.out]
              simp only [shiftP]
              rw [← HUA.out, HUB.out, HLA.out, un_at, hv]
              simp [shiftP]
            clear hv
            simp only [unRes]
            have c0 : w3.cell? ⟨w.heap.size, 0, none⟩ = some (.string { data := #[] }) := by rw [HB3.out.cell (p := ⟨w.heap.size, 0, none⟩) (by simp)]; simp
            have c1 : w3.cell? ⟨w.heap.size, 1, none⟩ = some (.string { data := #[] }) := by rw [HB3.out.cell (p := ⟨w.heap.size, 1, none⟩) (by simp)]; simp
            have f0 : w3.frozen? ⟨w.heap.size, 0, none⟩ = false := by rw [HB3.out.frozen (p := ⟨w.heap.size, 0, none⟩) (by simp)]; simp
            have f1 : w3.frozen? ⟨w.heap.size, 1, none⟩ = false := by rw [HB3.out.frozen (p := ⟨w.heap.size, 1, none⟩) (by simp)]; simp
            go_wp2
            refine bodyPost_ret (v := .tuple #[.agg #[.string (bstr nn), .string (bstr v)], .int .i64 0, .int .i64 0]) (by simp [results, Tryd.results31, go_sem, c0, c1]) rfl ⟨by rw [HD.out]; first | rfl | (simp [pairRes]), ?_⟩
            exact ((((below_new _ _).trans (HB3.out.mono (by omega))).setCell (Nat.le_refl _) _).setCell (Nat.le_refl _) _)
      · have hne : (((xs.getD k 0 : Nat) : Int) != 61) = true := by rw [bne_iff_ne]; omega
        have HK2 : Hid (∀ m, i + m < k + 1 → xs.getD (i + m) 0 ≠ 61) := fun m hm => by
          by_cases h : i + m < k
          · exact HK.out m h
          · rw [show i + m = k by omega]; exact he
        clear HA HK he
        generalize xs.getD k 0 = x at *
        go_wp2
        go_round
        case rel => exact ⟨k + 1, ⟨by omega, by omega⟩, by go_num, HK2⟩
        case measure => simp [intOf]; omega
    · obtain rfl : k = j := by omega
      have HA := HA (.inl rfl)
      have hdk : decide ((k : Int) < (k : Int)) = false := by simp
      have hsl := str_mid s i k (i : Int) (k : Int) rfl rfl hik (by rw [← HN.out]; omega)
      rw [← HX.out] at hsl
      obtain ⟨a, HAa⟩ : ∃ a, Hid (a = (xs.take k).drop i) := ⟨_, rfl⟩
      rw [← HAa.out] at hsl
      have hal : a.length = k - i := by rw [HAa.out]; exact mid_len (by rw [← HZ.out, ← HN.out]; omega)
      have HAB : Hid (sbytes (bstr a) = a) := by rw [HAa.out]; exact sbytes_bstr (mid_lt HXB.out _ _)
      have haz : (bstr a).size ≤ 16384 := by rw [bstr_size]; omega
      have HUA : Hid (upTo 61 p = a) := by rw [HAa.out]; exact HA.out.1
      have HUB : Hid (p.drop ((upTo 61 p).length + 1) = []) := by
        show _ = _
        exact List.drop_eq_nil_of_le (by rw [HA.out.2, HPL.out]; omega)
      clear HA HAa
      go_wp2_with fail
      refine (refUnescape_any (bstr a) _ (by omega)).mono ?_
      rintro e w2 ⟨rfl, hb2⟩
      have HB2 : Hid (Below (w.heap.size + 1) (w.alloc (Obj.cells #[Value.string { data := #[] }, Value.string { data := #[] }] 64)) w2) := by
        have := hb2; simp at this; exact this
      have hs2 : w.heap.size + 1 ≤ w2.heap.size := by have := HB2.out.size; simp at this; omega
      rw [HAB.out]
      clear hb2
      cases hu : un a 0 with
      | error ep =>
        obtain ⟨e0, p0⟩ := ep
        have HD : Hid (P = .error (e0, i + p0)) := by
          show _ = _
          rw [HP.out]; unfold pairAt; rw [HUA.out, un_at, hu]; simp [shiftP]
        obtain ⟨he0, _, hp0⟩ := un_err _ _ _ _ _ (Nat.le_refl _) hu
        have hne : ((e0 : Int) != 0) = true := by rw [bne_iff_ne]; omega
        clear hu
        simp only [unRes]
        have c0 : w2.cell? ⟨w.heap.size, 0, none⟩ = some (.string { data := #[] }) := by rw [HB2.out.cell (p := ⟨w.heap.size, 0, none⟩) (by simp)]; simp
        have c1 : w2.cell? ⟨w.heap.size, 1, none⟩ = some (.string { data := #[] }) := by rw [HB2.out.cell (p := ⟨w.heap.size, 1, none⟩) (by simp)]; simp
        have f0 : w2.frozen? ⟨w.heap.size, 0, none⟩ = false := by rw [HB2.out.frozen (p := ⟨w.heap.size, 0, none⟩) (by simp)]; simp
        have f1 : w2.frozen? ⟨w.heap.size, 1, none⟩ = false := by rw [HB2.out.frozen (p := ⟨w.heap.size, 1, none⟩) (by simp)]; simp
        go_wp2
        refine bodyPost_ret (v := .tuple #[.agg #[.string { data := #[] }, .string { data := #[] }], .int .i64 (e0 : Int), .int .i64 ((i : Int) + (p0 : Int))]) (by simp [results, Tryd.results31, go_sem, c0, c1]) rfl ⟨by rw [HD.out]; first | rfl | (simp [pairRes]), ?_⟩
        exact ((((below_new _ _).trans (HB2.out.mono (by omega))).setCell (Nat.le_refl _) _).setCell (Nat.le_refl _) _)
      | ok nn =>
        have HD : Hid (P = .ok (nn, [])) := by
          show _ = _
          rw [HP.out]; unfold pairAt; rw [HUA.out, un_at, hu]
          simp only [shiftP]
          rw [← HUA.out, HUB.out, un_nil]
        clear hu
        simp only [unRes]
        have c0 : w2.cell? ⟨w.heap.size, 0, none⟩ = some (.string { data := #[] }) := by rw [HB2.out.cell (p := ⟨w.heap.size, 0, none⟩) (by simp)]; simp
        have c1 : w2.cell? ⟨w.heap.size, 1, none⟩ = some (.string { data := #[] }) := by rw [HB2.out.cell (p := ⟨w.heap.size, 1, none⟩) (by simp)]; simp
        have f0 : w2.frozen? ⟨w.heap.size, 0, none⟩ = false := by rw [HB2.out.frozen (p := ⟨w.heap.size, 0, none⟩) (by simp)]; simp
        have f1 : w2.frozen? ⟨w.heap.size, 1, none⟩ = false := by rw [HB2.out.frozen (p := ⟨w.heap.size, 1, none⟩) (by simp)]; simp
        go_wp2
        refine bodyPost_ret (v := .tuple #[.agg #[.string (bstr nn), .string { data := #[] }], .int .i64 0, .int .i64 0]) (by simp [results, Tryd.results31, go_sem, c0, c1]) rfl ⟨by rw [HD.out]; first | rfl | (simp [pairRes]), ?_⟩
        exact ((((below_new _ _).trans (HB2.out.mono (by omega))).setCell (Nat.le_refl _) _).setCell (Nat.le_refl _) _)
end Go.Proofs.YtebcodbmkphgaaaDoor
