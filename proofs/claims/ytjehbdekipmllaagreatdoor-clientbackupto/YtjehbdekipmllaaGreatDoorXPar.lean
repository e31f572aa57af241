/- The contract of the document's pair: for every text up to a size and every two places in it. The document's pair: a closed fact of its type. The contract of the document's Parse: for every text. -/
import Derived.Test.YtjehbdekipmllaaGreatDoorXCut
import Derived.Test.YtjehbdekipmllaaGreatDoorXUnR
import Derived.Test.YtjehbdekipmllaaGreatDoorXBase
namespace Go.Proofs.YtjehbdekipmllaaGreatDoor
open Go.RowKit

theorem mid_take {l : List Nat} {i k j : Nat} (_h1 : i ≤ k) (h2 : k ≤ j) : (((l.take j).drop i).take (k - i)) = (l.take k).drop i := by
  rw [← List.drop_take, List.take_take]
  congr 2
  omega
theorem mid_get {l : List Nat} {i j m : Nat} (h : i + m < j) (_hj : j ≤ l.length) : ((l.take j).drop i).getD m 0 = l.getD (i + m) 0 := by
  simp [List.getD, h]
theorem mid_len {l : List Nat} {i j : Nat} (hj : j ≤ l.length) : ((l.take j).drop i).length = j - i := by rw [List.length_drop, List.length_take]; omega
theorem mid_lt {l : List Nat} (h : ∀ x ∈ l, x < 256) (i j : Nat) : ∀ x ∈ (l.take j).drop i, x < 256 := fun x hx => h x (List.mem_of_mem_take (List.mem_of_mem_drop hx))

set_option maxHeartbeats 1000000 in
set_option maxRecDepth 100000 in
theorem refPair_any (s : ByteArray) (i j : Nat) (w : World) (hl : s.size ≤ 16384) (hij : i ≤ j) (hj : j ≤ s.size) :
    Calls Tryz.prog 79 #[.string s, .int .i64 (i : Int), .int .i64 (j : Int)] w fun e w' => e = .returned (pairRes (pairAt (((sbytes s).take j).drop i) i)) ∧ Below w.heap.size w w' := by
  obtain ⟨xs, HX⟩ : ∃ xs, Hid (xs = sbytes s) := ⟨_, rfl⟩
  have HZ : Hid (s.size = xs.length) := by show _ = _; rw [HX.out, sbytes_length]
  have HXB : Hid (∀ x ∈ xs, x < 256) := by rw [HX.out]; exact sbytes_lt s
  obtain ⟨n, hn⟩ : ∃ n, n = s.size := ⟨_, rfl⟩
  have HN : Hid (n = s.size) := hn
  rw [← hn] at hl hj
  clear hn
  obtain ⟨p, HPP⟩ : ∃ p, Hid (p = (xs.take j).drop i) := ⟨_, rfl⟩
  have hpl : p.length = j - i := by rw [HPP.out]; exact mid_len (by rw [← HZ.out, ← HN.out]; exact hj)
  obtain ⟨P, HP⟩ : ∃ P, Hid (P = pairAt p i) := ⟨_, rfl⟩
  rw [← HX.out, ← HPP.out, ← HP.out]
  have HPL : Hid (p.length = j - i) := hpl
  clear hpl
  go_enter Tryz.func79, Tryz.ntmps79
  go_wp2
  go_loop [9] (fun q => ∃ k : Nat, (i ≤ k ∧ k ≤ j) ∧ q = .int .i64 k ∧ Hid (∀ m, i + m < k → xs.getD (i + m) 0 ≠ 61)) (fun q => j - (intOf q).toNat)
  case atStart => exact ⟨i, ⟨Nat.le_refl _, hij⟩, rfl, fun m hm => by omega⟩
  case round =>
    obtain ⟨k, ⟨hik, hkj⟩, rfl, HK⟩ := hrel
    have HA : k = j ∨ (k < j ∧ xs.getD k 0 = 61) → Hid (upTo 61 p = (xs.take k).drop i ∧ (upTo 61 p).length = k - i) := fun he => by
      have hlen : (upTo 61 p).length = k - i := by
        refine upTo_len (by rw [HPL.out]; omega) (fun m hm => ?_) ?_
        · rw [HPP.out, mid_get (by omega) (by rw [← HZ.out, ← HN.out]; exact hj)]
          exact HK.out m (by omega)
        · rcases he with rfl | ⟨h1, h2⟩
          · exact .inl HPL.out.symm
          · right
            rw [HPP.out, mid_get (by omega) (by rw [← HZ.out, ← HN.out]; exact hj), show i + (k - i) = k by omega]
            exact h2
      refine ⟨?_, hlen⟩
      rw [upTo_take, hlen, HPP.out, mid_take hik hkj]
    by_cases hlt : k < j
    · have hdk : decide ((k : Int) < (j : Int)) = true := by simp; omega
      have hix := str_index s k (by rw [← HN.out]; omega)
      rw [← HX.out] at hix
      by_cases he : xs.getD k 0 = 61
      · have HA := HA (.inr ⟨hlt, he⟩)
        rw [he] at hix
        have hsl := str_mid s i k (i : Int) (k : Int) rfl rfl hik (by rw [← HN.out]; omega)
        have hsv := str_mid s (k + 1) j ((k : Int) + 1) (j : Int) (by omega) rfl (by omega) (by rw [← HN.out]; omega)
        rw [← HX.out] at hsl hsv
        obtain ⟨a, HAa⟩ : ∃ a, Hid (a = (xs.take k).drop i) := ⟨_, rfl⟩
        obtain ⟨b, HBb⟩ : ∃ b, Hid (b = (xs.take j).drop (k + 1)) := ⟨_, rfl⟩
        rw [← HAa.out] at hsl
        rw [← HBb.out] at hsv
        have hal : a.length = k - i := by rw [HAa.out]; exact mid_len (by rw [← HZ.out, ← HN.out]; omega)
        have hbl : b.length = j - (k + 1) := by rw [HBb.out]; exact mid_len (by rw [← HZ.out, ← HN.out]; omega)
        have HAB : Hid (sbytes (bstr a) = a) := by rw [HAa.out]; exact sbytes_bstr (mid_lt HXB.out _ _)
        have HBB : Hid (sbytes (bstr b) = b) := by rw [HBb.out]; exact sbytes_bstr (mid_lt HXB.out _ _)
        have haz : (bstr a).size ≤ 16384 := by rw [bstr_size]; omega
        have hbz : (bstr b).size ≤ 16384 := by rw [bstr_size]; omega
        have HUA : Hid (upTo 61 p = a) := by rw [HAa.out]; exact HA.out.1
        have HUB : Hid (p.drop ((upTo 61 p).length + 1) = b) := by
          show _ = _
          rw [HA.out.2, HPP.out, HBb.out, List.drop_drop]
          congr 1
          omega
        have HLA : Hid (i + (upTo 61 p).length + 1 = k + 1) := by show _ = _; rw [HA.out.2]; omega
        clear HA he HAa HBb
        have hkne : ((k : Int) == (j : Int)) = false := by rw [beq_eq_false_iff_ne]; omega
        go_wp2_with fail
        refine (refUnescape_any (bstr a) _ (by omega)).mono ?_
        rintro e w2 ⟨rfl, hb2⟩
        have HB2 : Hid (Below (w.heap.size + 1) (w.alloc (Obj.cells #[Value.string { data := #[] }, Value.string { data := #[] }] 92)) w2) := by
          have := hb2; simp at this; exact this
        have hs2 : w.heap.size + 1 ≤ w2.heap.size := by have := HB2.out.size; simp at this; omega
        rw [HAB.out]
        clear hb2
        cases hu : un a 0 with
        | error ep =>
          obtain ⟨e0, p0⟩ := ep
          have HD : Hid (P = .error (e0, i + p0)) := by
            show _ = _
            rw [HP.out]; unfold pairAt; rw [HUA.out, un_at, hu]; simp [shiftP]
          obtain ⟨he0, _, hp0⟩ := un_err _ _ _ _ _ (Nat.le_refl _) hu
          have hne : ((e0 : Int) != 0) = true := by rw [bne_iff_ne]; omega
          clear hu
          simp only [unRes]
          have c0 : w2.cell? ⟨w.heap.size, 0, none⟩ = some (.string { data := #[] }) := by rw [HB2.out.cell (p := ⟨w.heap.size, 0, none⟩) (by simp)]; simp
          have c1 : w2.cell? ⟨w.heap.size, 1, none⟩ = some (.string { data := #[] }) := by rw [HB2.out.cell (p := ⟨w.heap.size, 1, none⟩) (by simp)]; simp
          have f0 : w2.frozen? ⟨w.heap.size, 0, none⟩ = false := by rw [HB2.out.frozen (p := ⟨w.heap.size, 0, none⟩) (by simp)]; simp
          have f1 : w2.frozen? ⟨w.heap.size, 1, none⟩ = false := by rw [HB2.out.frozen (p := ⟨w.heap.size, 1, none⟩) (by simp)]; simp
          go_wp2
          refine bodyPost_ret (v := .tuple #[.agg #[.string { data := #[] }, .string { data := #[] }], .int .i64 (e0 : Int), .int .i64 ((i : Int) + (p0 : Int))]) (by simp [results, Tryz.results79, go_sem, c0, c1]) rfl ⟨by rw [HD.out]; first | rfl | (simp [pairRes]), ?_⟩
          exact ((((below_new _ _).trans (HB2.out.mono (by omega))).setCell (Nat.le_refl _) _).setCell (Nat.le_refl _) _)
        | ok nn =>
          have HU : Hid (un a 0 = .ok nn) := hu
          clear hu
          simp only [unRes]
          go_wp2_with fail
          refine (refUnescape_any (bstr b) w2 (by omega)).mono ?_
          rintro e w3 ⟨rfl, hb3⟩
          have HB3 : Hid (Below (w.heap.size + 1) (w.alloc (Obj.cells #[Value.string { data := #[] }, Value.string { data := #[] }] 92)) w3) := HB2.out.trans (hb3.mono hs2)
          rw [HBB.out]
          clear hb3 HB2
          cases hv : un b 0 with
          | error ep =>
            obtain ⟨e0, p0⟩ := ep
            have HD : Hid (P = .error (e0, k + 1 + p0)) := by
              show _ = _
              rw [HP.out]; unfold pairAt; rw [HUA.out, un_at, HU.out]
              simp only [shiftP]
              rw [← HUA.out, HUB.out, HLA.out, un_at, hv]
              simp [shiftP]
            obtain ⟨he0, _, hp0⟩ := un_err _ _ _ _ _ (Nat.le_refl _) hv
            have hne : ((e0 : Int) != 0) = true := by rw [bne_iff_ne]; omega
            clear hv
            simp only [unRes]
            have c0 : w3.cell? ⟨w.heap.size, 0, none⟩ = some (.string { data := #[] }) := by rw [HB3.out.cell (p := ⟨w.heap.size, 0, none⟩) (by simp)]; simp
            have c1 : w3.cell? ⟨w.heap.size, 1, none⟩ = some (.string { data := #[] }) := by rw [HB3.out.cell (p := ⟨w.heap.size, 1, none⟩) (by simp)]; simp
            have f0 : w3.frozen? ⟨w.heap.size, 0, none⟩ = false := by rw [HB3.out.frozen (p := ⟨w.heap.size, 0, none⟩) (by simp)]; simp
            have f1 : w3.frozen? ⟨w.heap.size, 1, none⟩ = false := by rw [HB3.out.frozen (p := ⟨w.heap.size, 1, none⟩) (by simp)]; simp
            go_wp2
            refine bodyPost_ret (v := .tuple #[.agg #[.string { data := #[] }, .string { data := #[] }], .int .i64 (e0 : Int), .int .i64 ((k : Int) + 1 + (p0 : Int))]) (by simp [results, Tryz.results79, go_sem, c0, c1]) rfl ⟨by rw [HD.out]; first | rfl | (simp [pairRes]), ?_⟩
            exact ((((below_new _ _).trans (HB3.out.mono (by omega))).setCell (Nat.le_refl _) _).setCell (Nat.le_refl _) _)
          | ok v =>
            have HD : Hid (P = .ok (nn, v)) := by
              show _ = _
              rw [HP.out]; unfold pairAt; rw [HUA.out, un_at, HU.out]
              simp only [shiftP]
              rw [← HUA.out, HUB.out, HLA.out, un_at, hv]
              simp [shiftP]
            clear hv
            simp only [unRes]
            have c0 : w3.cell? ⟨w.heap.size, 0, none⟩ = some (.string { data := #[] }) := by rw [HB3.out.cell (p := ⟨w.heap.size, 0, none⟩) (by simp)]; simp
            have c1 : w3.cell? ⟨w.heap.size, 1, none⟩ = some (.string { data := #[] }) := by rw [HB3.out.cell (p := ⟨w.heap.size, 1, none⟩) (by simp)]; simp
            have f0 : w3.frozen? ⟨w.heap.size, 0, none⟩ = false := by rw [HB3.out.frozen (p := ⟨w.heap.size, 0, none⟩) (by simp)]; simp
            have f1 : w3.frozen? ⟨w.heap.size, 1, none⟩ = false := by rw [HB3.out.frozen (p := ⟨w.heap.size, 1, none⟩) (by simp)]; simp
            go_wp2
            refine bodyPost_ret (v := .tuple #[.agg #[.string (bstr nn), .string (bstr v)], .int .i64 0, .int .i64 0]) (by simp [results, Tryz.results79, go_sem, c0, c1]) rfl ⟨by rw [HD.out]; first | rfl | (simp [pairRes]), ?_⟩
            exact ((((below_new _ _).trans (HB3.out.mono (by omega))).setCell (Nat.le_refl _) _).setCell (Nat.le_refl _) _)
      · have hne : (((xs.getD k 0 : Nat) : Int) != 61) = true := by rw [bne_iff_ne]; omega
        have HK2 : Hid (∀ m, i + m < k + 1 → xs.getD (i + m) 0 ≠ 61) := fun m hm => by
          by_cases h : i + m < k
          · exact HK.out m h
          · rw [show i + m = k by omega]; exact he
        clear HA HK he
        generalize xs.getD k 0 = x at *
        go_wp2
        go_round
        case rel => exact ⟨k + 1, ⟨by omega, by omega⟩, by go_num, HK2⟩
        case measure => simp [intOf]; omega
    · obtain rfl : k = j := by omega
      have HA := HA (.inl rfl)
      have hdk : decide ((k : Int) < (k : Int)) = false := by simp
      have hsl := str_mid s i k (i : Int) (k : Int) rfl rfl hik (by rw [← HN.out]; omega)
      rw [← HX.out] at hsl
      obtain ⟨a, HAa⟩ : ∃ a, Hid (a = (xs.take k).drop i) := ⟨_, rfl⟩
      rw [← HAa.out] at hsl
      have hal : a.length = k - i := by rw [HAa.out]; exact mid_len (by rw [← HZ.out, ← HN.out]; omega)
      have HAB : Hid (sbytes (bstr a) = a) := by rw [HAa.out]; exact sbytes_bstr (mid_lt HXB.out _ _)
      have haz : (bstr a).size ≤ 16384 := by rw [bstr_size]; omega
      have HUA : Hid (upTo 61 p = a) := by rw [HAa.out]; exact HA.out.1
      have HUB : Hid (p.drop ((upTo 61 p).length + 1) = []) := by
        show _ = _
        exact List.drop_eq_nil_of_le (by rw [HA.out.2, HPL.out]; omega)
      clear HA HAa
      go_wp2_with fail
      refine (refUnescape_any (bstr a) _ (by omega)).mono ?_
      rintro e w2 ⟨rfl, hb2⟩
      have HB2 : Hid (Below (w.heap.size + 1) (w.alloc (Obj.cells #[Value.string { data := #[] }, Value.string { data := #[] }] 92)) w2) := by
        have := hb2; simp at this; exact this
      have hs2 : w.heap.size + 1 ≤ w2.heap.size := by have := HB2.out.size; simp at this; omega
      rw [HAB.out]
      clear hb2
      cases hu : un a 0 with
      | error ep =>
        obtain ⟨e0, p0⟩ := ep
        have HD : Hid (P = .error (e0, i + p0)) := by
          show _ = _
          rw [HP.out]; unfold pairAt; rw [HUA.out, un_at, hu]; simp [shiftP]
        obtain ⟨he0, _, hp0⟩ := un_err _ _ _ _ _ (Nat.le_refl _) hu
        have hne : ((e0 : Int) != 0) = true := by rw [bne_iff_ne]; omega
        clear hu
        simp only [unRes]
        have c0 : w2.cell? ⟨w.heap.size, 0, none⟩ = some (.string { data := #[] }) := by rw [HB2.out.cell (p := ⟨w.heap.size, 0, none⟩) (by simp)]; simp
        have c1 : w2.cell? ⟨w.heap.size, 1, none⟩ = some (.string { data := #[] }) := by rw [HB2.out.cell (p := ⟨w.heap.size, 1, none⟩) (by simp)]; simp
        have f0 : w2.frozen? ⟨w.heap.size, 0, none⟩ = false := by rw [HB2.out.frozen (p := ⟨w.heap.size, 0, none⟩) (by simp)]; simp
        have f1 : w2.frozen? ⟨w.heap.size, 1, none⟩ = false := by rw [HB2.out.frozen (p := ⟨w.heap.size, 1, none⟩) (by simp)]; simp
        go_wp2
        refine bodyPost_ret (v := .tuple #[.agg #[.string { data := #[] }, .string { data := #[] }], .int .i64 (e0 : Int), .int .i64 ((i : Int) + (p0 : Int))]) (by simp [results, Tryz.results79, go_sem, c0, c1]) rfl ⟨by rw [HD.out]; first | rfl | (simp [pairRes]), ?_⟩
        exact ((((below_new _ _).trans (HB2.out.mono (by omega))).setCell (Nat.le_refl _) _).setCell (Nat.le_refl _) _)
      | ok nn =>
        have HD : Hid (P = .ok (nn, [])) := by
          show _ = _
          rw [HP.out]; unfold pairAt; rw [HUA.out, un_at, hu]
          simp only [shiftP]
          rw [← HUA.out, HUB.out, un_nil]
        clear hu
        simp only [unRes]
        have c0 : w2.cell? ⟨w.heap.size, 0, none⟩ = some (.string { data := #[] }) := by rw [HB2.out.cell (p := ⟨w.heap.size, 0, none⟩) (by simp)]; simp
        have c1 : w2.cell? ⟨w.heap.size, 1, none⟩ = some (.string { data := #[] }) := by rw [HB2.out.cell (p := ⟨w.heap.size, 1, none⟩) (by simp)]; simp
        have f0 : w2.frozen? ⟨w.heap.size, 0, none⟩ = false := by rw [HB2.out.frozen (p := ⟨w.heap.size, 0, none⟩) (by simp)]; simp
        have f1 : w2.frozen? ⟨w.heap.size, 1, none⟩ = false := by rw [HB2.out.frozen (p := ⟨w.heap.size, 1, none⟩) (by simp)]; simp
        go_wp2
        refine bodyPost_ret (v := .tuple #[.agg #[.string (bstr nn), .string { data := #[] }], .int .i64 0, .int .i64 0]) (by simp [results, Tryz.results79, go_sem, c0, c1]) rfl ⟨by rw [HD.out]; first | rfl | (simp [pairRes]), ?_⟩
        exact ((((below_new _ _).trans (HB2.out.mono (by omega))).setCell (Nat.le_refl _) _).setCell (Nat.le_refl _) _)
end Go.Proofs.YtjehbdekipmllaaGreatDoor
namespace Go.Proofs.YtjehbdekipmllaaGreatDoor

theorem infoRPair : (Tryz.prog.info? 92).map (fun i => (i.zero, i.size, i.bytes)) = some (some (.agg #[.string { data := #[] }, .string { data := #[] }]), 2, 32) := by kernel_rfl
end Go.Proofs.YtjehbdekipmllaaGreatDoor
namespace Go.Proofs.YtjehbdekipmllaaGreatDoor
open Go.RowKit

theorem piece_eq {xs : List Nat} {f i n : Nat} (hn : n = xs.length) (hfi : f ≤ i) (hin : i ≤ n) (h : ∀ m, f ≤ m → m < i → xs.getD m 0 ≠ 38) (he : i = n ∨ xs.getD i 0 = 38) : upTo 38 (xs.drop f) = (xs.take i).drop f ∧ (upTo 38 (xs.drop f)).length = i - f := by
  have gd : ∀ m, (xs.drop f).getD m 0 = xs.getD (f + m) 0 := fun m => by simp [List.getD]
  have hlen : (upTo 38 (xs.drop f)).length = i - f := by
    refine upTo_len (by rw [List.length_drop]; omega) (fun m hm => ?_) ?_
    · rw [gd]; exact h _ (by omega) (by omega)
    · rcases he with rfl | he
      · left; rw [List.length_drop]; omega
      · right; rw [gd, show f + (i - f) = i by omega]; exact he
  refine ⟨?_, hlen⟩
  rw [upTo_take, hlen, List.drop_take]

set_option linter.unusedSimpArgs false in
set_option maxHeartbeats 1600000 in
set_option maxRecDepth 100000 in
theorem refParse_any (s : ByteArray) (w : World) (hsz : s.size ≤ 9223372036854775807) :
    Calls Tryz.prog 51 #[.string s] w fun e w' => ∃ v, e = .returned (.tuple #[v, .int .i64 ((parOut (sbytes s)).2.1 : Nat), .int .i64 ((parOut (sbytes s)).2.2 : Nat)]) ∧ Hid (POwn 92 w' w.heap.size v (parOut (sbytes s)).1 ∧ Below w.heap.size w w') := by
  obtain ⟨xs, HX⟩ : ∃ xs, Hid (xs = sbytes s) := ⟨_, rfl⟩
  have HZ : Hid (s.size = xs.length) := by show _ = _; rw [HX.out, sbytes_length]
  obtain ⟨i0, hi, hz0, hz1, hz2⟩ := info_parts infoRPair
  obtain ⟨n, hn⟩ : ∃ n, n = s.size := ⟨_, rfl⟩
  have HN : Hid (n = s.size) := hn
  have HNX : Hid (n = xs.length) := by show _ = _; rw [hn]; exact HZ.out
  have hlen : (s.size : Int) = (n : Int) := by rw [hn]
  rw [← hn] at hsz
  rw [← HX.out]
  clear hn
  by_cases hbig : 16384 < n
  · have hbi : (16384 : Int) < (n : Int) := by omega
    have HR : Hid (parOut xs = ([], 1, 0)) := by show _ = _; unfold parOut; rw [if_pos (by rw [← HNX.out]; exact hbig)]
    rw [HR.out]
    go_enter Tryz.func51, Tryz.ntmps51
    go_wp2
    go_ret3
    exact ⟨.slice none 0 0, rfl, pown_nil _ _ _, Below.refl _ _⟩
  · obtain ⟨R, HR⟩ : ∃ R, Hid (R = parse xs 0 []) := ⟨_, rfl⟩
    obtain ⟨O, HO⟩ : ∃ O, Hid (O = parOut xs) := ⟨_, rfl⟩
    have HOR : Hid (O = outOf R) := by show _ = _; rw [HO.out, HR.out]; unfold parOut; rw [if_neg (by rw [← HNX.out]; exact hbig)]
    rw [← HO.out]
    have hbi : (n : Int) ≤ 16384 := by omega
    go_enter Tryz.func51, Tryz.ntmps51
    go_wp2
    go_loopw [5, 6, 7] (fun v fr i wr => ∃ (k f : Nat) (acc : List Two), (k ≤ n + 1 ∧ f ≤ k ∧ (k = n + 1 → f = n + 1) ∧ acc.length ≤ 64) ∧ fr = .int .i64 f ∧ i = .int .i64 k ∧ Hid (POwn 92 wr w.heap.size v acc ∧ Below w.heap.size w wr) ∧ Hid (R = parse (xs.drop f) f acc) ∧ Hid (∀ m, f ≤ m → m < k → xs.getD m 0 ≠ 38)) (fun _ _ i _ => n + 1 - (intOf i).toNat)
    case atStart => exact ⟨0, 0, [], ⟨by omega, by omega, by omega, by simp⟩, rfl, rfl, ⟨pown_nil _ _ _, Below.refl _ _⟩, by show _ = _; rw [List.drop_zero]; exact HR.out, fun m _ hm => by omega⟩
    case round =>
      obtain ⟨k, f, acc, ⟨hk, hfk, hkf, hacc⟩, rfl, rfl, HI, HD, HK⟩ := hrel
      have hs := HI.out.2.size
      obtain ⟨ao, cap, hv, hcap, _, _⟩ := HI.out.1.shape
      obtain ⟨m, hm⟩ : ∃ m, m = acc.length := ⟨_, rfl⟩
      rw [← hm] at hv hcap hacc
      have HV : Hid (m = acc.length) := hm
      subst hv
      clear hm
      by_cases hle : k ≤ n
      · by_cases hgo : k < n ∧ xs.getD k 0 ≠ 38
        · obtain ⟨hlt, hne⟩ := hgo
          have hdk : decide ((k : Int) < (n : Int)) = true := by simp; omega
          have hix := str_index s k (by rw [← HN.out]; omega)
          rw [← HX.out] at hix
          have hneI : (((xs.getD k 0 : Nat) : Int) != 38) = true := by rw [bne_iff_ne]; omega
          have HK2 : Hid (∀ m, f ≤ m → m < k + 1 → xs.getD m 0 ≠ 38) := fun m h1 h2 => by
            by_cases h : m < k
            · exact HK.out m h1 h
            · rw [show m = k by omega]; exact hne
          clear HK hne
          generalize xs.getD k 0 = x at *
          go_wp2
          go_roundw
          case rel => exact ⟨k + 1, f, acc, ⟨by omega, by omega, by omega, by rw [← HV.out]; exact hacc⟩, rfl, by go_num, HI, HD, HK2⟩
          case measure => simp [intOf]; omega
        · have hend : k = n ∨ xs.getD k 0 = 38 := by
            by_cases h : k < n
            · right
              by_cases h2 : xs.getD k 0 = 38
              · exact h2
              · exact absurd ⟨h, h2⟩ hgo
            · left; omega
          obtain ⟨hp1, hp2⟩ := piece_eq HNX.out hfk hle HK.out hend
          have HPE : Hid (upTo 38 (xs.drop f) = (xs.take k).drop f) := hp1
          have HPL : Hid ((upTo 38 (xs.drop f)).length = k - f) := hp2
          clear hp1 hp2
          have hguard : n ≤ k ∨ (k < n ∧ ∀ w, (Instr.index 9 (.string s) (.int .i64 (k : Int))).run Tryz.prog w = .ok (.int .u8 38) w) := by
            by_cases h : k < n
            · right
              refine ⟨h, fun w => ?_⟩
              have hx := str_index s k (by rw [← HN.out]; omega) w
              rw [← HX.out] at hx
              rcases hend with h2 | h2
              · omega
              · rw [h2] at hx; exact hx
            · left; omega
          have HKn : Hid (∀ m, k + 1 ≤ m → m < k + 1 → xs.getD m 0 ≠ 38) := fun m h1 h2 => by omega
          by_cases hfl : f < k
          · have hgt : (f : Int) < (k : Int) := by omega
            have hu0 : (upTo 38 (xs.drop f)).length ≠ 0 := by rw [HPL.out]; omega
            have HU0 : Hid ((upTo 38 (xs.drop f)).length ≠ 0) := hu0
            clear hu0 hgo hend
            by_cases hm64 : m = 64
            · have HD2 : Hid (O = ([], 32, f)) := by
                show _ = _
                rw [HOR.out, HD.out, parse_many f acc HU0.out (by rw [← HV.out]; exact hm64)]
                rfl
              subst hm64
              clear HD
              rcases hguard with hg | ⟨hg, hix⟩
              · go_wp2
                go_ret3
                exact ⟨.slice none 0 0, by rw [HD2.out]; rfl, by rw [HD2.out]; exact pown_nil _ _ _, HI.out.2⟩
              · go_wp2
                go_ret3
                exact ⟨.slice none 0 0, by rw [HD2.out]; rfl, by rw [HD2.out]; exact pown_nil _ _ _, HI.out.2⟩
            · have hm64i : ((m : Int) == 64) = false := by rw [beq_eq_false_iff_ne]; omega
              rcases hguard with hg | ⟨hg, hix⟩
              all_goals
                go_wp2_with fail
                refine (refPair_any s f k wr (by rw [← HN.out]; omega) hfk (by rw [← HN.out]; exact hle)).mono ?_
                rintro e w2 ⟨rfl, hb2⟩
                rw [← HX.out, ← HPE.out]
                have HB2 : Hid (Below w.heap.size w w2) := HI.out.2.trans (hb2.mono hs)
                have HP2 : Hid (POwn 92 w2 w.heap.size (.slice ao m cap) acc) := HI.out.1.keep hb2
                have hs2 := HB2.out.size
                clear hb2
                cases hp : pairAt (upTo 38 (xs.drop f)) f with
                | error ep =>
                  obtain ⟨e0, p0⟩ := ep
                  have hR : parse (xs.drop f) f acc = .error (e0, p0) := parse_bad f acc HU0.out (by rw [← HV.out]; exact hm64) hp
                  have HD2 : Hid (O = ([], e0, p0)) := by
                    show _ = _
                    rw [HOR.out, HD.out, hR]; rfl
                  obtain ⟨h1, h2, _, h4⟩ := parse_err _ _ _ _ _ _ (Nat.le_refl _) hR
                  rw [List.length_drop, ← HNX.out] at h4
                  have hne : ((e0 : Int) != 0) = true := by rw [bne_iff_ne]; omega
                  clear HD hp hR
                  simp only [pairRes]
                  go_wp2
                  go_ret3
                  exact ⟨.slice none 0 0, by rw [HD2.out]; first | rfl | simp, by rw [HD2.out]; exact pown_nil _ _ _, HB2.out.alloc hs2 _⟩
                | ok q =>
                  have HD2 : Hid (R = parse (xs.drop (k + 1)) (k + 1) (acc ++ [q])) := by
                    show _ = _
                    rw [HD.out, parse_good f acc HU0.out (by rw [← HV.out]; exact hm64) hp, HPL.out, List.drop_drop]
                    rw [show f + (k - f + 1) = k + 1 by omega, show f + (k - f) + 1 = k + 1 by omega]
                  clear HD hp
                  simp only [pairRes]
                  obtain ⟨qn, hqn⟩ : ∃ b, b = bstr q.1 := ⟨_, rfl⟩
                  obtain ⟨qv, hqv⟩ : ∃ b, b = bstr q.2 := ⟨_, rfl⟩
                  rw [← hqn, ← hqv]
                  have HQ : Hid (qn = bstr q.1 ∧ qv = bstr q.2) := ⟨hqn, hqv⟩
                  clear hqn hqv
                  go_wp2_with (first | (at_builtin; refine wpList_append_own _ rfl (.tmp 49) (.tmp 51) 88 rfl w.heap.size 92 i0 (.agg #[.string { data := #[] }, .string { data := #[] }]) 2 32 Tryz.underlying88 hi hz0 hz1 hz2 rfl (by decide) _ acc.length (flat2 acc) rfl (World.ownsRow.alloc (World.ownsRow.alloc HP2.out _) _) ⟨w2.heap.size + 1, 0, none⟩ 1 1 [.string qn, .string qv] rfl rfl (two_new _ _ (by simp) _ _ _) (by intro u hu; simp at hu; rcases hu with rfl | rfl <;> rfl) (by unfold maxLen; rw [← HV.out]; omega) (by rw [← HV.out]; omega) (by simp; omega) ?_; intro v3 w3 hown3 hgrow3 hnil3))
                  have HI3 : Hid (POwn 92 w3 w.heap.size v3 (acc ++ [q]) ∧ Below w.heap.size w w3) := by
                    refine ⟨?_, ((HB2.out.alloc hs2 _).alloc (by simp; omega) _).grown hgrow3 (by simp; omega) HP2.out.ge⟩
                    unfold POwn
                    rw [List.length_append, flat2_snoc, ← HQ.out.1, ← HQ.out.2]
                    exact hown3
                  clear hown3 hgrow3 hnil3
                  go_roundw
                  case rel => exact ⟨k + 1, k + 1, acc ++ [q], ⟨by omega, by omega, by omega, by rw [List.length_append, ← HV.out]; simp; omega⟩, by go_num, by go_num, HI3, HD2, HKn⟩
                  case measure => simp [intOf]; omega
          · obtain rfl : f = k := by omega
            have HD2 : Hid (R = parse (xs.drop (f + 1)) (f + 1) acc) := by
              show _ = _
              rw [HD.out]
              by_cases h : f < n
              · rw [parse_empty f acc (by rw [List.length_drop, ← HNX.out]; omega) (by rw [HPL.out]; omega), List.drop_drop]
              · rw [List.drop_eq_nil_of_le (by rw [← HNX.out]; omega), List.drop_eq_nil_of_le (by rw [← HNX.out]; omega), parse_nil, parse_nil]
            clear HD hgo hend HK
            rcases hguard with hg | ⟨hg, hix⟩
            all_goals
              go_wp2
              go_roundw
              case rel => exact ⟨f + 1, f + 1, acc, ⟨by omega, by omega, by omega, by rw [← HV.out]; exact hacc⟩, by go_num, by go_num, HI, HD2, HKn⟩
              case measure => simp [intOf]; omega
      · have HD2 : Hid (O = (acc, 0, 0)) := by
          show _ = _
          rw [HOR.out, HD.out, List.drop_eq_nil_of_le (by rw [← HNX.out]; omega), parse_nil]; rfl
        clear HD HK
        go_wp2
        go_ret3
        exact ⟨.slice ao m cap, by rw [HD2.out]; rfl, by rw [HD2.out]; exact HI.out.1, HI.out.2⟩
end Go.Proofs.YtjehbdekipmllaaGreatDoor
