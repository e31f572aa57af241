/- partialInsertionSort. -/
import Derived.Test.YtmngmkbiibhmkaaVPivot
namespace Go.Proofs.Ytmngmkbiibhmkaa
open Go.RowKit Go.Maps

/-- What lies before a is less than what lies from a to b. -/
def Low (a b : Nat) (ds : List Nat) : Prop := a = 0 ∨ ∀ t, a ≤ t → t < b → gt ds (a - 1) < gt ds t
theorem Low.seg {a b : Nat} {ds es : List Nat} (h : Low a b ds) (k : SegP a b ds es) (hn : ds.Nodup) (hb : b ≤ ds.length) : Low a b es := by
  rcases h with h | h
  · exact .inl h
  · by_cases h0 : a = 0
    · exact .inl h0
    · refine .inr fun t h1 h2 => ?_
      obtain ⟨j, hj1, hj2, e⟩ := k.mem hn h1 h2 hb
      rw [e, k.out (a - 1) (by omega)]
      exact h j hj1 hj2
theorem low_stop {a b j : Nat} {ds es : List Nat} (h : Low a b ds) (k : SegP a b ds es) (hn : ds.Nodup) (h1 : a ≤ j) (h2 : j < b) (hb : b ≤ ds.length) (hs : gt es j < gt es (j - 1)) : a < j := by
  rcases h.seg k hn hb with h | h
  · by_cases h0 : j = 0
    · rw [h0] at hs; exact absurd hs (Nat.lt_irrefl _)
    · omega
  · by_cases h0 : a = j
    · subst h0; have := h a (by omega) h2; omega
    · omega
theorem srt_snoc {a i : Nat} {ds : List Nat} (h : Srt a i ds) (ha : a < i) (hs : gt ds (i - 1) ≤ gt ds i) : Srt a (i + 1) ds := by
  intro p q h1 h2 h3
  by_cases hq : q = i
  · subst hq
    by_cases hp : p = q - 1
    · rw [hp]; exact hs
    · exact Nat.le_trans (h p (q - 1) h1 (by omega) (by omega)) hs
  · exact h p q h1 h2 (by omega)
theorem srt_off {a i k m : Nat} {ds : List Nat} (h : Srt a i ds) (hk : k < ds.length) (hm : m < ds.length) (h1 : i ≤ k) (h2 : i ≤ m) : Srt a i (swp ds k m) := by
  intro p q g1 g2 g3
  rw [swp_gt hk hm, swp_gt hk hm, if_neg (by omega), if_neg (by omega), if_neg (by omega), if_neg (by omega)]
  exact h p q g1 g2 g3
set_option maxHeartbeats 8000000 in
set_option maxRecDepth 100000 in
theorem partial_any (g n cap a b : Nat) (ds : List Nat) (rest : List Value) (w : World) (hB : Bl w g (ds.map uv ++ rest) 22) (hn : n = ds.length) (hd : ds.Nodup) (hL : Low a b ds) (hl : n ≤ 1000000) (hab : a < b) (hb : b ≤ n) :
    Calls Try.prog 79 #[.slice (some ⟨g, 0, none⟩) n cap, .int .i64 (a : Int), .int .i64 (b : Int)] w fun e w' => e = .returned (.bool false) ∧ Hid (∃ es, SR w w' g es rest ∧ SegP a b ds es) ∨ e = .returned (.bool true) ∧ Hid (∃ es, SR w w' g es rest ∧ SegP a b ds es ∧ Srt a b es) := by
  have HB := hide hB
  have HN := hide hn
  have HD := hide hd
  have HL := hide hL
  clear hB hn hd hL
  go_enter Try.func79, Try.ntmps79
  go_wp2
  go_loopw [7, 8] (fun v7 v8 wr => ∃ i t : Nat, a < i ∧ i ≤ b ∧ t ≤ 5 ∧ v7 = .int .i64 (i : Int) ∧ v8 = .int .i64 (t : Int) ∧ Hid (∃ es, SR w wr g es rest ∧ SegP a b ds es ∧ Srt a i es)) (fun _ v8 _ => 5 - (intOf v8).toNat)
  case atStart => exact ⟨a + 1, 0, by omega, by omega, by omega, by simp, rfl, ds, SR.refl HB.out, SegP.refl _ _ _, fun p q k1 k2 k3 => by omega⟩
  case round =>
    obtain ⟨i, t, hi1, hi2, ht, rfl, rfl, HI⟩ := hrel
    by_cases ht5 : t < 5
    · have ht5' : (t : Int) < 5 := by omega
      go_wp2_with fail
      go_loopw [7] (fun v7 wr => ∃ i : Nat, a < i ∧ i ≤ b ∧ v7 = .int .i64 (i : Int) ∧ Hid (∃ es, SR w wr g es rest ∧ SegP a b ds es ∧ Srt a i es)) (fun v7 _ => b - (intOf v7).toNat)
      case atStart => exact ⟨i, by omega, by omega, rfl, HI⟩
      case round =>
        clear HI hi1 hi2
        obtain ⟨i, hi1, hi2, rfl, HI⟩ := hrel
        by_cases hib : i < b
        · have hib' : (i : Int) < (b : Int) := by omega
          have hne : ¬ (i : Int) = (b : Int) := by omega
          obtain ⟨es, h1, h2, h3⟩ := HI.out
          clear HI
          have hel : es.length = n := by rw [h2.len, HN.out]
          obtain ⟨m, hm⟩ : ∃ m, m = i - 1 := ⟨_, rfl⟩
          have hm1 : (i : Int) - 1 = (m : Int) := by omega
          have hm2 : m < i := by omega
          have ci := h1.cell (t := i) (by omega)
          have cm := h1.cell (t := m) (by omega)
          have fi := h1.free i
          have fm := h1.free m
          have SW : Hid (∀ q, ∃ fs, SR w (((wr.setCell ⟨g, i, none⟩ (.int .u64 (gt es m : Int))).setCell ⟨g, m, none⟩ (.int .u64 (gt es i : Int))).drewN q) g fs rest ∧ SegP a b ds fs ∧ InsJ a (i - 1) (i - 1) fs) := fun q => ⟨_, (h1.swap (by omega) (by omega)).drewN q, h2.trans (seg_swp (by omega) (by omega) (by omega) (by omega) (by omega)), insJ_start (srt_off (fun p q k1 k2 k3 => h3 p q k1 k2 (by omega)) (by omega) (by omega) (by omega) (by omega))⟩
          have ST : Hid (∀ q, ∃ fs, SR w (wr.drewN q) g fs rest ∧ SegP a b ds fs) := fun q => ⟨es, h1.drewN q, h2⟩
          have SN : Hid (¬ gt es i < gt es m → ∀ q, ∃ fs, SR w (wr.drewN q) g fs rest ∧ SegP a b ds fs ∧ Srt a (i + 1) fs) := fun hs q => ⟨es, h1.drewN q, h2, srt_snoc h3 hi1 (by rw [hm] at hs; omega)⟩
          generalize gt es i = x at *
          generalize gt es m = y at *
          clear h1 h2 h3 hm
          by_cases hxy : x < y
          · have hd : decide (x < y) = true := decide_eq_true hxy
            clear SN
            by_cases h50 : b < a + 50
            · have h50' : (b : Int) - (a : Int) < 50 := by omega
              clear SW
              go_wp2_with fail
              go_quiet ((go_at_call 80; exact (less_any _ _ _).mono fun _ _ h => ⟨h.1, _, h.2⟩))
              go_wp2_with fail
              first | go_ret | (rw [Exit.noGoto_ret]; go_ret)
              obtain ⟨fs, k1, k2⟩ := ST.out nq
              exact .inl ⟨rfl, fs, k1, k2⟩
            · have h50' : ¬ (b : Int) - (a : Int) < 50 := by omega
              clear ST
              go_wp2_with fail
              go_quiet ((go_at_call 80; exact (less_any _ _ _).mono fun _ _ h => ⟨h.1, _, h.2⟩))
              go_wp2_with fail
              have HJ := hide (SW.out (nq + 1))
              clear SW
              go_region
              by_cases ha2 : a + 2 ≤ i
              · have ha2' : (2 : Int) ≤ (i : Int) - (a : Int) := by omega
                go_wp2_with fail
                go_loopw [9] (fun v9 wr => ∃ j : Nat, a ≤ j ∧ j < i ∧ v9 = .int .i64 (j : Int) ∧ Hid (∃ es, SR w wr g es rest ∧ SegP a b ds es ∧ InsJ a j (i - 1) es)) (fun v9 _ => (intOf v9).toNat)
                case atStart => exact ⟨i - 1, by omega, by omega, by rw [show ((i - 1 : Nat) : Int) = (m : Int) by omega], by first | exact HJ | exact HJ.out | (have := HJ.out; simpa using this)⟩
                case round =>
                  clear HJ
                  obtain ⟨j, hj1, hj2, rfl, HK⟩ := hrel
                  by_cases hj0 : 1 ≤ j
                  · have hj0' : (1 : Int) ≤ (j : Int) := by omega
                    obtain ⟨es, h1, h2, h3⟩ := HK.out
                    clear HK
                    have hel : es.length = n := by rw [h2.len, HN.out]
                    obtain ⟨m, hm⟩ : ∃ m, m = j - 1 := ⟨_, rfl⟩
                    have hm1 : (j : Int) - 1 = (m : Int) := by omega
                    have hm2 : m < j := by omega
                    have cj := h1.cell (t := j) (by omega)
                    have cm := h1.cell (t := m) (by omega)
                    have fj := h1.free j
                    have fm := h1.free m
                    have SW : Hid (gt es j < gt es m → a < j ∧ ∀ q, ∃ fs, SR w (((wr.setCell ⟨g, j, none⟩ (.int .u64 (gt es m : Int))).setCell ⟨g, m, none⟩ (.int .u64 (gt es j : Int))).drewN q) g fs rest ∧ SegP a b ds fs ∧ InsJ a m (i - 1) fs) := fun hs => by
                      have haj : a < j := low_stop HL.out h2 HD.out hj1 (by omega) (by rw [← HN.out]; omega) (by rw [← hm]; exact hs)
                      refine ⟨haj, fun q => ⟨_, (h1.swap (by omega) (by omega)).drewN q, h2.trans (seg_swp (by omega) (by omega) (by omega) (by omega) (by omega)), ?_⟩⟩
                      rw [hm] at hs ⊢
                      exact insJ_swap h3 haj (by omega) (by omega) hs
                    have ST : Hid (¬ gt es j < gt es m → ∀ q, ∃ fs, SR w (wr.drewN q) g fs rest ∧ SegP a b ds fs ∧ Srt a i fs) := fun hs q => ⟨es, h1.drewN q, h2, by
                      have := insJ_stop h3 (.inr (by rw [hm] at hs; omega))
                      rwa [show i - 1 + 1 = i by omega] at this⟩
                    generalize gt es j = x at *
                    generalize gt es m = y at *
                    clear h1 h2 h3 hm
                    by_cases hxy : x < y
                    · have hd : decide (x < y) = true := decide_eq_true hxy
                      have haj := (SW.out hxy).1
                      have HSW := hide (SW.out hxy).2
                      clear ST SW
                      go_wp2_with fail
                      go_quiet ((go_at_call 80; exact (less_any _ _ _).mono fun _ _ h => ⟨h.1, _, h.2⟩))
                      go_wp2_with fail
                      go_region
                      all_goals go_wp2_with fail
                      all_goals go_roundw
                      case rel => exact ⟨m, by omega, by omega, by first | rfl | simp, HSW.out (nq + 1)⟩
                      case measure => simp [intOf]; omega
                    · have hd : decide (x < y) = false := decide_eq_false hxy
                      have HST := hide (ST.out hxy)
                      clear SW ST
                      go_wp2_with fail
                      go_quiet ((go_at_call 80; exact (less_any _ _ _).mono fun _ _ h => ⟨h.1, _, h.2⟩))
                      have HS := hide (HST.out nq)
                      clear HST
                      by_cases hb2 : i + 2 ≤ b
                      · have hb2' : (2 : Int) ≤ (b : Int) - (i : Int) := by omega
                        go_wp2_with fail
                        go_loopw [10] (fun v10 wr => ∃ k : Nat, i < k ∧ k ≤ b ∧ v10 = .int .i64 (k : Int) ∧ Hid (∃ es, SR w wr g es rest ∧ SegP a b ds es ∧ Srt a i es)) (fun v10 _ => b - (intOf v10).toNat)
                        case atStart => exact ⟨i + 1, by omega, by omega, by simp, by first | exact HS | exact HS.out | (have := HS.out; simpa using this)⟩
                        case round =>
                          clear HS
                          obtain ⟨k, hk1, hk2, rfl, HK⟩ := hrel
                          by_cases hkb : k < b
                          · have hkb' : (k : Int) < (b : Int) := by omega
                            obtain ⟨es, h1, h2, h3⟩ := HK.out
                            clear HK
                            have hel : es.length = n := by rw [h2.len, HN.out]
                            obtain ⟨m, hm⟩ : ∃ m, m = k - 1 := ⟨_, rfl⟩
                            have hm1 : (k : Int) - 1 = (m : Int) := by omega
                            have hm2 : m < k ∧ i ≤ m := by omega
                            have ck := h1.cell (t := k) (by omega)
                            have cm := h1.cell (t := m) (by omega)
                            have fk := h1.free k
                            have fm := h1.free m
                            have SW : Hid (∀ q, ∃ fs, SR w (((wr.setCell ⟨g, k, none⟩ (.int .u64 (gt es m : Int))).setCell ⟨g, m, none⟩ (.int .u64 (gt es k : Int))).drewN q) g fs rest ∧ SegP a b ds fs ∧ Srt a i fs) := fun q => ⟨_, (h1.swap (by omega) (by omega)).drewN q, h2.trans (seg_swp (by omega) (by omega) (by omega) (by omega) (by omega)), srt_off h3 (by omega) (by omega) (by omega) (by omega)⟩
                            have ST : Hid (∀ q, ∃ fs, SR w (wr.drewN q) g fs rest ∧ SegP a b ds fs ∧ Srt a i fs) := fun q => ⟨es, h1.drewN q, h2, h3⟩
                            generalize gt es k = x at *
                            generalize gt es m = y at *
                            clear h1 h2 h3 hm
                            by_cases hxy : x < y
                            · have hd : decide (x < y) = true := decide_eq_true hxy
                              clear ST
                              go_wp2_with fail
                              go_quiet ((go_at_call 80; exact (less_any _ _ _).mono fun _ _ h => ⟨h.1, _, h.2⟩))
                              go_wp2_with fail
                              go_region
                              all_goals go_wp2_with fail
                              all_goals go_roundw
                              case rel => exact ⟨k + 1, by omega, by omega, by simp, SW.out (nq + 1)⟩
                              case measure => simp [intOf]; omega
                            · have hd : decide (x < y) = false := decide_eq_false hxy
                              clear SW
                              go_wp2_with fail
                              go_quiet ((go_at_call 80; exact (less_any _ _ _).mono fun _ _ h => ⟨h.1, _, h.2⟩))
                              have HS := hide (ST.out nq)
                              clear ST
                              go_wp2_with fail
                              go_roundw
                              case rel => exact ⟨i, t + 1, by omega, by omega, by omega, rfl, by simp, by first | exact HS | exact HS.out | (have := HS.out; simpa using this)⟩
                              case measure => simp [intOf]; omega
                          · have hkb' : ¬ (k : Int) < (b : Int) := by omega
                            have HS := HK
                            clear HK
                            go_wp2_with fail
                            go_roundw
                            case rel => exact ⟨i, t + 1, by omega, by omega, by omega, rfl, by simp, by first | exact HS | exact HS.out | (have := HS.out; simpa using this)⟩
                            case measure => simp [intOf]; omega
                      · have hb2' : ¬ (2 : Int) ≤ (b : Int) - (i : Int) := by omega
                        go_wp2_with fail
                        go_roundw
                        case rel => exact ⟨i, t + 1, by omega, by omega, by omega, rfl, by simp, by first | exact HS | exact HS.out | (have := HS.out; simpa using this)⟩
                        case measure => simp [intOf]; omega
                  · have hj0' : ¬ (1 : Int) ≤ (j : Int) := by omega
                    have HS : Hid (∃ es, SR w wr g es rest ∧ SegP a b ds es ∧ Srt a i es) := by
                      obtain ⟨es, h1, h2, h3⟩ := HK.out
                      have := insJ_stop h3 (.inl (by omega))
                      exact ⟨es, h1, h2, by rwa [show i - 1 + 1 = i by omega] at this⟩
                    clear HK
                    by_cases hb2 : i + 2 ≤ b
                    · have hb2' : (2 : Int) ≤ (b : Int) - (i : Int) := by omega
                      go_wp2_with fail
                      go_loopw [10] (fun v10 wr => ∃ k : Nat, i < k ∧ k ≤ b ∧ v10 = .int .i64 (k : Int) ∧ Hid (∃ es, SR w wr g es rest ∧ SegP a b ds es ∧ Srt a i es)) (fun v10 _ => b - (intOf v10).toNat)
                      case atStart => exact ⟨i + 1, by omega, by omega, by simp, by first | exact HS | exact HS.out | (have := HS.out; simpa using this)⟩
                      case round =>
                        clear HS
                        obtain ⟨k, hk1, hk2, rfl, HK⟩ := hrel
                        by_cases hkb : k < b
                        · have hkb' : (k : Int) < (b : Int) := by omega
                          obtain ⟨es, h1, h2, h3⟩ := HK.out
                          clear HK
                          have hel : es.length = n := by rw [h2.len, HN.out]
                          obtain ⟨m, hm⟩ : ∃ m, m = k - 1 := ⟨_, rfl⟩
                          have hm1 : (k : Int) - 1 = (m : Int) := by omega
                          have hm2 : m < k ∧ i ≤ m := by omega
                          have ck := h1.cell (t := k) (by omega)
                          have cm := h1.cell (t := m) (by omega)
                          have fk := h1.free k
                          have fm := h1.free m
                          have SW : Hid (∀ q, ∃ fs, SR w (((wr.setCell ⟨g, k, none⟩ (.int .u64 (gt es m : Int))).setCell ⟨g, m, none⟩ (.int .u64 (gt es k : Int))).drewN q) g fs rest ∧ SegP a b ds fs ∧ Srt a i fs) := fun q => ⟨_, (h1.swap (by omega) (by omega)).drewN q, h2.trans (seg_swp (by omega) (by omega) (by omega) (by omega) (by omega)), srt_off h3 (by omega) (by omega) (by omega) (by omega)⟩
                          have ST : Hid (∀ q, ∃ fs, SR w (wr.drewN q) g fs rest ∧ SegP a b ds fs ∧ Srt a i fs) := fun q => ⟨es, h1.drewN q, h2, h3⟩
                          generalize gt es k = x at *
                          generalize gt es m = y at *
                          clear h1 h2 h3 hm
                          by_cases hxy : x < y
                          · have hd : decide (x < y) = true := decide_eq_true hxy
                            clear ST
                            go_wp2_with fail
                            go_quiet ((go_at_call 80; exact (less_any _ _ _).mono fun _ _ h => ⟨h.1, _, h.2⟩))
                            go_wp2_with fail
                            go_region
                            all_goals go_wp2_with fail
                            all_goals go_roundw
                            case rel => exact ⟨k + 1, by omega, by omega, by simp, SW.out (nq + 1)⟩
                            case measure => simp [intOf]; omega
                          · have hd : decide (x < y) = false := decide_eq_false hxy
                            clear SW
                            go_wp2_with fail
                            go_quiet ((go_at_call 80; exact (less_any _ _ _).mono fun _ _ h => ⟨h.1, _, h.2⟩))
                            have HS := hide (ST.out nq)
                            clear ST
                            go_wp2_with fail
                            go_roundw
                            case rel => exact ⟨i, t + 1, by omega, by omega, by omega, rfl, by simp, by first | exact HS | exact HS.out | (have := HS.out; simpa using this)⟩
                            case measure => simp [intOf]; omega
                        · have hkb' : ¬ (k : Int) < (b : Int) := by omega
                          have HS := HK
                          clear HK
                          go_wp2_with fail
                          go_roundw
                          case rel => exact ⟨i, t + 1, by omega, by omega, by omega, rfl, by simp, by first | exact HS | exact HS.out | (have := HS.out; simpa using this)⟩
                          case measure => simp [intOf]; omega
                    · have hb2' : ¬ (2 : Int) ≤ (b : Int) - (i : Int) := by omega
                      go_wp2_with fail
                      go_roundw
                      case rel => exact ⟨i, t + 1, by omega, by omega, by omega, rfl, by simp, by first | exact HS | exact HS.out | (have := HS.out; simpa using this)⟩
                      case measure => simp [intOf]; omega
              · have ha2' : ¬ (2 : Int) ≤ (i : Int) - (a : Int) := by omega
                have HS : Hid (∃ es, SR w (((wr.setCell ⟨g, i, none⟩ (.int .u64 (y : Int))).setCell ⟨g, m, none⟩ (.int .u64 (x : Int))).drewN (nq + 1)) g es rest ∧ SegP a b ds es ∧ Srt a i es) := by
                  obtain ⟨es, h1, h2, h3⟩ := HJ.out
                  exact ⟨es, h1, h2, fun p q k1 k2 k3 => by omega⟩
                clear HJ
                by_cases hb2 : i + 2 ≤ b
                · have hb2' : (2 : Int) ≤ (b : Int) - (i : Int) := by omega
                  go_wp2_with fail
                  go_loopw [10] (fun v10 wr => ∃ k : Nat, i < k ∧ k ≤ b ∧ v10 = .int .i64 (k : Int) ∧ Hid (∃ es, SR w wr g es rest ∧ SegP a b ds es ∧ Srt a i es)) (fun v10 _ => b - (intOf v10).toNat)
                  case atStart => exact ⟨i + 1, by omega, by omega, by simp, by first | exact HS | exact HS.out | (have := HS.out; simpa using this)⟩
                  case round =>
                    clear HS
                    obtain ⟨k, hk1, hk2, rfl, HK⟩ := hrel
                    by_cases hkb : k < b
                    · have hkb' : (k : Int) < (b : Int) := by omega
                      obtain ⟨es, h1, h2, h3⟩ := HK.out
                      clear HK
                      have hel : es.length = n := by rw [h2.len, HN.out]
                      obtain ⟨m, hm⟩ : ∃ m, m = k - 1 := ⟨_, rfl⟩
                      have hm1 : (k : Int) - 1 = (m : Int) := by omega
                      have hm2 : m < k ∧ i ≤ m := by omega
                      have ck := h1.cell (t := k) (by omega)
                      have cm := h1.cell (t := m) (by omega)
                      have fk := h1.free k
                      have fm := h1.free m
                      have SW : Hid (∀ q, ∃ fs, SR w (((wr.setCell ⟨g, k, none⟩ (.int .u64 (gt es m : Int))).setCell ⟨g, m, none⟩ (.int .u64 (gt es k : Int))).drewN q) g fs rest ∧ SegP a b ds fs ∧ Srt a i fs) := fun q => ⟨_, (h1.swap (by omega) (by omega)).drewN q, h2.trans (seg_swp (by omega) (by omega) (by omega) (by omega) (by omega)), srt_off h3 (by omega) (by omega) (by omega) (by omega)⟩
                      have ST : Hid (∀ q, ∃ fs, SR w (wr.drewN q) g fs rest ∧ SegP a b ds fs ∧ Srt a i fs) := fun q => ⟨es, h1.drewN q, h2, h3⟩
                      generalize gt es k = x at *
                      generalize gt es m = y at *
                      clear h1 h2 h3 hm
                      by_cases hxy : x < y
                      · have hd : decide (x < y) = true := decide_eq_true hxy
                        clear ST
                        go_wp2_with fail
                        go_quiet ((go_at_call 80; exact (less_any _ _ _).mono fun _ _ h => ⟨h.1, _, h.2⟩))
                        go_wp2_with fail
                        go_region
                        all_goals go_wp2_with fail
                        all_goals go_roundw
                        case rel => exact ⟨k + 1, by omega, by omega, by simp, SW.out (nq + 1)⟩
                        case measure => simp [intOf]; omega
                      · have hd : decide (x < y) = false := decide_eq_false hxy
                        clear SW
                        go_wp2_with fail
                        go_quiet ((go_at_call 80; exact (less_any _ _ _).mono fun _ _ h => ⟨h.1, _, h.2⟩))
                        have HS := hide (ST.out nq)
                        clear ST
                        go_wp2_with fail
                        go_roundw
                        case rel => exact ⟨i, t + 1, by omega, by omega, by omega, rfl, by simp, by first | exact HS | exact HS.out | (have := HS.out; simpa using this)⟩
                        case measure => simp [intOf]; omega
                    · have hkb' : ¬ (k : Int) < (b : Int) := by omega
                      have HS := HK
                      clear HK
                      go_wp2_with fail
                      go_roundw
                      case rel => exact ⟨i, t + 1, by omega, by omega, by omega, rfl, by simp, by first | exact HS | exact HS.out | (have := HS.out; simpa using this)⟩
                      case measure => simp [intOf]; omega
                · have hb2' : ¬ (2 : Int) ≤ (b : Int) - (i : Int) := by omega
                  go_wp2_with fail
                  go_roundw
                  case rel => exact ⟨i, t + 1, by omega, by omega, by omega, rfl, by simp, by first | exact HS | exact HS.out | (have := HS.out; simpa using this)⟩
                  case measure => simp [intOf]; omega
          · have hd : decide (x < y) = false := decide_eq_false hxy
            have HSN := hide (SN.out hxy)
            clear SW ST SN
            go_wp2_with fail
            go_quiet ((go_at_call 80; exact (less_any _ _ _).mono fun _ _ h => ⟨h.1, _, h.2⟩))
            go_wp2_with fail
            go_roundw
            case rel => exact ⟨i + 1, by omega, by omega, by simp, HSN.out nq⟩
            case measure => simp [intOf]; omega
        · obtain rfl : i = b := by omega
          have hib' : ¬ (i : Int) < (i : Int) := by omega
          go_wp2_with fail
          go_quiet ((go_at_call 80; exact (less_any _ _ _).mono fun _ _ h => ⟨h.1, _, h.2⟩))
          go_wp2_with fail
          first | go_ret | (rw [Exit.noGoto_ret]; go_ret)
          obtain ⟨fs, k1, k2, k3⟩ := HI.out
          exact .inr ⟨rfl, fs, k1.drewN _, k2, k3⟩
    · have ht5' : ¬ (t : Int) < 5 := by omega
      go_wp2_with fail
      go_ret
      obtain ⟨fs, k1, k2, k3⟩ := HI.out
      exact .inl ⟨rfl, fs, k1, k2⟩
end Go.Proofs.Ytmngmkbiibhmkaa
