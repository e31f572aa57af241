/- partition. -/
import Derived.Test.YtmngmkbiibhmkaaVPart
namespace Go.Proofs.Ytmngmkbiibhmkaa
open Go.RowKit Go.Maps

/-- Of the row from a to b: before i all is less than what lies at a, behind j nothing is. -/
def PI (a b i j : Nat) (ds : List Nat) : Prop := (∀ t, a < t → t < i → gt ds t < gt ds a) ∧ ∀ t, j < t → t < b → gt ds a ≤ gt ds t
def Parted (a b m : Nat) (ds : List Nat) : Prop := (∀ t, a ≤ t → t < m → gt ds t < gt ds m) ∧ ∀ t, m < t → t < b → gt ds m < gt ds t
theorem pi_up {a b i j : Nat} {ds : List Nat} (h : PI a b i j ds) (hs : gt ds i < gt ds a) : PI a b (i + 1) j ds :=
  ⟨fun t h1 h2 => by by_cases e : t = i; rw [e]; exact hs; exact h.1 t h1 (by omega), h.2⟩
theorem pi_down {a b i j : Nat} {ds : List Nat} (h : PI a b i j ds) (hs : ¬ gt ds j < gt ds a) : PI a b i (j - 1) ds :=
  ⟨h.1, fun t h1 h2 => by by_cases e : t = j; rw [e]; omega; exact h.2 t (by omega) h2⟩
theorem pi_swap {a b i j : Nat} {ds : List Nat} (h : PI a b i j ds) (hs : gt ds j < gt ds a) (hk : gt ds a ≤ gt ds i) (ha : a < i) (hij : i < j) (hj : j < b) (hb : b ≤ ds.length) : PI a b (i + 1) (j - 1) (swp ds i j) := by
  have e : ∀ t, gt (swp ds i j) t = if t = j then gt ds i else if t = i then gt ds j else gt ds t := fun t => swp_gt (by omega) (by omega) t
  refine ⟨fun t h1 h2 => ?_, fun t h1 h2 => ?_⟩
  · rw [e, e, if_neg (by omega), if_neg (by omega : ¬ a = j), if_neg (by omega : ¬ a = i)]
    by_cases ht : t = i
    · rw [if_pos ht]; exact hs
    · rw [if_neg ht]; exact h.1 t h1 (by omega)
  · rw [e, e, if_neg (by omega : ¬ a = j), if_neg (by omega : ¬ a = i)]
    by_cases ht : t = j
    · rw [if_pos ht]; exact hk
    · rw [if_neg ht, if_neg (by omega)]; exact h.2 t (by omega) h2
theorem pi_final {a b j : Nat} {ds : List Nat} (h : PI a b (j + 1) j ds) (hn : ds.Nodup) (ha : a ≤ j) (hj : j < b) (hb : b ≤ ds.length) : Parted a b j (swp ds j a) := by
  have e : ∀ t, gt (swp ds j a) t = if t = a then gt ds j else if t = j then gt ds a else gt ds t := fun t => swp_gt (by omega) (by omega) t
  have ej : gt (swp ds j a) j = gt ds a := by
    rw [e]
    by_cases hja : j = a
    · rw [if_pos hja, hja]
    · rw [if_neg hja, if_pos rfl]
  refine ⟨fun t h1 h2 => ?_, fun t h1 h2 => ?_⟩
  · rw [ej, e]
    by_cases ht : t = a
    · rw [if_pos ht]; exact h.1 j (by omega) (by omega)
    · rw [if_neg ht, if_neg (by omega)]; exact h.1 t (by omega) (by omega)
  · rw [ej, e, if_neg (by omega), if_neg (by omega)]
    have h3 := h.2 t h1 h2
    rcases Nat.lt_or_ge (gt ds a) (gt ds t) with h4 | h4
    · exact h4
    · have := gt_inj hn (i := a) (j := t) (by omega) (by omega) (by omega)
      omega
def PartPost (w w' : World) (g a b : Nat) (ds : List Nat) (rest : List Value) (e : Ending) : Prop := ∃ (m : Nat) (r : Bool) (es : List Nat), a ≤ m ∧ m < b ∧ e = .returned (.tuple #[.int .i64 (m : Int), .bool r]) ∧ SR w w' g es rest ∧ SegP a b ds es ∧ Parted a b m es
set_option maxHeartbeats 16000000 in
set_option maxRecDepth 100000 in
theorem partition_any (g n cap a b p : Nat) (ds : List Nat) (rest : List Value) (w : World) (hB : Bl w g (ds.map uv ++ rest) 22) (hn : n = ds.length) (hd : ds.Nodup) (hl : n ≤ 1000000) (hap : a ≤ p) (hpb : p < b) (hb : b ≤ n) :
    Calls Try.prog 82 #[.slice (some ⟨g, 0, none⟩) n cap, .int .i64 (a : Int), .int .i64 (b : Int), .int .i64 (p : Int)] w fun e w' => PartPost w w' g a b ds rest e := by
  obtain ⟨jb, hjb⟩ : ∃ jb, jb = b - 1 := ⟨_, rfl⟩
  have hjb1 : (b : Int) - 1 = (jb : Int) := by omega
  have hjb2 : jb < b ∧ a ≤ jb := by omega
  obtain ⟨a1, ha1⟩ : ∃ a1, a1 = a + 1 := ⟨_, rfl⟩
  have ha2 : (a : Int) + 1 = (a1 : Int) := by omega
  have h1 := SR.refl hB
  have HN := hide hn
  have HD := hide hd
  have hjb3 : b ≤ jb + 1 := by omega
  have ha3 : a < a1 ∧ a1 ≤ a + 1 := by omega
  clear ha1
  by_cases hpa : p = a
  · have hpa2 := hpa.symm
    subst hpa2
    have ca := h1.cell (t := a) (by omega)
    have fa := h1.free a
    have HS : Hid (∃ es, SR w (((w.setCell ⟨g, a, none⟩ (.int .u64 (gt ds a : Int))).setCell ⟨g, a, none⟩ (.int .u64 (gt ds a : Int))).drew) g es rest ∧ SegP a b ds es ∧ PI a b a1 jb es) := ⟨_, (h1.swap (by omega) (by omega)).drewN 1, seg_swp (by omega) (by omega) (by omega) (by omega) (by omega), fun t k1 k2 => by omega, fun t k1 k2 => by omega⟩
    generalize gt ds a = v at *
    clear h1 hB hn hd hjb
    go_enter Try.func82, Try.ntmps82
    go_wp2_with fail
    go_region
    all_goals go_wp2_with fail
    clear ca fa
    go_loopw [10] (fun v10 wr => ∃ i : Nat, a1 ≤ i ∧ i ≤ jb + 1 ∧ v10 = .int .i64 (i : Int) ∧ Hid (∃ es, SR w wr g es rest ∧ SegP a b ds es ∧ PI a b i jb es)) (fun v10 _ => jb + 1 - (intOf v10).toNat)
    case atStart => exact ⟨a1, by omega, by omega, rfl, by first | exact HS | exact HS.out | (have := HS.out; simpa using this)⟩
    case round =>
      clear HS
      obtain ⟨i, hi1, hi2, rfl, HI⟩ := hrel
      by_cases hil : i ≤ jb
      · have hil' : (i : Int) ≤ (jb : Int) := by omega
        obtain ⟨es, h1, h2, h3⟩ := HI.out
        clear HI
        have hel : es.length = n := by rw [h2.len, HN.out]
        have ca := h1.cell (t := a) (by omega)
        have ci := h1.cell (t := i) (by omega)
        have UP : Hid (gt es i < gt es a → ∀ q, ∃ fs, SR w (wr.drewN q) g fs rest ∧ SegP a b ds fs ∧ PI a b (i + 1) jb fs) := fun hs q => ⟨es, h1.drewN q, h2, pi_up h3 hs⟩
        have ST : Hid (¬ gt es i < gt es a → ∀ q, ∃ fs, SR w (wr.drewN q) g fs rest ∧ SegP a b ds fs ∧ PI a b i jb fs ∧ gt fs a ≤ gt fs i) := fun hs q => ⟨es, h1.drewN q, h2, h3, by omega⟩
        generalize gt es a = v at *
        generalize gt es i = u at *
        clear h1 h2 h3 hel
        by_cases hxy : u < v
        · have hd : decide (u < v) = true := decide_eq_true hxy
          have HUP := hide (UP.out hxy)
          clear UP ST
          go_wp2_with fail
          go_quiet ((go_at_call 80; exact (less_any _ _ _).mono fun _ _ h => ⟨h.1, _, h.2⟩))
          go_wp2_with fail
          go_roundw
          case rel => exact ⟨i + 1, by omega, by omega, by simp, HUP.out nq⟩
          case measure => simp [intOf]; omega
        · have hd : decide (u < v) = false := decide_eq_false hxy
          have HST := hide (ST.out hxy)
          clear UP ST
          go_wp2_with fail
          go_quiet ((go_at_call 80; exact (less_any _ _ _).mono fun _ _ h => ⟨h.1, _, h.2⟩))
          have HS := hide (HST.out nq)
          clear HST ca ci hxy hd
          go_wp2_with fail
          go_loopw [11] (fun v11 wr => ∃ j : Nat, i ≤ j + 1 ∧ j ≤ jb ∧ v11 = .int .i64 (j : Int) ∧ Hid (∃ es, SR w wr g es rest ∧ SegP a b ds es ∧ PI a b i j es ∧ gt es a ≤ gt es i)) (fun v11 _ => (intOf v11).toNat)
          case atStart => exact ⟨jb, by omega, by omega, rfl, by first | exact HS | exact HS.out | (have := HS.out; simpa using this)⟩
          case round =>
            clear HS
            obtain ⟨j, hj1, hj2, rfl, HK⟩ := hrel
            by_cases hij : i ≤ j
            · have hij' : (i : Int) ≤ (j : Int) := by omega
              have hgt : ¬ (j : Int) < (i : Int) := by omega
              have hgtn : ¬ j < i := by omega
              have hgtd : decide (j < i) = false := decide_eq_false hgtn
              obtain ⟨es, h1, h2, h3, h4⟩ := HK.out
              clear HK
              have hel : es.length = n := by rw [h2.len, HN.out]
              have ca := h1.cell (t := a) (by omega)
              have ci := h1.cell (t := i) (by omega)
              have cj := h1.cell (t := j) (by omega)
              have fi := h1.free i
              have fj := h1.free j
              have SW : Hid (gt es j < gt es a → i < j ∧ ∀ q, ∃ fs, SR w (((wr.setCell ⟨g, i, none⟩ (.int .u64 (gt es j : Int))).setCell ⟨g, j, none⟩ (.int .u64 (gt es i : Int))).drewN q) g fs rest ∧ SegP a b ds fs ∧ PI a b (i + 1) (j - 1) fs) := fun hs => by
                have hlt : i < j := by rcases Nat.lt_or_ge i j with h | h; exact h; exact absurd hs (by rw [show j = i by omega]; omega)
                exact ⟨hlt, fun q => ⟨_, (h1.swap (by omega) (by omega)).drewN q, h2.trans (seg_swp (by omega) (by omega) (by omega) (by omega) (by omega)), pi_swap h3 hs h4 (by omega) hlt (by omega) (by omega)⟩⟩
              have ST : Hid (¬ gt es j < gt es a → ∀ q, ∃ fs, SR w (wr.drewN q) g fs rest ∧ SegP a b ds fs ∧ PI a b i (j - 1) fs ∧ gt fs a ≤ gt fs i) := fun hs q => ⟨es, h1.drewN q, h2, pi_down h3 hs, h4⟩
              generalize gt es a = v at *
              generalize gt es j = z at *
              generalize gt es i = u at *
              clear h1 h2 h3 h4 hel
              by_cases hxy : z < v
              · have hd : decide (z < v) = true := decide_eq_true hxy
                have hlt := (SW.out hxy).1
                have HSW := hide (SW.out hxy).2
                clear ST SW
                go_wp2_with fail
                go_quiet ((go_at_call 80; exact (less_any _ _ _).mono fun _ _ h => ⟨h.1, _, h.2⟩))
                go_wp2_with fail
                have HS := hide (HSW.out (nq + 1))
                clear HSW
                go_region
                obtain ⟨j1, hj3⟩ : ∃ j1, j1 = j - 1 := ⟨_, rfl⟩
                have hj4 : (j : Int) - 1 = (j1 : Int) := by omega
                have hj5 : j1 < j ∧ i ≤ j1 := by omega
                rw [← hj3] at HS
                clear hj3
                all_goals go_wp2_with fail
                go_loopw [10, 11] (fun v10 v11 wr => ∃ i j : Nat, a < i ∧ i ≤ j + 1 ∧ j < b ∧ v10 = .int .i64 (i : Int) ∧ v11 = .int .i64 (j : Int) ∧ Hid (∃ es, SR w wr g es rest ∧ SegP a b ds es ∧ PI a b i j es)) (fun v10 v11 _ => (intOf v11 + 1 - intOf v10).toNat)
                case atStart => exact ⟨i + 1, j1, by omega, by omega, by omega, by simp, by first | rfl | simp, by first | exact HS | exact HS.out | (have := HS.out; simpa using this)⟩
                case round =>
                  clear HS
                  clear hd hxy hlt hj5 hj4 hij hij' hgt hgtd hgtn hj1 hj2 hil hil' hi1 hi2
                  obtain ⟨i0, j0, hi1, hi2, hj0, rfl, rfl, HS⟩ := hrel
                  go_wp2_with fail
                  go_loopw [10] (fun v10 wr => ∃ i : Nat, i0 ≤ i ∧ i ≤ j0 + 1 ∧ v10 = .int .i64 (i : Int) ∧ Hid (∃ es, SR w wr g es rest ∧ SegP a b ds es ∧ PI a b i j0 es)) (fun v10 _ => j0 + 1 - (intOf v10).toNat)
                  case atStart => exact ⟨i0, by omega, by omega, rfl, by first | exact HS | exact HS.out | (have := HS.out; simpa using this)⟩
                  case round =>
                    clear HS
                    obtain ⟨i, hi1, hi2, rfl, HI⟩ := hrel
                    by_cases hil : i ≤ j0
                    · have hil' : (i : Int) ≤ (j0 : Int) := by omega
                      obtain ⟨es, h1, h2, h3⟩ := HI.out
                      clear HI
                      have hel : es.length = n := by rw [h2.len, HN.out]
                      have ca := h1.cell (t := a) (by omega)
                      have ci := h1.cell (t := i) (by omega)
                      have UP : Hid (gt es i < gt es a → ∀ q, ∃ fs, SR w (wr.drewN q) g fs rest ∧ SegP a b ds fs ∧ PI a b (i + 1) j0 fs) := fun hs q => ⟨es, h1.drewN q, h2, pi_up h3 hs⟩
                      have ST : Hid (¬ gt es i < gt es a → ∀ q, ∃ fs, SR w (wr.drewN q) g fs rest ∧ SegP a b ds fs ∧ PI a b i j0 fs ∧ gt fs a ≤ gt fs i) := fun hs q => ⟨es, h1.drewN q, h2, h3, by omega⟩
                      generalize gt es a = v at *
                      generalize gt es i = u at *
                      clear h1 h2 h3 hel
                      by_cases hxy : u < v
                      · have hd : decide (u < v) = true := decide_eq_true hxy
                        have HUP := hide (UP.out hxy)
                        clear UP ST
                        go_wp2_with fail
                        go_quiet ((go_at_call 80; exact (less_any _ _ _).mono fun _ _ h => ⟨h.1, _, h.2⟩))
                        go_wp2_with fail
                        go_roundw
                        case rel => exact ⟨i + 1, by omega, by omega, by simp, HUP.out nq⟩
                        case measure => simp [intOf]; omega
                      · have hd : decide (u < v) = false := decide_eq_false hxy
                        have HST := hide (ST.out hxy)
                        clear UP ST
                        go_wp2_with fail
                        go_quiet ((go_at_call 80; exact (less_any _ _ _).mono fun _ _ h => ⟨h.1, _, h.2⟩))
                        have HS := hide (HST.out nq)
                        clear HST ca ci hxy hd
                        go_wp2_with fail
                        go_loopw [11] (fun v11 wr => ∃ j : Nat, i ≤ j + 1 ∧ j ≤ j0 ∧ v11 = .int .i64 (j : Int) ∧ Hid (∃ es, SR w wr g es rest ∧ SegP a b ds es ∧ PI a b i j es ∧ gt es a ≤ gt es i)) (fun v11 _ => (intOf v11).toNat)
                        case atStart => exact ⟨j0, by omega, by omega, rfl, by first | exact HS | exact HS.out | (have := HS.out; simpa using this)⟩
                        case round =>
                          clear HS
                          obtain ⟨j, hj1, hj2, rfl, HK⟩ := hrel
                          by_cases hij : i ≤ j
                          · have hij' : (i : Int) ≤ (j : Int) := by omega
                            have hgt : ¬ (j : Int) < (i : Int) := by omega
                            have hgtn : ¬ j < i := by omega
                            have hgtd : decide (j < i) = false := decide_eq_false hgtn
                            obtain ⟨es, h1, h2, h3, h4⟩ := HK.out
                            clear HK
                            have hel : es.length = n := by rw [h2.len, HN.out]
                            have ca := h1.cell (t := a) (by omega)
                            have ci := h1.cell (t := i) (by omega)
                            have cj := h1.cell (t := j) (by omega)
                            have fi := h1.free i
                            have fj := h1.free j
                            have SW : Hid (gt es j < gt es a → i < j ∧ ∀ q, ∃ fs, SR w (((wr.setCell ⟨g, i, none⟩ (.int .u64 (gt es j : Int))).setCell ⟨g, j, none⟩ (.int .u64 (gt es i : Int))).drewN q) g fs rest ∧ SegP a b ds fs ∧ PI a b (i + 1) (j - 1) fs) := fun hs => by
                              have hlt : i < j := by rcases Nat.lt_or_ge i j with h | h; exact h; exact absurd hs (by rw [show j = i by omega]; omega)
                              exact ⟨hlt, fun q => ⟨_, (h1.swap (by omega) (by omega)).drewN q, h2.trans (seg_swp (by omega) (by omega) (by omega) (by omega) (by omega)), pi_swap h3 hs h4 (by omega) hlt (by omega) (by omega)⟩⟩
                            have ST : Hid (¬ gt es j < gt es a → ∀ q, ∃ fs, SR w (wr.drewN q) g fs rest ∧ SegP a b ds fs ∧ PI a b i (j - 1) fs ∧ gt fs a ≤ gt fs i) := fun hs q => ⟨es, h1.drewN q, h2, pi_down h3 hs, h4⟩
                            generalize gt es a = v at *
                            generalize gt es j = z at *
                            generalize gt es i = u at *
                            clear h1 h2 h3 h4 hel
                            by_cases hxy : z < v
                            · have hd : decide (z < v) = true := decide_eq_true hxy
                              have hlt := (SW.out hxy).1
                              have HSW := hide (SW.out hxy).2
                              clear ST SW
                              go_wp2_with fail
                              go_quiet ((go_at_call 80; exact (less_any _ _ _).mono fun _ _ h => ⟨h.1, _, h.2⟩))
                              go_wp2_with fail
                              have HS := hide (HSW.out (nq + 1))
                              clear HSW
                              go_region
                              obtain ⟨j1, hj3⟩ : ∃ j1, j1 = j - 1 := ⟨_, rfl⟩
                              have hj4 : (j : Int) - 1 = (j1 : Int) := by omega
                              have hj5 : j1 < j ∧ i ≤ j1 := by omega
                              rw [← hj3] at HS
                              clear hj3
                              all_goals go_wp2_with fail
                              all_goals go_roundw
                              case rel => exact ⟨i + 1, j1, by omega, by omega, by omega, by simp, by first | rfl | simp, by first | exact HS | exact HS.out | (have := HS.out; simpa using this)⟩
                              case measure => simp [intOf]; omega
                            · have hd : decide (z < v) = false := decide_eq_false hxy
                              have HST := hide (ST.out hxy)
                              clear SW ST
                              go_wp2_with fail
                              go_quiet ((go_at_call 80; exact (less_any _ _ _).mono fun _ _ h => ⟨h.1, _, h.2⟩))
                              go_wp2_with fail
                              go_roundw
                              case rel => exact ⟨j - 1, by omega, by omega, by rw [show ((j - 1 : Nat) : Int) = (j : Int) - 1 by omega], HST.out nq⟩
                              case measure => simp [intOf]; omega
                          · have hij' : ¬ (i : Int) ≤ (j : Int) := by omega
                            have hijd : decide (i ≤ j) = false := decide_eq_false (by omega)
                            have hgtn : decide (j < i) = true := decide_eq_true (by omega)
                            have HS : Hid (∃ es, SR w wr g es rest ∧ SegP a b ds es ∧ PI a b (j + 1) j es) := by
                              obtain ⟨es, h1, h2, h3, _⟩ := HK.out
                              exact ⟨es, h1, h2, by rwa [show i = j + 1 by omega] at h3⟩
                            clear HK
                            have haj : a ≤ j ∧ j < b := by omega
                            go_wp2_with fail
                            go_quiet ((go_at_call 80; exact (less_any _ _ _).mono fun _ _ h => ⟨h.1, _, h.2⟩))
                            obtain ⟨es, h1, h2, h3⟩ := HS.out
                            clear HS
                            have hel : es.length = n := by rw [h2.len, HN.out]
                            have hes := h2.nodup HD.out
                            by_cases hja : j = a
                            · have hja2 := hja.symm
                              subst hja2
                              have ca := h1.cell (t := a) (by omega)
                              have fa := h1.free a
                              have SW : Hid (∀ q, SR w (((wr.setCell ⟨g, a, none⟩ (.int .u64 (gt es a : Int))).setCell ⟨g, a, none⟩ (.int .u64 (gt es a : Int))).drewN q) g (swp es a a) rest ∧ SegP a b ds (swp es a a) ∧ Parted a b a (swp es a a)) := fun q => ⟨(h1.swap (by omega) (by omega)).drewN q, h2.trans (seg_swp (by omega) (by omega) (by omega) (by omega) (by omega)), pi_final h3 hes (by omega) (by omega) (by omega)⟩
                              generalize swp es a a = fs at *
                              generalize gt es a = v at *
                              clear h1 h2 h3 hes hel
                              go_wp2_with fail
                              go_region
                              all_goals go_wp2_with fail
                              all_goals first | go_ret2 | (rw [Exit.noGoto_ret]; go_ret2)
                              all_goals exact ⟨a, false, fs, by omega, by omega, rfl, by first | exact SW.out (nq + 1) | (have := SW.out (nq + 1); simpa using this)⟩
                            · have ca := h1.cell (t := a) (by omega)
                              have fa := h1.free a
                              have cj := h1.cell (t := j) (by omega)
                              have fj := h1.free j
                              have SW : Hid (∀ q, SR w (((wr.setCell ⟨g, j, none⟩ (.int .u64 (gt es a : Int))).setCell ⟨g, a, none⟩ (.int .u64 (gt es j : Int))).drewN q) g (swp es j a) rest ∧ SegP a b ds (swp es j a) ∧ Parted a b j (swp es j a)) := fun q => ⟨(h1.swap (by omega) (by omega)).drewN q, h2.trans (seg_swp (by omega) (by omega) (by omega) (by omega) (by omega)), pi_final h3 hes (by omega) (by omega) (by omega)⟩
                              generalize swp es j a = fs at *
                              generalize gt es a = v at *
                              generalize gt es j = z at *
                              clear h1 h2 h3 hes hel
                              go_wp2_with fail
                              go_region
                              all_goals go_wp2_with fail
                              all_goals first | go_ret2 | (rw [Exit.noGoto_ret]; go_ret2)
                              all_goals exact ⟨j, false, fs, by omega, by omega, rfl, by first | exact SW.out (nq + 1) | (have := SW.out (nq + 1); simpa using this)⟩
                    · have hil' : ¬ (i : Int) ≤ (j0 : Int) := by omega
                      have HS : Hid (∃ es, SR w wr g es rest ∧ SegP a b ds es ∧ PI a b (j0 + 1) j0 es) := by
                        obtain ⟨es, h1, h2, h3⟩ := HI.out
                        exact ⟨es, h1, h2, by rwa [show i = j0 + 1 by omega] at h3⟩
                      clear HI
                      go_wp2_with fail
                      go_quiet ((go_at_call 80; exact (less_any _ _ _).mono fun _ _ h => ⟨h.1, _, h.2⟩))
                      have HS := hide (show ∃ es, SR w (wr.drewN nq) g es rest ∧ SegP a b ds es ∧ PI a b (j0 + 1) j0 es by obtain ⟨es, h1, h2, h3⟩ := HS.out; exact ⟨es, h1.drewN nq, h2, h3⟩)
                      go_wp2_with fail
                      go_loopw [11] (fun v11 wr => ∃ j : Nat, j = j0 ∧ v11 = .int .i64 (j : Int) ∧ Hid (∃ es, SR w wr g es rest ∧ SegP a b ds es ∧ PI a b (j + 1) j es)) (fun _ _ => 0)
                      case atStart => exact ⟨j0, rfl, rfl, by first | exact HS | exact HS.out | (have := HS.out; simpa using this)⟩
                      case round =>
                        clear HS
                        obtain ⟨j, hj1, rfl, HS⟩ := hrel
                        have hij' : ¬ (i : Int) ≤ (j : Int) := by omega
                        have hijd : decide (i ≤ j) = false := decide_eq_false (by omega)
                        have hgtn : decide (j < i) = true := decide_eq_true (by omega)
                        have haj : a ≤ j ∧ j < b := by omega
                        clear hj1
                        go_wp2_with fail
                        go_quiet ((go_at_call 80; exact (less_any _ _ _).mono fun _ _ h => ⟨h.1, _, h.2⟩))
                        obtain ⟨es, h1, h2, h3⟩ := HS.out
                        clear HS
                        have hel : es.length = n := by rw [h2.len, HN.out]
                        have hes := h2.nodup HD.out
                        by_cases hja : j = a
                        · have hja2 := hja.symm
                          subst hja2
                          have ca := h1.cell (t := a) (by omega)
                          have fa := h1.free a
                          have SW : Hid (∀ q, SR w (((wr.setCell ⟨g, a, none⟩ (.int .u64 (gt es a : Int))).setCell ⟨g, a, none⟩ (.int .u64 (gt es a : Int))).drewN q) g (swp es a a) rest ∧ SegP a b ds (swp es a a) ∧ Parted a b a (swp es a a)) := fun q => ⟨(h1.swap (by omega) (by omega)).drewN q, h2.trans (seg_swp (by omega) (by omega) (by omega) (by omega) (by omega)), pi_final h3 hes (by omega) (by omega) (by omega)⟩
                          generalize swp es a a = fs at *
                          generalize gt es a = v at *
                          clear h1 h2 h3 hes hel
                          go_wp2_with fail
                          go_region
                          all_goals go_wp2_with fail
                          all_goals first | go_ret2 | (rw [Exit.noGoto_ret]; go_ret2)
                          all_goals exact ⟨a, false, fs, by omega, by omega, rfl, by first | exact SW.out (nq + 1) | (have := SW.out (nq + 1); simpa using this)⟩
                        · have ca := h1.cell (t := a) (by omega)
                          have fa := h1.free a
                          have cj := h1.cell (t := j) (by omega)
                          have fj := h1.free j
                          have SW : Hid (∀ q, SR w (((wr.setCell ⟨g, j, none⟩ (.int .u64 (gt es a : Int))).setCell ⟨g, a, none⟩ (.int .u64 (gt es j : Int))).drewN q) g (swp es j a) rest ∧ SegP a b ds (swp es j a) ∧ Parted a b j (swp es j a)) := fun q => ⟨(h1.swap (by omega) (by omega)).drewN q, h2.trans (seg_swp (by omega) (by omega) (by omega) (by omega) (by omega)), pi_final h3 hes (by omega) (by omega) (by omega)⟩
                          generalize swp es j a = fs at *
                          generalize gt es a = v at *
                          generalize gt es j = z at *
                          clear h1 h2 h3 hes hel
                          go_wp2_with fail
                          go_region
                          all_goals go_wp2_with fail
                          all_goals first | go_ret2 | (rw [Exit.noGoto_ret]; go_ret2)
                          all_goals exact ⟨j, false, fs, by omega, by omega, rfl, by first | exact SW.out (nq + 1) | (have := SW.out (nq + 1); simpa using this)⟩
              · have hd : decide (z < v) = false := decide_eq_false hxy
                have HST := hide (ST.out hxy)
                clear SW ST
                go_wp2_with fail
                go_quiet ((go_at_call 80; exact (less_any _ _ _).mono fun _ _ h => ⟨h.1, _, h.2⟩))
                go_wp2_with fail
                go_roundw
                case rel => exact ⟨j - 1, by omega, by omega, by rw [show ((j - 1 : Nat) : Int) = (j : Int) - 1 by omega], HST.out nq⟩
                case measure => simp [intOf]; omega
            · have hij' : ¬ (i : Int) ≤ (j : Int) := by omega
              have hijd : decide (i ≤ j) = false := decide_eq_false (by omega)
              have hgtn : decide (j < i) = true := decide_eq_true (by omega)
              have HS : Hid (∃ es, SR w wr g es rest ∧ SegP a b ds es ∧ PI a b (j + 1) j es) := by
                obtain ⟨es, h1, h2, h3, _⟩ := HK.out
                exact ⟨es, h1, h2, by rwa [show i = j + 1 by omega] at h3⟩
              clear HK
              have haj : a ≤ j ∧ j < b := by omega
              go_wp2_with fail
              go_quiet ((go_at_call 80; exact (less_any _ _ _).mono fun _ _ h => ⟨h.1, _, h.2⟩))
              obtain ⟨es, h1, h2, h3⟩ := HS.out
              clear HS
              have hel : es.length = n := by rw [h2.len, HN.out]
              have hes := h2.nodup HD.out
              by_cases hja : j = a
              · have hja2 := hja.symm
                subst hja2
                have ca := h1.cell (t := a) (by omega)
                have fa := h1.free a
                have SW : Hid (∀ q, SR w (((wr.setCell ⟨g, a, none⟩ (.int .u64 (gt es a : Int))).setCell ⟨g, a, none⟩ (.int .u64 (gt es a : Int))).drewN q) g (swp es a a) rest ∧ SegP a b ds (swp es a a) ∧ Parted a b a (swp es a a)) := fun q => ⟨(h1.swap (by omega) (by omega)).drewN q, h2.trans (seg_swp (by omega) (by omega) (by omega) (by omega) (by omega)), pi_final h3 hes (by omega) (by omega) (by omega)⟩
                generalize swp es a a = fs at *
                generalize gt es a = v at *
                clear h1 h2 h3 hes hel
                go_wp2_with fail
                go_region
                all_goals go_wp2_with fail
                all_goals first | go_ret2 | (rw [Exit.noGoto_ret]; go_ret2)
                all_goals exact ⟨a, true, fs, by omega, by omega, rfl, by first | exact SW.out (nq + 1) | (have := SW.out (nq + 1); simpa using this)⟩
              · have ca := h1.cell (t := a) (by omega)
                have fa := h1.free a
                have cj := h1.cell (t := j) (by omega)
                have fj := h1.free j
                have SW : Hid (∀ q, SR w (((wr.setCell ⟨g, j, none⟩ (.int .u64 (gt es a : Int))).setCell ⟨g, a, none⟩ (.int .u64 (gt es j : Int))).drewN q) g (swp es j a) rest ∧ SegP a b ds (swp es j a) ∧ Parted a b j (swp es j a)) := fun q => ⟨(h1.swap (by omega) (by omega)).drewN q, h2.trans (seg_swp (by omega) (by omega) (by omega) (by omega) (by omega)), pi_final h3 hes (by omega) (by omega) (by omega)⟩
                generalize swp es j a = fs at *
                generalize gt es a = v at *
                generalize gt es j = z at *
                clear h1 h2 h3 hes hel
                go_wp2_with fail
                go_region
                all_goals go_wp2_with fail
                all_goals first | go_ret2 | (rw [Exit.noGoto_ret]; go_ret2)
                all_goals exact ⟨j, true, fs, by omega, by omega, rfl, by first | exact SW.out (nq + 1) | (have := SW.out (nq + 1); simpa using this)⟩
      · have hil' : ¬ (i : Int) ≤ (jb : Int) := by omega
        have HS : Hid (∃ es, SR w wr g es rest ∧ SegP a b ds es ∧ PI a b (jb + 1) jb es) := by
          obtain ⟨es, h1, h2, h3⟩ := HI.out
          exact ⟨es, h1, h2, by rwa [show i = jb + 1 by omega] at h3⟩
        clear HI
        go_wp2_with fail
        go_quiet ((go_at_call 80; exact (less_any _ _ _).mono fun _ _ h => ⟨h.1, _, h.2⟩))
        have HS := hide (show ∃ es, SR w (wr.drewN nq) g es rest ∧ SegP a b ds es ∧ PI a b (jb + 1) jb es by obtain ⟨es, h1, h2, h3⟩ := HS.out; exact ⟨es, h1.drewN nq, h2, h3⟩)
        go_wp2_with fail
        go_loopw [11] (fun v11 wr => ∃ j : Nat, j = jb ∧ v11 = .int .i64 (j : Int) ∧ Hid (∃ es, SR w wr g es rest ∧ SegP a b ds es ∧ PI a b (j + 1) j es)) (fun _ _ => 0)
        case atStart => exact ⟨jb, rfl, rfl, by first | exact HS | exact HS.out | (have := HS.out; simpa using this)⟩
        case round =>
          clear HS
          obtain ⟨j, hj1, rfl, HS⟩ := hrel
          have hij' : ¬ (i : Int) ≤ (j : Int) := by omega
          have hijd : decide (i ≤ j) = false := decide_eq_false (by omega)
          have hgtn : decide (j < i) = true := decide_eq_true (by omega)
          have haj : a ≤ j ∧ j < b := by omega
          clear hj1
          go_wp2_with fail
          go_quiet ((go_at_call 80; exact (less_any _ _ _).mono fun _ _ h => ⟨h.1, _, h.2⟩))
          obtain ⟨es, h1, h2, h3⟩ := HS.out
          clear HS
          have hel : es.length = n := by rw [h2.len, HN.out]
          have hes := h2.nodup HD.out
          by_cases hja : j = a
          · have hja2 := hja.symm
            subst hja2
            have ca := h1.cell (t := a) (by omega)
            have fa := h1.free a
            have SW : Hid (∀ q, SR w (((wr.setCell ⟨g, a, none⟩ (.int .u64 (gt es a : Int))).setCell ⟨g, a, none⟩ (.int .u64 (gt es a : Int))).drewN q) g (swp es a a) rest ∧ SegP a b ds (swp es a a) ∧ Parted a b a (swp es a a)) := fun q => ⟨(h1.swap (by omega) (by omega)).drewN q, h2.trans (seg_swp (by omega) (by omega) (by omega) (by omega) (by omega)), pi_final h3 hes (by omega) (by omega) (by omega)⟩
            generalize swp es a a = fs at *
            generalize gt es a = v at *
            clear h1 h2 h3 hes hel
            go_wp2_with fail
            go_region
            all_goals go_wp2_with fail
            all_goals first | go_ret2 | (rw [Exit.noGoto_ret]; go_ret2)
            all_goals exact ⟨a, true, fs, by omega, by omega, rfl, by first | exact SW.out (nq + 1) | (have := SW.out (nq + 1); simpa using this)⟩
          · have ca := h1.cell (t := a) (by omega)
            have fa := h1.free a
            have cj := h1.cell (t := j) (by omega)
            have fj := h1.free j
            have SW : Hid (∀ q, SR w (((wr.setCell ⟨g, j, none⟩ (.int .u64 (gt es a : Int))).setCell ⟨g, a, none⟩ (.int .u64 (gt es j : Int))).drewN q) g (swp es j a) rest ∧ SegP a b ds (swp es j a) ∧ Parted a b j (swp es j a)) := fun q => ⟨(h1.swap (by omega) (by omega)).drewN q, h2.trans (seg_swp (by omega) (by omega) (by omega) (by omega) (by omega)), pi_final h3 hes (by omega) (by omega) (by omega)⟩
            generalize swp es j a = fs at *
            generalize gt es a = v at *
            generalize gt es j = z at *
            clear h1 h2 h3 hes hel
            go_wp2_with fail
            go_region
            all_goals go_wp2_with fail
            all_goals first | go_ret2 | (rw [Exit.noGoto_ret]; go_ret2)
            all_goals exact ⟨j, true, fs, by omega, by omega, rfl, by first | exact SW.out (nq + 1) | (have := SW.out (nq + 1); simpa using this)⟩
  · have ca := h1.cell (t := a) (by omega)
    have fa := h1.free a
    have cp := h1.cell (t := p) (by omega)
    have fp := h1.free p
    have HS : Hid (∃ es, SR w (((w.setCell ⟨g, a, none⟩ (.int .u64 (gt ds p : Int))).setCell ⟨g, p, none⟩ (.int .u64 (gt ds a : Int))).drew) g es rest ∧ SegP a b ds es ∧ PI a b a1 jb es) := ⟨_, (h1.swap (by omega) (by omega)).drewN 1, seg_swp (by omega) (by omega) (by omega) (by omega) (by omega), fun t k1 k2 => by omega, fun t k1 k2 => by omega⟩
    generalize gt ds a = v at *
    generalize gt ds p = z at *
    clear h1 hB hn hd hjb
    go_enter Try.func82, Try.ntmps82
    go_wp2_with fail
    go_region
    all_goals go_wp2_with fail
    clear ca fa cp fp
    go_loopw [10] (fun v10 wr => ∃ i : Nat, a1 ≤ i ∧ i ≤ jb + 1 ∧ v10 = .int .i64 (i : Int) ∧ Hid (∃ es, SR w wr g es rest ∧ SegP a b ds es ∧ PI a b i jb es)) (fun v10 _ => jb + 1 - (intOf v10).toNat)
    case atStart => exact ⟨a1, by omega, by omega, rfl, by first | exact HS | exact HS.out | (have := HS.out; simpa using this)⟩
    case round =>
      clear HS
      obtain ⟨i, hi1, hi2, rfl, HI⟩ := hrel
      by_cases hil : i ≤ jb
      · have hil' : (i : Int) ≤ (jb : Int) := by omega
        obtain ⟨es, h1, h2, h3⟩ := HI.out
        clear HI
        have hel : es.length = n := by rw [h2.len, HN.out]
        have ca := h1.cell (t := a) (by omega)
        have ci := h1.cell (t := i) (by omega)
        have UP : Hid (gt es i < gt es a → ∀ q, ∃ fs, SR w (wr.drewN q) g fs rest ∧ SegP a b ds fs ∧ PI a b (i + 1) jb fs) := fun hs q => ⟨es, h1.drewN q, h2, pi_up h3 hs⟩
        have ST : Hid (¬ gt es i < gt es a → ∀ q, ∃ fs, SR w (wr.drewN q) g fs rest ∧ SegP a b ds fs ∧ PI a b i jb fs ∧ gt fs a ≤ gt fs i) := fun hs q => ⟨es, h1.drewN q, h2, h3, by omega⟩
        generalize gt es a = v at *
        generalize gt es i = u at *
        clear h1 h2 h3 hel
        by_cases hxy : u < v
        · have hd : decide (u < v) = true := decide_eq_true hxy
          have HUP := hide (UP.out hxy)
          clear UP ST
          go_wp2_with fail
          go_quiet ((go_at_call 80; exact (less_any _ _ _).mono fun _ _ h => ⟨h.1, _, h.2⟩))
          go_wp2_with fail
          go_roundw
          case rel => exact ⟨i + 1, by omega, by omega, by simp, HUP.out nq⟩
          case measure => simp [intOf]; omega
        · have hd : decide (u < v) = false := decide_eq_false hxy
          have HST := hide (ST.out hxy)
          clear UP ST
          go_wp2_with fail
          go_quiet ((go_at_call 80; exact (less_any _ _ _).mono fun _ _ h => ⟨h.1, _, h.2⟩))
          have HS := hide (HST.out nq)
          clear HST ca ci hxy hd
          go_wp2_with fail
          go_loopw [11] (fun v11 wr => ∃ j : Nat, i ≤ j + 1 ∧ j ≤ jb ∧ v11 = .int .i64 (j : Int) ∧ Hid (∃ es, SR w wr g es rest ∧ SegP a b ds es ∧ PI a b i j es ∧ gt es a ≤ gt es i)) (fun v11 _ => (intOf v11).toNat)
          case atStart => exact ⟨jb, by omega, by omega, rfl, by first | exact HS | exact HS.out | (have := HS.out; simpa using this)⟩
          case round =>
            clear HS
            obtain ⟨j, hj1, hj2, rfl, HK⟩ := hrel
            by_cases hij : i ≤ j
            · have hij' : (i : Int) ≤ (j : Int) := by omega
              have hgt : ¬ (j : Int) < (i : Int) := by omega
              have hgtn : ¬ j < i := by omega
              have hgtd : decide (j < i) = false := decide_eq_false hgtn
              obtain ⟨es, h1, h2, h3, h4⟩ := HK.out
              clear HK
              have hel : es.length = n := by rw [h2.len, HN.out]
              have ca := h1.cell (t := a) (by omega)
              have ci := h1.cell (t := i) (by omega)
              have cj := h1.cell (t := j) (by omega)
              have fi := h1.free i
              have fj := h1.free j
              have SW : Hid (gt es j < gt es a → i < j ∧ ∀ q, ∃ fs, SR w (((wr.setCell ⟨g, i, none⟩ (.int .u64 (gt es j : Int))).setCell ⟨g, j, none⟩ (.int .u64 (gt es i : Int))).drewN q) g fs rest ∧ SegP a b ds fs ∧ PI a b (i + 1) (j - 1) fs) := fun hs => by
                have hlt : i < j := by rcases Nat.lt_or_ge i j with h | h; exact h; exact absurd hs (by rw [show j = i by omega]; omega)
                exact ⟨hlt, fun q => ⟨_, (h1.swap (by omega) (by omega)).drewN q, h2.trans (seg_swp (by omega) (by omega) (by omega) (by omega) (by omega)), pi_swap h3 hs h4 (by omega) hlt (by omega) (by omega)⟩⟩
              have ST : Hid (¬ gt es j < gt es a → ∀ q, ∃ fs, SR w (wr.drewN q) g fs rest ∧ SegP a b ds fs ∧ PI a b i (j - 1) fs ∧ gt fs a ≤ gt fs i) := fun hs q => ⟨es, h1.drewN q, h2, pi_down h3 hs, h4⟩
              generalize gt es a = v at *
              generalize gt es j = z at *
              generalize gt es i = u at *
              clear h1 h2 h3 h4 hel
              by_cases hxy : z < v
              · have hd : decide (z < v) = true := decide_eq_true hxy
                have hlt := (SW.out hxy).1
                have HSW := hide (SW.out hxy).2
                clear ST SW
                go_wp2_with fail
                go_quiet ((go_at_call 80; exact (less_any _ _ _).mono fun _ _ h => ⟨h.1, _, h.2⟩))
                go_wp2_with fail
                have HS := hide (HSW.out (nq + 1))
                clear HSW
                go_region
                obtain ⟨j1, hj3⟩ : ∃ j1, j1 = j - 1 := ⟨_, rfl⟩
                have hj4 : (j : Int) - 1 = (j1 : Int) := by omega
                have hj5 : j1 < j ∧ i ≤ j1 := by omega
                rw [← hj3] at HS
                clear hj3
                all_goals go_wp2_with fail
                go_loopw [10, 11] (fun v10 v11 wr => ∃ i j : Nat, a < i ∧ i ≤ j + 1 ∧ j < b ∧ v10 = .int .i64 (i : Int) ∧ v11 = .int .i64 (j : Int) ∧ Hid (∃ es, SR w wr g es rest ∧ SegP a b ds es ∧ PI a b i j es)) (fun v10 v11 _ => (intOf v11 + 1 - intOf v10).toNat)
                case atStart => exact ⟨i + 1, j1, by omega, by omega, by omega, by simp, by first | rfl | simp, by first | exact HS | exact HS.out | (have := HS.out; simpa using this)⟩
                case round =>
                  clear HS
                  clear hd hxy hlt hj5 hj4 hij hij' hgt hgtd hgtn hj1 hj2 hil hil' hi1 hi2
                  obtain ⟨i0, j0, hi1, hi2, hj0, rfl, rfl, HS⟩ := hrel
                  go_wp2_with fail
                  go_loopw [10] (fun v10 wr => ∃ i : Nat, i0 ≤ i ∧ i ≤ j0 + 1 ∧ v10 = .int .i64 (i : Int) ∧ Hid (∃ es, SR w wr g es rest ∧ SegP a b ds es ∧ PI a b i j0 es)) (fun v10 _ => j0 + 1 - (intOf v10).toNat)
                  case atStart => exact ⟨i0, by omega, by omega, rfl, by first | exact HS | exact HS.out | (have := HS.out; simpa using this)⟩
                  case round =>
                    clear HS
                    obtain ⟨i, hi1, hi2, rfl, HI⟩ := hrel
                    by_cases hil : i ≤ j0
                    · have hil' : (i : Int) ≤ (j0 : Int) := by omega
                      obtain ⟨es, h1, h2, h3⟩ := HI.out
                      clear HI
                      have hel : es.length = n := by rw [h2.len, HN.out]
                      have ca := h1.cell (t := a) (by omega)
                      have ci := h1.cell (t := i) (by omega)
                      have UP : Hid (gt es i < gt es a → ∀ q, ∃ fs, SR w (wr.drewN q) g fs rest ∧ SegP a b ds fs ∧ PI a b (i + 1) j0 fs) := fun hs q => ⟨es, h1.drewN q, h2, pi_up h3 hs⟩
                      have ST : Hid (¬ gt es i < gt es a → ∀ q, ∃ fs, SR w (wr.drewN q) g fs rest ∧ SegP a b ds fs ∧ PI a b i j0 fs ∧ gt fs a ≤ gt fs i) := fun hs q => ⟨es, h1.drewN q, h2, h3, by omega⟩
                      generalize gt es a = v at *
                      generalize gt es i = u at *
                      clear h1 h2 h3 hel
                      by_cases hxy : u < v
                      · have hd : decide (u < v) = true := decide_eq_true hxy
                        have HUP := hide (UP.out hxy)
                        clear UP ST
                        go_wp2_with fail
                        go_quiet ((go_at_call 80; exact (less_any _ _ _).mono fun _ _ h => ⟨h.1, _, h.2⟩))
                        go_wp2_with fail
                        go_roundw
                        case rel => exact ⟨i + 1, by omega, by omega, by simp, HUP.out nq⟩
                        case measure => simp [intOf]; omega
                      · have hd : decide (u < v) = false := decide_eq_false hxy
                        have HST := hide (ST.out hxy)
                        clear UP ST
                        go_wp2_with fail
                        go_quiet ((go_at_call 80; exact (less_any _ _ _).mono fun _ _ h => ⟨h.1, _, h.2⟩))
                        have HS := hide (HST.out nq)
                        clear HST ca ci hxy hd
                        go_wp2_with fail
                        go_loopw [11] (fun v11 wr => ∃ j : Nat, i ≤ j + 1 ∧ j ≤ j0 ∧ v11 = .int .i64 (j : Int) ∧ Hid (∃ es, SR w wr g es rest ∧ SegP a b ds es ∧ PI a b i j es ∧ gt es a ≤ gt es i)) (fun v11 _ => (intOf v11).toNat)
                        case atStart => exact ⟨j0, by omega, by omega, rfl, by first | exact HS | exact HS.out | (have := HS.out; simpa using this)⟩
                        case round =>
                          clear HS
                          obtain ⟨j, hj1, hj2, rfl, HK⟩ := hrel
                          by_cases hij : i ≤ j
                          · have hij' : (i : Int) ≤ (j : Int) := by omega
                            have hgt : ¬ (j : Int) < (i : Int) := by omega
                            have hgtn : ¬ j < i := by omega
                            have hgtd : decide (j < i) = false := decide_eq_false hgtn
                            obtain ⟨es, h1, h2, h3, h4⟩ := HK.out
                            clear HK
                            have hel : es.length = n := by rw [h2.len, HN.out]
                            have ca := h1.cell (t := a) (by omega)
                            have ci := h1.cell (t := i) (by omega)
                            have cj := h1.cell (t := j) (by omega)
                            have fi := h1.free i
                            have fj := h1.free j
                            have SW : Hid (gt es j < gt es a → i < j ∧ ∀ q, ∃ fs, SR w (((wr.setCell ⟨g, i, none⟩ (.int .u64 (gt es j : Int))).setCell ⟨g, j, none⟩ (.int .u64 (gt es i : Int))).drewN q) g fs rest ∧ SegP a b ds fs ∧ PI a b (i + 1) (j - 1) fs) := fun hs => by
                              have hlt : i < j := by rcases Nat.lt_or_ge i j with h | h; exact h; exact absurd hs (by rw [show j = i by omega]; omega)
                              exact ⟨hlt, fun q => ⟨_, (h1.swap (by omega) (by omega)).drewN q, h2.trans (seg_swp (by omega) (by omega) (by omega) (by omega) (by omega)), pi_swap h3 hs h4 (by omega) hlt (by omega) (by omega)⟩⟩
                            have ST : Hid (¬ gt es j < gt es a → ∀ q, ∃ fs, SR w (wr.drewN q) g fs rest ∧ SegP a b ds fs ∧ PI a b i (j - 1) fs ∧ gt fs a ≤ gt fs i) := fun hs q => ⟨es, h1.drewN q, h2, pi_down h3 hs, h4⟩
                            generalize gt es a = v at *
                            generalize gt es j = z at *
                            generalize gt es i = u at *
                            clear h1 h2 h3 h4 hel
                            by_cases hxy : z < v
                            · have hd : decide (z < v) = true := decide_eq_true hxy
                              have hlt := (SW.out hxy).1
                              have HSW := hide (SW.out hxy).2
                              clear ST SW
                              go_wp2_with fail
                              go_quiet ((go_at_call 80; exact (less_any _ _ _).mono fun _ _ h => ⟨h.1, _, h.2⟩))
                              go_wp2_with fail
                              have HS := hide (HSW.out (nq + 1))
                              clear HSW
                              go_region
                              obtain ⟨j1, hj3⟩ : ∃ j1, j1 = j - 1 := ⟨_, rfl⟩
                              have hj4 : (j : Int) - 1 = (j1 : Int) := by omega
                              have hj5 : j1 < j ∧ i ≤ j1 := by omega
                              rw [← hj3] at HS
                              clear hj3
                              all_goals go_wp2_with fail
                              all_goals go_roundw
                              case rel => exact ⟨i + 1, j1, by omega, by omega, by omega, by simp, by first | rfl | simp, by first | exact HS | exact HS.out | (have := HS.out; simpa using this)⟩
                              case measure => simp [intOf]; omega
                            · have hd : decide (z < v) = false := decide_eq_false hxy
                              have HST := hide (ST.out hxy)
                              clear SW ST
                              go_wp2_with fail
                              go_quiet ((go_at_call 80; exact (less_any _ _ _).mono fun _ _ h => ⟨h.1, _, h.2⟩))
                              go_wp2_with fail
                              go_roundw
                              case rel => exact ⟨j - 1, by omega, by omega, by rw [show ((j - 1 : Nat) : Int) = (j : Int) - 1 by omega], HST.out nq⟩
                              case measure => simp [intOf]; omega
                          · have hij' : ¬ (i : Int) ≤ (j : Int) := by omega
                            have hijd : decide (i ≤ j) = false := decide_eq_false (by omega)
                            have hgtn : decide (j < i) = true := decide_eq_true (by omega)
                            have HS : Hid (∃ es, SR w wr g es rest ∧ SegP a b ds es ∧ PI a b (j + 1) j es) := by
                              obtain ⟨es, h1, h2, h3, _⟩ := HK.out
                              exact ⟨es, h1, h2, by rwa [show i = j + 1 by omega] at h3⟩
                            clear HK
                            have haj : a ≤ j ∧ j < b := by omega
                            go_wp2_with fail
                            go_quiet ((go_at_call 80; exact (less_any _ _ _).mono fun _ _ h => ⟨h.1, _, h.2⟩))
                            obtain ⟨es, h1, h2, h3⟩ := HS.out
                            clear HS
                            have hel : es.length = n := by rw [h2.len, HN.out]
                            have hes := h2.nodup HD.out
                            by_cases hja : j = a
                            · have hja2 := hja.symm
                              subst hja2
                              have ca := h1.cell (t := a) (by omega)
                              have fa := h1.free a
                              have SW : Hid (∀ q, SR w (((wr.setCell ⟨g, a, none⟩ (.int .u64 (gt es a : Int))).setCell ⟨g, a, none⟩ (.int .u64 (gt es a : Int))).drewN q) g (swp es a a) rest ∧ SegP a b ds (swp es a a) ∧ Parted a b a (swp es a a)) := fun q => ⟨(h1.swap (by omega) (by omega)).drewN q, h2.trans (seg_swp (by omega) (by omega) (by omega) (by omega) (by omega)), pi_final h3 hes (by omega) (by omega) (by omega)⟩
                              generalize swp es a a = fs at *
                              generalize gt es a = v at *
                              clear h1 h2 h3 hes hel
                              go_wp2_with fail
                              go_region
                              all_goals go_wp2_with fail
                              all_goals first | go_ret2 | (rw [Exit.noGoto_ret]; go_ret2)
                              all_goals exact ⟨a, false, fs, by omega, by omega, rfl, by first | exact SW.out (nq + 1) | (have := SW.out (nq + 1); simpa using this)⟩
                            · have ca := h1.cell (t := a) (by omega)
                              have fa := h1.free a
                              have cj := h1.cell (t := j) (by omega)
                              have fj := h1.free j
                              have SW : Hid (∀ q, SR w (((wr.setCell ⟨g, j, none⟩ (.int .u64 (gt es a : Int))).setCell ⟨g, a, none⟩ (.int .u64 (gt es j : Int))).drewN q) g (swp es j a) rest ∧ SegP a b ds (swp es j a) ∧ Parted a b j (swp es j a)) := fun q => ⟨(h1.swap (by omega) (by omega)).drewN q, h2.trans (seg_swp (by omega) (by omega) (by omega) (by omega) (by omega)), pi_final h3 hes (by omega) (by omega) (by omega)⟩
                              generalize swp es j a = fs at *
                              generalize gt es a = v at *
                              generalize gt es j = z at *
                              clear h1 h2 h3 hes hel
                              go_wp2_with fail
                              go_region
                              all_goals go_wp2_with fail
                              all_goals first | go_ret2 | (rw [Exit.noGoto_ret]; go_ret2)
                              all_goals exact ⟨j, false, fs, by omega, by omega, rfl, by first | exact SW.out (nq + 1) | (have := SW.out (nq + 1); simpa using this)⟩
                    · have hil' : ¬ (i : Int) ≤ (j0 : Int) := by omega
                      have HS : Hid (∃ es, SR w wr g es rest ∧ SegP a b ds es ∧ PI a b (j0 + 1) j0 es) := by
                        obtain ⟨es, h1, h2, h3⟩ := HI.out
                        exact ⟨es, h1, h2, by rwa [show i = j0 + 1 by omega] at h3⟩
                      clear HI
                      go_wp2_with fail
                      go_quiet ((go_at_call 80; exact (less_any _ _ _).mono fun _ _ h => ⟨h.1, _, h.2⟩))
                      have HS := hide (show ∃ es, SR w (wr.drewN nq) g es rest ∧ SegP a b ds es ∧ PI a b (j0 + 1) j0 es by obtain ⟨es, h1, h2, h3⟩ := HS.out; exact ⟨es, h1.drewN nq, h2, h3⟩)
                      go_wp2_with fail
                      go_loopw [11] (fun v11 wr => ∃ j : Nat, j = j0 ∧ v11 = .int .i64 (j : Int) ∧ Hid (∃ es, SR w wr g es rest ∧ SegP a b ds es ∧ PI a b (j + 1) j es)) (fun _ _ => 0)
                      case atStart => exact ⟨j0, rfl, rfl, by first | exact HS | exact HS.out | (have := HS.out; simpa using this)⟩
                      case round =>
                        clear HS
                        obtain ⟨j, hj1, rfl, HS⟩ := hrel
                        have hij' : ¬ (i : Int) ≤ (j : Int) := by omega
                        have hijd : decide (i ≤ j) = false := decide_eq_false (by omega)
                        have hgtn : decide (j < i) = true := decide_eq_true (by omega)
                        have haj : a ≤ j ∧ j < b := by omega
                        clear hj1
                        go_wp2_with fail
                        go_quiet ((go_at_call 80; exact (less_any _ _ _).mono fun _ _ h => ⟨h.1, _, h.2⟩))
                        obtain ⟨es, h1, h2, h3⟩ := HS.out
                        clear HS
                        have hel : es.length = n := by rw [h2.len, HN.out]
                        have hes := h2.nodup HD.out
                        by_cases hja : j = a
                        · have hja2 := hja.symm
                          subst hja2
                          have ca := h1.cell (t := a) (by omega)
                          have fa := h1.free a
                          have SW : Hid (∀ q, SR w (((wr.setCell ⟨g, a, none⟩ (.int .u64 (gt es a : Int))).setCell ⟨g, a, none⟩ (.int .u64 (gt es a : Int))).drewN q) g (swp es a a) rest ∧ SegP a b ds (swp es a a) ∧ Parted a b a (swp es a a)) := fun q => ⟨(h1.swap (by omega) (by omega)).drewN q, h2.trans (seg_swp (by omega) (by omega) (by omega) (by omega) (by omega)), pi_final h3 hes (by omega) (by omega) (by omega)⟩
                          generalize swp es a a = fs at *
                          generalize gt es a = v at *
                          clear h1 h2 h3 hes hel
                          go_wp2_with fail
                          go_region
                          all_goals go_wp2_with fail
                          all_goals first | go_ret2 | (rw [Exit.noGoto_ret]; go_ret2)
                          all_goals exact ⟨a, false, fs, by omega, by omega, rfl, by first | exact SW.out (nq + 1) | (have := SW.out (nq + 1); simpa using this)⟩
                        · have ca := h1.cell (t := a) (by omega)
                          have fa := h1.free a
                          have cj := h1.cell (t := j) (by omega)
                          have fj := h1.free j
                          have SW : Hid (∀ q, SR w (((wr.setCell ⟨g, j, none⟩ (.int .u64 (gt es a : Int))).setCell ⟨g, a, none⟩ (.int .u64 (gt es j : Int))).drewN q) g (swp es j a) rest ∧ SegP a b ds (swp es j a) ∧ Parted a b j (swp es j a)) := fun q => ⟨(h1.swap (by omega) (by omega)).drewN q, h2.trans (seg_swp (by omega) (by omega) (by omega) (by omega) (by omega)), pi_final h3 hes (by omega) (by omega) (by omega)⟩
                          generalize swp es j a = fs at *
                          generalize gt es a = v at *
                          generalize gt es j = z at *
                          clear h1 h2 h3 hes hel
                          go_wp2_with fail
                          go_region
                          all_goals go_wp2_with fail
                          all_goals first | go_ret2 | (rw [Exit.noGoto_ret]; go_ret2)
                          all_goals exact ⟨j, false, fs, by omega, by omega, rfl, by first | exact SW.out (nq + 1) | (have := SW.out (nq + 1); simpa using this)⟩
              · have hd : decide (z < v) = false := decide_eq_false hxy
                have HST := hide (ST.out hxy)
                clear SW ST
                go_wp2_with fail
                go_quiet ((go_at_call 80; exact (less_any _ _ _).mono fun _ _ h => ⟨h.1, _, h.2⟩))
                go_wp2_with fail
                go_roundw
                case rel => exact ⟨j - 1, by omega, by omega, by rw [show ((j - 1 : Nat) : Int) = (j : Int) - 1 by omega], HST.out nq⟩
                case measure => simp [intOf]; omega
            · have hij' : ¬ (i : Int) ≤ (j : Int) := by omega
              have hijd : decide (i ≤ j) = false := decide_eq_false (by omega)
              have hgtn : decide (j < i) = true := decide_eq_true (by omega)
              have HS : Hid (∃ es, SR w wr g es rest ∧ SegP a b ds es ∧ PI a b (j + 1) j es) := by
                obtain ⟨es, h1, h2, h3, _⟩ := HK.out
                exact ⟨es, h1, h2, by rwa [show i = j + 1 by omega] at h3⟩
              clear HK
              have haj : a ≤ j ∧ j < b := by omega
              go_wp2_with fail
              go_quiet ((go_at_call 80; exact (less_any _ _ _).mono fun _ _ h => ⟨h.1, _, h.2⟩))
              obtain ⟨es, h1, h2, h3⟩ := HS.out
              clear HS
              have hel : es.length = n := by rw [h2.len, HN.out]
              have hes := h2.nodup HD.out
              by_cases hja : j = a
              · have hja2 := hja.symm
                subst hja2
                have ca := h1.cell (t := a) (by omega)
                have fa := h1.free a
                have SW : Hid (∀ q, SR w (((wr.setCell ⟨g, a, none⟩ (.int .u64 (gt es a : Int))).setCell ⟨g, a, none⟩ (.int .u64 (gt es a : Int))).drewN q) g (swp es a a) rest ∧ SegP a b ds (swp es a a) ∧ Parted a b a (swp es a a)) := fun q => ⟨(h1.swap (by omega) (by omega)).drewN q, h2.trans (seg_swp (by omega) (by omega) (by omega) (by omega) (by omega)), pi_final h3 hes (by omega) (by omega) (by omega)⟩
                generalize swp es a a = fs at *
                generalize gt es a = v at *
                clear h1 h2 h3 hes hel
                go_wp2_with fail
                go_region
                all_goals go_wp2_with fail
                all_goals first | go_ret2 | (rw [Exit.noGoto_ret]; go_ret2)
                all_goals exact ⟨a, true, fs, by omega, by omega, rfl, by first | exact SW.out (nq + 1) | (have := SW.out (nq + 1); simpa using this)⟩
              · have ca := h1.cell (t := a) (by omega)
                have fa := h1.free a
                have cj := h1.cell (t := j) (by omega)
                have fj := h1.free j
                have SW : Hid (∀ q, SR w (((wr.setCell ⟨g, j, none⟩ (.int .u64 (gt es a : Int))).setCell ⟨g, a, none⟩ (.int .u64 (gt es j : Int))).drewN q) g (swp es j a) rest ∧ SegP a b ds (swp es j a) ∧ Parted a b j (swp es j a)) := fun q => ⟨(h1.swap (by omega) (by omega)).drewN q, h2.trans (seg_swp (by omega) (by omega) (by omega) (by omega) (by omega)), pi_final h3 hes (by omega) (by omega) (by omega)⟩
                generalize swp es j a = fs at *
                generalize gt es a = v at *
                generalize gt es j = z at *
                clear h1 h2 h3 hes hel
                go_wp2_with fail
                go_region
                all_goals go_wp2_with fail
                all_goals first | go_ret2 | (rw [Exit.noGoto_ret]; go_ret2)
                all_goals exact ⟨j, true, fs, by omega, by omega, rfl, by first | exact SW.out (nq + 1) | (have := SW.out (nq + 1); simpa using this)⟩
      · have hil' : ¬ (i : Int) ≤ (jb : Int) := by omega
        have HS : Hid (∃ es, SR w wr g es rest ∧ SegP a b ds es ∧ PI a b (jb + 1) jb es) := by
          obtain ⟨es, h1, h2, h3⟩ := HI.out
          exact ⟨es, h1, h2, by rwa [show i = jb + 1 by omega] at h3⟩
        clear HI
        go_wp2_with fail
        go_quiet ((go_at_call 80; exact (less_any _ _ _).mono fun _ _ h => ⟨h.1, _, h.2⟩))
        have HS := hide (show ∃ es, SR w (wr.drewN nq) g es rest ∧ SegP a b ds es ∧ PI a b (jb + 1) jb es by obtain ⟨es, h1, h2, h3⟩ := HS.out; exact ⟨es, h1.drewN nq, h2, h3⟩)
        go_wp2_with fail
        go_loopw [11] (fun v11 wr => ∃ j : Nat, j = jb ∧ v11 = .int .i64 (j : Int) ∧ Hid (∃ es, SR w wr g es rest ∧ SegP a b ds es ∧ PI a b (j + 1) j es)) (fun _ _ => 0)
        case atStart => exact ⟨jb, rfl, rfl, by first | exact HS | exact HS.out | (have := HS.out; simpa using this)⟩
        case round =>
          clear HS
          obtain ⟨j, hj1, rfl, HS⟩ := hrel
          have hij' : ¬ (i : Int) ≤ (j : Int) := by omega
          have hijd : decide (i ≤ j) = false := decide_eq_false (by omega)
          have hgtn : decide (j < i) = true := decide_eq_true (by omega)
          have haj : a ≤ j ∧ j < b := by omega
          clear hj1
          go_wp2_with fail
          go_quiet ((go_at_call 80; exact (less_any _ _ _).mono fun _ _ h => ⟨h.1, _, h.2⟩))
          obtain ⟨es, h1, h2, h3⟩ := HS.out
          clear HS
          have hel : es.length = n := by rw [h2.len, HN.out]
          have hes := h2.nodup HD.out
          by_cases hja : j = a
          · have hja2 := hja.symm
            subst hja2
            have ca := h1.cell (t := a) (by omega)
            have fa := h1.free a
            have SW : Hid (∀ q, SR w (((wr.setCell ⟨g, a, none⟩ (.int .u64 (gt es a : Int))).setCell ⟨g, a, none⟩ (.int .u64 (gt es a : Int))).drewN q) g (swp es a a) rest ∧ SegP a b ds (swp es a a) ∧ Parted a b a (swp es a a)) := fun q => ⟨(h1.swap (by omega) (by omega)).drewN q, h2.trans (seg_swp (by omega) (by omega) (by omega) (by omega) (by omega)), pi_final h3 hes (by omega) (by omega) (by omega)⟩
            generalize swp es a a = fs at *
            generalize gt es a = v at *
            clear h1 h2 h3 hes hel
            go_wp2_with fail
            go_region
            all_goals go_wp2_with fail
            all_goals first | go_ret2 | (rw [Exit.noGoto_ret]; go_ret2)
            all_goals exact ⟨a, true, fs, by omega, by omega, rfl, by first | exact SW.out (nq + 1) | (have := SW.out (nq + 1); simpa using this)⟩
          · have ca := h1.cell (t := a) (by omega)
            have fa := h1.free a
            have cj := h1.cell (t := j) (by omega)
            have fj := h1.free j
            have SW : Hid (∀ q, SR w (((wr.setCell ⟨g, j, none⟩ (.int .u64 (gt es a : Int))).setCell ⟨g, a, none⟩ (.int .u64 (gt es j : Int))).drewN q) g (swp es j a) rest ∧ SegP a b ds (swp es j a) ∧ Parted a b j (swp es j a)) := fun q => ⟨(h1.swap (by omega) (by omega)).drewN q, h2.trans (seg_swp (by omega) (by omega) (by omega) (by omega) (by omega)), pi_final h3 hes (by omega) (by omega) (by omega)⟩
            generalize swp es j a = fs at *
            generalize gt es a = v at *
            generalize gt es j = z at *
            clear h1 h2 h3 hes hel
            go_wp2_with fail
            go_region
            all_goals go_wp2_with fail
            all_goals first | go_ret2 | (rw [Exit.noGoto_ret]; go_ret2)
            all_goals exact ⟨j, true, fs, by omega, by omega, rfl, by first | exact SW.out (nq + 1) | (have := SW.out (nq + 1); simpa using this)⟩
end Go.Proofs.Ytmngmkbiibhmkaa
