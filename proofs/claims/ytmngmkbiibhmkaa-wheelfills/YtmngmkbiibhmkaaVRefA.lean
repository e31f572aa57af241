/- The document's wheel in memory; its find, At, New, Next. -/
import Derived.Test.YtmngmkbiibhmkaaVOnceF
import Derived.Test.YtmngmkbiibhmkaaVOnceM
namespace Go.Proofs.Ytmngmkbiibhmkaa
open Go.RowKit Go.Maps

/-- The document's wheel at rp, its list v. -/
structure RefAt (w : World) (rp now : Nat) (v : Value) (L : List Tm) : Prop where
  box : Bl w rp [v, .int .u64 (now : Int)] 45
  own : ROwn w 0 v L
  ne : ∀ g, v.ownBlock = some g → g ≠ rp
theorem RefAt.lt {w : World} {rp now : Nat} {v : Value} {L : List Tm} (h : RefAt w rp now v L) : rp < w.heap.size := h.box.lt
theorem RefAt.same {w w' : World} {rp now : Nat} {v : Value} {L : List Tm} (h : RefAt w rp now v L) (h1 : w'.heap[rp]? = w.heap[rp]?) (h2 : ∀ g, v.ownBlock = some g → w'.heap[g]? = w.heap[g]?) : RefAt w' rp now v L := ⟨h1.trans h.box, h.own.same h2, h.ne⟩
theorem RefAt.keep {w w' : World} {rp now : Nat} {v : Value} {L : List Tm} (h : RefAt w rp now v L) (hb : Below w.heap.size w w') : RefAt w' rp now v L := h.same (hb.block _ h.lt) fun g hg => hb.block g (h.own.lt g hg).2
theorem RefAt.fr {w w' : World} {rp now : Nat} {v : Value} {L : List Tm} {fp : List Nat} (h : RefAt w rp now v L) (hf : Fr fp w w') (h1 : rp ∉ fp) (h2 : ∀ g, v.ownBlock = some g → g ∉ fp) : RefAt w' rp now v L := h.same (hf.block _ h.lt h1) fun g hg => hf.block g (h.own.lt g hg).2 (h2 g hg)
/-- Its list, read. -/
theorem RefAt.form {w : World} {rp now : Nat} {v : Value} {L : List Tm} (h : RefAt w rp now v L) : ∃ ao c, v = .slice ao L.length c ∧ L.length ≤ c ∧ RRow w ao L ∧ w.cell? ⟨rp, 0, none⟩ = some (.slice ao L.length c) ∧ w.cell? ⟨rp, 1, none⟩ = some (.int .u64 (now : Int)) := by
  obtain ⟨ao, c, rfl, hc, hr⟩ := h.own.read
  exact ⟨ao, c, rfl, hc, hr, h.box.cell 0, h.box.cell 1⟩
def Found (id : Nat) (L : List Tm) (z : Int) : Prop := (z = -1 ∧ tget id L = none) ∨ ∃ (i a : Nat), z = (i : Int) ∧ L[i]? = some (id, a) ∧ tget id L = some a
set_option maxHeartbeats 2000000 in
set_option maxRecDepth 100000 in
theorem rfind_any (rp now id : Nat) (v : Value) (L : List Tm) (w : World) (h : RefAt w rp now v L) (hl : L.length ≤ 8192) :
    Calls Try.prog 33 #[pw rp, .int .u64 (id : Int)] w fun e w' => ∃ z : Int, e = .returned (.int .i64 z) ∧ w' = w ∧ Hid (Found id L z) := by
  obtain ⟨ao, c, rfl, _, hr, c0, c1⟩ := h.form
  have HA : Hid (∀ (i : Nat) (x : Tm), L[i]? = some x → (∀ p ∈ L.take i, p.1 ≠ id) → x.1 = id → tget id L = some x.2) := fun i x h1 h2 h3 => tget_take h1 h2 h3
  have HB : Hid ((∀ p ∈ L, p.1 ≠ id) → tget id L = none) := fun h => tget_none_of h
  have HR := hide hr
  obtain ⟨n, hn⟩ : ∃ n, n = L.length := ⟨_, rfl⟩
  rw [← hn] at c0 hl
  have HN := hide hn
  clear h hr hn
  unfold pw
  go_enter Try.func33, Try.ntmps33
  go_wp2_with fail
  go_loop [5] (fun v5 => ∃ i : Nat, i ≤ n ∧ v5 = .int .i64 (i : Int) ∧ Hid (∀ p ∈ L.take i, p.1 ≠ id)) (fun v5 => n - (intOf v5).toNat)
  case atStart => exact ⟨0, by omega, rfl, fun p hp => by simp at hp⟩
  case round =>
    obtain ⟨i, hi, rfl, HO⟩ := hrel
    by_cases hin : i < n
    · obtain ⟨x, hx⟩ : ∃ x, L[i]? = some x := ⟨_, List.getElem?_eq_getElem (by have := HN.out; omega)⟩
      obtain ⟨b, off, rfl, d0, d1⟩ := HR.out.at hx
      have hil : (i : Int) < (n : Int) := by omega
      have HX := hide hx
      obtain ⟨x1, x2⟩ := x
      simp only at d0 d1
      clear hx
      by_cases hxi : x1 = id
      · subst hxi
        have HE : Hid (Found x1 L (i : Int)) := hide (.inr ⟨i, x2, rfl, HX.out, HA.out i _ HX.out HO.out rfl⟩)
        go_wp2_with fail
        go_ret
        exact ⟨_, rfl, rfl, HE⟩
      · have hb : ((x1 : Int) == (id : Int)) = false := by simp; omega
        have HO2 : Hid (∀ p ∈ L.take (i + 1), p.1 ≠ id) := fun p hp => by
          rw [List.take_add_one, HX.out] at hp
          rcases List.mem_append.1 hp with h | h
          · exact HO.out p h
          · have : p = (x1, x2) := by simpa using h
            rw [this]; exact hxi
        go_wp2_with fail
        go_round
        case rel => exact ⟨i + 1, by omega, by go_num, HO2⟩
        case measure => simp [intOf]; omega
    · have hil : ¬ (i : Int) < (n : Int) := by omega
      have HE : Hid (Found id L (-1)) := hide (.inl ⟨rfl, HB.out (by have := HO.out; rwa [List.take_of_length_le (by have := HN.out; omega)] at this)⟩)
      go_wp2_with fail
      go_ret
      exact ⟨_, rfl, rfl, HE⟩
set_option maxHeartbeats 2000000 in
set_option maxRecDepth 100000 in
theorem rat_any (rp now id : Nat) (v : Value) (L : List Tm) (w : World) (h : RefAt w rp now v L) (hl : L.length ≤ 8192) :
    Calls Try.prog 28 #[pw rp, .int .u64 (id : Int)] w fun e w' => e = .returned (.tuple #[.int .u64 (((tget id L).getD 0 : Nat) : Int), .bool (tget id L).isSome]) ∧ w' = w := by
  have HC := hide (rfind_any rp now id v L w h hl)
  obtain ⟨ao, c, rfl, _, hr, c0, c1⟩ := h.form
  have HR := hide hr
  have HL := hide hl
  obtain ⟨n, hn⟩ : ∃ n, n = L.length := ⟨_, rfl⟩
  rw [← hn] at c0
  have HN := hide hn
  obtain ⟨r, hrr⟩ : ∃ r, r = tget id L := ⟨_, rfl⟩
  rw [← hrr]
  have HRR := hide hrr
  clear h hr hn hl hrr
  unfold pw at HC ⊢
  go_enter Try.func28, Try.ntmps28
  go_upto_region 2 with (go_at_call 33; refine HC.out.mono ?_; rintro e wx ⟨z, rfl, hwx, HZ⟩; have hwy := hwx.symm; subst hwy; clear hwx)
  rcases HZ.out with ⟨rfl, hg⟩ | ⟨i, a, rfl, hx, hg⟩
  · have HG := hide (HRR.out.trans hg)
    clear hg HZ
    go_wp2_with fail
    go_ret2
    exact ⟨by rw [HG.out]; rfl, rfl⟩
  · have HG := hide (HRR.out.trans hg)
    obtain ⟨b, off, rfl, d0, d1⟩ := HR.out.at hx
    have hin : i < n := by have := (List.getElem?_eq_some_iff.1 hx).1; have := HN.out; omega
    have hil : (i : Int) < (n : Int) := by omega
    have hi0 : ¬ (i : Int) < 0 := by omega
    simp only at d1
    clear hg HZ hx
    go_wp2_with fail
    go_ret2
    exact ⟨by rw [HG.out]; rfl, rfl⟩
set_option maxHeartbeats 2000000 in
set_option maxRecDepth 100000 in
theorem rnew_any (now : Nat) (w : World) : Calls Try.prog 8 #[.int .u64 (now : Int)] w fun e w' => ∃ rp, e = .returned (pw rp) ∧ RefAt w' rp now (.slice none 0 0) [] ∧ w.heap.size ≤ rp ∧ Below w.heap.size w w' := by
  have HB := hide (Bl.new w #[.slice none 0 0, .int .u64 (now : Int)] 45)
  have HW := hide (below_new w (.cells #[.slice none 0 0, .int .u64 (now : Int)] 45))
  go_enter Try.func8, Try.ntmps8
  go_wp2_with fail
  go_ret
  exact ⟨_, rfl, ⟨HB.out, rown_nil _ _, fun g hg => by cases hg⟩, Nat.le_refl _, HW.out⟩
/-- The least time of a list of timers. -/
def IsLeast (m : Nat) (L : List Tm) : Prop := (∃ p ∈ L, p.2 = m) ∧ ∀ p ∈ L, m ≤ p.2
theorem IsLeast.uniq {m m' : Nat} {L : List Tm} (h : IsLeast m L) (h' : IsLeast m' L) : m = m' := by
  obtain ⟨⟨p, hp, e⟩, h2⟩ := h
  obtain ⟨⟨q, hq, e'⟩, h2'⟩ := h'
  have := h2 q hq
  have := h2' p hp
  omega
/-- The least of the first k times. -/
def MI (L : List Tm) (k m : Nat) : Prop := (∃ p ∈ L, p.2 = m) ∧ ∀ p ∈ L.take k, m ≤ p.2
set_option maxHeartbeats 2000000 in
set_option maxRecDepth 100000 in
theorem rnext_some (rp now : Nat) (v : Value) (L : List Tm) (w : World) (h : RefAt w rp now v L) (hl : L.length ≤ 8192) (hne : L ≠ []) :
    Calls Try.prog 30 #[pw rp] w fun e w' => ∃ m : Nat, e = .returned (.tuple #[.int .u64 (m : Int), .bool true]) ∧ w' = w ∧ Hid (IsLeast m L) := by
  obtain ⟨ao, c, rfl, _, hr, c0, c1⟩ := h.form
  have HR := hide hr
  obtain ⟨n, hn⟩ : ∃ n, n = L.length := ⟨_, rfl⟩
  rw [← hn] at c0 hl
  have HN := hide hn
  have hn0 : 0 < n := by
    rcases Nat.eq_zero_or_pos n with h0 | h0
    · exact absurd (List.length_eq_zero_iff.1 (hn.symm.trans h0)) hne
    · exact h0
  obtain ⟨x, hx⟩ : ∃ x, L[0]? = some x := ⟨_, List.getElem?_eq_getElem (by omega)⟩
  obtain ⟨b, off, rfl, d0, d1⟩ := hr.at hx
  have HX : Hid (x ∈ L) := hide (List.mem_of_getElem? hx)
  obtain ⟨x1, x2⟩ := x
  rw [Nat.zero_mul, Nat.add_zero] at d1
  simp only at d1
  have hnz : ((n : Int) == 0) = false := by simp; omega
  have hnp : (0 : Int) < (n : Int) := by omega
  clear h hr hn hne hx d0
  unfold pw
  go_enter Try.func30, Try.ntmps30
  go_wp2_with fail
  go_loop [4, 5] (fun v4 v5 => ∃ i m : Nat, i ≤ n ∧ v5 = .int .i64 (i : Int) ∧ v4 = .int .u64 (m : Int) ∧ Hid (MI L i m)) (fun _ v5 => n - (intOf v5).toNat)
  case atStart => exact ⟨0, x2, by omega, rfl, rfl, ⟨_, HX.out, rfl⟩, fun p hp => by simp at hp⟩
  case round =>
    obtain ⟨i, m, hi, rfl, rfl, HI⟩ := hrel
    clear d1 HX
    by_cases hin : i < n
    · have hil : (i : Int) < (n : Int) := by omega
      obtain ⟨y, hy⟩ : ∃ y, L[i]? = some y := ⟨_, List.getElem?_eq_getElem (by have := HN.out; omega)⟩
      obtain ⟨b', off', e0, d0, d1⟩ := HR.out.at hy
      cases e0
      obtain ⟨y1, y2⟩ := y
      simp only at d1
      have HT : Hid (L.take (i + 1) = L.take i ++ [(y1, y2)]) := hide (by rw [List.take_add_one, hy]; rfl)
      have HY : Hid ((y1, y2) ∈ L) := hide (List.mem_of_getElem? hy)
      clear d0 hy
      by_cases hlt : y2 < m
      · have hlt' : (y2 : Int) < (m : Int) := by omega
        have HNX : Hid (MI L (i + 1) y2) := hide ⟨⟨_, HY.out, rfl⟩, fun p hp => by
          rw [HT.out] at hp
          rcases List.mem_append.1 hp with h | h
          · have := HI.out.2 p h; omega
          · have : p = (y1, y2) := by simpa using h
            rw [this]; exact Nat.le_refl _⟩
        clear hlt
        go_wp2_with fail
        go_round
        case rel => exact ⟨i + 1, y2, by omega, by go_num, rfl, HNX⟩
        case measure => simp [intOf]; omega
      · have hlt' : ¬ (y2 : Int) < (m : Int) := by omega
        have HNX : Hid (MI L (i + 1) m) := hide ⟨HI.out.1, fun p hp => by
          rw [HT.out] at hp
          rcases List.mem_append.1 hp with h | h
          · exact HI.out.2 p h
          · have : p = (y1, y2) := by simpa using h
            rw [this]; simp only; omega⟩
        clear hlt
        go_wp2_with fail
        go_round
        case rel => exact ⟨i + 1, m, by omega, by go_num, rfl, HNX⟩
        case measure => simp [intOf]; omega
    · have hil : ¬ (i : Int) < (n : Int) := by omega
      have HE : Hid (IsLeast m L) := hide (by
        have := HI.out
        unfold MI at this
        rwa [List.take_of_length_le (by have := HN.out; omega)] at this)
      go_wp2_with fail
      go_ret2
      exact ⟨m, rfl, rfl, HE⟩
set_option maxHeartbeats 2000000 in
set_option maxRecDepth 100000 in
theorem rnext_none (rp now : Nat) (v : Value) (w : World) (h : RefAt w rp now v []) :
    Calls Try.prog 30 #[pw rp] w fun e w' => e = .returned (.tuple #[.int .u64 0, .bool false]) ∧ w' = w := by
  obtain ⟨ao, c, rfl, _, hr, c0, c1⟩ := h.form
  simp only [List.length_nil] at c0
  clear h hr
  unfold pw
  go_enter Try.func30, Try.ntmps30
  go_wp2_with fail
  go_ret2
  exact ⟨rfl, rfl⟩
end Go.Proofs.Ytmngmkbiibhmkaa
