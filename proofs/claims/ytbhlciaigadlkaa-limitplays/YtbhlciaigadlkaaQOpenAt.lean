/- openAt, firstOver: how many windows are open, and when the first is over. -/
import Derived.Test.YtbhlciaigadlkaaQGoTo
namespace Go.Proofs.Ytbhlciaigadlkaa
open Go.RowKit Go.Maps

def Seen (left : Lit → Bool) (d : Tab) : Tab := d.filter fun p => !left (.string p.1)
theorem seen_step {g : Nm × (Nat × Nat) → Nat → Nat} (hg : ∀ p q x, g p (g q x) = g q (g p x)) (x0 : Nat) {left : Lit → Bool} {nm : Nm} {v : Nat × Nat} (hl : left (.string nm) = true) : ∀ {d : Tab}, Rising d → (nm, v) ∈ d →
    (Seen (fun z => left z && !z.sameKey (.string nm)) d).foldr g x0 = g (nm, v) ((Seen left d).foldr g x0)
  | [], _, hm => by cases hm
  | y :: r, hr, hm => by
    have hr' : Rising r := (List.pairwise_cons.1 hr).2
    by_cases e : y.1 = nm
    · have ey : y = (nm, v) := hr.inj (by simp) hm e
      have h1 : ∀ p ∈ r, p.1 ≠ nm := fun p hp e2 => by
        have := (List.pairwise_cons.1 hr).1 p hp
        rw [e, e2, WideAt.bytes_irrefl] at this
        cases this
      have h2 : Seen (fun z => left z && !z.sameKey (.string nm)) r = Seen left r := by
        unfold Seen
        apply List.filter_congr
        intro p hp
        have e' : (p.1 == nm) = false := by simpa using h1 p hp
        simp [same_str, e']
      rw [show Seen (fun z => left z && !z.sameKey (.string nm)) (y :: r) = y :: Seen (fun z => left z && !z.sameKey (.string nm)) r from List.filter_cons_of_pos (by simp [same_str, e]), show Seen left (y :: r) = Seen left r from List.filter_cons_of_neg (by rw [e, hl]; simp), h2, List.foldr_cons, ey]
    · have hm' : (nm, v) ∈ r := by
        rcases List.mem_cons.1 hm with h | h
        · rw [← h] at e; exact absurd rfl e
        · exact h
      have ih := seen_step hg x0 hl hr' hm'
      have e' : (y.1 == nm) = false := by simpa using e
      by_cases hy : left (.string y.1) = true
      · rw [show Seen (fun z => left z && !z.sameKey (.string nm)) (y :: r) = Seen (fun z => left z && !z.sameKey (.string nm)) r from List.filter_cons_of_neg (by simp [same_str, e', hy]), show Seen left (y :: r) = Seen left r from List.filter_cons_of_neg (by simp [hy]), ih]
      · rw [show Seen (fun z => left z && !z.sameKey (.string nm)) (y :: r) = y :: Seen (fun z => left z && !z.sameKey (.string nm)) r from List.filter_cons_of_pos (by simp [same_str, e', hy]), show Seen left (y :: r) = y :: Seen left r from List.filter_cons_of_pos (by simp [hy]), List.foldr_cons, List.foldr_cons, ih, hg]
theorem seen_start (bl : Nm → Nat) {d : Tab} (hr : Rising d) : Seen (Maps.has (DL bl d)) d = [] := by
  unfold Seen
  rw [List.filter_eq_nil_iff]
  intro p hp
  rw [dl_has, tget_of hr (show (p.1, p.2) ∈ d from hp)]
  simp
theorem seen_end {left : Lit → Bool} (h : ∀ nm, left (.string nm) = false) (d : Tab) : Seen left d = d := by
  unfold Seen
  rw [List.filter_eq_self]
  intro p hp
  rw [h]; rfl
def gC (win t : Nat) (p : Nm × (Nat × Nat)) (x : Nat) : Nat := if opens win t p then x + 1 else x
theorem gC_comm (win t : Nat) : ∀ p q x, gC win t p (gC win t q x) = gC win t q (gC win t p x) := by
  intro p q x
  unfold gC
  split <;> split <;> simp
theorem gC_all (win t : Nat) : ∀ d : Tab, d.foldr (gC win t) 0 = (d.filter (opens win t)).length
  | [] => rfl
  | y :: r => by
    rw [List.foldr_cons, gC_all win t r, List.filter_cons]
    unfold gC
    split <;> simp
theorem gC_le (win t : Nat) : ∀ d : Tab, d.foldr (gC win t) 0 ≤ d.length
  | [] => Nat.le_refl _
  | y :: r => by
    have := gC_le win t r
    rw [List.foldr_cons, List.length_cons]
    unfold gC
    split
    · exact Nat.succ_le_succ this
    · exact Nat.le_succ_of_le this
def gM (win t : Nat) (p : Nm × (Nat × Nat)) (m : Nat) : Nat := min m (restN win p.2.1 t)
theorem gM_comm (win t : Nat) : ∀ p q x, gM win t p (gM win t q x) = gM win t q (gM win t p x) := by
  intro p q x
  unfold gM
  omega
set_option maxHeartbeats 4000000 in
set_option maxRecDepth 100000 in
theorem openAt_any (lp t : Nat) (S : LS) (Y : Lay) (w : World) (h : Rep w lp S Y) (hc : S.clock ≤ t) (ht : t < 18446744073709551616) :
    Calls Try.prog 41 #[pf lp, .int .u64 (t : Int)] w fun e w' => e = .returned (.int .i64 (S.openAt t : Int)) ∧ Below w.heap.size w w' := by
  have c3 := h.c3
  have c4 := h.c4
  by_cases he : t = S.clock
  · subst he
    rw [openAt_clock h.ok]
    have hlen := fun ty => h.map.len ty
    generalize S.tab.length = n at *
    clear h hc
    unfold pf
    go_enter Try.func41, Try.ntmps41
    go_wp2
    go_ret
    exact ⟨rfl, Below.refl _ _⟩
  · have he' : ((t : Int) == (S.clock : Int)) = false := by simp; omega
    have HH := hide h
    have HT := hide ht
    have HC := hide hc
    have HRI := hide h.ok.rising
    have HLEN : Hid (S.tab.length ≤ 4096) := hide (Nat.le_trans h.ok.len h.ok.subs2)
    rw [show S.openAt t = S.tab.foldr (gC S.win t) 0 from (gC_all S.win t S.tab).symm]
    clear h hc ht he
    unfold pf
    go_enter Try.func41, Try.ntmps41
    go_wp2_with (first
      | (at_range; refine wpList_range_own _ rfl _ 52 rfl 9 67 law Try.underlying52 rp Y.mp S.tab.length (DL Y.bl S.tab) rfl HH.out.map ?_; intro w0 hrg0 hg0 hs0; have HR0 := hide hrg0; have HG0 := hide hg0; have HS0 := hide hs0; clear hrg0 hg0 hs0)
      | go_in)
    go_frame
    obtain ⟨r, hr⟩ : ∃ r, r = w.heap.size := ⟨_, rfl⟩
    rw [← hr] at HR0 ⊢
    have HR : Hid (w.heap.size ≤ r) := hide (by rw [hr]; exact Nat.le_refl _)
    clear hr
    go_loopw [5, 7] (fun c _ wr => ∃ n : Nat, c = .int .i64 (n : Int) ∧ Hid (∃ (left : Lit → Bool) (cnt : Nat), wr.ranges Try.prog 9 rp Y.mp r S.tab.length (DL Y.bl S.tab) left cnt ∧ n = (Seen left S.tab).foldr (gC S.win t) 0 ∧ Below w.heap.size w wr))
      (fun _ _ wr => wr.rangeLeft Y.mp r)
    case atStart =>
      exact ⟨0, rfl, hide ⟨_, _, HR0.out, by rw [seen_start _ HRI.out]; rfl, (Fr.nil (Fr.grown HG0.out (fun j e => by cases e)))⟩⟩
    case round =>
      obtain ⟨n, hn, hrel⟩ := hrel
      subst hn
      obtain ⟨left, cnt, hrg, hn, hf⟩ := hrel.out
      have HRG := hide hrg
      have HN := hide hn
      have HFR := hide hf
      clear hrel hrg hn hf
      go_wp2_with (first
        | (at_next; refine wpList_next_tab rfl _ rfl Y.mp r S.tab.length Y.bl _ _ _ rfl HRG.out ?_ ?_)
        | go_in)
      · intro hl0
        have HL0 := hide hl0
        clear hl0
        go_wp2
        go_ret
        refine ⟨ret_int ?_, HFR.out⟩
        rw [HN.out, seen_end HL0.out]
      · intro nm since c w2 cnt2 hnl hgt hlx hrg2 hlt hf2 hen
        have hmem := tget_some hgt
        have HB2 := hide (HFR.out.trans (hf2.below w.heap.size HFR.out.size (fun x hx => by rw [List.mem_singleton.1 hx]; exact HR.out)))
        have HRG2 := hide hrg2
        have HLT2 := hide hlt
        have HLX := hide hlx
        have HMEM := hide hmem
        have hrep := HH.out.below HB2.out
        have HC1 := hide (rest_any lp (Y.bl nm) S.win since t w2 hrep.c1 ((hrep.att _ hmem).cell 0) (by have := (hrep.ok.each _ hmem).1; have := HC.out; simp only at *; omega) HT.out hrep.ok.win2)
        have HOP := hide (rest_open S.win since t nm c)
        have HST := hide (seen_step (gC_comm S.win t) 0 HLX.out HRI.out HMEM.out)
        rw [← HN.out] at HST
        have HNB : Hid (n ≤ 4096) := hide (by
          rw [HN.out]
          refine Nat.le_trans (gC_le _ _ _) (Nat.le_trans ?_ HLEN.out)
          exact List.length_filter_le _ _)
        have hwr : IntKind.i64.wrap ((n : Int) + 1) = ((n + 1 : Nat) : Int) := by have := HNB.out; rw [IntKind.wrap_i64]; omega
        generalize restN S.win since t = rs at *
        clear hnl hgt hlx hrg2 hlt hf2 hmem hrep
        unfold pf at *
        by_cases hz : rs = 0
        · subst hz
          have ho : Hid (opens S.win t (nm, (since, c)) = false) := hide (HOP.out.elim (fun h => absurd rfl h.2) (fun h => h.1))
          go_wp2_with (first
            | (go_at_call 32; refine HC1.out.mono ?_; rintro e w3 ⟨rfl, n3, hw3⟩; have HW3 := hide hw3; clear hw3)
            | go_in)
          go_roundw
          case rel =>
            refine ⟨n, rfl, hide ⟨fun z => left z && !z.sameKey (.string nm), cnt2, by rw [HW3.out]; exact HRG2.out, ?_, by rw [HW3.out]; exact below_drewN HB2.out _⟩⟩
            have := HST.out
            unfold gC at this
            rw [ho.out] at this
            exact this.symm
          case measure =>
            rw [HW3.out, show (w2.drewN n3).rangeLeft Y.mp r = w2.rangeLeft Y.mp r from rfl, HRG2.out.left_eq, HRG.out.left_eq]
            exact HLT2.out
        · have ho : Hid (opens S.win t (nm, (since, c)) = true) := hide (HOP.out.elim (fun h => h.1) (fun h => absurd h.2 hz))
          have hz' : 0 < ((rs : Nat) : Int) := by omega
          go_wp2_with (first
            | (go_at_call 32; refine HC1.out.mono ?_; rintro e w3 ⟨rfl, n3, hw3⟩; have HW3 := hide hw3; clear hw3)
            | go_in)
          go_roundw
          case rel =>
            refine ⟨n + 1, by first | rfl | simp, hide ⟨fun z => left z && !z.sameKey (.string nm), cnt2, by rw [HW3.out]; exact HRG2.out, ?_, by rw [HW3.out]; exact below_drewN HB2.out _⟩⟩
            have := HST.out
            unfold gC at this
            rw [ho.out] at this
            exact this.symm
          case measure =>
            rw [HW3.out, show (w2.drewN n3).rangeLeft Y.mp r = w2.rangeLeft Y.mp r from rfl, HRG2.out.left_eq, HRG.out.left_eq]
            exact HLT2.out
set_option maxHeartbeats 4000000 in
set_option maxRecDepth 100000 in
theorem first_any (lp t : Nat) (S : LS) (Y : Lay) (w : World) (h : Rep w lp S Y) (hc : S.clock ≤ t) (ht : t < 18446744073709551616) :
    Calls Try.prog 33 #[pf lp, .int .u64 (t : Int)] w fun e w' => e = .returned (.int .u64 (S.first t : Int)) ∧ Below w.heap.size w w' := by
  have c1 := h.c1
  have c4 := h.c4
  have HH := hide h
  have HT := hide ht
  have HC := hide hc
  have HRI := hide h.ok.rising
  rw [show S.first t = S.tab.foldr (gM S.win t) S.win from rfl]
  clear h hc ht
  unfold pf
  go_enter Try.func33, Try.ntmps33
  go_wp2_with (first
    | (at_range; refine wpList_range_own _ rfl _ 52 rfl 9 67 law Try.underlying52 rp Y.mp S.tab.length (DL Y.bl S.tab) rfl HH.out.map ?_; intro w0 hrg0 hg0 hs0; have HR0 := hide hrg0; have HG0 := hide hg0; have HS0 := hide hs0; clear hrg0 hg0 hs0)
    | go_in)
  go_frame
  obtain ⟨r, hr⟩ : ∃ r, r = w.heap.size := ⟨_, rfl⟩
  rw [← hr] at HR0 ⊢
  have HR : Hid (w.heap.size ≤ r) := hide (by rw [hr]; exact Nat.le_refl _)
  clear hr
  go_loopw [5, 7] (fun c _ wr => ∃ n : Nat, c = .int .u64 (n : Int) ∧ Hid (∃ (left : Lit → Bool) (cnt : Nat), wr.ranges Try.prog 9 rp Y.mp r S.tab.length (DL Y.bl S.tab) left cnt ∧ n = (Seen left S.tab).foldr (gM S.win t) S.win ∧ Below w.heap.size w wr))
    (fun _ _ wr => wr.rangeLeft Y.mp r)
  case atStart =>
    exact ⟨S.win, rfl, hide ⟨_, _, HR0.out, by rw [seen_start _ HRI.out]; rfl, (Fr.nil (Fr.grown HG0.out (fun j e => by cases e)))⟩⟩
  case round =>
    obtain ⟨n, hn, hrel⟩ := hrel
    subst hn
    obtain ⟨left, cnt, hrg, hn, hf⟩ := hrel.out
    have HRG := hide hrg
    have HN := hide hn
    have HFR := hide hf
    clear hrel hrg hn hf
    go_wp2_with (first
      | (at_next; refine wpList_next_tab rfl _ rfl Y.mp r S.tab.length Y.bl _ _ _ rfl HRG.out ?_ ?_)
      | go_in)
    · intro hl0
      have HL0 := hide hl0
      clear hl0
      go_wp2
      go_ret
      refine ⟨ret_int ?_, HFR.out⟩
      rw [HN.out, seen_end HL0.out]
    · intro nm since c w2 cnt2 hnl hgt hlx hrg2 hlt hf2 hen
      have hmem := tget_some hgt
      have HB2 := hide (HFR.out.trans (hf2.below w.heap.size HFR.out.size (fun x hx => by rw [List.mem_singleton.1 hx]; exact HR.out)))
      have HRG2 := hide hrg2
      have HLT2 := hide hlt
      have HLX := hide hlx
      have HMEM := hide hmem
      have hrep := HH.out.below HB2.out
      have HC1 := hide (rest_any lp (Y.bl nm) S.win since t w2 hrep.c1 ((hrep.att _ hmem).cell 0) (by have := (hrep.ok.each _ hmem).1; have := HC.out; simp only at *; omega) HT.out hrep.ok.win2)
      have HST := hide (seen_step (gM_comm S.win t) S.win HLX.out HRI.out HMEM.out)
      rw [← HN.out] at HST
      unfold gM at HST
      simp only at HST
      generalize restN S.win since t = rs at *
      clear hnl hgt hlx hrg2 hlt hf2 hmem hrep
      unfold pf at *
      by_cases hz : n ≤ rs
      · have hz' : ¬ (rs : Int) < (n : Int) := by omega
        have HZ := hide hz
        clear hz
        go_wp2_with (first
          | (go_at_call 32; refine HC1.out.mono ?_; rintro e w3 ⟨rfl, n3, hw3⟩; have HW3 := hide hw3; clear hw3)
          | go_in)
        go_roundw
        case rel =>
          refine ⟨n, rfl, hide ⟨fun z => left z && !z.sameKey (.string nm), cnt2, by rw [HW3.out]; exact HRG2.out, ?_, by rw [HW3.out]; exact below_drewN HB2.out _⟩⟩
          refine Eq.trans ?_ HST.out.symm
          have := HZ.out
          omega
        case measure =>
          rw [HW3.out, show (w2.drewN n3).rangeLeft Y.mp r = w2.rangeLeft Y.mp r from rfl, HRG2.out.left_eq, HRG.out.left_eq]
          exact HLT2.out
      · have hz' : (rs : Int) < (n : Int) := by omega
        have HZ := hide hz
        clear hz
        go_wp2_with (first
          | (go_at_call 32; refine HC1.out.mono ?_; rintro e w3 ⟨rfl, n3, hw3⟩; have HW3 := hide hw3; clear hw3)
          | go_in)
        go_roundw
        case rel =>
          refine ⟨rs, rfl, hide ⟨fun z => left z && !z.sameKey (.string nm), cnt2, by rw [HW3.out]; exact HRG2.out, ?_, by rw [HW3.out]; exact below_drewN HB2.out _⟩⟩
          refine Eq.trans ?_ HST.out.symm
          have := HZ.out
          omega
        case measure =>
          rw [HW3.out, show (w2.drewN n3).rangeLeft Y.mp r = w2.rangeLeft Y.mp r from rfl, HRG2.out.left_eq, HRG.out.left_eq]
          exact HLT2.out
end Go.Proofs.Ytbhlciaigadlkaa
