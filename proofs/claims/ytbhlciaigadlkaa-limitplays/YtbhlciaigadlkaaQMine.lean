/- A limit that was made since a world, beside blocks that it leaves alone. -/
import Derived.Test.YtbhlciaigadlkaaQCall
namespace Go.Proofs.Ytbhlciaigadlkaa
open Go.RowKit Go.Maps Go.Shelf

/-- Of the blocks G nothing has turned. -/
def Held (G : List Nat) (w w' : World) : Prop := ∀ b ∈ G, w'.heap[b]? = w.heap[b]?
theorem Held.refl (G : List Nat) (w : World) : Held G w w := fun _ _ => rfl
theorem Held.trans {G : List Nat} {a b c : World} (h : Held G a b) (k : Held G b c) : Held G a c := fun x hx => (k x hx).trans (h x hx)
theorem Held.bl {G : List Nat} {w w' : World} {g : Nat} {cs : List Value} {t : TypeId} (h : Held G w w') (hg : g ∈ G) (hb : Bl w g cs t) : Bl w' g cs t := (h g hg).trans hb
/-- A limit made since w0, none of its blocks in G. -/
structure Mine (G : List Nat) (w0 w : World) (lp : Nat) (S : LS) : Prop where
  rep : ∃ Y, Rep w lp S Y ∧ ∀ b ∈ Y.blocks lp S.tab, w0.heap.size ≤ b ∧ b ∉ G
  bel : Below w0.heap.size w0 w
  lt : ∀ b ∈ G, b < w.heap.size
theorem Mine.ok {G : List Nat} {w0 w : World} {lp : Nat} {S : LS} (h : Mine G w0 w lp S) : Ok S := by
  obtain ⟨Y, h1, _⟩ := h.rep
  exact h1.ok
theorem Mine.step {G : List Nat} {w0 w w' : World} {lp : Nat} {S S' : LS} {Y Y' : Lay} (hb : Below w0.heap.size w0 w) (hl : ∀ b ∈ G, b < w.heap.size) (hm : ∀ b ∈ Y.blocks lp S.tab, w0.heap.size ≤ b ∧ b ∉ G) (h' : Rep w' lp S' Y') (ha : Aft lp S S' Y Y' w w') : Mine G w0 w' lp S' ∧ Held G w w' := by
  refine ⟨⟨⟨Y', h', fun b hb' => ?_⟩, hb.trans (ha.fr.below _ hb.size fun x hx => (hm x hx).1), fun b hg => Nat.lt_of_lt_of_le (hl b hg) ha.fr.size⟩, fun b hg => ha.fr.block b (hl b hg) fun e => (hm b e).2 hg⟩
  rcases ha.new b hb' with h1 | h1
  · exact hm b h1
  · exact ⟨Nat.le_trans hb.size h1, fun e => by have := hl b e; omega⟩
theorem Mine.below {G : List Nat} {w0 w w' : World} {lp : Nat} {S : LS} (h : Mine G w0 w lp S) (hb : Below w.heap.size w w') : Mine G w0 w' lp S ∧ Held G w w' := by
  obtain ⟨Y, h1, h2⟩ := h.rep
  exact Mine.step h.bel h.lt h2 (h1.below hb) (Aft.of hb)
theorem Mine.drewN {G : List Nat} {w0 w : World} {lp : Nat} {S : LS} (h : Mine G w0 w lp S) (n : Nat) : Mine G w0 (w.drewN n) lp S := (h.below (below_drewN (Below.refl _ _) n)).1
/-- A store into a block that is not the limit's. -/
theorem Mine.setCell {G : List Nat} {w0 w : World} {lp : Nat} {S : LS} (h : Mine G w0 w lp S) {g : Nat} (hg : g ∈ G) (hn : w0.heap.size ≤ g) (i : Nat) (v : Value) : Mine G w0 (w.setCell ⟨g, i, none⟩ v) lp S := by
  obtain ⟨Y, h1, h2⟩ := h.rep
  refine ⟨⟨Y, h1.keep fun b hb => heap_setCell_other w _ b v (fun e => (h2 b hb).2 (by rw [e]; exact hg)), h2⟩, h.bel.trans ((Fr.setCell [g] w g i v (by simp)).below _ h.bel.size fun x hx => by rw [List.mem_singleton.1 hx]; exact hn), fun b hb => ?_⟩
  have := h.lt b hb
  simpa [World.setCell] using this
/-- One more block to be left alone: one that is new. -/
theorem Mine.more {G : List Nat} {w0 w : World} {lp : Nat} {S : LS} (h : Mine G w0 w lp S) (o : Obj) {N : Nat} (hN : N = w.heap.size) : Mine (N :: G) w0 (w.alloc o) lp S := by
  obtain ⟨Y, h1, h2⟩ := h.rep
  have hb := below_new w o
  refine ⟨⟨Y, h1.below hb, fun b hm => ⟨(h2 b hm).1, fun e => ?_⟩⟩, h.bel.trans (hb.mono h.bel.size), fun b hg => ?_⟩
  · rcases List.mem_cons.1 e with e | e
    · have := h1.lt b hm; omega
    · exact (h2 b hm).2 e
  · rcases List.mem_cons.1 hg with e | e
    · rw [e, hN]; simp
    · have := h.lt b e
      have := hb.size
      omega
theorem Mine.less {G G' : List Nat} {w0 w : World} {lp : Nat} {S : LS} (h : Mine G w0 w lp S) (hs : ∀ b ∈ G', b ∈ G) : Mine G' w0 w lp S := by
  obtain ⟨Y, h1, h2⟩ := h.rep
  exact ⟨⟨Y, h1, fun b hm => ⟨(h2 b hm).1, fun e => (h2 b hm).2 (hs b e)⟩⟩, h.bel, fun b hb => h.lt b (hs b hb)⟩
theorem try_g {G : List Nat} {w0 w : World} {lp : Nat} {S : LS} (h : Mine G w0 w lp S) (nm : Nm) (now : Nat) (hn : now < 18446744073709551616) :
    Calls Try.prog 14 #[pf lp, .string (str nm), .int .u64 (now : Int)] w fun e w' => e = .returned (two (S.try nm now).2) ∧ Mine G w0 w' lp (S.try nm now).1 ∧ Held G w w' := by
  obtain ⟨Y, h1, h2⟩ := h.rep
  refine (try_any lp now nm S Y w h1 hn).mono ?_
  rintro e w' ⟨rfl, Y', h3, h4⟩
  exact ⟨rfl, Mine.step h.bel h.lt h2 h3 h4⟩
theorem lefts_g {G : List Nat} {w0 w : World} {lp : Nat} {S : LS} (h : Mine G w0 w lp S) (nm : Nm) (now : Nat) (hn : now < 18446744073709551616) :
    Calls Try.prog 16 #[pf lp, .string (str nm), .int .u64 (now : Int)] w fun e w' => e = .returned (.int .i64 ((S.left nm (max now S.clock)).1 : Int)) ∧ Mine G w0 w' lp S ∧ Held G w w' := by
  obtain ⟨Y, h1, h2⟩ := h.rep
  refine (lefts_any lp now nm S Y w h1 hn).mono ?_
  rintro e w' ⟨rfl, h3⟩
  exact ⟨rfl, h.below h3⟩
theorem wait_g {G : List Nat} {w0 w : World} {lp : Nat} {S : LS} (h : Mine G w0 w lp S) (nm : Nm) (now : Nat) (hn : now < 18446744073709551616) :
    Calls Try.prog 15 #[pf lp, .string (str nm), .int .u64 (now : Int)] w fun e w' => e = .returned (.int .u64 (S.wait nm now : Int)) ∧ Mine G w0 w' lp S ∧ Held G w w' := by
  obtain ⟨Y, h1, h2⟩ := h.rep
  refine (wait_any lp now nm S Y w h1 hn).mono ?_
  rintro e w' ⟨rfl, h3⟩
  exact ⟨rfl, h.below h3⟩
theorem sweep_g {G : List Nat} {w0 w : World} {lp : Nat} {S : LS} (h : Mine G w0 w lp S) (now : Nat) (hn : now < 18446744073709551616) :
    Calls Try.prog 17 #[pf lp, .int .u64 (now : Int)] w fun e w' => e = .returned (.int .i64 ((S.goTo now).tab.length : Int)) ∧ Mine G w0 w' lp (S.goTo now) ∧ Held G w w' := by
  obtain ⟨Y, h1, h2⟩ := h.rep
  refine (sweep_any lp now S Y w h1 hn).mono ?_
  rintro e w' ⟨rfl, h3, h4⟩
  exact ⟨rfl, Mine.step h.bel h.lt h2 h3 h4⟩
theorem new_g (G : List Nat) (w0 : World) (t wn sb : Nat) (w : World) (h : 1 ≤ t ∧ t ≤ 1000000 ∧ 1 ≤ wn ∧ wn < 18446744073709551616 ∧ 1 ≤ sb ∧ sb ≤ 4096) (hb : Below w0.heap.size w0 w) (hl : ∀ b ∈ G, b < w.heap.size) :
    Calls Try.prog 8 #[.int .i64 (t : Int), .int .u64 (wn : Int), .int .i64 (sb : Int)] w fun e w' => ∃ lp, e = .returned (.tuple #[pf lp, .int .i64 0]) ∧ Mine G w0 w' lp (fresh t wn sb) ∧ Below w.heap.size w w' := by
  refine (new_any t wn sb w h).mono ?_
  rintro e w' ⟨lp, rfl, Y, h1, h2, h3⟩
  exact ⟨lp, rfl, ⟨⟨Y, h1, fun b hm => ⟨Nat.le_trans hb.size (h3 b hm), fun e => by have := hl b e; have := h3 b hm; omega⟩⟩, hb.trans (h2.mono hb.size), fun b hg => Nat.lt_of_lt_of_le (hl b hg) h2.size⟩, h2⟩

set_option maxHeartbeats 400000 in
set_option maxRecDepth 100000 in
theorem num_any (n : Int) (w : World) : Calls Try.prog 11 #[.int .i64 n] w fun e w' => e = .returned (.int .i64 n) ∧ w' = w := by
  go_enter Try.func11, Try.ntmps11
  go_wp2
  go_ret
  exact ⟨rfl, rfl⟩
def lv1 : LS := ⟨2, 10, 2, 5, [([97], (5, 1))]⟩
def lv2 : LS := ⟨2, 10, 2, 6, [([97], (5, 2))]⟩
def lv3 : LS := ⟨2, 10, 2, 7, [([97], (5, 2))]⟩
def lv4 : LS := ⟨2, 10, 2, 15, [([97], (15, 1))]⟩
theorem live1 : (fresh 2 10 2).try [97] 5 = (lv1, (1, 0)) := by rfl
theorem live2 : lv1.try [97] 6 = (lv2, (0, 0)) := by rfl
theorem live3 : lv2.try [97] 7 = (lv3, (0, 80)) := by rfl
theorem live4 : lv3.try [97] 15 = (lv4, (1, 0)) := by rfl
set_option maxHeartbeats 1000000 in
set_option maxRecDepth 100000 in
theorem live_true (w : World) : Calls Try.prog 10 #[] w fun e w' => e = .returned (.bool true) ∧ Below w.heap.size w w' := by
  have HN : Hid (Calls Try.prog 8 #[.int .i64 2, .int .u64 10, .int .i64 2] w fun e w' => ∃ lp, e = .returned (.tuple #[pf lp, .int .i64 0]) ∧ Mine [] w w' lp (fresh 2 10 2) ∧ Below w.heap.size w w') := hide (new_g [] w 2 10 2 w (by omega) (Below.refl _ _) (fun b hb => by cases hb))
  have HT1 : Hid (∀ W lp, Mine [] w W lp (fresh 2 10 2) → Calls Try.prog 14 #[pf lp, .string { data := #[97] }, .int .u64 5] W fun e w' => e = .returned (.tuple #[.int .i64 1, .int .i64 0]) ∧ Mine [] w w' lp lv1) := hide fun W lp h => (try_g h [97] 5 (by omega)).mono fun e w' ⟨h1, h2, _⟩ => ⟨by rw [h1, live1]; rfl, by rw [live1] at h2; exact h2⟩
  have HT2 : Hid (∀ W lp, Mine [] w W lp lv1 → Calls Try.prog 14 #[pf lp, .string { data := #[97] }, .int .u64 6] W fun e w' => e = .returned (.tuple #[.int .i64 0, .int .i64 0]) ∧ Mine [] w w' lp lv2) := hide fun W lp h => (try_g h [97] 6 (by omega)).mono fun e w' ⟨h1, h2, _⟩ => ⟨by rw [h1, live2]; rfl, by rw [live2] at h2; exact h2⟩
  have HT3 : Hid (∀ W lp, Mine [] w W lp lv2 → Calls Try.prog 14 #[pf lp, .string { data := #[97] }, .int .u64 7] W fun e w' => e = .returned (.tuple #[.int .i64 0, .int .i64 80]) ∧ Mine [] w w' lp lv3) := hide fun W lp h => (try_g h [97] 7 (by omega)).mono fun e w' ⟨h1, h2, _⟩ => ⟨by rw [h1, live3]; rfl, by rw [live3] at h2; exact h2⟩
  have HT4 : Hid (∀ W lp, Mine [] w W lp lv3 → Calls Try.prog 14 #[pf lp, .string { data := #[97] }, .int .u64 15] W fun e w' => e = .returned (.tuple #[.int .i64 1, .int .i64 0]) ∧ Mine [] w w' lp lv4) := hide fun W lp h => (try_g h [97] 15 (by omega)).mono fun e w' ⟨h1, h2, _⟩ => ⟨by rw [h1, live4]; rfl, by rw [live4] at h2; exact h2⟩
  unfold pf at *
  go_enter Try.func10, Try.ntmps10
  go_wp2_with (first
    | (go_at_call 8; refine HN.out.mono ?_; rintro e w1 ⟨lp, rfl, h1, _⟩; have H1 := hide h1; clear h1)
    | (go_at_call 14; refine (HT1.out _ _ H1.out).mono ?_; rintro e w2 ⟨rfl, h2⟩; have H2 := hide h2; clear h2 H1)
    | (go_at_call 14; refine (HT2.out _ _ H2.out).mono ?_; rintro e w3 ⟨rfl, h3⟩; have H3 := hide h3; clear h3 H2)
    | (go_at_call 14; refine (HT3.out _ _ H3.out).mono ?_; rintro e w4 ⟨rfl, h4⟩; have H4 := hide h4; clear h4 H3)
    | (go_at_call 14; refine (HT4.out _ _ H4.out).mono ?_; rintro e w5 ⟨rfl, h5⟩; have H5 := hide h5; clear h5 H4)
    | (go_at_call 11; refine (num_any _ _).mono ?_; rintro e wx ⟨rfl, hwx⟩; have hwy := hwx.symm; subst hwy; clear hwx))
  go_ret
  exact ⟨rfl, H5.out.bel⟩
end Go.Proofs.Ytbhlciaigadlkaa
