/- Sources made one behind the other, each in blocks of its own; three pairs of sources. -/
import Derived.Test.YtonnnolnkjahgabDoorCActs
namespace Go.Proofs.YtonnnolnkjahgabDoor
open Go.RowKit Go.Shelf

/-- A source whose blocks lie from lo up to hi. -/
structure In (T : TypeId) (w : World) (p : Nat) (xs : List Nat) (lo hi : Nat) : Prop where
  ex : ∃ bs, Src T w p xs bs ∧ ∀ b ∈ bs, lo ≤ b ∧ b < hi
theorem Src.low {T : TypeId} {w w' : World} {p B : Nat} {xs bs : List Nat} (h : Src T w p xs bs) (hb : Below B w w') (hB : ∀ b ∈ bs, b < B) : Src T w' p xs bs :=
  h.apart (fp := (List.range w'.heap.size).filter fun k => decide (B ≤ k)) ⟨hb.os, hb.tape, hb.output, hb.size, fun k hk hn => hb.block k (by
    rcases Nat.lt_or_ge k B with e | e
    · exact e
    · exact absurd (List.mem_filter.2 ⟨List.mem_range.2 (Nat.lt_of_lt_of_le hk hb.size), by simpa using e⟩) hn)⟩ (fun b hm e => by
    have h1 := hB b hm
    have h2 := (List.mem_filter.1 e).2
    simp at h2
    omega)
theorem In.low {T : TypeId} {w w' : World} {p B lo hi : Nat} {xs : List Nat} (h : In T w p xs lo hi) (hb : Below B w w') (hB : hi ≤ B) : In T w' p xs lo hi := by
  obtain ⟨bs, h1, h2⟩ := h.ex
  exact ⟨bs, h1.low hb (fun b hm => by have := (h2 b hm).2; omega), h2⟩
theorem In.keep {T : TypeId} {w w' : World} {p lo hi : Nat} {xs : List Nat} (h : In T w p xs lo hi) (hb : Below w.heap.size w w') : In T w' p xs lo hi := by
  obtain ⟨bs, h1, h2⟩ := h.ex
  exact ⟨bs, h1.keep hb, h2⟩
theorem nsrc_in (n c : Nat) (ds : List Nat) (ao : Option Addr) (w : World) (hr : Row w ao ds) (hb : ∀ y ∈ ds, y < 256) (hn : n = ds.length) (hnc : n ≤ c) (hl : n ≤ 4096) :
    Calls Tryd.prog 7 #[.slice ao n c] w fun e w' => ∃ sp, e = .returned (pf sp) ∧ In 49 w' sp ds w.heap.size w'.heap.size ∧ Below w.heap.size w w' := by
  refine (nsrc_any n c ds ao w hr hb hn hnc).mono ?_
  rintro e w' ⟨sp, rfl, bs, h1, h2, h3⟩
  rw [List.take_of_length_le (by omega)] at h1
  exact ⟨sp, rfl, ⟨bs, h1, fun b hb => ⟨h3 b hb, h1.lts b hb⟩⟩, h2⟩
theorem rnew_in (n c : Nat) (ds : List Nat) (ao : Option Addr) (w : World) (hr : Row w ao ds) (hb : ∀ y ∈ ds, y < 256) (hn : n = ds.length) (hl : n ≤ 4096) :
    Calls Tryd.prog 9 #[.slice ao n c] w fun e w' => ∃ sp, e = .returned (pf sp) ∧ In 31 w' sp ds w.heap.size w'.heap.size ∧ Below w.heap.size w w' := by
  refine (rnew_any n c ds ao w hr hb hn (by omega)).mono ?_
  rintro e w' ⟨sp, rfl, bs, h1, h2, h3⟩
  rw [List.take_of_length_le (by omega)] at h1
  exact ⟨sp, rfl, ⟨bs, h1, fun b hb => ⟨h3 b hb, h1.lts b hb⟩⟩, h2⟩
theorem feed_in (sp n c lo : Nat) (xs ds : List Nat) (ao : Option Addr) (w : World) (h : In 49 w sp xs lo w.heap.size) (hlo : lo ≤ w.heap.size) (hr : Row w ao ds) (hb : ∀ y ∈ ds, y < 256) (hn : n = ds.length) (hnc : n ≤ c) (hx : xs.length + n ≤ 4096) :
    Calls Tryd.prog 8 #[pf sp, .slice ao n c] w fun e w' => e = .returned (.tuple #[]) ∧ In 49 w' sp (xs ++ ds) lo w'.heap.size ∧ Below lo w w' := by
  obtain ⟨bs, h1, h2⟩ := h.ex
  refine (feed_any sp n c xs bs ds ao w h1 hr hb hn hnc (by omega)).mono ?_
  rintro e w' ⟨rfl, bs', k1, k2⟩
  rw [List.take_of_length_le (by omega)] at k1
  refine ⟨rfl, ⟨bs', k1, fun b hb => ⟨?_, k1.lts b hb⟩⟩, k2.fr.below _ hlo (fun b hb => (h2 b hb).1)⟩
  rcases k2.new b hb with e | e
  · exact (h2 b e).1
  · omega
theorem duo_in {w : World} {p q lo hi lo2 hi2 : Nat} {xs : List Nat} (h : In 49 w p xs lo hi) (k : In 31 w q xs lo2 hi2) (hh : hi ≤ lo2) (hl : xs.length ≤ 4096) : ∃ bs cs, Duo w p q xs bs cs ∧ (∀ b ∈ bs, lo ≤ b ∧ b < hi) ∧ ∀ b ∈ cs, lo2 ≤ b ∧ b < hi2 := by
  obtain ⟨bs, h1, h2⟩ := h.ex
  obtain ⟨cs, k1, k2⟩ := k.ex
  exact ⟨bs, cs, ⟨h1, k1, fun b hb hc => by have := (h2 b hb).2; have := (k2 b hc).1; omega, hl⟩, h2, k2⟩
/-- Three pairs of sources made since w0, apart from one another. -/
structure Tri (w0 w : World) (p1 q1 p2 q2 p3 q3 : Nat) (x1 x2 x3 : List Nat) : Prop where
  ex : ∃ b1 c1 b2 c2 b3 c3, Duo w p1 q1 x1 b1 c1 ∧ Duo w p2 q2 x2 b2 c2 ∧ Duo w p3 q3 x3 b3 c3 ∧ (∀ b ∈ b1 ++ c1, b ∉ b2 ++ c2) ∧ (∀ b ∈ b1 ++ c1, b ∉ b3 ++ c3) ∧ (∀ b ∈ b2 ++ c2, b ∉ b3 ++ c3) ∧ (∀ b ∈ b1 ++ c1, w0.heap.size ≤ b) ∧ (∀ b ∈ b2 ++ c2, w0.heap.size ≤ b) ∧ ∀ b ∈ b3 ++ c3, w0.heap.size ≤ b
  bel : Below w0.heap.size w0 w
theorem Tri.rot {w0 w : World} {p1 q1 p2 q2 p3 q3 : Nat} {x1 x2 x3 : List Nat} (h : Tri w0 w p1 q1 p2 q2 p3 q3 x1 x2 x3) : Tri w0 w p2 q2 p3 q3 p1 q1 x2 x3 x1 := by
  obtain ⟨b1, c1, b2, c2, b3, c3, d1, d2, d3, a12, a13, a23, y1, y2, y3⟩ := h.ex
  exact ⟨⟨b2, c2, b3, c3, b1, c1, d2, d3, d1, a23, fun b hb hc => a12 b hc hb, fun b hb hc => a13 b hc hb, y2, y3, y1⟩, h.bel⟩
theorem Tri.keep {w0 w w' : World} {p1 q1 p2 q2 p3 q3 : Nat} {x1 x2 x3 : List Nat} (h : Tri w0 w p1 q1 p2 q2 p3 q3 x1 x2 x3) (hb : Below w.heap.size w w') : Tri w0 w' p1 q1 p2 q2 p3 q3 x1 x2 x3 := by
  obtain ⟨b1, c1, b2, c2, b3, c3, d1, d2, d3, r⟩ := h.ex
  exact ⟨⟨b1, c1, b2, c2, b3, c3, d1.keep hb, d2.keep hb, d3.keep hb, r⟩, h.bel.trans (hb.mono h.bel.size)⟩
theorem Tri.left {w0 w : World} {p1 q1 p2 q2 p3 q3 : Nat} {x1 x2 x3 : List Nat} (h : Tri w0 w p1 q1 p2 q2 p3 q3 x1 x2 x3) : Calls Tryd.prog 11 #[pf p1] w fun e w' => e = .returned (.int .i64 (x1.length : Int)) ∧ w' = w := by
  obtain ⟨b1, c1, b2, c2, b3, c3, d1, r⟩ := h.ex
  exact left_any p1 x1 b1 w d1.s
theorem tri_draw {w0 w : World} {p1 q1 p2 q2 p3 q3 : Nat} {x1 x2 x3 : List Nat} (x : At) (h : Tri w0 w p1 q1 p2 q2 p3 q3 x1 x2 x3) (hT : Lets w0) (hr : Row w0 x.po x.ps) (ho : x.ps.length ≤ x.pc ∧ x.ps.length ≤ 140737488351232 ∧ ∀ y ∈ x.ps, y < 256) :
    Calls Tryd.prog 10 #[pf p1, pf q1, .agg #[.int .i64 x.k, .slice x.po x.ps.length x.pc]] w fun e w' => e = .returned (.bool true) ∧ Tri w0 w' p2 q2 p3 q3 p1 q1 x2 x3 (stepS x x1) := by
  obtain ⟨b1, c1, b2, c2, b3, c3, d1, d2, d3, a12, a13, a23, y1, y2, y3⟩ := h.ex
  refine (draw_any p1 q1 x x1 b1 c1 w d1 (hT.keep h.bel) (fun hm => by have := y1 _ (List.mem_append_left c1 hm); have := hT.lt; omega) (hr.keep h.bel) ho (fun hne a ha hm => ?_)).mono ?_
  · obtain ⟨b, off, e⟩ := hr.form (List.length_pos_iff.2 hne)
    rw [e] at ha hr
    injection ha with ha
    subst ha
    have := hr.lt hne
    have := y1 _ hm
    simp only at this
    omega
  · rintro e w' ⟨rfl, b1', c1', h3, h4⟩
    refine ⟨rfl, ⟨b2, c2, b3, c3, b1', c1', d2.apart h4.fr (fun b hb hc => a12 b hc hb), d3.apart h4.fr (fun b hb hc => a13 b hc hb), h3, a23, fun b hb hc => ?_, fun b hb hc => ?_, y2, y3, fun b hb => ?_⟩, h.bel.trans (h4.fr.below _ h.bel.size y1)⟩
    · rcases h4.new b hc with e | e
      · exact a12 b e hb
      · have := d2.lts b hb; omega
    · rcases h4.new b hc with e | e
      · exact a13 b e hb
      · have := d3.lts b hb; omega
    · rcases h4.new b hb with e | e
      · exact y1 b e
      · exact Nat.le_trans h.bel.size e
theorem tri_made {w0 w : World} {p1 q1 p2 q2 p3 q3 l1 h1 l2 h2 l3 h3 m1 k1 m2 k2 m3 k3 : Nat} {xs : List Nat} (hb : Below w0.heap.size w0 w) (i1 : In 49 w p1 xs l1 h1) (i2 : In 49 w p2 xs l2 h2) (i3 : In 49 w p3 xs l3 h3) (j1 : In 31 w q1 xs m1 k1) (j2 : In 31 w q2 xs m2 k2) (j3 : In 31 w q3 xs m3 k3)
    (hl : xs.length ≤ 4096) (o0 : w0.heap.size ≤ l1) (o1 : l1 ≤ h1) (o2 : h1 ≤ l2) (o3 : l2 ≤ h2) (o4 : h2 ≤ l3) (o5 : l3 ≤ h3) (o6 : h3 ≤ m1) (o7 : m1 ≤ k1) (o8 : k1 ≤ m2) (o9 : m2 ≤ k2) (oa : k2 ≤ m3) : Tri w0 w p1 q1 p2 q2 p3 q3 xs xs xs := by
  obtain ⟨b1, c1, d1, e1, f1⟩ := duo_in i1 j1 (by omega) hl
  obtain ⟨b2, c2, d2, e2, f2⟩ := duo_in i2 j2 (by omega) hl
  obtain ⟨b3, c3, d3, e3, f3⟩ := duo_in i3 j3 (by omega) hl
  refine ⟨⟨b1, c1, b2, c2, b3, c3, d1, d2, d3, fun b hb hc => ?_, fun b hb hc => ?_, fun b hb hc => ?_, fun b hb => ?_, fun b hb => ?_, fun b hb => ?_⟩, hb⟩
  · rcases List.mem_append.1 hb with x | x <;> rcases List.mem_append.1 hc with y | y
    · have := e1 b x; have := e2 b y; omega
    · have := e1 b x; have := f2 b y; omega
    · have := f1 b x; have := e2 b y; omega
    · have := f1 b x; have := f2 b y; omega
  · rcases List.mem_append.1 hb with x | x <;> rcases List.mem_append.1 hc with y | y
    · have := e1 b x; have := e3 b y; omega
    · have := e1 b x; have := f3 b y; omega
    · have := f1 b x; have := e3 b y; omega
    · have := f1 b x; have := f3 b y; omega
  · rcases List.mem_append.1 hb with x | x <;> rcases List.mem_append.1 hc with y | y
    · have := e2 b x; have := e3 b y; omega
    · have := e2 b x; have := f3 b y; omega
    · have := f2 b x; have := e3 b y; omega
    · have := f2 b x; have := f3 b y; omega
  · rcases List.mem_append.1 hb with x | x
    · have := e1 b x; omega
    · have := f1 b x; omega
  · rcases List.mem_append.1 hb with x | x
    · have := e2 b x; omega
    · have := f2 b x; omega
  · rcases List.mem_append.1 hb with x | x
    · have := e3 b x; omega
    · have := f3 b x; omega
end Go.Proofs.YtonnnolnkjahgabDoor
