/- The contract of frame.Open: every row of bytes; the table's cells are a condition. -/
import Derived.Test.YtmgppjfohabdmabDoorSeal
import Derived.Test.YtmgppjfohabdmabDoorSmall
namespace Go.Proofs.YtmgppjfohabdmabDoor
open Go.RowKit

def openErr (xs : List Nat) : Nat :=
  if xs.length < 9 then 3 else if 2097152 < num4 xs then 1 else if xs.length < 9 + num4 xs then 3 else if num4 (xs.drop 4) ≠ fsum (xs.take (9 + num4 xs)) then 12 else if xs.getD 8 0 = 0 then 13 else 0
def openLoad (xs : List Nat) : List Nat := (xs.take (9 + num4 xs)).drop 9
theorem num4_lt {xs : List Nat} (h : ∀ x ∈ xs, x < 256) : num4 xs < 4294967296 := by
  have h0 := lt_get h 0
  have h1 := lt_get h 1
  have h2 := lt_get h 2
  have h3 := lt_get h 3
  unfold num4
  omega
/-- An error of Open: the zero Frame, 0, the error. -/
def OpenBad (e : Ending) (n : Nat) : Prop := e = .returned (.tuple #[.agg #[.int .u8 0, .slice none 0 0], .int .i64 0, .int .i64 (n : Int)])

set_option maxHeartbeats 400000 in
set_option maxRecDepth 100000 in
theorem open_short (n cap : Nat) (ao : Option Addr) (w : World) (hl : n < 9) :
    Calls Tryd.prog 25 #[.slice ao n cap] w fun e w' => OpenBad e 3 ∧ Hid (Below w.heap.size w w') := by
  go_enter Tryd.func25, Tryd.ntmps25
  go_wp2
  exact bodyPost_ret (v := .tuple #[.agg #[.int .u8 0, .slice none 0 0], .int .i64 0, .int .i64 3]) (by simp [results, Tryd.results25, go_sem]) rfl ⟨rfl, (Below.refl _ _).alloc (Nat.le_refl _) _⟩
set_option maxHeartbeats 400000 in
set_option maxRecDepth 100000 in
theorem open_long (n cap b off : Nat) (xs : List Nat) (w : World) (hn : n = xs.length) (h9 : 9 ≤ n) (hl : n ≤ 140737488351232) (hx : ∀ x ∈ xs, x < 256) (hr : Row w (some ⟨b, off, none⟩) xs) (hbig : 2097152 < num4 xs) :
    Calls Tryd.prog 25 #[.slice (some ⟨b, off, none⟩) n cap] w fun e w' => OpenBad e 1 ∧ Hid (Below w.heap.size w w') := by
  have HX : Hid (∀ x ∈ xs, x < 256) := hx
  have HR : Hid (Row w (some ⟨b, off, none⟩) xs) := hr
  have HN : Hid (n = xs.length) := hn
  clear hx hr hn
  go_enter Tryd.func25, Tryd.ntmps25
  go_wp2_with fail
  refine (word_any n cap b off xs _ (by have := HN.out; omega) HN.out (by have := HN.out; omega) HX.out (by exact HR.out.keep ((Below.refl _ _).alloc (Nat.le_refl _) _))).mono ?_
  rintro e w1 ⟨rfl, m1, rfl⟩
  have hnum := num4_lt HX.out
  generalize num4 xs = N at *
  go_wp2
  exact bodyPost_ret (v := .tuple #[.agg #[.int .u8 0, .slice none 0 0], .int .i64 0, .int .i64 1]) (by simp [results, Tryd.results25, go_sem]) rfl ⟨rfl, ((below_drewN ((Below.refl _ _).alloc (Nat.le_refl _) _) _).setCell (Nat.le_refl _) _).setCell (Nat.le_refl _) _⟩
set_option maxHeartbeats 400000 in
set_option maxRecDepth 100000 in
theorem open_torn (n cap b off : Nat) (xs : List Nat) (w : World) (hn : n = xs.length) (h9 : 9 ≤ n) (hl : n ≤ 140737488351232) (hx : ∀ x ∈ xs, x < 256) (hr : Row w (some ⟨b, off, none⟩) xs) (hbig : num4 xs ≤ 2097152) (hcut : n < 9 + num4 xs) :
    Calls Tryd.prog 25 #[.slice (some ⟨b, off, none⟩) n cap] w fun e w' => OpenBad e 3 ∧ Hid (Below w.heap.size w w') := by
  have HX : Hid (∀ x ∈ xs, x < 256) := hx
  have HR : Hid (Row w (some ⟨b, off, none⟩) xs) := hr
  have HN : Hid (n = xs.length) := hn
  clear hx hr hn
  go_enter Tryd.func25, Tryd.ntmps25
  go_wp2_with fail
  refine (word_any n cap b off xs _ (by have := HN.out; omega) HN.out (by have := HN.out; omega) HX.out (by exact HR.out.keep ((Below.refl _ _).alloc (Nat.le_refl _) _))).mono ?_
  rintro e w1 ⟨rfl, m1, rfl⟩
  have hnum := num4_lt HX.out
  generalize num4 xs = N at *
  go_wp2
  exact bodyPost_ret (v := .tuple #[.agg #[.int .u8 0, .slice none 0 0], .int .i64 0, .int .i64 3]) (by simp [results, Tryd.results25, go_sem]) rfl ⟨rfl, ((below_drewN ((Below.refl _ _).alloc (Nat.le_refl _) _) _).setCell (Nat.le_refl _) _).setCell (Nat.le_refl _) _⟩
/-- What is known of a world in which Open's own box lies. -/
structure Boxed (w w1 : World) (k : Int) (v : Value) : Prop where
  c0 : w1.cell? ⟨w.heap.size, 0, none⟩ = some (.int .u8 k)
  c1 : w1.cell? ⟨w.heap.size, 1, none⟩ = some v
  f0 : w1.frozen? ⟨w.heap.size, 0, none⟩ = false
  f1 : w1.frozen? ⟨w.heap.size, 1, none⟩ = false
  below : Below w.heap.size w w1
  size : w.heap.size < w1.heap.size
theorem Boxed.keep {w w1 w2 : World} {k : Int} {v : Value} (h : Boxed w w1 k v) (hb : Below w1.heap.size w1 w2) : Boxed w w2 k v :=
  ⟨(hb.cell (p := ⟨w.heap.size, 0, none⟩) h.size).trans h.c0, (hb.cell (p := ⟨w.heap.size, 1, none⟩) h.size).trans h.c1, (hb.frozen (p := ⟨w.heap.size, 0, none⟩) h.size).trans h.f0, (hb.frozen (p := ⟨w.heap.size, 1, none⟩) h.size).trans h.f1, h.below.trans (hb.mono (Nat.le_of_lt h.size)), Nat.lt_of_lt_of_le h.size hb.size⟩
theorem Blk.other {w : World} {g : Nat} {xs : List Nat} (h : Blk w g xs) (a : Addr) (v : Value) (hne : g ≠ a.block) : Blk (w.setCell a v) g xs := (Below.heap_setCell w a v g hne).trans h
theorem boxed_z0 {w w1 : World} {k : Int} {v : Value} (h : Boxed w w1 k v) (x : Int) : (w1.setCell ⟨w.heap.size, 0, none⟩ (.int .u8 x)).cell? ⟨w.heap.size, 0, none⟩ = some (.int .u8 x) := World.cell?_setCell_same _ _ _ h.c0
theorem boxed_z1 {w w1 : World} {k : Int} {v : Value} (h : Boxed w w1 k v) (x : Int) (y : Value) : ((w1.setCell ⟨w.heap.size, 0, none⟩ (.int .u8 x)).setCell ⟨w.heap.size, 1, none⟩ y).cell? ⟨w.heap.size, 1, none⟩ = some y :=
  World.cell?_setCell_same _ _ _ (u := v) (by rw [World.cell?_setCell_other _ _ _ _ (by simp)]; exact h.c1)
theorem below_undrewN {B n : Nat} {w w' : World} (h : Below B (w.drewN n) w') : Below B w w' := ⟨h.os, h.tape, h.output, h.size, h.block⟩
theorem boxed_s0 {w w1 : World} {k : Int} {v : Value} (h : Boxed w w1 k v) (n : Nat) (x : Int) : ((w1.drewN n).setCell ⟨w.heap.size, 0, none⟩ (.int .u8 x)).cell? ⟨w.heap.size, 0, none⟩ = some (.int .u8 x) := World.cell?_setCell_same _ _ _ (show (w1.drewN n).cell? ⟨w.heap.size, 0, none⟩ = _ from h.c0)
theorem boxed_s1 {w w1 : World} {k : Int} {v : Value} (h : Boxed w w1 k v) (n : Nat) (x : Int) (y : Value) : (((w1.drewN n).setCell ⟨w.heap.size, 0, none⟩ (.int .u8 x)).setCell ⟨w.heap.size, 1, none⟩ y).cell? ⟨w.heap.size, 1, none⟩ = some y :=
  World.cell?_setCell_same _ _ _ (u := v) (by rw [World.cell?_setCell_other _ _ _ _ (by simp)]; exact h.c1)
theorem boxed_new (w : World) (m : Nat) : Boxed w ((w.alloc (.cells #[.int .u8 0, .slice none 0 0] 43)).drewN m) 0 (.slice none 0 0) :=
  ⟨by simp, by simp, by simp, by simp, below_drewN ((Below.refl _ _).alloc (Nat.le_refl _) _) _, by simp⟩
set_option maxHeartbeats 800000 in
set_option maxRecDepth 100000 in
theorem open_sum (n cap b off : Nat) (xs : List Nat) (w : World) (hn : n = xs.length) (hnc : n ≤ cap) (h9 : 9 ≤ n) (hl : n ≤ 140737488351232) (hx : ∀ x ∈ xs, x < 256) (hr : Row w (some ⟨b, off, none⟩) xs) (hT : Tab w) (hbig : num4 xs ≤ 2097152) (hcut : 9 + num4 xs ≤ n)
    (hbad : num4 (xs.drop 4) ≠ fsum (xs.take (9 + num4 xs))) :
    Calls Tryd.prog 25 #[.slice (some ⟨b, off, none⟩) n cap] w fun e w' => OpenBad e 12 ∧ Hid (Below w.heap.size w w') := by
  have HX : Hid (∀ x ∈ xs, x < 256) := hx
  have HR : Hid (Row w (some ⟨b, off, none⟩) xs) := hr
  have HN : Hid (n = xs.length) := hn
  have HT : Hid (Tab w) := hT
  clear hx hr hn hT
  go_enter Tryd.func25, Tryd.ntmps25
  go_wp2_with fail
  refine (word_any n cap b off xs _ (by have := HN.out; omega) HN.out (by have := HN.out; omega) HX.out (by exact HR.out.keep ((Below.refl _ _).alloc (Nat.le_refl _) _))).mono ?_
  rintro e w1 ⟨rfl, m1, hw1⟩
  have hbox : Boxed w w1 0 (.slice none 0 0) := by rw [hw1]; exact boxed_new w m1
  have HBX : Hid (Boxed w w1 0 (.slice none 0 0)) := hbox
  have HR1 : Hid (Row w1 (some ⟨b, off, none⟩) xs) := HR.out.keep hbox.below
  have HT1 : Hid (Tab w1) := HT.out.keep hbox.below
  have q0 := hbox.c0
  have q1 := hbox.c1
  have r0 := hbox.f0
  have r1 := hbox.f1
  clear hbox hw1 HR HT
  have hnum := num4_lt HX.out
  have hnum4 := num4_lt (lt_drop HX.out 4)
  have hne : (((num4 (xs.drop 4) : Nat) : Int) != ((fsum (xs.take (9 + num4 xs)) : Nat) : Int)) = true := by rw [bne_iff_ne]; omega
  clear hbad
  have h4n : (4 : Int) ≤ (n : Int) := by omega
  have hc4 : ¬ cap = 4 := by omega
  have hcc : 9 + (num4 xs : Int) ≤ (cap : Int) := by omega
  generalize num4 xs = N at *
  go_wp2_with fail
  go_quiet (first
    | (go_at_call 32; exact Calls.quiet_of (word_any (n - 4) (cap - 4) b (off + 4) (xs.drop 4) _ (by have := HN.out; simp; omega) (by have := HN.out; simp; omega) (by have := HN.out; simp; omega) (lt_drop HX.out 4) (by exact HR1.out.dropN 4)))
    | (go_at_call 33; exact Calls.quiet_of (frameSum_any (9 + N) cap b off (xs.take (9 + N)) _ (by have := HN.out; simp; omega) (by have := HN.out; simp; omega) (by omega) (by omega) (lt_take HX.out _) (by exact HR1.out.takeN _) (by exact HT1.out))))
  go_wp2
  exact bodyPost_ret (v := .tuple #[.agg #[.int .u8 0, .slice none 0 0], .int .i64 0, .int .i64 12]) (by simp [results, Tryd.results25, go_sem, boxed_s0 HBX.out, boxed_s1 HBX.out]) rfl ⟨rfl, ((below_drewN HBX.out.below _).setCell (Nat.le_refl _) _).setCell (Nat.le_refl _) _⟩
set_option maxHeartbeats 800000 in
set_option maxRecDepth 100000 in
theorem open_kind (n cap b off : Nat) (xs : List Nat) (w : World) (hn : n = xs.length) (hnc : n ≤ cap) (h9 : 9 ≤ n) (hl : n ≤ 140737488351232) (hx : ∀ x ∈ xs, x < 256) (hr : Row w (some ⟨b, off, none⟩) xs) (hT : Tab w) (hbig : num4 xs ≤ 2097152) (hcut : 9 + num4 xs ≤ n)
    (hgood : num4 (xs.drop 4) = fsum (xs.take (9 + num4 xs))) (hk : xs.getD 8 0 = 0) :
    Calls Tryd.prog 25 #[.slice (some ⟨b, off, none⟩) n cap] w fun e w' => OpenBad e 13 ∧ Hid (Below w.heap.size w w') := by
  have HX : Hid (∀ x ∈ xs, x < 256) := hx
  have HR : Hid (Row w (some ⟨b, off, none⟩) xs) := hr
  have HN : Hid (n = xs.length) := hn
  have HT : Hid (Tab w) := hT
  clear hx hr hn hT
  go_enter Tryd.func25, Tryd.ntmps25
  go_wp2_with fail
  refine (word_any n cap b off xs _ (by have := HN.out; omega) HN.out (by have := HN.out; omega) HX.out (by exact HR.out.keep ((Below.refl _ _).alloc (Nat.le_refl _) _))).mono ?_
  rintro e w1 ⟨rfl, m1, hw1⟩
  have hbox : Boxed w w1 0 (.slice none 0 0) := by rw [hw1]; exact boxed_new w m1
  have HBX : Hid (Boxed w w1 0 (.slice none 0 0)) := hbox
  have HR1 : Hid (Row w1 (some ⟨b, off, none⟩) xs) := HR.out.keep hbox.below
  have HT1 : Hid (Tab w1) := HT.out.keep hbox.below
  have q0 := hbox.c0
  have q1 := hbox.c1
  have r0 := hbox.f0
  have r1 := hbox.f1
  clear hbox hw1 HR HT
  have hnum := num4_lt HX.out
  have hnum4 := num4_lt (lt_drop HX.out 4)
  have hne : (((num4 (xs.drop 4) : Nat) : Int) != ((fsum (xs.take (9 + num4 xs)) : Nat) : Int)) = false := by rw [bne_eq_false_iff_eq]; omega
  have hc8 := HR1.out.cell 8 (by have := HN.out; omega)
  rw [hk] at hc8
  have h8n : (8 : Int) < (n : Int) := by omega
  clear hgood hk
  have h4n : (4 : Int) ≤ (n : Int) := by omega
  have hc4 : ¬ cap = 4 := by omega
  have hcc : 9 + (num4 xs : Int) ≤ (cap : Int) := by omega
  generalize num4 xs = N at *
  go_wp2_with fail
  go_quiet (first
    | (go_at_call 32; exact Calls.quiet_of (word_any (n - 4) (cap - 4) b (off + 4) (xs.drop 4) _ (by have := HN.out; simp; omega) (by have := HN.out; simp; omega) (by have := HN.out; simp; omega) (lt_drop HX.out 4) (by exact HR1.out.dropN 4)))
    | (go_at_call 33; exact Calls.quiet_of (frameSum_any (9 + N) cap b off (xs.take (9 + N)) _ (by have := HN.out; simp; omega) (by have := HN.out; simp; omega) (by omega) (by omega) (lt_take HX.out _) (by exact HR1.out.takeN _) (by exact HT1.out))))
  go_wp2
  exact bodyPost_ret (v := .tuple #[.agg #[.int .u8 0, .slice none 0 0], .int .i64 0, .int .i64 13]) (by simp [results, Tryd.results25, go_sem, boxed_s0 HBX.out, boxed_s1 HBX.out]) rfl ⟨rfl, ((below_drewN HBX.out.below _).setCell (Nat.le_refl _) _).setCell (Nat.le_refl _) _⟩
theorem slice_three (b off n cap N : Nat) (xs : List Nat) (hcut : 9 + N ≤ n) (hnc : n ≤ cap) :
    ∃ ao, (∀ w, (Instr.slice 22 (.slice (some ⟨b, off, none⟩) n cap) (some (.int .i64 9)) (some (.int .i64 (9 + (N : Int)))) (some (.int .i64 (9 + (N : Int))))).run Tryd.prog w = .ok (.slice ao N N) w) ∧
      (∀ w, Row w (some ⟨b, off, none⟩) xs → Row w ao ((xs.take (9 + N)).drop 9)) := by
  refine ⟨if 9 + N = 9 then some ⟨b, off, none⟩ else some ⟨b, off + 9, none⟩, fun w => ?_, fun w hr => ?_⟩
  · rw [run_slice_lhm w 22 (some ⟨b, off, none⟩) n cap underBytes .i64 .i64 .i64 9 (9 + (N : Int)) (9 + (N : Int)) (by omega) (by omega) (by omega) (by omega), sizeRun]
    have e : (9 + (N : Int)).toNat = 9 + N := by omega
    simp [Result.andThen, sliced, add_none, e]
  · by_cases h : N = 0
    · subst h; exact .inl (by rw [List.drop_eq_nil_iff]; simp; omega)
    · rw [if_neg (by omega)]; exact (hr.takeN _).dropN 9
set_option maxHeartbeats 800000 in
set_option maxRecDepth 100000 in
theorem open_ok (n cap b off : Nat) (xs : List Nat) (w : World) (hn : n = xs.length) (hnc : n ≤ cap) (h9 : 9 ≤ n) (hl : n ≤ 140737488351232) (hx : ∀ x ∈ xs, x < 256) (hr : Row w (some ⟨b, off, none⟩) xs) (hT : Tab w) (hbig : num4 xs ≤ 2097152) (hcut : 9 + num4 xs ≤ n)
    (hgood : num4 (xs.drop 4) = fsum (xs.take (9 + num4 xs))) (hk : xs.getD 8 0 ≠ 0) :
    Calls Tryd.prog 25 #[.slice (some ⟨b, off, none⟩) n cap] w fun e w' => ∃ g, e = .returned (.tuple #[.agg #[.int .u8 ((xs.getD 8 0 : Nat) : Int), .slice (some ⟨g, 0, none⟩) (num4 xs) (num4 xs)], .int .i64 ((9 + num4 xs : Nat) : Int), .int .i64 0]) ∧ Hid (w.heap.size ≤ g ∧ g < w'.heap.size ∧ Blk w' g (openLoad xs) ∧ Below w.heap.size w w') := by
  have HX : Hid (∀ x ∈ xs, x < 256) := hx
  have HR : Hid (Row w (some ⟨b, off, none⟩) xs) := hr
  have HN : Hid (n = xs.length) := hn
  have HT : Hid (Tab w) := hT
  have HLL : Hid (num4 xs = (openLoad xs).length) := by show _ = _; simp [openLoad]; omega
  have HLD : Hid (∀ lo w, Row w lo ((xs.take (9 + num4 xs)).drop 9) → Row w lo (openLoad xs)) := fun _ _ h => h
  have hnum := num4_lt hx
  generalize hkd : xs.getD 8 0 = kd at *
  generalize hNN : num4 xs = N at *
  generalize openLoad xs = load at *
  have HKD : Hid (xs.getD 8 0 = kd) := hkd
  have HNN : Hid (num4 xs = N) := hNN
  clear hx hr hn hT hkd hNN
  go_enter Tryd.func25, Tryd.ntmps25
  go_wp2_with fail
  refine (word_any n cap b off xs _ (by have := HN.out; omega) HN.out (by have := HN.out; omega) HX.out (by exact HR.out.keep ((Below.refl _ _).alloc (Nat.le_refl _) _))).mono ?_
  rintro e w1 ⟨rfl, m1, hw1⟩
  rw [HNN.out]
  have hbox : Boxed w w1 0 (.slice none 0 0) := by rw [hw1]; exact boxed_new w m1
  have HBX : Hid (Boxed w w1 0 (.slice none 0 0)) := hbox
  have HR1 : Hid (Row w1 (some ⟨b, off, none⟩) xs) := HR.out.keep hbox.below
  have HT1 : Hid (Tab w1) := HT.out.keep hbox.below
  have q0 := hbox.c0
  have q1 := hbox.c1
  have r0 := hbox.f0
  have r1 := hbox.f1
  clear hbox hw1 HR HT
  have hnum4 := num4_lt (lt_drop HX.out 4)
  have hne : (((num4 (xs.drop 4) : Nat) : Int) != ((fsum (xs.take (9 + N)) : Nat) : Int)) = false := by rw [bne_eq_false_iff_eq]; omega
  have hc8 := HR1.out.cell 8 (by have := HN.out; omega)
  rw [HKD.out] at hc8
  have hk0 : ((kd : Int) == 0) = false := by rw [beq_eq_false_iff_ne]; omega
  have h8n : (8 : Int) < (n : Int) := by omega
  obtain ⟨lo, hsl, hlo⟩ := slice_three b off n cap N xs hcut hnc
  have HLO : Hid (Row w1 lo load) := HLD.out lo w1 (hlo w1 HR1.out)
  clear hgood hk hlo HLD
  have h4n : (4 : Int) ≤ (n : Int) := by omega
  have hc4 : ¬ cap = 4 := by omega
  have hcc : 9 + (N : Int) ≤ (cap : Int) := by omega
  go_wp2_with fail
  go_quiet (first
    | (go_at_call 32; exact Calls.quiet_of (word_any (n - 4) (cap - 4) b (off + 4) (xs.drop 4) _ (by have := HN.out; simp; omega) (by have := HN.out; simp; omega) (by have := HN.out; simp; omega) (lt_drop HX.out 4) (by exact HR1.out.dropN 4)))
    | (go_at_call 33; exact Calls.quiet_of (frameSum_any (9 + N) cap b off (xs.take (9 + N)) _ (by have := HN.out; simp; omega) (by have := HN.out; simp; omega) (by omega) (by omega) (lt_take HX.out _) (by exact HR1.out.takeN _) (by exact HT1.out))))
  go_wp2_with fail
  go_region_with (go_at_call 29; refine (copyWithRoom_n N N 0 0 rfl lo load _ HLL.out (by omega) (by omega) (by exact HLO.out)).mono ?_; rintro e w2 ⟨rfl, h2⟩; have hbel2 : Below w1.heap.size w1 w2 := below_undrewN (n := nq + 1) h2.out.2; have hbx : Boxed w w2 0 (.slice none 0 0) := HBX.out.keep hbel2; have u8 := cell_kept hc8 hbel2; clear hbel2; have p0 := hbx.c0; have p1 := hbx.c1; have t0 := hbx.f0; have t1 := hbx.f1)
  all_goals
    have hg : w.heap.size < w1.heap.size := HBX.out.size
    have hb2 : Blk w2 w1.heap.size load := by have := h2.out.1; simpa using this
    have hbel2 : Below w1.heap.size w1 w2 := below_undrewN (n := nq + 1) h2.out.2
    have HB2 : Hid (Blk w2 w1.heap.size load) := hb2
    have HL2 : Hid (Below w1.heap.size w1 w2) := hbel2
    have HBX2 : Hid (Boxed w w2 0 (.slice none 0 0)) := hbx
    clear hb2 hbel2 h2 hbx
    go_wp2
    exact bodyPost_ret (v := .tuple #[.agg #[.int .u8 (kd : Int), .slice (some ⟨w1.heap.size, 0, none⟩) N N], .int .i64 (9 + (N : Int)), .int .i64 0]) (by simp [results, Tryd.results25, go_sem, boxed_z0 HBX2.out, boxed_z1 HBX2.out]) rfl ⟨w1.heap.size, by go_num, Nat.le_of_lt hg, by have := HB2.out.lt; simpa [World.setCell] using this, (HB2.out.other ⟨w.heap.size, 0, none⟩ _ (by show w1.heap.size ≠ w.heap.size; omega)).other ⟨w.heap.size, 1, none⟩ _ (by show w1.heap.size ≠ w.heap.size; omega), (HBX2.out.below.setCell (Nat.le_refl _) _).setCell (Nat.le_refl _) _⟩
end Go.Proofs.YtmgppjfohabdmabDoor
