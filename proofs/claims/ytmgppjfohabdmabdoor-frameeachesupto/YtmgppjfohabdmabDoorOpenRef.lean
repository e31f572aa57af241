/- The contract of the reference's Open: every row of bytes. -/
import Derived.Test.YtmgppjfohabdmabDoorOpenFn
import Derived.Test.YtmgppjfohabdmabDoorRef2
namespace Go.Proofs.YtmgppjfohabdmabDoor
open Go.RowKit

def openKind (xs : List Nat) : Nat := if openErr xs = 0 then xs.getD 8 0 else 0
def openEnd (xs : List Nat) : Nat := if openErr xs = 0 then 9 + num4 xs else 0
def openOut (xs : List Nat) : List Nat := if openErr xs = 0 then openLoad xs else []
theorem four_num4 {xs : List Nat} (hx : ∀ x ∈ xs, x < 256) (hl : 4 ≤ xs.length) : four (num4 xs) = xs.take 4 := by
  match xs, hl with
  | x0 :: x1 :: x2 :: x3 :: rest, _ =>
    have h0 := hx x0 (by simp)
    have h1 := hx x1 (by simp)
    have h2 := hx x2 (by simp)
    have h3 := hx x3 (by simp)
    simp only [four, num4, byteAt, List.getD_cons_zero, List.getD_cons_succ, List.take_succ_cons, List.take_zero, List.cons.injEq, and_true]
    refine ⟨?_, ?_, ?_, ?_⟩ <;> simp only [Nat.pow_zero, Nat.div_one, Nat.reducePow] <;> omega
theorem openLoad_length {xs : List Nat} (h : 9 + num4 xs ≤ xs.length) : (openLoad xs).length = num4 xs := by simp [openLoad]; omega
theorem fsum_open {xs : List Nat} (hx : ∀ x ∈ xs, x < 256) (hl : 9 + num4 xs ≤ xs.length) : fsum (xs.take (9 + num4 xs)) = fsumOf (xs.getD 8 0) (openLoad xs) := by
  unfold fsum fsumOf
  rw [openLoad_length hl, four_num4 hx (by omega), List.take_take, Nat.min_eq_left (by omega)]
  congr 1
  unfold openLoad
  have h8 : 8 < (xs.take (9 + num4 xs)).length := by simp; omega
  rw [List.drop_eq_getElem_cons h8]
  congr 1
  rw [List.getElem_take]
  simp [List.getD, List.getElem?_eq_getElem (show 8 < xs.length by omega)]

/-- What is known of a world in which the reference's own box lies. -/
structure Boxed3 (w w1 : World) : Prop where
  c0 : w1.cell? ⟨w.heap.size, 0, none⟩ = some (.int .u8 0)
  c1 : w1.cell? ⟨w.heap.size, 1, none⟩ = some (.slice none 0 0)
  c2 : w1.cell? ⟨w.heap.size, 2, none⟩ = some (.int .i64 0)
  f0 : w1.frozen? ⟨w.heap.size, 0, none⟩ = false
  f1 : w1.frozen? ⟨w.heap.size, 1, none⟩ = false
  f2 : w1.frozen? ⟨w.heap.size, 2, none⟩ = false
  below : Below w.heap.size w w1
  size : w.heap.size < w1.heap.size
theorem Boxed3.keep {w w1 w2 : World} (h : Boxed3 w w1) (hb : Below w1.heap.size w1 w2) : Boxed3 w w2 :=
  ⟨(hb.cell (p := ⟨w.heap.size, 0, none⟩) h.size).trans h.c0, (hb.cell (p := ⟨w.heap.size, 1, none⟩) h.size).trans h.c1, (hb.cell (p := ⟨w.heap.size, 2, none⟩) h.size).trans h.c2, (hb.frozen (p := ⟨w.heap.size, 0, none⟩) h.size).trans h.f0, (hb.frozen (p := ⟨w.heap.size, 1, none⟩) h.size).trans h.f1, (hb.frozen (p := ⟨w.heap.size, 2, none⟩) h.size).trans h.f2, h.below.trans (hb.mono (Nat.le_of_lt h.size)), Nat.lt_of_lt_of_le h.size hb.size⟩
theorem boxed3_new (w : World) : Boxed3 w (w.alloc (.cells #[.int .u8 0, .slice none 0 0, .int .i64 0] 45)) :=
  ⟨by simp, by simp, by simp, by simp, by simp, by simp, (Below.refl _ _).alloc (Nat.le_refl _) _, by simp⟩
theorem box3_z0 {w w1 : World} (h : Boxed3 w w1) (x : Int) : (w1.setCell ⟨w.heap.size, 0, none⟩ (.int .u8 x)).cell? ⟨w.heap.size, 0, none⟩ = some (.int .u8 x) := World.cell?_setCell_same _ _ _ h.c0
theorem box3_z1 {w w1 : World} (h : Boxed3 w w1) (x : Int) (y : Value) : ((w1.setCell ⟨w.heap.size, 0, none⟩ (.int .u8 x)).setCell ⟨w.heap.size, 1, none⟩ y).cell? ⟨w.heap.size, 1, none⟩ = some y :=
  World.cell?_setCell_same _ _ _ (u := .slice none 0 0) (by rw [World.cell?_setCell_other _ _ _ _ (by simp)]; exact h.c1)
theorem box3_z2 {w w1 : World} (h : Boxed3 w w1) (x : Int) (y z : Value) : (((w1.setCell ⟨w.heap.size, 0, none⟩ (.int .u8 x)).setCell ⟨w.heap.size, 1, none⟩ y).setCell ⟨w.heap.size, 2, none⟩ z).cell? ⟨w.heap.size, 2, none⟩ = some z :=
  World.cell?_setCell_same _ _ _ (u := .int .i64 0) (by rw [World.cell?_setCell_other _ _ _ _ (by simp), World.cell?_setCell_other _ _ _ _ (by simp)]; exact h.c2)
theorem box3_below {w w1 : World} (h : Boxed3 w w1) (x y z : Value) : Below w.heap.size w (((w1.setCell ⟨w.heap.size, 0, none⟩ x).setCell ⟨w.heap.size, 1, none⟩ y).setCell ⟨w.heap.size, 2, none⟩ z) :=
  ((h.below.setCell (Nat.le_refl _) _).setCell (Nat.le_refl _) _).setCell (Nat.le_refl _) _
theorem slice_mid (b off n cap N : Nat) (xs : List Nat) (hcut : 9 + N ≤ n) (hnc : n ≤ cap) :
    ∃ ao, (∀ w, (Instr.slice 22 (.slice (some ⟨b, off, none⟩) n cap) (some (.int .i64 9)) (some (.int .i64 (9 + (N : Int)))) none).run Tryd.prog w = .ok (.slice ao N (cap - 9)) w) ∧
      (∀ w, Row w (some ⟨b, off, none⟩) xs → Row w ao ((xs.take (9 + N)).drop 9)) := by
  refine ⟨if cap = 9 then some ⟨b, off, none⟩ else some ⟨b, off + 9, none⟩, fun w => ?_, fun w hr => ?_⟩
  · rw [run_slice_lh w 22 (some ⟨b, off, none⟩) n cap underBytes .i64 .i64 9 (9 + (N : Int)) (by omega) (by omega) (by omega), sizeRun]
    have e : (9 + (N : Int)).toNat = 9 + N := by omega
    simp [Result.andThen, sliced, add_none, e]
  · by_cases h : cap = 9
    · have h0 : N = 0 := by omega
      subst h0; exact .inl (by rw [List.drop_eq_nil_iff]; simp; omega)
    · rw [if_neg h]; exact (hr.takeN _).dropN 9

/-- An error of the reference's Open. -/
def RefBad (e : Ending) (n : Nat) : Prop := e = .returned (.tuple #[.agg #[.int .u8 0, .slice none 0 0, .int .i64 0], .int .i64 0, .int .i64 (n : Int)])
set_option maxHeartbeats 400000 in
set_option maxRecDepth 100000 in
theorem refOpen_short (n cap : Nat) (ao : Option Addr) (w : World) (hl : n < 9) :
    Calls Tryd.prog 27 #[.slice ao n cap] w fun e w' => RefBad e 3 ∧ Hid (Below w.heap.size w w') := by
  go_enter Tryd.func27, Tryd.ntmps27
  go_wp2
  exact bodyPost_ret (v := .tuple #[.agg #[.int .u8 0, .slice none 0 0, .int .i64 0], .int .i64 0, .int .i64 3]) (by simp [results, Tryd.results27, go_sem]) rfl ⟨rfl, (Below.refl _ _).alloc (Nat.le_refl _) _⟩
set_option maxHeartbeats 1600000 in
set_option maxRecDepth 100000 in
theorem refOpen_long (n cap b off : Nat) (xs : List Nat) (w : World) (hn : n = xs.length) (h9 : 9 ≤ n) (hl : n ≤ 140737488351232) (hx : ∀ x ∈ xs, x < 256) (hr : Row w (some ⟨b, off, none⟩) xs) (hbig : 2097152 < num4 xs) :
    Calls Tryd.prog 27 #[.slice (some ⟨b, off, none⟩) n cap] w fun e w' => RefBad e 1 ∧ Hid (Below w.heap.size w w') := by
  have HX : Hid (∀ x ∈ xs, x < 256) := hx
  have HR : Hid (Row w (some ⟨b, off, none⟩) xs) := hr
  have HN : Hid (n = xs.length) := hn
  have hnum := num4_lt hx
  generalize hNN : num4 xs = N at *
  have HNN : Hid (num4 xs = N) := hNN
  clear hx hr hn hNN
  go_enter Tryd.func27, Tryd.ntmps27
  go_wp2_with fail
  refine (number_any n cap b off xs _ (by have := HN.out; omega) HN.out (by have := HN.out; omega) HX.out (by exact HR.out.keep ((Below.refl _ _).alloc (Nat.le_refl _) _))).mono ?_
  rintro e w1 ⟨rfl, hw1⟩
  rw [HNN.out]
  have hbox : Boxed3 w w1 := by rw [hw1]; exact boxed3_new w
  have HBX : Hid (Boxed3 w w1) := hbox
  have HR1 : Hid (Row w1 (some ⟨b, off, none⟩) xs) := HR.out.keep hbox.below
  have q0 := hbox.c0
  have q1 := hbox.c1
  have q2 := hbox.c2
  have r0 := hbox.f0
  have r1 := hbox.f1
  have r2 := hbox.f2
  clear hbox hw1 HR
  go_wp2
  exact bodyPost_ret (v := .tuple #[.agg #[.int .u8 0, .slice none 0 0, .int .i64 0], .int .i64 0, .int .i64 1]) (by simp [results, Tryd.results27, go_sem, box3_z0 HBX.out, box3_z1 HBX.out, box3_z2 HBX.out]) rfl ⟨rfl, box3_below HBX.out _ _ _⟩
set_option maxHeartbeats 1600000 in
set_option maxRecDepth 100000 in
theorem refOpen_torn (n cap b off : Nat) (xs : List Nat) (w : World) (hn : n = xs.length) (h9 : 9 ≤ n) (hl : n ≤ 140737488351232) (hx : ∀ x ∈ xs, x < 256) (hr : Row w (some ⟨b, off, none⟩) xs) (hbig : num4 xs ≤ 2097152) (hcut : n < 9 + num4 xs) :
    Calls Tryd.prog 27 #[.slice (some ⟨b, off, none⟩) n cap] w fun e w' => RefBad e 3 ∧ Hid (Below w.heap.size w w') := by
  have HX : Hid (∀ x ∈ xs, x < 256) := hx
  have HR : Hid (Row w (some ⟨b, off, none⟩) xs) := hr
  have HN : Hid (n = xs.length) := hn
  have hnum := num4_lt hx
  generalize hNN : num4 xs = N at *
  have HNN : Hid (num4 xs = N) := hNN
  clear hx hr hn hNN
  go_enter Tryd.func27, Tryd.ntmps27
  go_wp2_with fail
  refine (number_any n cap b off xs _ (by have := HN.out; omega) HN.out (by have := HN.out; omega) HX.out (by exact HR.out.keep ((Below.refl _ _).alloc (Nat.le_refl _) _))).mono ?_
  rintro e w1 ⟨rfl, hw1⟩
  rw [HNN.out]
  have hbox : Boxed3 w w1 := by rw [hw1]; exact boxed3_new w
  have HBX : Hid (Boxed3 w w1) := hbox
  have HR1 : Hid (Row w1 (some ⟨b, off, none⟩) xs) := HR.out.keep hbox.below
  have q0 := hbox.c0
  have q1 := hbox.c1
  have q2 := hbox.c2
  have r0 := hbox.f0
  have r1 := hbox.f1
  have r2 := hbox.f2
  clear hbox hw1 HR
  go_wp2
  exact bodyPost_ret (v := .tuple #[.agg #[.int .u8 0, .slice none 0 0, .int .i64 0], .int .i64 0, .int .i64 3]) (by simp [results, Tryd.results27, go_sem, box3_z0 HBX.out, box3_z1 HBX.out, box3_z2 HBX.out]) rfl ⟨rfl, box3_below HBX.out _ _ _⟩
theorem Row.setOther {w : World} {ao : Option Addr} {xs : List Nat} (h : Row w ao xs) (a : Addr) (v : Value) (hne : ∀ x, ao = some x → x.block ≠ a.block) : Row (w.setCell a v) ao xs := by
  rcases h with h | ⟨b, off, rfl, hc⟩
  · exact .inl h
  · refine .inr ⟨b, off, rfl, fun i hi => ?_⟩
    rw [World.cell?_of_block (Below.heap_setCell w a v b (hne _ rfl))]
    exact hc i hi
theorem Own.setOther {w : World} {B : Nat} {v : Value} {xs : List Nat} (h : Own w B v xs) (a : Addr) (u : Value) (hne : v.ownBlock ≠ some a.block) : Own (w.setCell a u) B v xs :=
  h.kept (row := some a.block) ⟨rfl, rfl, rfl, by simp [World.setCell], fun k _ hk => Below.heap_setCell w a u k (fun e => hk (by rw [e]))⟩ (.inr hne)
theorem Row.other3 {w w1 w2 w3 : World} {jo : Option Addr} {n c : Nat} {xs : List Nat} (h : Row w3 jo xs) (hs : w.heap.size < w1.heap.size) (ho : Own w2 w1.heap.size (.slice jo n c) xs) (x y z : Value) :
    Row (((w3.setCell ⟨w.heap.size, 0, none⟩ x).setCell ⟨w.heap.size, 1, none⟩ y).setCell ⟨w.heap.size, 2, none⟩ z) jo xs := by
  have hne : ∀ a, jo = some a → a.block ≠ w.heap.size := fun a ha => by
    have := ho.ge a.block (by rw [ha]; rfl)
    omega
  exact ((h.setOther _ _ hne).setOther _ _ hne).setOther _ _ hne
theorem Own.other3 {w w1 w2 w3 : World} {B n c : Nat} {jo : Option Addr} {xs ys : List Nat} (h : Own w3 B (.slice jo n c) xs) (hs : w.heap.size < w1.heap.size) (ho : Own w2 w1.heap.size (.slice jo n c) ys) (x y z : Value) :
    Own (((w3.setCell ⟨w.heap.size, 0, none⟩ x).setCell ⟨w.heap.size, 1, none⟩ y).setCell ⟨w.heap.size, 2, none⟩ z) B (.slice jo n c) xs := by
  have hne : (Value.slice jo n c).ownBlock ≠ some w.heap.size := fun e => by
    have := ho.ge _ e
    omega
  exact ((h.setOther _ _ hne).setOther _ _ hne).setOther _ _ hne

set_option maxHeartbeats 1600000 in
set_option maxRecDepth 100000 in
theorem refOpen_sum (n cap b off : Nat) (xs : List Nat) (w : World) (hn : n = xs.length) (hnc : n ≤ cap) (h9 : 9 ≤ n) (hl : n ≤ 140737488351232) (hx : ∀ x ∈ xs, x < 256) (hr : Row w (some ⟨b, off, none⟩) xs) (hbig : num4 xs ≤ 2097152) (hcut : 9 + num4 xs ≤ n) (hbad : num4 (xs.drop 4) ≠ fsum (xs.take (9 + num4 xs))) :
    Calls Tryd.prog 27 #[.slice (some ⟨b, off, none⟩) n cap] w fun e w' => RefBad e 12 ∧ Hid (Below w.heap.size w w') := by
  have HX : Hid (∀ x ∈ xs, x < 256) := hx
  have HR : Hid (Row w (some ⟨b, off, none⟩) xs) := hr
  have HN : Hid (n = xs.length) := hn
  have hnum := num4_lt hx
  have HLL : Hid (num4 xs = (openLoad xs).length) := by show _ = _; rw [openLoad_length]; omega
  have HLD : Hid (∀ lo w, Row w lo ((xs.take (9 + num4 xs)).drop 9) → Row w lo (openLoad xs)) := fun _ _ h => h
  have HLT : Hid (∀ x ∈ openLoad xs, x < 256) := lt_drop (lt_take hx _) _
  have hkd2 : xs.getD 8 0 < 256 := lt_get hx 8
  have HFS : Hid (fsum (xs.take (9 + num4 xs)) = fsumOf (xs.getD 8 0) (openLoad xs)) := fsum_open hx (by omega)
  generalize hkd : xs.getD 8 0 = kd at *
  generalize openLoad xs = load at *
  have HKD : Hid (xs.getD 8 0 = kd) := hkd
  clear hkd
  generalize hNN : num4 xs = N at *
  have HNN : Hid (num4 xs = N) := hNN
  clear hx hr hn hNN
  go_enter Tryd.func27, Tryd.ntmps27
  go_wp2_with fail
  refine (number_any n cap b off xs _ (by have := HN.out; omega) HN.out (by have := HN.out; omega) HX.out (by exact HR.out.keep ((Below.refl _ _).alloc (Nat.le_refl _) _))).mono ?_
  rintro e w1 ⟨rfl, hw1⟩
  rw [HNN.out]
  have hbox : Boxed3 w w1 := by rw [hw1]; exact boxed3_new w
  have HBX : Hid (Boxed3 w w1) := hbox
  have HR1 : Hid (Row w1 (some ⟨b, off, none⟩) xs) := HR.out.keep hbox.below
  have q0 := hbox.c0
  have q1 := hbox.c1
  have q2 := hbox.c2
  have r0 := hbox.f0
  have r1 := hbox.f1
  have r2 := hbox.f2
  clear hbox hw1 HR
  have hne : (((num4 (xs.drop 4) : Nat) : Int) != ((fsumOf kd load : Nat) : Int)) = true := by rw [bne_iff_ne, ← HFS.out]; omega
  clear hbad
  have h4n : (4 : Int) ≤ (n : Int) := by omega
  have hc4 : ¬ cap = 4 := by omega
  have hcc : 9 + (N : Int) ≤ (cap : Int) := by omega
  have h8n : (8 : Int) < (n : Int) := by omega
  have hnum4 := num4_lt (lt_drop HX.out 4)
  obtain ⟨lo, hsl, hlo⟩ := slice_mid b off n cap N xs hcut hnc
  have HLO : Hid (Row w1 lo load) := HLD.out lo w1 (hlo w1 HR1.out)
  have hc8 := HR1.out.cell 8 (by have := HN.out; omega)
  rw [HKD.out] at hc8
  clear hlo
  go_wp2_with fail
  refine (joined_any 0 N 0 (cap - 9) none lo [] load w1 rfl HLL.out (by omega) (.inl rfl) HLO.out).mono ?_
  rintro e w2 ⟨jo, jc, rfl, h2⟩
  have hm2 : Made w1 w2 jo (0 + N) jc load := by simpa using h2.out
  rw [Nat.zero_add] at hm2 ⊢
  have HM2 : Hid (Made w1 w2 jo N jc load) := hm2
  have HBX2 : Hid (Boxed3 w w2) := HBX.out.keep hm2.2.2.2.2
  have HR2 : Hid (Row w2 (some ⟨b, off, none⟩) xs) := HR1.out.keep hm2.2.2.2.2
  have hc82 := cell_kept hc8 hm2.2.2.2.2
  have hjc := hm2.2.1
  clear h2 hm2 HR1 HLO hsl hc8 q0 q1 q2 r0 r1 r2
  go_wp2_with fail
  go_region_with (first
    | (go_at_call 35; first | (refine (number_any (n - 4) (cap - 4) b (off + 4) (xs.drop 4) _ (by have := HN.out; simp; omega) (by have := HN.out; simp; omega) (by have := HN.out; simp; omega) (lt_drop HX.out 4) (by exact HR2.out.dropN 4)).mono ?_; rintro e w3 ⟨rfl, rfl⟩) | (refine (number_any (n - 4) (cap - 4) b (off + 4) (xs.drop 4) _ (by have := HN.out; simp; omega) (by have := HN.out; simp; omega) (by have := HN.out; simp; omega) (lt_drop HX.out 4) (by exact (HR2.out.keep (below_undrewN (n := 1) hsum.out)).dropN 4)).mono ?_; rintro e w3 ⟨rfl, hw3⟩; subst hw3))
    | (go_at_call 37; refine (sum_any kd N jc jo load _ hkd2 HM2.out.1 hbig (by exact HLT.out) (by exact HM2.out.2.2.1)).mono ?_; rintro e w4 ⟨rfl, hsum⟩))
  all_goals
    have HBX4 := hide (HBX2.out.keep (below_undrewN (n := 1) hsum.out))
    have q0 := (unhide HBX4).c0
    have q1 := (unhide HBX4).c1
    have q2 := (unhide HBX4).c2
    have r0 := (unhide HBX4).f0
    have r1 := (unhide HBX4).f1
    have r2 := (unhide HBX4).f2
    have hc84 := cell_kept hc82 (below_undrewN (n := 1) hsum.out)
    have HMR := hide (HM2.out.2.2.1.keep (below_undrewN (n := 1) hsum.out))
    have HMO := hide (HM2.out.2.2.2.1.keep (below_undrewN (n := 1) hsum.out))
    clear hsum
    go_wp2
    exact bodyPost_ret (v := .tuple #[.agg #[.int .u8 0, .slice none 0 0, .int .i64 0], .int .i64 0, .int .i64 12]) (by simp [results, Tryd.results27, go_sem, box3_z0 (unhide HBX4), box3_z1 (unhide HBX4), box3_z2 (unhide HBX4)]) rfl ⟨rfl, box3_below (unhide HBX4) _ _ _⟩
set_option maxHeartbeats 1600000 in
set_option maxRecDepth 100000 in
theorem refOpen_kind (n cap b off : Nat) (xs : List Nat) (w : World) (hn : n = xs.length) (hnc : n ≤ cap) (h9 : 9 ≤ n) (hl : n ≤ 140737488351232) (hx : ∀ x ∈ xs, x < 256) (hr : Row w (some ⟨b, off, none⟩) xs) (hbig : num4 xs ≤ 2097152) (hcut : 9 + num4 xs ≤ n) (hgood : num4 (xs.drop 4) = fsum (xs.take (9 + num4 xs))) (hk : xs.getD 8 0 = 0) :
    Calls Tryd.prog 27 #[.slice (some ⟨b, off, none⟩) n cap] w fun e w' => RefBad e 13 ∧ Hid (Below w.heap.size w w') := by
  have HX : Hid (∀ x ∈ xs, x < 256) := hx
  have HR : Hid (Row w (some ⟨b, off, none⟩) xs) := hr
  have HN : Hid (n = xs.length) := hn
  have hnum := num4_lt hx
  have HLL : Hid (num4 xs = (openLoad xs).length) := by show _ = _; rw [openLoad_length]; omega
  have HLD : Hid (∀ lo w, Row w lo ((xs.take (9 + num4 xs)).drop 9) → Row w lo (openLoad xs)) := fun _ _ h => h
  have HLT : Hid (∀ x ∈ openLoad xs, x < 256) := lt_drop (lt_take hx _) _
  have hkd2 : xs.getD 8 0 < 256 := lt_get hx 8
  have HFS : Hid (fsum (xs.take (9 + num4 xs)) = fsumOf (xs.getD 8 0) (openLoad xs)) := fsum_open hx (by omega)
  generalize hkd : xs.getD 8 0 = kd at *
  generalize openLoad xs = load at *
  have HKD : Hid (xs.getD 8 0 = kd) := hkd
  clear hkd
  generalize hNN : num4 xs = N at *
  have HNN : Hid (num4 xs = N) := hNN
  clear hx hr hn hNN
  go_enter Tryd.func27, Tryd.ntmps27
  go_wp2_with fail
  refine (number_any n cap b off xs _ (by have := HN.out; omega) HN.out (by have := HN.out; omega) HX.out (by exact HR.out.keep ((Below.refl _ _).alloc (Nat.le_refl _) _))).mono ?_
  rintro e w1 ⟨rfl, hw1⟩
  rw [HNN.out]
  have hbox : Boxed3 w w1 := by rw [hw1]; exact boxed3_new w
  have HBX : Hid (Boxed3 w w1) := hbox
  have HR1 : Hid (Row w1 (some ⟨b, off, none⟩) xs) := HR.out.keep hbox.below
  have q0 := hbox.c0
  have q1 := hbox.c1
  have q2 := hbox.c2
  have r0 := hbox.f0
  have r1 := hbox.f1
  have r2 := hbox.f2
  clear hbox hw1 HR
  have hne : (((num4 (xs.drop 4) : Nat) : Int) != ((fsumOf kd load : Nat) : Int)) = false := by rw [bne_eq_false_iff_eq, ← HFS.out]; omega
  have hk0 : ((kd : Int) == 0) = true := by rw [beq_iff_eq]; omega
  have HK : Hid (kd = 0) := hk
  clear hgood hk
  have h4n : (4 : Int) ≤ (n : Int) := by omega
  have hc4 : ¬ cap = 4 := by omega
  have hcc : 9 + (N : Int) ≤ (cap : Int) := by omega
  have h8n : (8 : Int) < (n : Int) := by omega
  have hnum4 := num4_lt (lt_drop HX.out 4)
  obtain ⟨lo, hsl, hlo⟩ := slice_mid b off n cap N xs hcut hnc
  have HLO : Hid (Row w1 lo load) := HLD.out lo w1 (hlo w1 HR1.out)
  have hc8 := HR1.out.cell 8 (by have := HN.out; omega)
  rw [HKD.out] at hc8
  clear hlo
  go_wp2_with fail
  refine (joined_any 0 N 0 (cap - 9) none lo [] load w1 rfl HLL.out (by omega) (.inl rfl) HLO.out).mono ?_
  rintro e w2 ⟨jo, jc, rfl, h2⟩
  have hm2 : Made w1 w2 jo (0 + N) jc load := by simpa using h2.out
  rw [Nat.zero_add] at hm2 ⊢
  have HM2 : Hid (Made w1 w2 jo N jc load) := hm2
  have HBX2 : Hid (Boxed3 w w2) := HBX.out.keep hm2.2.2.2.2
  have HR2 : Hid (Row w2 (some ⟨b, off, none⟩) xs) := HR1.out.keep hm2.2.2.2.2
  have hc82 := cell_kept hc8 hm2.2.2.2.2
  have hjc := hm2.2.1
  clear h2 hm2 HR1 HLO hsl hc8 q0 q1 q2 r0 r1 r2
  go_wp2_with fail
  go_region_with (first
    | (go_at_call 35; first | (refine (number_any (n - 4) (cap - 4) b (off + 4) (xs.drop 4) _ (by have := HN.out; simp; omega) (by have := HN.out; simp; omega) (by have := HN.out; simp; omega) (lt_drop HX.out 4) (by exact HR2.out.dropN 4)).mono ?_; rintro e w3 ⟨rfl, rfl⟩) | (refine (number_any (n - 4) (cap - 4) b (off + 4) (xs.drop 4) _ (by have := HN.out; simp; omega) (by have := HN.out; simp; omega) (by have := HN.out; simp; omega) (lt_drop HX.out 4) (by exact (HR2.out.keep (below_undrewN (n := 1) hsum.out)).dropN 4)).mono ?_; rintro e w3 ⟨rfl, hw3⟩; subst hw3))
    | (go_at_call 37; refine (sum_any kd N jc jo load _ hkd2 HM2.out.1 hbig (by exact HLT.out) (by exact HM2.out.2.2.1)).mono ?_; rintro e w4 ⟨rfl, hsum⟩))
  all_goals
    have HBX4 := hide (HBX2.out.keep (below_undrewN (n := 1) hsum.out))
    have q0 := (unhide HBX4).c0
    have q1 := (unhide HBX4).c1
    have q2 := (unhide HBX4).c2
    have r0 := (unhide HBX4).f0
    have r1 := (unhide HBX4).f1
    have r2 := (unhide HBX4).f2
    have hc84 := cell_kept hc82 (below_undrewN (n := 1) hsum.out)
    have HMR := hide (HM2.out.2.2.1.keep (below_undrewN (n := 1) hsum.out))
    have HMO := hide (HM2.out.2.2.2.1.keep (below_undrewN (n := 1) hsum.out))
    clear hsum
    go_wp2
    exact bodyPost_ret (v := .tuple #[.agg #[.int .u8 0, .slice none 0 0, .int .i64 0], .int .i64 0, .int .i64 13]) (by simp [results, Tryd.results27, go_sem, box3_z0 (unhide HBX4), box3_z1 (unhide HBX4), box3_z2 (unhide HBX4)]) rfl ⟨rfl, box3_below (unhide HBX4) _ _ _⟩
set_option maxHeartbeats 1600000 in
set_option maxRecDepth 100000 in
theorem refOpen_ok (n cap b off : Nat) (xs : List Nat) (w : World) (hn : n = xs.length) (hnc : n ≤ cap) (h9 : 9 ≤ n) (hl : n ≤ 140737488351232) (hx : ∀ x ∈ xs, x < 256) (hr : Row w (some ⟨b, off, none⟩) xs) (hbig : num4 xs ≤ 2097152) (hcut : 9 + num4 xs ≤ n) (hgood : num4 (xs.drop 4) = fsum (xs.take (9 + num4 xs))) (hk : xs.getD 8 0 ≠ 0) :
    Calls Tryd.prog 27 #[.slice (some ⟨b, off, none⟩) n cap] w fun e w' => ∃ lo lc, e = .returned (.tuple #[.agg #[.int .u8 ((xs.getD 8 0 : Nat) : Int), .slice lo (num4 xs) lc, .int .i64 0], .int .i64 ((9 + num4 xs : Nat) : Int), .int .i64 0]) ∧ Hid (Made w w' lo (num4 xs) lc (openLoad xs)) := by
  have HX : Hid (∀ x ∈ xs, x < 256) := hx
  have HR : Hid (Row w (some ⟨b, off, none⟩) xs) := hr
  have HN : Hid (n = xs.length) := hn
  have hnum := num4_lt hx
  have HLL : Hid (num4 xs = (openLoad xs).length) := by show _ = _; rw [openLoad_length]; omega
  have HLD : Hid (∀ lo w, Row w lo ((xs.take (9 + num4 xs)).drop 9) → Row w lo (openLoad xs)) := fun _ _ h => h
  have HLT : Hid (∀ x ∈ openLoad xs, x < 256) := lt_drop (lt_take hx _) _
  have hkd2 : xs.getD 8 0 < 256 := lt_get hx 8
  have HFS : Hid (fsum (xs.take (9 + num4 xs)) = fsumOf (xs.getD 8 0) (openLoad xs)) := fsum_open hx (by omega)
  generalize hkd : xs.getD 8 0 = kd at *
  generalize openLoad xs = load at *
  have HKD : Hid (xs.getD 8 0 = kd) := hkd
  clear hkd
  generalize hNN : num4 xs = N at *
  have HNN : Hid (num4 xs = N) := hNN
  clear hx hr hn hNN
  go_enter Tryd.func27, Tryd.ntmps27
  go_wp2_with fail
  refine (number_any n cap b off xs _ (by have := HN.out; omega) HN.out (by have := HN.out; omega) HX.out (by exact HR.out.keep ((Below.refl _ _).alloc (Nat.le_refl _) _))).mono ?_
  rintro e w1 ⟨rfl, hw1⟩
  rw [HNN.out]
  have hbox : Boxed3 w w1 := by rw [hw1]; exact boxed3_new w
  have HBX : Hid (Boxed3 w w1) := hbox
  have HR1 : Hid (Row w1 (some ⟨b, off, none⟩) xs) := HR.out.keep hbox.below
  have q0 := hbox.c0
  have q1 := hbox.c1
  have q2 := hbox.c2
  have r0 := hbox.f0
  have r1 := hbox.f1
  have r2 := hbox.f2
  clear hbox hw1 HR
  have hne : (((num4 (xs.drop 4) : Nat) : Int) != ((fsumOf kd load : Nat) : Int)) = false := by rw [bne_eq_false_iff_eq, ← HFS.out]; omega
  have hk0 : ((kd : Int) == 0) = false := by rw [beq_eq_false_iff_ne]; omega
  clear hgood hk
  have h4n : (4 : Int) ≤ (n : Int) := by omega
  have hc4 : ¬ cap = 4 := by omega
  have hcc : 9 + (N : Int) ≤ (cap : Int) := by omega
  have h8n : (8 : Int) < (n : Int) := by omega
  have hnum4 := num4_lt (lt_drop HX.out 4)
  obtain ⟨lo, hsl, hlo⟩ := slice_mid b off n cap N xs hcut hnc
  have HLO : Hid (Row w1 lo load) := HLD.out lo w1 (hlo w1 HR1.out)
  have hc8 := HR1.out.cell 8 (by have := HN.out; omega)
  rw [HKD.out] at hc8
  clear hlo
  go_wp2_with fail
  refine (joined_any 0 N 0 (cap - 9) none lo [] load w1 rfl HLL.out (by omega) (.inl rfl) HLO.out).mono ?_
  rintro e w2 ⟨jo, jc, rfl, h2⟩
  have hm2 : Made w1 w2 jo (0 + N) jc load := by simpa using h2.out
  rw [Nat.zero_add] at hm2 ⊢
  have HM2 : Hid (Made w1 w2 jo N jc load) := hm2
  have HBX2 : Hid (Boxed3 w w2) := HBX.out.keep hm2.2.2.2.2
  have HR2 : Hid (Row w2 (some ⟨b, off, none⟩) xs) := HR1.out.keep hm2.2.2.2.2
  have hc82 := cell_kept hc8 hm2.2.2.2.2
  have hjc := hm2.2.1
  clear h2 hm2 HR1 HLO hsl hc8 q0 q1 q2 r0 r1 r2
  go_wp2_with fail
  go_region_with (first
    | (go_at_call 35; first | (refine (number_any (n - 4) (cap - 4) b (off + 4) (xs.drop 4) _ (by have := HN.out; simp; omega) (by have := HN.out; simp; omega) (by have := HN.out; simp; omega) (lt_drop HX.out 4) (by exact HR2.out.dropN 4)).mono ?_; rintro e w3 ⟨rfl, rfl⟩) | (refine (number_any (n - 4) (cap - 4) b (off + 4) (xs.drop 4) _ (by have := HN.out; simp; omega) (by have := HN.out; simp; omega) (by have := HN.out; simp; omega) (lt_drop HX.out 4) (by exact (HR2.out.keep (below_undrewN (n := 1) hsum.out)).dropN 4)).mono ?_; rintro e w3 ⟨rfl, hw3⟩; subst hw3))
    | (go_at_call 37; refine (sum_any kd N jc jo load _ hkd2 HM2.out.1 hbig (by exact HLT.out) (by exact HM2.out.2.2.1)).mono ?_; rintro e w4 ⟨rfl, hsum⟩))
  all_goals
    have HBX4 := hide (HBX2.out.keep (below_undrewN (n := 1) hsum.out))
    have q0 := (unhide HBX4).c0
    have q1 := (unhide HBX4).c1
    have q2 := (unhide HBX4).c2
    have r0 := (unhide HBX4).f0
    have r1 := (unhide HBX4).f1
    have r2 := (unhide HBX4).f2
    have hc84 := cell_kept hc82 (below_undrewN (n := 1) hsum.out)
    have HMR := hide (HM2.out.2.2.1.keep (below_undrewN (n := 1) hsum.out))
    have HMO := hide (HM2.out.2.2.2.1.keep (below_undrewN (n := 1) hsum.out))
    clear hsum
    go_wp2
    refine bodyPost_ret (v := .tuple #[.agg #[.int .u8 (kd : Int), .slice jo N jc, .int .i64 0], .int .i64 (9 + (N : Int)), .int .i64 0]) (by simp [results, Tryd.results27, go_sem, box3_z0 (unhide HBX4), box3_z1 (unhide HBX4), box3_z2 (unhide HBX4)]) rfl ⟨jo, jc, by go_num, HM2.out.1, HM2.out.2.1, ?_, ?_, box3_below (unhide HBX4) _ _ _⟩
    · exact ((((unhide HMR).other3 HBX.out.size (HM2.out.2.2.2.1)) _ _ _))
    · exact (((unhide HMO).lower (Nat.le_of_lt HBX.out.size)).other3 HBX.out.size (HM2.out.2.2.2.1) _ _ _)
theorem refOpen_all (n cap : Nat) (ao : Option Addr) (xs : List Nat) (w : World) (hn : n = xs.length) (hnc : n ≤ cap) (hl : n ≤ 140737488351232) (hx : ∀ x ∈ xs, x < 256) (hr : Row w ao xs) :
    Calls Tryd.prog 27 #[.slice ao n cap] w fun e w' => ∃ lo ln lc, e = .returned (.tuple #[.agg #[.int .u8 ((openKind xs : Nat) : Int), .slice lo ln lc, .int .i64 0], .int .i64 ((openEnd xs : Nat) : Int), .int .i64 ((openErr xs : Nat) : Int)]) ∧ Hid (Made w w' lo ln lc (openOut xs)) := by
  by_cases h0 : openErr xs = 0
  · have e1 : openKind xs = xs.getD 8 0 := by unfold openKind; rw [if_pos h0]
    have e2 : openEnd xs = 9 + num4 xs := by unfold openEnd; rw [if_pos h0]
    have e3 : openOut xs = openLoad xs := by unfold openOut; rw [if_pos h0]
    rw [e1, e2, e3, h0]
    unfold openErr at h0
    split at h0
    · cases h0
    · split at h0
      · cases h0
      · split at h0
        · cases h0
        · split at h0
          · cases h0
          · split at h0
            · cases h0
            · rename_i h1 h2 h3 h4 h5
              obtain ⟨b, off, rfl⟩ := hr.form (by omega)
              refine (refOpen_ok n cap b off xs w hn hnc (by omega) hl hx hr (by omega) (by omega) (Decidable.not_not.1 h4) h5).mono ?_
              rintro e w' ⟨lo, lc, rfl, h⟩
              exact ⟨lo, _, lc, rfl, h⟩
  · have e1 : openKind xs = 0 := by unfold openKind; rw [if_neg h0]
    have e2 : openEnd xs = 0 := by unfold openEnd; rw [if_neg h0]
    have e3 : openOut xs = [] := by unfold openOut; rw [if_neg h0]
    rw [e1, e2, e3]
    have key : Calls Tryd.prog 27 #[.slice ao n cap] w fun e w' => RefBad e (openErr xs) ∧ Hid (Below w.heap.size w w') := by
      unfold openErr at h0 ⊢
      by_cases h1 : xs.length < 9
      · rw [if_pos h1]; exact refOpen_short n cap ao w (by omega)
      · rw [if_neg h1]
        rw [if_neg h1] at h0
        obtain ⟨b, off, rfl⟩ := hr.form (by omega)
        by_cases h2 : 2097152 < num4 xs
        · rw [if_pos h2]; exact refOpen_long n cap b off xs w hn (by omega) hl hx hr h2
        · rw [if_neg h2]
          rw [if_neg h2] at h0
          by_cases h3 : xs.length < 9 + num4 xs
          · rw [if_pos h3]; exact refOpen_torn n cap b off xs w hn (by omega) hl hx hr (by omega) (by omega)
          · rw [if_neg h3]
            rw [if_neg h3] at h0
            by_cases h4 : num4 (xs.drop 4) ≠ fsum (xs.take (9 + num4 xs))
            · rw [if_pos h4]; exact refOpen_sum n cap b off xs w hn hnc (by omega) hl hx hr (by omega) (by omega) h4
            · rw [if_neg h4]
              rw [if_neg h4] at h0
              by_cases h5 : xs.getD 8 0 = 0
              · rw [if_pos h5]; exact refOpen_kind n cap b off xs w hn hnc (by omega) hl hx hr (by omega) (by omega) (Decidable.not_not.1 h4) h5
              · rw [if_neg h5] at h0; exact absurd rfl h0
    refine key.mono ?_
    rintro e w' ⟨he, h⟩
    exact ⟨none, 0, 0, he, rfl, Nat.le_refl _, .inl rfl, own_nil _ _, h.out⟩
end Go.Proofs.YtmgppjfohabdmabDoor
