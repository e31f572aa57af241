/- order2, median, medianAdjacent, choosePivot. -/
import Derived.Test.YtmngmkbiibhmkaaVBreak
namespace Go.Proofs.Ytmngmkbiibhmkaa
open Go.RowKit Go.Maps

/-- The row as it was, and the counter of swaps in a block of its own. -/
structure PV (w wr : World) (g : Nat) (ds : List Nat) (rest : List Value) (sb c : Nat) : Prop where
  row : SR w wr g ds rest
  cnt : Bl wr sb [.int .i64 (c : Int)] 3
theorem PV.drewN {w wr : World} {g sb c : Nat} {ds : List Nat} {rest : List Value} (h : PV w wr g ds rest sb c) (n : Nat) : PV w (wr.drewN n) g ds rest sb c := ⟨h.row.drewN n, h.cnt.drewN n⟩
theorem PV.up {w wr : World} {g sb c : Nat} {ds : List Nat} {rest : List Value} (h : PV w wr g ds rest sb c) (hg : g < w.heap.size) (hs : w.heap.size ≤ sb) (d : Nat) : PV w (wr.setCell ⟨sb, 0, none⟩ (.int .i64 (d : Int))) g ds rest sb d := ⟨h.row.young hg hs _ _, h.cnt.set 0 _⟩
set_option maxHeartbeats 1000000 in
set_option maxRecDepth 100000 in
theorem order2_any (w0 : World) (g n cap a b sb c : Nat) (ds : List Nat) (rest : List Value) (w : World) (hP : PV w0 w g ds rest sb c) (hg : g < w0.heap.size) (hs : w0.heap.size ≤ sb) (hc : c ≤ 1000) (hn : n = ds.length) (_hl : n ≤ 1000000) (ha : a < n) (hb : b < n) :
    Calls Try.prog 87 #[.slice (some ⟨g, 0, none⟩) n cap, .int .i64 (a : Int), .int .i64 (b : Int), .pointer (some ⟨sb, 0, none⟩)] w fun e w' => ∃ x y c' : Nat, c' ≤ c + 1 ∧ PV w0 w' g ds rest sb c' ∧ (x = a ∧ y = b ∨ x = b ∧ y = a) ∧ e = .returned (.tuple #[.int .i64 (x : Int), .int .i64 (y : Int)]) := by
  have HP := hide hP
  have ca := hP.row.cell (t := a) (by omega)
  have cb := hP.row.cell (t := b) (by omega)
  have cs : w.cell? ⟨sb, 0, none⟩ = some (.int .i64 (c : Int)) := by rw [hP.cnt.cell 0]; rfl
  have fs := hP.cnt.frozen 0
  have HH : Hid (g < w0.heap.size ∧ w0.heap.size ≤ sb) := ⟨hg, hs⟩
  generalize gt ds a = x at *
  generalize gt ds b = y at *
  clear hP hg hs hn
  by_cases hxy : y < x
  · have hd : decide (y < x) = true := decide_eq_true hxy
    go_enter Try.func87, Try.ntmps87
    go_wp2_with fail
    go_quiet ((go_at_call 80; exact (less_any _ _ _).mono fun _ _ h => ⟨h.1, _, h.2⟩))
    go_wp2_with fail
    go_ret2
    exact ⟨b, a, c + 1, by omega, by
      have h := (HP.out.drewN nq).up HH.out.1 HH.out.2 (c + 1)
      simpa using h, .inr ⟨rfl, rfl⟩, rfl⟩
  · have hd : decide (y < x) = false := decide_eq_false hxy
    go_enter Try.func87, Try.ntmps87
    go_wp2_with fail
    go_quiet ((go_at_call 80; exact (less_any _ _ _).mono fun _ _ h => ⟨h.1, _, h.2⟩))
    go_wp2_with fail
    go_ret2
    exact ⟨a, b, c, by omega, HP.out.drewN _, .inl ⟨rfl, rfl⟩, rfl⟩
set_option maxHeartbeats 1000000 in
set_option maxRecDepth 100000 in
theorem median_any (w0 : World) (g n cap a b d sb c : Nat) (ds : List Nat) (rest : List Value) (w : World) (hP : PV w0 w g ds rest sb c) (hg : g < w0.heap.size) (hs : w0.heap.size ≤ sb) (hc : c ≤ 900) (hn : n = ds.length) (hl : n ≤ 1000000) (ha : a < n) (hb : b < n) (hd : d < n) :
    Calls Try.prog 86 #[.slice (some ⟨g, 0, none⟩) n cap, .int .i64 (a : Int), .int .i64 (b : Int), .int .i64 (d : Int), .pointer (some ⟨sb, 0, none⟩)] w fun e w' => ∃ x c' : Nat, c' ≤ c + 3 ∧ PV w0 w' g ds rest sb c' ∧ (x = a ∨ x = b ∨ x = d) ∧ e = .returned (.int .i64 (x : Int)) := by
  have O := hide (fun (a b c : Nat) (w : World) (hP : PV w0 w g ds rest sb c) (hc : c ≤ 1000) (ha : a < n) (hb : b < n) => order2_any w0 g n cap a b sb c ds rest w hP hg hs hc hn hl ha hb)
  have HP := hide hP
  clear hP hg hs hn
  go_enter Try.func86, Try.ntmps86
  go_wp2_with (go_at_call 87; refine (O.out a b c w HP.out (by omega) (by omega) (by omega)).mono ?_; rintro e w1 ⟨x1, y1, c1, hc1, h1, hx1, rfl⟩; have H1 := hide h1; clear h1 HP)
  go_wp2_with (go_at_call 87; refine (O.out y1 d c1 w1 H1.out (by omega) (by omega) (by omega)).mono ?_; rintro e w2 ⟨x2, y2, c2, hc2, h2, hx2, rfl⟩; have H2 := hide h2; clear h2 H1)
  go_wp2_with (go_at_call 87; refine (O.out x1 x2 c2 w2 H2.out (by omega) (by omega) (by omega)).mono ?_; rintro e w3 ⟨x3, y3, c3, hc3, h3, hx3, rfl⟩; have H3 := hide h3; clear h3 H2)
  go_ret
  exact ⟨y3, c3, by omega, H3.out, by omega, rfl⟩
set_option maxHeartbeats 1000000 in
set_option maxRecDepth 100000 in
theorem medAdj_any (w0 : World) (g n cap a sb c : Nat) (ds : List Nat) (rest : List Value) (w : World) (hP : PV w0 w g ds rest sb c) (hg : g < w0.heap.size) (hs : w0.heap.size ≤ sb) (hc : c ≤ 900) (hn : n = ds.length) (hl : n ≤ 1000000) (ha : 0 < a) (hb : a + 1 < n) :
    Calls Try.prog 85 #[.slice (some ⟨g, 0, none⟩) n cap, .int .i64 (a : Int), .pointer (some ⟨sb, 0, none⟩)] w fun e w' => ∃ x c' : Nat, c' ≤ c + 3 ∧ PV w0 w' g ds rest sb c' ∧ a ≤ x + 1 ∧ x ≤ a + 1 ∧ e = .returned (.int .i64 (x : Int)) := by
  have O := median_any w0 g n cap (a - 1) a (a + 1) sb c ds rest w hP hg hs hc hn hl (by omega) (by omega) (by omega)
  rw [show ((a - 1 : Nat) : Int) = (a : Int) - 1 by omega, show ((a + 1 : Nat) : Int) = (a : Int) + 1 by omega] at O
  have O := hide O
  clear hP hg hs hn
  go_enter Try.func85, Try.ntmps85
  go_wp2_with (go_at_call 86; refine O.out.mono ?_; rintro e w1 ⟨x1, c1, hc1, h1, hx1, rfl⟩; have H1 := hide h1; clear h1 O)
  go_ret
  exact ⟨x1, c1, hc1, H1.out, by omega, by omega, rfl⟩
set_option maxHeartbeats 2000000 in
set_option maxRecDepth 100000 in
theorem pivot_any (g n cap a b : Nat) (ds : List Nat) (rest : List Value) (w : World) (hB : Bl w g (ds.map uv ++ rest) 22) (hn : n = ds.length) (hl : n ≤ 1000000) (hab : a + 8 ≤ b) (hb : b ≤ n) :
    Calls Try.prog 77 #[.slice (some ⟨g, 0, none⟩) n cap, .int .i64 (a : Int), .int .i64 (b : Int)] w fun e w' => SR w w' g ds rest ∧ ∃ p h : Nat, a ≤ p ∧ p < b ∧ h ≤ 2 ∧ e = .returned (.tuple #[.int .i64 (p : Int), .int .i64 (h : Int)]) := by
  obtain ⟨l, hl1⟩ : ∃ l, l = b - a := ⟨_, rfl⟩
  have hl2 : (b : Int) - (a : Int) = (l : Int) := by omega
  obtain ⟨q, hq⟩ : ∃ q, q = l / 4 := ⟨_, rfl⟩
  have hq2 : (l : Int) / 4 = (q : Int) := by omega
  have hq3 : 2 ≤ q := by omega
  have hq4 : 4 * q ≤ l := by omega
  have hl3 : a + l = b := by omega
  have hl4 : 8 ≤ l := by omega
  obtain ⟨i, hi⟩ : ∃ i, i = a + q := ⟨_, rfl⟩
  obtain ⟨j, hj⟩ : ∃ j, j = a + q * 2 := ⟨_, rfl⟩
  obtain ⟨k, hk⟩ : ∃ k, k = a + q * 3 := ⟨_, rfl⟩
  have ei : (a : Int) + (q : Int) = (i : Int) := by omega
  have ej : (a : Int) + (q : Int) * 2 = (j : Int) := by omega
  have ek : (a : Int) + (q : Int) * 3 = (k : Int) := by omega
  have b1 : a < i ∧ i < b ∧ a < j ∧ j < b ∧ a < k ∧ k + 1 < b := by omega
  have hP0 : PV w (w.alloc (.cells #[.int .i64 0] 3)) g ds rest w.heap.size 0 := ⟨(SR.refl hB).alloc _, Bl.new _ _ _⟩
  have HP := hide hP0
  have M := hide (fun (a b d c : Nat) (w' : World) (hP : PV w w' g ds rest w.heap.size c) (hc : c ≤ 900) (ha : a < n) (hb : b < n) (hd : d < n) => median_any w g n cap a b d w.heap.size c ds rest w' hP hB.lt (Nat.le_refl _) hc hn hl ha hb hd)
  have J := hide (fun (a c : Nat) (w' : World) (hP : PV w w' g ds rest w.heap.size c) (hc : c ≤ 900) (ha : 0 < a) (hb : a + 1 < n) => medAdj_any w g n cap a w.heap.size c ds rest w' hP hB.lt (Nat.le_refl _) hc hn hl ha hb)
  have hl5 : (8 : Int) ≤ (l : Int) := by omega
  clear hB hn hl1 hq hi hj hk hP0
  by_cases h50 : 50 ≤ l
  · have h50' : (50 : Int) ≤ (l : Int) := by omega
    go_enter Try.func77, Try.ntmps77
    go_wp2_with (go_at_call 85; refine (J.out i 0 _ HP.out (by omega) (by omega) (by omega)).mono ?_; rintro e w1 ⟨x1, c1, hc1, h, hx1, hy1, rfl⟩; have H1 := hide h; clear h HP)
    go_wp2_with (go_at_call 85; refine (J.out j c1 _ H1.out (by omega) (by omega) (by omega)).mono ?_; rintro e w2 ⟨x2, c2, hc2, h, hx2, hy2, rfl⟩; have H2 := hide h; clear h H1)
    go_wp2_with (go_at_call 85; refine (J.out k c2 _ H2.out (by omega) (by omega) (by omega)).mono ?_; rintro e w3 ⟨x3, c3, hc3, h, hx3, hy3, rfl⟩; have H3 := hide h; clear h H2)
    go_wp2_with (go_at_call 86; refine (M.out x1 x2 x3 c3 _ H3.out (by omega) (by omega) (by omega) (by omega)).mono ?_; rintro e w4 ⟨x4, c4, hc4, h, hx4, rfl⟩; have cs : w4.cell? ⟨w.heap.size, 0, none⟩ = some (.int .i64 (c4 : Int)) := (by rw [h.cnt.cell 0]; rfl); have H4 := hide h; clear h H3)
    all_goals go_ret2
    all_goals first | exact ⟨H4.out.row, x4, 1, by omega, by omega, by omega, rfl⟩ | exact ⟨H4.out.row, x4, 2, by omega, by omega, by omega, rfl⟩ | exact ⟨H4.out.row, x4, 0, by omega, by omega, by omega, rfl⟩
  · have h50' : ¬ (50 : Int) ≤ (l : Int) := by omega
    go_enter Try.func77, Try.ntmps77
    go_wp2_with (go_at_call 86; refine (M.out i j k 0 _ HP.out (by omega) (by omega) (by omega) (by omega)).mono ?_; rintro e w4 ⟨x4, c4, hc4, h, hx4, rfl⟩; have cs : w4.cell? ⟨w.heap.size, 0, none⟩ = some (.int .i64 (c4 : Int)) := (by rw [h.cnt.cell 0]; rfl); have H4 := hide h; clear h HP)
    all_goals go_ret2
    all_goals first | exact ⟨H4.out.row, x4, 1, by omega, by omega, by omega, rfl⟩ | exact ⟨H4.out.row, x4, 2, by omega, by omega, by omega, rfl⟩ | exact ⟨H4.out.row, x4, 0, by omega, by omega, by omega, rfl⟩
end Go.Proofs.Ytmngmkbiibhmkaa
