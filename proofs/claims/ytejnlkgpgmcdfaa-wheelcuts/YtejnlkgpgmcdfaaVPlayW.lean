/- The law's play: a wheel made and led through a story. -/
import Derived.Test.YtejnlkgpgmcdfaaVGuard
import Derived.Test.YtejnlkgpgmcdfaaVActs
import Derived.Test.YtejnlkgpgmcdfaaVCutsM
namespace Go.Proofs.Ytejnlkgpgmcdfaa
open Go.RowKit Go.Shelf Go.Maps

def playS (s : Nat × List Tm) (x : Ac) : Nat × List Tm := if x.k = 1 then (s.1, addL s.1 s.2 x.id x.a) else if x.k = 2 then (s.1, tdel x.id s.2) else if x.k = 4 then (max s.1 x.a, advL x.a s.2) else s
def playN (now : Nat) (l : List Ac) : Nat × List Tm := l.foldl playS (now, [])
theorem playN_next {now : Nat} {l : List Ac} {i : Nat} {x : Ac} (h : l[i]? = some x) : playN now (l.take (i + 1)) = playS (playN now (l.take i)) x := by
  unfold playN
  rw [List.take_add_one, h, List.foldl_append]
  rfl
theorem MineG.none {w0 w : World} {wp now : Nat} {L : List Tm} {G : List Nat} (h : MineG w0 w wp now L G) : MineG w0 w wp now L [] := by
  obtain ⟨⟨Y, h1, h2, _⟩, h3⟩ := h
  exact ⟨⟨Y, h1, h2, fun b _ hg => by cases hg⟩, h3⟩
set_option maxHeartbeats 4000000 in
set_option maxRecDepth 100000 in
theorem play_any (now : Nat) (aao : Option Addr) (n ac : Nat) (l : List Ac) (w : World) (hn : now < 18446744073709551616) (hs : ASee w aao l) (hl : n = l.length) (hb : n ≤ 140737488351232) (hk : ∀ x ∈ l, x.id < 18446744073709551616 ∧ x.a < 18446744073709551616) :
    Calls Try.prog 24 #[.agg #[.int .u64 (now : Int), .slice aao n ac]] w fun e w' => ∃ wp, e = .returned (pw wp) ∧ MineG w w' wp (playN now l).1 (playN now l).2 [] := by
  have HB0 := hide (Bl.new w #[.int .u64 (now : Int), .slice aao n ac] 28)
  have HBW := hide (below_new w (.cells #[.int .u64 (now : Int), .slice aao n ac] 28))
  have HS := hide (hs.keep HBW.out)
  have HN := hide hn
  have HL := hide hl
  have HK := hide hk
  have HSZ : Hid ((w.alloc (.cells #[.int .u64 (now : Int), .slice aao n ac] 28)).heap.size = w.heap.size + 1) := by show _ = _; simp
  clear hs hn hl hk
  go_enter Try.func24, Try.ntmps24
  go_upto_region 1 with fail
  generalize hNN : w.heap.size = N at *
  generalize w.alloc (.cells #[.int .u64 (now : Int), .slice aao n ac] 28) = w1 at *
  have b0 : w1.cell? ⟨N, 0, none⟩ = some (.int .u64 (now : Int)) := HB0.out.cell 0
  have b1 : w1.cell? ⟨N, 1, none⟩ = some (.slice aao n ac) := HB0.out.cell 1
  have HB0' := hide (show w1.cell? ⟨N, 0, none⟩ = some (.int .u64 (now : Int)) ∧ w1.cell? ⟨N, 1, none⟩ = some (.slice aao n ac) from ⟨b0, b1⟩)
  have HNN := hide hNN
  clear HB0 hNN
  go_wp2_with fail
  refine (new_g now w1 [] HN.out (fun g hg => by cases hg)).mono ?_
  rintro e w2 ⟨wp, rfl, hm⟩
  have M2 := hide hm
  clear hm b0 b1
  unfold pw
  go_wp2_with fail
  go_loopw [4] (fun v4 wr => ∃ i : Nat, i ≤ n ∧ v4 = .int .i64 (i : Int) ∧ Hid (MineG w1 wr wp (playN now (l.take i)).1 (playN now (l.take i)).2 [])) (fun v4 _ => n - (intOf v4).toNat)
  case atStart => exact ⟨0, by omega, rfl, M2⟩
  case round =>
    clear M2
    obtain ⟨i, hi, rfl, HI⟩ := hrel
    have d0 := cell_kept HB0'.out.1 HI.out.bel
    have d1 := cell_kept HB0'.out.2 HI.out.bel
    by_cases hin : i < n
    · obtain ⟨x, hx⟩ : ∃ x, l[i]? = some x := ⟨_, List.getElem?_eq_getElem (by have := HL.out; omega)⟩
      obtain ⟨b, off, e0, k0, k1, k2⟩ := HS.out.at hx
      subst e0
      have f0 := cell_kept k0 HI.out.bel
      have f1 := cell_kept k1 HI.out.bel
      have f2 := cell_kept k2 HI.out.bel
      have HX := hide (HK.out x (List.mem_of_getElem? hx))
      have hil : (i : Int) < (n : Int) := by omega
      have HNX := hide (playN_next (now := now) hx)
      generalize playN now (l.take i) = st at *
      obtain ⟨nw, L⟩ := st
      obtain ⟨k, id, a⟩ := x
      simp only at f0 f1 f2 HX HI
      have HU := hide (HI.out.below (below_new wr (.cells #[.int .i64 k, .int .u64 (id : Int), .int .u64 (a : Int)] 35)))
      have HUB := hide (Bl.new wr #[.int .i64 k, .int .u64 (id : Int), .int .u64 (a : Int)] 35)
      clear hx k0 k1 k2
      go_upto_region 6 with fail
      generalize hAA : wr.heap.size = A at *
      generalize wr.alloc (.cells #[.int .i64 k, .int .u64 (id : Int), .int .u64 (a : Int)] 35) = u at *
      clear hAA d0 d1 f0 f1 f2 HI
      have a0 : u.cell? ⟨A, 0, none⟩ = some (.int .i64 k) := HUB.out.cell 0
      have a1 : u.cell? ⟨A, 1, none⟩ = some (.int .u64 (id : Int)) := HUB.out.cell 1
      have a2 : u.cell? ⟨A, 2, none⟩ = some (.int .u64 (a : Int)) := HUB.out.cell 2
      by_cases h1 : k = 1
      · subst h1
        have HC := hide (add_g HU.out (fun g hg => by cases hg) id a HX.out.1 HX.out.2)
        unfold pw at HC
        go_wp2_with (go_at_call 16; refine HC.out.mono ?_; rintro e w4 ⟨rfl, hm4, -, -⟩; have HM4 := hide hm4; clear hm4)
        go_roundw
        case rel => exact ⟨i + 1, by omega, by simp, by rw [HNX.out]; exact HM4⟩
        case measure => simp [intOf]; omega
      by_cases h2 : k = 2
      · subst h2
        have HC := hide (remove_g HU.out (fun g hg => by cases hg) id HX.out.1)
        unfold pw at HC
        go_wp2_with (go_at_call 27; refine HC.out.mono ?_; rintro e w4 ⟨rfl, hm4, -, -⟩; have HM4 := hide hm4; clear hm4)
        go_roundw
        case rel => exact ⟨i + 1, by omega, by simp, by rw [HNX.out]; exact HM4⟩
        case measure => simp [intOf]; omega
      by_cases h4 : k = 4
      · subst h4
        have HC := hide (advance_g HU.out (fun g hg => by cases hg) a HX.out.2)
        unfold pw at HC
        go_wp2_with (go_at_call 21; refine HC.out.mono ?_; rintro e w4 ⟨ao4, n4, c4, rfl, -, hm4, -, -⟩; have HM4 := hide hm4.none; clear hm4)
        go_roundw
        case rel => exact ⟨i + 1, by omega, by simp, by rw [HNX.out]; exact HM4⟩
        case measure => simp [intOf]; omega
      · have hk1 : (k == 1) = false := by simpa using h1
        have hk2 : (k == 2) = false := by simpa using h2
        have hk4 : (k == 4) = false := by simpa using h4
        go_wp2_with fail
        go_roundw
        case rel => exact ⟨i + 1, by omega, by simp, by rw [HNX.out]; unfold playS; simp only [h1, h2, h4, if_false]; exact HU⟩
        case measure => simp [intOf]; omega
    · have hil : ¬ (i : Int) < (n : Int) := by omega
      have HF : Hid (MineG w wr wp (playN now l).1 (playN now l).2 []) := by
        have h := HI.out
        rw [List.take_of_length_le (by have := HL.out; omega)] at h
        obtain ⟨⟨Y, h1, h2, h3⟩, h4⟩ := h
        have hs := HSZ.out
        have hn := HNN.out
        exact ⟨⟨Y, h1, fun b hb => by have := h2 b hb; omega, h3⟩, by rw [hn]; exact HBW.out.trans (h4.mono (by omega))⟩
      clear HI
      go_wp2_with fail
      go_ret
      exact ⟨wp, rfl, HF.out⟩
end Go.Proofs.Ytejnlkgpgmcdfaa
