/- The law HttpAgain, of responses and of neither. -/
import Derived.Test.YtaenccjlokiejaaGreatDoorHAgainA
namespace Go.Proofs.YtaenccjlokiejaaGreatDoor
open Go.RowKit Go.Shelf

theorem parseResp_nil : parseRespR [] = .error (152, 0) := rfl
set_option maxHeartbeats 4000000 in
set_option maxRecDepth 100000 in
theorem httpAgain_none (raw : U) (er es : Nat × Nat) (h : parseReqR raw = .error er) (h2 : parseRespR raw = .error es) (w : World) (hl : raw.length ≤ 9223372036854775807) (E : Env w) :
    Calls Tryz.prog 9 #[.string (str raw)] w fun e w' => e = .returned (.bool true) ∧ Below w.heap.size w w' := by
  have HQ0 := hide (pReqE h w hl E)
  have HQ1 := hide (fun W EE => parseResponseE h2 W hl EE)
  have HE := hide E
  have HL := hide (fun W EE => live_any W EE)
  generalize str raw = sr at *
  clear h h2 E hl
  go_enter Tryz.func9, Tryz.ntmps9
  go_wp2_with fail
  refine HQ0.out.mono ?_
  rintro e w1 ⟨rfl, hne, hb1⟩
  have HX : Hid (Q4 27 (w1.alloc (.cells #[.string { data := #[] }, .string { data := #[] }, .slice none 0 0, .string { data := #[] }] 27)) w1.heap.size (.string { data := #[] }) (.string { data := #[] }) (.slice none 0 0) (.string { data := #[] })) := new_at _ _ _ rfl
  have HBa := hide (hb1.alloc hb1.size (.cells #[.string { data := #[] }, .string { data := #[] }, .slice none 0 0, .string { data := #[] }] 27))
  have hni : ((er.1 : Int) == 0) = false := by rw [beq_eq_false_iff_ne]; omega
  clear hb1 HQ0 hne
  go_upto_region 2 with fail
  generalize hb3 : w1.heap.size = b3 at *
  generalize w1.alloc (.cells #[.string { data := #[] }, .string { data := #[] }, .slice none 0 0, .string { data := #[] }] 27) = wa at *
  have HQ2 := hide (HQ1.out wa (HE.out.keep HBa.out))
  clear HQ1
  go_wp2_with (first | (go_at_call 12; refine num_go _ _ _ ?_) | fail)
  refine HQ2.out.mono ?_
  rintro e w2 ⟨rfl, hne, hb2⟩
  have hnj : ((es.1 : Int) != 0) = true := by rw [bne_iff_ne]; omega
  have HBb := hide (HBa.out.trans (hb2.mono HBa.out.size))
  have HX2 := hide (HX.out.keep hb2)
  have HX3 := hide (HX2.out.keep (below_new w2 (.cells #[.int .i64 0, .slice none 0 0, .string { data := #[] }] 39)))
  have HY : Hid (Q3 39 (w2.alloc (.cells #[.int .i64 0, .slice none 0 0, .string { data := #[] }] 39)) w2.heap.size (.int .i64 0) (.slice none 0 0) (.string { data := #[] })) := new_at _ _ _ rfl
  have HBc := hide (HBb.out.alloc HBb.out.size (.cells #[.int .i64 0, .slice none 0 0, .string { data := #[] }] 39))
  clear hb2 HQ2 hne HX HX2 HBa HBb
  go_upto_region 10 with fail
  generalize hb8 : w2.heap.size = b8 at *
  generalize w2.alloc (.cells #[.int .i64 0, .slice none 0 0, .string { data := #[] }] 39) = wb at *
  obtain ⟨x0, x1, x2, x3⟩ := HX3.out.cells
  obtain ⟨y0, y1, y2⟩ := HY.out.cells
  have HLB := hide (HL.out wb (HE.out.keep HBc.out))
  clear HL
  go_wp2_with (first | (go_at_call 12; refine num_go _ _ _ ?_) | fail)
  refine HLB.out.mono ?_
  rintro e w3 ⟨rfl, hb3'⟩
  have HBd := hide (HBc.out.trans (hb3'.mono HBc.out.size))
  clear hb3' HLB
  go_wp2_with fail
  go_ret
  exact ⟨rfl, HBd.out⟩
set_option maxHeartbeats 4000000 in
set_option maxRecDepth 100000 in
theorem httpAgain_resp (raw : U) (er : Nat × Nat) (q : Rs) (h : parseReqR raw = .error er) (h2 : parseRespR raw = .ok q) (w : World) (hl : raw.length ≤ 9223372036854775807) (E : Env w) :
    Calls Tryz.prog 9 #[.string (str raw)] w fun e w' => e = .returned (.bool true) ∧ Below w.heap.size w w' := by
  have HOK := hide (resp_again h2)
  have HQ0 := hide (pReqE h w hl E)
  have HQ00 := hide (fun W EE => parseResponseO h2 W hl EE)
  have HE := hide E
  have HL := hide (fun W EE => live_any W EE)
  have hzr := str_size raw
  obtain ⟨n, hn⟩ : ∃ n, n = raw.length := ⟨_, rfl⟩
  rw [← hn] at hzr
  have HN := hide hn
  generalize str raw = sr at *
  clear h h2 E hl hn
  go_enter Tryz.func9, Tryz.ntmps9
  go_wp2_with fail
  refine HQ0.out.mono ?_
  rintro e wz ⟨rfl, hne, hbz⟩
  have HBz := hide (hbz.alloc hbz.size (.cells #[.string { data := #[] }, .string { data := #[] }, .slice none 0 0, .string { data := #[] }] 27))
  have hni : ((er.1 : Int) == 0) = false := by rw [beq_eq_false_iff_ne]; omega
  clear hbz HQ0 hne
  go_upto_region 2 with fail
  generalize wz.heap.size = bz at *
  generalize wz.alloc (.cells #[.string { data := #[] }, .string { data := #[] }, .slice none 0 0, .string { data := #[] }] 27) = w0 at *
  have HQ1 := hide (HQ00.out w0 (HE.out.keep HBz.out))
  clear HQ00
  go_wp2_with (first | (go_at_call 12; refine num_go _ _ _ ?_) | fail)
  refine HQ1.out.mono ?_
  rintro e w1 ⟨pa, pc, rfl, ho, -, hb1⟩
  have HX : Hid (Q3 39 (w1.alloc (.cells #[.int .i64 (q.n : Int), .slice pa q.fs.length pc, .string (str q.b)] 39)) w1.heap.size (.int .i64 (q.n : Int)) (.slice pa q.fs.length pc) (.string (str q.b))) := new_at _ _ _ rfl
  have HPR := hide ((FOwn.row ho).keep (below_new w1 (.cells #[.int .i64 (q.n : Int), .slice pa q.fs.length pc, .string (str q.b)] 39)))
  have hb1' := HBz.out.trans (hb1.mono HBz.out.size)
  have HBa := hide (hb1'.alloc hb1'.size (.cells #[.int .i64 (q.n : Int), .slice pa q.fs.length pc, .string (str q.b)] 39))
  clear ho hb1 hb1' HQ1 HBz
  go_upto_region 10 with fail
  generalize hb3 : w1.heap.size = b3 at *
  generalize w1.alloc (.cells #[.int .i64 (q.n : Int), .slice pa q.fs.length pc, .string (str q.b)] 39) = wa at *
  have HZZ : Hid (q.b.length ≤ 4611686018427387904 ∧ FZ q.fs ∧ q.fs.length ≤ 4611686018427387904 ∧ (q.n : Int) ≤ 9223372036854775807) := by
    have h3 := HOK.out.b32
    have h4 := HOK.out.n64
    have h5 := HOK.out.n599
    exact ⟨by omega, fun f hf => by have := HOK.out.fz f hf; exact ⟨by omega, by omega⟩, by omega, by omega⟩
  have HPF := hide (fun ao c W hrr EE => printResponse_any (q.n : Int) q.fs q.b ao q.fs.length c W rfl hrr (by omega) HZZ.out.2.2.2 HZZ.out.1 HZZ.out.2.1 HZZ.out.2.2.1 EE)
  unfold sAgg at HPF
  have HP := hide (HPF.out pa pc wa HPR.out (HE.out.keep HBa.out))
  obtain ⟨x0, x1, x2⟩ := HX.out.cells
  go_upto_region 12 with (first | (go_at_call 12; refine num_go _ _ _ ?_) | fail)
  rcases HOK.out.again with ⟨s, hs⟩ | ⟨he, hlong⟩
  · rw [hs] at HP HPF
    rw [show wAns (.ok s) = .tuple #[.string (str s), .int .i64 0] from rfl] at HP HPF
    obtain ⟨hpp, hsl, hsn, _, _⟩ := print_parseS hs
    rw [HOK.out.low, Int.toNat_natCast] at hpp
    have HQ1 := hide (fun W EE => parseResponseO (q := q) hpp W (by omega) EE)
    clear hs hpp hsl hsn
    go_wp2_with fail
    refine HP.out.mono ?_
    rintro e w2 ⟨rfl, hb2⟩
    have HBb := hide (HBa.out.trans (hb2.mono HBa.out.size))
    have HX2 := hide (HX.out.keep hb2)
    have HPR2 := hide (HPR.out.keep hb2)
    have HQ2 := hide (HQ1.out w2 (HE.out.keep HBb.out))
    clear hb2 HP HQ1 HX HPR HBa x0 x1 x2 HPF
    go_wp2_with (first | (go_at_call 12; refine num_go _ _ _ ?_) | fail)
    refine HQ2.out.mono ?_
    rintro e w3 ⟨pa2, pc2, rfl, ho2, -, hb3'⟩
    have HX3 := hide (HX2.out.keep hb3')
    have HPR3 := hide (HPR2.out.keep hb3')
    have HBc := hide (HBb.out.trans (hb3'.mono HBb.out.size))
    have HY : Hid (Q3 39 (w3.alloc (.cells #[.int .i64 (q.n : Int), .slice pa2 q.fs.length pc2, .string (str q.b)] 39)) w3.heap.size (.int .i64 (q.n : Int)) (.slice pa2 q.fs.length pc2) (.string (str q.b))) := new_at _ _ _ rfl
    have HX4 := hide (HX3.out.keep (below_new w3 (.cells #[.int .i64 (q.n : Int), .slice pa2 q.fs.length pc2, .string (str q.b)] 39)))
    have HPR4 := hide (HPR3.out.keep (below_new w3 (.cells #[.int .i64 (q.n : Int), .slice pa2 q.fs.length pc2, .string (str q.b)] 39)))
    have HPS4 := hide ((FOwn.row ho2).keep (below_new w3 (.cells #[.int .i64 (q.n : Int), .slice pa2 q.fs.length pc2, .string (str q.b)] 39)))
    have HBd := hide (HBc.out.alloc HBc.out.size (.cells #[.int .i64 (q.n : Int), .slice pa2 q.fs.length pc2, .string (str q.b)] 39))
    clear hb3' ho2 HX2 HX3 HPR2 HPR3 HBb HBc HQ2
    go_upto_region 16 with fail
    generalize hb8 : w3.heap.size = b8 at *
    generalize w3.alloc (.cells #[.int .i64 (q.n : Int), .slice pa2 q.fs.length pc2, .string (str q.b)] 39) = w5 at *
    obtain ⟨x0, x1, x2⟩ := HX4.out.cells
    obtain ⟨y0, y1, y2⟩ := HY.out.cells
    have HAS := hide (fun W hrr => answered_any (q.n : Int) q.fs q.b pa q.fs.length pc W rfl (by have := HOK.out.n64; omega) hrr)
    have HSA := hide (fun so c W a b => response_same (q.n : Int) q.b q.fs pa2 so q.fs.length pc2 c W rfl HZZ.out.2.2.1 a b)
    unfold sAgg at HAS
    go_region_held3 (fun W => W.cell? ⟨b3, 0, none⟩ = some (.int .i64 (q.n : Int)) ∧ W.cell? ⟨b3, 1, none⟩ = some (.slice pa q.fs.length pc) ∧ W.cell? ⟨b3, 2, none⟩ = some (.string (str q.b)) ∧ W.cell? ⟨b8, 0, none⟩ = some (.int .i64 (q.n : Int)) ∧ W.cell? ⟨b8, 1, none⟩ = some (.slice pa2 q.fs.length pc2) ∧ W.cell? ⟨b8, 2, none⟩ = some (.string (str q.b))) (go_keep) (first
      | (go_at_call 12; refine num_go _ _ _ ?_)
      | (go_at_call 26; refine (HAS.out _ (HPR4.out.keep (below_drewN (Below.refl _ _) 1))).mono ?_; rintro e w6 ⟨so, sc, rfl, ho6, hb6⟩; have HB6 : Hid (Below w5.heap.size w5 w6) := below_undrewN1 hb6; have HO6 := hide (FOwn.row ho6); clear ho6 hb6; have px0 := cell_kept x0 HB6.out; have px1 := cell_kept x1 HB6.out; have px2 := cell_kept x2 HB6.out; have py0 := cell_kept y0 HB6.out; have py1 := cell_kept y1 HB6.out; have py2 := cell_kept y2 HB6.out)
      | (go_at_call 20; refine (HSA.out so sc _ (HPS4.out.keep HB6.out) HO6.out).mono ?_; rintro e w7 ⟨rfl, hb7⟩; have HB7 : Hid (Below w5.heap.size w5 w7) := HB6.out.trans (hb7.mono HB6.out.size); have HB7' := hide hb7; clear hb7; have rx0 := cell_kept px0 HB7'.out; have rx1 := cell_kept px1 HB7'.out; have rx2 := cell_kept px2 HB7'.out; have ry0 := cell_kept py0 HB7'.out; have ry1 := cell_kept py1 HB7'.out; have ry2 := cell_kept py2 HB7'.out)
      | (go_at_call 13; refine (HL.out _ (HE.out.keep (HBd.out.trans (HB7.out.mono HBd.out.size)))).mono ?_; rintro e w8 ⟨rfl, hb8⟩; have HB8 : Hid (Below w5.heap.size w5 w8) := HB7.out.trans (hb8.mono HB7.out.size); have HB8' := hide hb8; clear hb8; have tx0 := cell_kept rx0 HB8'.out; have tx1 := cell_kept rx1 HB8'.out; have tx2 := cell_kept rx2 HB8'.out; have ty0 := cell_kept ry0 HB8'.out; have ty1 := cell_kept ry1 HB8'.out; have ty2 := cell_kept ry2 HB8'.out))
    go_wp2
    go_ret
    exact ⟨rfl, HBd.out.trans (HB8.out.mono HBd.out.size)⟩
  · rw [he] at HP
    rw [show wAns (.error 1) = .tuple #[.string { data := #[] }, .int .i64 1] from rfl] at HP
    have hgt : (n : Int) > 30000 := by have := HN.out; omega
    clear he hlong HPF
    go_wp2_with fail
    refine HP.out.mono ?_
    rintro e w2 ⟨rfl, hb2⟩
    have HBb := hide (HBa.out.trans (hb2.mono HBa.out.size))
    clear hb2 HP HX HPR HBa x0 x1 x2
    go_wp2_with (first | (go_at_call 12; refine num_go _ _ _ ?_) | fail)
    go_ret
    exact ⟨rfl, HBb.out⟩
theorem httpAgain_walk (raw : U) (w : World) (hl : raw.length ≤ 9223372036854775807) (E : Env w) :
    Calls Tryz.prog 9 #[.string (str raw)] w fun e w' => e = .returned (.bool true) ∧ Below w.heap.size w w' := by
  cases h : parseReqR raw with
  | ok q => exact httpAgain_req raw q h w hl E
  | error er =>
    cases h2 : parseRespR raw with
    | ok q => exact httpAgain_resp raw er q h h2 w hl E
    | error es => exact httpAgain_none raw er es h h2 w hl E
end Go.Proofs.YtaenccjlokiejaaGreatDoor
