/- The law HttpAgain, of requests. -/
import Derived.Test.YtaenccjlokiejaaGreatDoorHAgainM
import Derived.Test.YtaenccjlokiejaaGreatDoorHBack
namespace Go.Proofs.YtaenccjlokiejaaGreatDoor
open Go.RowKit Go.Shelf

theorem parseReq_nil : parseReqR [] = .error (150, 0) := rfl
set_option maxHeartbeats 4000000 in
set_option maxRecDepth 100000 in
theorem httpAgain_req (raw : U) (q : Rq) (h : parseReqR raw = .ok q) (w : World) (hl : raw.length ≤ 9223372036854775807) (E : Env w) :
    Calls Tryz.prog 9 #[.string (str raw)] w fun e w' => e = .returned (.bool true) ∧ Below w.heap.size w w' := by
  have HOK := hide (req_again h)
  have h0 := pReqO h w hl E
  have HQ0 := hide h0
  have HE := hide E
  have HL := hide (fun W EE => live_any W EE)
  have hzr := str_size raw
  obtain ⟨n, hn⟩ : ∃ n, n = raw.length := ⟨_, rfl⟩
  rw [← hn] at hzr
  have HN := hide hn
  have HB0 : Hid (Below w.heap.size w w) := Below.refl _ _
  generalize str raw = sr at *
  clear h h0 E hl hn
  go_enter Tryz.func9, Tryz.ntmps9
  go_wp2_with fail
  refine HQ0.out.mono ?_
  rintro e w1 ⟨pa, pc, rfl, ho, -, hb1⟩
  have HX : Hid (Q4 27 (w1.alloc (.cells #[.string (str q.m), .string (str q.t), .slice pa q.fs.length pc, .string (str q.b)] 27)) w1.heap.size (.string (str q.m)) (.string (str q.t)) (.slice pa q.fs.length pc) (.string (str q.b))) := new_at _ _ _ rfl
  have HPR := hide ((FOwn.row ho).keep (below_new w1 (.cells #[.string (str q.m), .string (str q.t), .slice pa q.fs.length pc, .string (str q.b)] 27)))
  have HBa := hide (hb1.alloc hb1.size (.cells #[.string (str q.m), .string (str q.t), .slice pa q.fs.length pc, .string (str q.b)] 27))
  clear ho hb1 HQ0
  go_upto_region 2 with fail
  generalize hb3 : w1.heap.size = b3 at *
  generalize w1.alloc (.cells #[.string (str q.m), .string (str q.t), .slice pa q.fs.length pc, .string (str q.b)] 27) = wa at *
  have HZZ : Hid (q.m.length ≤ 9223372036854775807 ∧ q.t.length ≤ 9223372036854775807 ∧ q.b.length ≤ 4611686018427387904 ∧ FZ q.fs ∧ q.fs.length ≤ 4611686018427387904) := by
    have h1 := HOK.out.m16
    have h2 := HOK.out.t1024
    have h3 := HOK.out.b32
    have h4 := HOK.out.n64
    exact ⟨by omega, by omega, by omega, fun f hf => by have := HOK.out.fz f hf; exact ⟨by omega, by omega⟩, by omega⟩
  have HPF := hide (fun ao c W hrr EE => printRequest_any q ao q.fs.length c W rfl hrr HZZ.out.1 HZZ.out.2.1 HZZ.out.2.2.1 HZZ.out.2.2.2.1 HZZ.out.2.2.2.2 EE)
  unfold qAgg at HPF
  have HP := hide (HPF.out pa pc wa HPR.out (HE.out.keep HBa.out))
  go_upto_region 3 with (first | (go_at_call 12; refine num_go _ _ _ ?_) | fail)
  obtain ⟨x0, x1, x2, x3⟩ := HX.out.cells
  rcases HOK.out.again with ⟨s, hs⟩ | ⟨he, hlong⟩
  · rw [hs] at HP HPF
    rw [show wAns (.ok s) = .tuple #[.string (str s), .int .i64 0] from rfl] at HP HPF
    obtain ⟨hpp, hsl, hsn⟩ := print_parse hs
    rw [HOK.out.low] at hpp
    have HQ1 := hide (fun W EE => pReqO (q := q) hpp W (by omega) EE)
    clear hs hpp hsl hsn
    go_wp2_with fail
    refine HP.out.mono ?_
    rintro e w2 ⟨rfl, hb2⟩
    have HBb := hide (HBa.out.trans (hb2.mono HBa.out.size))
    have HX2 := hide (HX.out.keep hb2)
    have HPR2 := hide (HPR.out.keep hb2)
    have HQ2 := hide (HQ1.out w2 (HE.out.keep HBb.out))
    clear hb2 HP HQ1 HX HPR HBa x0 x1 x2 x3
    go_wp2_with fail
    refine HQ2.out.mono ?_
    rintro e w3 ⟨pa2, pc2, rfl, ho2, -, hb3'⟩
    have HX3 := hide (HX2.out.keep hb3')
    have HPR3 := hide (HPR2.out.keep hb3')
    have HBc := hide (HBb.out.trans (hb3'.mono HBb.out.size))
    have HY : Hid (Q4 27 (w3.alloc (.cells #[.string (str q.m), .string (str q.t), .slice pa2 q.fs.length pc2, .string (str q.b)] 27)) w3.heap.size (.string (str q.m)) (.string (str q.t)) (.slice pa2 q.fs.length pc2) (.string (str q.b))) := new_at _ _ _ rfl
    have HX4 := hide (HX3.out.keep (below_new w3 (.cells #[.string (str q.m), .string (str q.t), .slice pa2 q.fs.length pc2, .string (str q.b)] 27)))
    have HPR4 := hide (HPR3.out.keep (below_new w3 (.cells #[.string (str q.m), .string (str q.t), .slice pa2 q.fs.length pc2, .string (str q.b)] 27)))
    have HPS4 := hide ((FOwn.row ho2).keep (below_new w3 (.cells #[.string (str q.m), .string (str q.t), .slice pa2 q.fs.length pc2, .string (str q.b)] 27)))
    have HBd := hide (HBc.out.alloc HBc.out.size (.cells #[.string (str q.m), .string (str q.t), .slice pa2 q.fs.length pc2, .string (str q.b)] 27))
    clear hb3' ho2 HX2 HX3 HPR2 HPR3 HBb HBc HQ2
    go_upto_region 5 with fail
    generalize hb8 : w3.heap.size = b8 at *
    generalize w3.alloc (.cells #[.string (str q.m), .string (str q.t), .slice pa2 q.fs.length pc2, .string (str q.b)] 27) = wb at *
    have HP2 := hide (HPF.out pa2 pc2 wb HPS4.out (HE.out.keep HBd.out))
    obtain ⟨y0, y1, y2, y3⟩ := HY.out.cells
    clear HPF
    go_wp2_with (first | (go_at_call 12; refine num_go _ _ _ ?_) | fail)
    refine HP2.out.mono ?_
    rintro e w5 ⟨rfl, hb5⟩
    have HX5 := hide (HX4.out.keep hb5)
    have HY5 := hide (HY.out.keep hb5)
    have HPR5 := hide (HPR4.out.keep hb5)
    have HPS5 := hide (HPS4.out.keep hb5)
    have HBe := hide (HBd.out.trans (hb5.mono HBd.out.size))
    clear hb5 HX4 HY HPR4 HPS4 HBd HP2 y0 y1 y2 y3
    obtain ⟨x0, x1, x2, x3⟩ := HX5.out.cells
    obtain ⟨y0, y1, y2, y3⟩ := HY5.out.cells
    have HAS := hide (fun W hrr => asked_any q pa q.fs.length pc W rfl (by have := HOK.out.n64; omega) hrr)
    have HSA := hide (fun so c W a b => request_same q.m q.t q.b q.fs pa2 so q.fs.length pc2 c W rfl HZZ.out.2.2.2.2 a b)
    unfold qAgg at HAS
    go_upto_region 8 with fail
    go_region_held3 (fun W => W.cell? ⟨b3, 0, none⟩ = some (.string (str q.m)) ∧ W.cell? ⟨b3, 1, none⟩ = some (.string (str q.t)) ∧ W.cell? ⟨b3, 2, none⟩ = some (.slice pa q.fs.length pc) ∧ W.cell? ⟨b3, 3, none⟩ = some (.string (str q.b)) ∧ W.cell? ⟨b8, 0, none⟩ = some (.string (str q.m)) ∧ W.cell? ⟨b8, 1, none⟩ = some (.string (str q.t)) ∧ W.cell? ⟨b8, 2, none⟩ = some (.slice pa2 q.fs.length pc2) ∧ W.cell? ⟨b8, 3, none⟩ = some (.string (str q.b))) (go_keep) (first
      | (go_at_call 12; refine num_go _ _ _ ?_)
      | (go_at_call 24; refine (HAS.out _ (HPR5.out.keep (below_drewN (Below.refl _ _) 1))).mono ?_; rintro e w6 ⟨so, sc, rfl, ho6, hb6⟩; have HB6 : Hid (Below w5.heap.size w5 w6) := below_undrewN1 hb6; have HO6 := hide (FOwn.row ho6); clear ho6 hb6; have px0 := cell_kept x0 HB6.out; have px1 := cell_kept x1 HB6.out; have px2 := cell_kept x2 HB6.out; have px3 := cell_kept x3 HB6.out; have py0 := cell_kept y0 HB6.out; have py1 := cell_kept y1 HB6.out; have py2 := cell_kept y2 HB6.out; have py3 := cell_kept y3 HB6.out)
      | (go_at_call 16; refine (HSA.out so sc _ (HPS5.out.keep HB6.out) HO6.out).mono ?_; rintro e w7 ⟨rfl, hb7⟩; have HB7 : Hid (Below w5.heap.size w5 w7) := HB6.out.trans (hb7.mono HB6.out.size); have HB7' := hide hb7; clear hb7; have rx0 := cell_kept px0 HB7'.out; have rx1 := cell_kept px1 HB7'.out; have rx2 := cell_kept px2 HB7'.out; have rx3 := cell_kept px3 HB7'.out; have ry0 := cell_kept py0 HB7'.out; have ry1 := cell_kept py1 HB7'.out; have ry2 := cell_kept py2 HB7'.out; have ry3 := cell_kept py3 HB7'.out)
      | (go_at_call 13; refine (HL.out _ (HE.out.keep (HBe.out.trans (HB7.out.mono HBe.out.size)))).mono ?_; rintro e w8 ⟨rfl, hb8⟩; have HB8 : Hid (Below w5.heap.size w5 w8) := HB7.out.trans (hb8.mono HB7.out.size); have HB8' := hide hb8; clear hb8; have tx0 := cell_kept rx0 HB8'.out; have tx1 := cell_kept rx1 HB8'.out; have tx2 := cell_kept rx2 HB8'.out; have tx3 := cell_kept rx3 HB8'.out; have ty0 := cell_kept ry0 HB8'.out; have ty1 := cell_kept ry1 HB8'.out; have ty2 := cell_kept ry2 HB8'.out; have ty3 := cell_kept ry3 HB8'.out))
    go_wp2
    go_ret
    exact ⟨rfl, HBe.out.trans (HB8.out.mono HBe.out.size)⟩
  · rw [he] at HP
    rw [show wAns (.error 1) = .tuple #[.string { data := #[] }, .int .i64 1] from rfl] at HP
    have HQ1 := hide (fun W EE => pReqE parseReq_nil W (by decide) EE)
    rw [show str ([] : U) = { data := #[] } from rfl] at HQ1
    have hgt : (n : Int) > 30000 := by have := HN.out; omega
    clear he hlong HPF
    go_wp2_with fail
    refine HP.out.mono ?_
    rintro e w2 ⟨rfl, hb2⟩
    have HBb := hide (HBa.out.trans (hb2.mono HBa.out.size))
    have HQ2 := hide (HQ1.out w2 (HE.out.keep HBb.out))
    clear hb2 HP HQ1 HX HPR HBa x0 x1 x2 x3
    go_wp2_with fail
    refine HQ2.out.mono ?_
    rintro e w3 ⟨rfl, -, hb3'⟩
    have HBc := hide (HBb.out.trans (hb3'.mono HBb.out.size))
    clear hb3' HQ2
    go_wp2_with (first | (go_at_call 12; refine num_go _ _ _ ?_) | fail)
    go_ret
    exact ⟨rfl, HBc.out.alloc HBc.out.size _⟩
end Go.Proofs.YtaenccjlokiejaaGreatDoor
