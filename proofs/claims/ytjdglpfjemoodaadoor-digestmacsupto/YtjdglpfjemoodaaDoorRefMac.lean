/- The contract of the reference's Mac: for every key and all parts. -/
import Derived.Test.YtjdglpfjemoodaaDoorRefTotal
import Derived.Test.YtjdglpfjemoodaaDoorPartsMath
import Derived.Test.YtjdglpfjemoodaaDoorGuarded
import Derived.Test.YtjdglpfjemoodaaDoorSmallOwn
namespace Go.Proofs.YtjdglpfjemoodaaDoor
open Go.RowKit

set_option maxHeartbeats 8000000 in
set_option maxRecDepth 100000 in
theorem refMac_any (n cap pn pc : Nat) (ao po : Option Addr) (xs : List Nat) (pl : List (List Nat)) (w : World) (hl : n ≤ 1048576) (hn : n = xs.length) (hx : ∀ x ∈ xs, x < 256) (hr : Row w ao xs)
    (hpn : pn = pl.length) (hpl : pn ≤ 1048576) (hpf : pl.flatten.length ≤ 1048576) (hp : Parts w po pl) (hT : Roots w 1) :
    Calls Tryd.prog 27 #[.slice ao n cap, .slice po pn pc] w fun e w' => e = .returned (.agg ((macOf xs pl).map bv).toArray) ∧ Below w.heap.size w w' := by
  have HN : Hid (n = xs.length) := hn
  have HX : Hid (∀ x ∈ xs, x < 256) := hx
  have HPN : Hid (pn = pl.length) := hpn
  have HPF : Hid (pl.flatten.length ≤ 1048576) := hpf
  have HK1 : Hid (64 < n → kkey xs = sha xs) := fun h => by unfold kkey; rw [if_pos (by omega)]
  have HK2 : Hid (¬ 64 < n → kkey xs = xs) := fun h => by unfold kkey; rw [if_neg (by omega)]
  have HKL : Hid ((kkey xs).length ≤ 64) := kkey_length xs
  have HKB : Hid (kblk xs = kkey xs ++ List.replicate (64 - (kkey xs).length) 0) := rfl
  have HKN : Hid ((kblk xs).length = 64) := kblk_length xs
  have HKX : Hid (∀ x ∈ kblk xs, x < 256) := kblk_lt hx
  have HSL : Hid ((sha xs).length = 32) := sha_length xs
  have HMO : Hid (macOf xs pl = sha (padOf (kblk xs) 92 ++ sha (padOf (kblk xs) 54 ++ pl.flatten))) := rfl
  have HML : Hid ((macOf xs pl).length = 32) := sha_length _
  obtain ⟨w0, hw0⟩ : ∃ x, x = w.alloc (Obj.cells ((List.replicate 32 0).map bv).toArray 24) := ⟨_, rfl⟩
  have hw02 : w0 = w.alloc (Obj.cells #[.int .u8 0, .int .u8 0, .int .u8 0, .int .u8 0, .int .u8 0, .int .u8 0, .int .u8 0, .int .u8 0, .int .u8 0, .int .u8 0, .int .u8 0, .int .u8 0, .int .u8 0, .int .u8 0, .int .u8 0, .int .u8 0, .int .u8 0, .int .u8 0, .int .u8 0, .int .u8 0, .int .u8 0, .int .u8 0, .int .u8 0, .int .u8 0, .int .u8 0, .int .u8 0, .int .u8 0, .int .u8 0, .int .u8 0, .int .u8 0, .int .u8 0, .int .u8 0] 24) := hw0
  have HB0 : Hid (Below w.heap.size w w0) := by rw [hw0]; exact below_new w _
  have GR0 : Hid (Bl w0 w.heap.size ((List.replicate 32 0).map bv) 24) := by rw [hw0]; exact Bl.new w _ _
  have HR : Hid (Row w0 ao xs) := hr.keep HB0.out
  have HP : Hid (Parts w0 po pl) := hp.keep HB0.out
  have HT : Hid (Roots w0 1) := hT.keep HB0.out
  have hs0 := HB0.out.size
  clear hx hr hT hpn hp hpf hn hw0
  generalize kkey xs = kk at *
  generalize kblk xs = kb at *
  generalize macOf xs pl = mo at *
  go_enter Tryd.func27, Tryd.ntmps27
  go_upto_region 1 with fail
  rw [← hw02]
  clear hw02
  go_wp2_with (first | (at_builtin; refine wpList_append_bytes rfl _ _ rfl w0.heap.size _ [] rfl (own_new w0 w0.heap.size [] (Nat.le_refl _) (Nat.zero_le _)) ao _ cap xs HN.out rfl (HR.out.keep (below_new w0 _)) (by simp; rw [← HN.out]; omega) (by simp) ?_) | fail)
  rintro v1 w1 hown1 hgr1
  obtain ⟨ao1, c1, rfl, hc1, hr1, hb1⟩ := copied hown1 hgr1 HN.out
  have HB1 : Hid (Below w0.heap.size w0 w1) := hb1
  have HR1 : Hid (Row w1 ao1 xs) := hr1
  have HO1 : Hid (Own w1 w0.heap.size (.slice ao1 n c1) xs) := hown1
  have hs1 := HB1.out.size
  clear hown1 hgr1 hr1 hb1
  go_upto_if 17 with fail
  go_cut [5] (fun v wx => Hid (Own wx w0.heap.size v kk) ∧ Hid (Below w0.heap.size w0 wx))
  case first =>
    by_cases hbig : 64 < n
    · go_wp2_with fail
      refine (refSum_any n c1 ao1 xs w1 HN.out (by omega) HX.out HR1.out (HT.out.keep HB1.out)).mono ?_
      rintro e w2 ⟨rfl, h2⟩
      rw [← HK1.out hbig]
      have HK32 : Hid (kk.length = 32) := by show _ = _; rw [HK1.out hbig, HSL.out]
      have HB2 : Hid (Below w0.heap.size w0 w2) := HB1.out.trans (h2.mono hs1)
      have hs2 := HB2.out.size
      clear h2
      have HC : Hid ((Tryd.prog.info? 24).map (·.size) = some (kk.map bv).toArray.size) := by show _ = _; rw [size24]; simp [HK32.out]
      go_upto_region 4 with (first | (refine wpList_store_row rfl 24 _ _ rfl w2.heap.size (kk.map bv).toArray rfl rfl 24 _ (Bl.new w2 _ _) HC.out (by simp [HK32.out]) (all_oneCell_toArray (bv_one _)) ?_) | fail)
      obtain ⟨w3, hq3⟩ : ∃ x, x = (w2.alloc (Obj.cells #[.int .u8 0, .int .u8 0, .int .u8 0, .int .u8 0, .int .u8 0, .int .u8 0, .int .u8 0, .int .u8 0, .int .u8 0, .int .u8 0, .int .u8 0, .int .u8 0, .int .u8 0, .int .u8 0, .int .u8 0, .int .u8 0, .int .u8 0, .int .u8 0, .int .u8 0, .int .u8 0, .int .u8 0, .int .u8 0, .int .u8 0, .int .u8 0, .int .u8 0, .int .u8 0, .int .u8 0, .int .u8 0, .int .u8 0, .int .u8 0, .int .u8 0, .int .u8 0] 24)).setRow w2.heap.size (kk.map bv).toArray := ⟨_, rfl⟩
      rw [← hq3]
      have HG3 : Hid (Bl w3 w2.heap.size (kk.map bv) 24) := by rw [hq3]; exact (Bl.new w2 _ _).setRow _
      have HS3 : Hid (Below w2.heap.size w2 w3) := by rw [hq3]; exact below_setRow (below_new w2 _) (Nat.le_refl _) _
      clear hq3
      have HB3 : Hid (Below w0.heap.size w0 w3) := HB2.out.trans (HS3.out.mono hs2)
      have hs3 := HB3.out.size
      have hs32 : ∀ W, (Instr.sliceAt 24 (.pointer (some ⟨w2.heap.size, 0, none⟩)) none none none).run Tryd.prog W = .ok (.slice (some ⟨w2.heap.size, 0, none⟩) 32 32) W := fun W => arr_all 24 32 Tryd.underlying24 w2.heap.size 0 (by decide) W
      go_wp2_with (first | (at_builtin; refine wpList_append_bytes rfl _ _ rfl w0.heap.size _ [] rfl (own_new w3 w0.heap.size [] hs3 (Nat.zero_le _)) (some ⟨w2.heap.size, 0, none⟩) 32 32 kk (by rw [HK32.out]) rfl (HG3.out.row.keep (below_new w3 _)) (by simp; rw [HK32.out]; omega) (by simp; omega) ?_) | fail)
      rintro v4 w4 hown4 hgr4
      go_wp2
      go_meet
      case rel => exact ⟨hown4, ((HB3.out.alloc hs3 _).grown hgr4 (by simp; omega) (fun k hk => by simp [Value.ownBlock] at hk; omega))⟩
    · have HE : Hid (kk = xs) := HK2.out hbig
      go_wp2
      go_meet
      case rel => exact ⟨by rw [HE.out]; exact HO1, HB1⟩
  case rest =>
    obtain ⟨HO2, HB2⟩ := hcut
    clear HO1 HR1 HB1 hs1 HK1 HK2 HSL
    go_wp2
    go_loopw [5] (fun v wr => ∃ j : Nat, j ≤ 64 - kk.length ∧ Hid (Own wr w0.heap.size v (kk ++ List.replicate j 0)) ∧ Hid (Below w0.heap.size w0 wr)) (fun v _ => 64 - slLen v)
    case atStart => exact ⟨0, Nat.zero_le _, by rw [List.replicate_zero, List.append_nil]; exact HO2, HB2⟩
    case round =>
      clear HO2 HB2
      obtain ⟨j, hj, HO, HB⟩ := hrel
      have hs := HB.out.size
      obtain ⟨m, hm⟩ : ∃ m, m = kk.length + j := ⟨_, rfl⟩
      have HLn : Hid ((kk ++ List.replicate j 0).length = m) := by show _ = _; rw [hm]; simp
      have hmj : Hid (m = kk.length + j) := hm
      have hm64 : m ≤ 64 := by have := HKL.out; omega
      obtain ⟨a4, cp4, rfl, hcp4, hr4⟩ := HO.out.read
      rw [HLn.out] at HO hcp4 ⊢
      have HR4 : Hid (Row wr a4 (kk ++ List.replicate j 0)) := hr4
      clear hm hr4
      by_cases hlt : m < 64
      · go_wp2_with (first | (at_builtin; refine wpList_append_bytes rfl _ _ rfl w0.heap.size _ (kk ++ List.replicate j 0) rfl (HO.out.alloc _) (some ⟨wr.heap.size, 0, none⟩) 1 1 [0] rfl rfl (row_one _ 0) (by rw [HLn.out]; simp; omega) (by simp; omega) ?_) | fail)
        rintro v5 w5 hown5 hgr5
        have HB5 : Hid (Below w0.heap.size w0 w5) := (HB.out.alloc hs _).grown hgr5 (by simp; omega) HO.out.ge
        have HO5 : Hid (Own w5 w0.heap.size v5 (kk ++ List.replicate (j + 1) 0)) := by rw [List.replicate_succ']; exact hown5
        clear hown5 hgr5
        obtain ⟨a5, cp5, he5, _, _⟩ := HO5.out.read
        have hl5 : (kk ++ List.replicate (j + 1) 0).length = m + 1 := by have := hmj.out; simp; omega
        rw [hl5] at he5
        subst he5
        go_wp2
        go_roundw
        case rel => exact ⟨j + 1, by have := hmj.out; omega, HO5, HB5⟩
        case measure => simp [slLen]; omega
      · obtain rfl : m = 64 := by omega
        have HKE : Hid (kk ++ List.replicate j 0 = kb) := by show _ = _; rw [HKB.out]; congr 2; have := hmj.out; omega
        rw [HKE.out] at HR4
        clear HO HLn HKE
        obtain ⟨wz, hwz⟩ : ∃ x : World, x = wr := ⟨_, rfl⟩
        subst hwz
        obtain ⟨gk, offk, rfl⟩ := HR4.out.form (by rw [HKN.out]; decide)
        go_wp2
        go_loopw [7, 8, 9] (fun vi vo i wr => ∃ k : Nat, k ≤ 64 ∧ i = .int .i64 (k : Int) ∧ Hid (Own wr wz.heap.size vi ((padOf kb 54).take k)) ∧ Hid (Own wr wz.heap.size vo ((padOf kb 92).take k)) ∧ Hid (Aside vi vo) ∧ Hid (Below wz.heap.size wz wr)) (fun _ _ i _ => 64 - (intOf i).toNat)
        case atStart => exact ⟨0, Nat.zero_le _, rfl, own_nil _ _, own_nil _ _, apart_nil _, Below.refl _ _⟩
        case round =>
          obtain ⟨k, hk, rfl, HI, HU, HA, HB2⟩ := hrel
          have hs2 := HB2.out.size
          by_cases hlt2 : k < 64
          · have HC : Hid (∀ W, Below wz.heap.size wz W → W.cell? ⟨gk, offk + k, none⟩ = some (.int .u8 ((kb.getD k 0 : Nat) : Int))) := fun W h => (HR4.out.keep h).cell k (by rw [HKN.out]; exact hlt2)
            have c0 := HC.out wr HB2.out
            have hxk := lt_get HKX.out k
            have HP1 : Hid ((padOf kb 54).take (k + 1) = (padOf kb 54).take k ++ [kb.getD k 0 ^^^ 54]) := pad_take_succ kb 54 k (by rw [HKN.out]; exact hlt2)
            have HP2 : Hid ((padOf kb 92).take (k + 1) = (padOf kb 92).take k ++ [kb.getD k 0 ^^^ 92]) := pad_take_succ kb 92 k (by rw [HKN.out]; exact hlt2)
            have HL1 : Hid (((padOf kb 54).take k).length ≤ 64) := by show _ ≤ _; rw [List.length_take]; omega
            have HL2 : Hid (((padOf kb 92).take k).length ≤ 64) := by show _ ≤ _; rw [List.length_take]; omega
            generalize kb.getD k 0 = x at *
            have hx1 : bits BinOp.xor IntKind.u8 (x : Int) 54 = ((x ^^^ 54 : Nat) : Int) := x8 x 54 hxk (by decide)
            have hx2 : bits BinOp.xor IntKind.u8 (x : Int) 92 = ((x ^^^ 92 : Nat) : Int) := x8 x 92 hxk (by decide)
            have hy1 := xor8_lt hxk (show 54 < 256 by decide)
            have hy2 := xor8_lt hxk (show 92 < 256 by decide)
            generalize x ^^^ 54 = y1 at *
            generalize x ^^^ 92 = y2 at *
            have hdt : decide ((k : Int) < 64) = true := decide_eq_true (by omega)
            go_wp2_with (first | (at_builtin; refine wpList_append_at rfl _ _ rfl wz.heap.size _ ((padOf kb 54).take k) rfl (HI.out.alloc _) (some ⟨wr.heap.size, 0, none⟩) 1 1 [y1] rfl rfl (row_one _ y1) (by have := HL1.out; simp; omega) (by simp; omega) ?_) | fail)
            rintro v5 w5 hown5 hgr5 hat5
            have HU5 : Hid (Own w5 wz.heap.size u8 ((padOf kb 92).take k)) := (HU.out.alloc _).other hgr5 HA.out.symm
            have HA5 : Hid (Aside v5 u8) := (Aside.grow' HU.out HA.out.symm hat5 (by omega)).symm
            have HB5 : Hid (Below wz.heap.size wz w5) := (HB2.out.alloc hs2 _).grown hgr5 (by simp; omega) HI.out.ge
            have HI5 : Hid (Own w5 wz.heap.size v5 ((padOf kb 54).take (k + 1))) := by rw [HP1.out]; exact hown5
            have c5 := HC.out w5 HB5.out
            have hs5 := HB5.out.size
            clear hown5 hgr5 hat5 c0
            go_wp2_with (first | (at_builtin; refine wpList_append_at rfl _ _ rfl wz.heap.size _ ((padOf kb 92).take k) rfl (HU5.out.alloc _) (some ⟨w5.heap.size, 0, none⟩) 1 1 [y2] rfl rfl (row_one _ y2) (by have := HL2.out; simp; omega) (by simp; omega) ?_) | fail)
            rintro v6 w6 hown6 hgr6 hat6
            have HI6 : Hid (Own w6 wz.heap.size v5 ((padOf kb 54).take (k + 1))) := (HI5.out.alloc _).other hgr6 HA5.out
            have HA6 : Hid (Aside v5 v6) := Aside.grow' HI5.out HA5.out hat6 (by omega)
            have HB6 : Hid (Below wz.heap.size wz w6) := (HB5.out.alloc hs5 _).grown hgr6 (by simp; omega) HU5.out.ge
            have HU6 : Hid (Own w6 wz.heap.size v6 ((padOf kb 92).take (k + 1))) := by rw [HP2.out]; exact hown6
            clear hown6 hgr6 hat6 c5
            go_wp2
            go_roundw
            case rel => exact ⟨k + 1, by omega, by go_num, HI6, HU6, HA6, HB6⟩
            case measure => simp [intOf]; omega
          · have hki : (k : Int) = 64 := by omega
            rw [hki]
            have HI' : Hid (Own wr wz.heap.size u7 (padOf kb 54)) := by have := HI.out; rw [List.take_of_length_le (by rw [padOf_length, HKN.out]; omega)] at this; exact this
            have HU' : Hid (Own wr wz.heap.size u8 (padOf kb 92)) := by have := HU.out; rw [List.take_of_length_le (by rw [padOf_length, HKN.out]; omega)] at this; exact this
            clear HI HU hki hlt2 hk
            go_wp2
            go_loopw [7, 10] (fun vi i wr => ∃ k : Nat, k ≤ pn ∧ i = .int .i64 (k : Int) ∧ Hid (Own wr wz.heap.size vi (padOf kb 54 ++ (pl.take k).flatten)) ∧ Hid (Own wr wz.heap.size u8 (padOf kb 92)) ∧ Hid (Aside vi u8) ∧ Hid (Below wz.heap.size wz wr)) (fun _ i _ => pn - (intOf i).toNat)
            case atStart => exact ⟨0, Nat.zero_le _, rfl, by rw [List.take_zero, List.flatten_nil, List.append_nil]; exact HI', HU', HA, HB2⟩
            case round =>
              clear HI' HU' HA HB2
              obtain ⟨k, hk, rfl, HI, HU, HAU, HB2⟩ := hrel
              have hs2 := HB2.out.size
              by_cases hlt2 : k < pn
              · obtain ⟨b, off, rfl, ak, ck, hck, hlk, hrk, hxk⟩ := HP.out.at k (by rw [← HPN.out]; exact hlt2)
                have ckr : wr.cell? ⟨b, off + k, none⟩ = some (.slice ak (pl.getD k []).length ck) := cell_kept hck (HB.out.trans (HB2.out.mono hs))
                have HTF : Hid ((pl.take (k + 1)).flatten = (pl.take k).flatten ++ pl.getD k []) := take_flat (by rw [← HPN.out]; exact hlt2)
                have HRK : Hid (Row wr ak (pl.getD k [])) := hrk.keep (HB.out.trans (HB2.out.mono hs))
                have HL1 : Hid ((pl.take k).flatten.length + (pl.getD k []).length ≤ 1048576) := by
                  have h1 := flat_le pl (k + 1)
                  have h2 := HPF.out
                  rw [HTF.out, List.length_append] at h1
                  show _ ≤ _; omega
                clear hck hrk hxk
                generalize pl.getD k [] = yk at *
                obtain ⟨m, hm⟩ : ∃ m, m = yk.length := ⟨_, rfl⟩
                have HM : Hid (m = yk.length) := hm
                rw [← hm] at ckr hlk HL1
                have HPL : Hid ((padOf kb 54).length = 64) := by show _ = _; rw [padOf_length, HKN.out]
                clear hm
                go_wp2_with (first | (at_builtin; refine wpList_append_at rfl _ _ rfl wz.heap.size _ (padOf kb 54 ++ (pl.take k).flatten) rfl HI.out ak m ck yk HM.out rfl HRK.out (by have := HL1.out; have := HPL.out; have := HM.out; rw [List.length_append]; omega) (by omega) ?_) | fail)
                rintro v5 w5 hown5 hgr5 hat5
                have HI5 : Hid (Own w5 wz.heap.size v5 (padOf kb 54 ++ (pl.take (k + 1)).flatten)) := by rw [HTF.out]; exact hown5
                have HU5 : Hid (Own w5 wz.heap.size u8 (padOf kb 92)) := HU.out.other hgr5 HAU.out.symm
                have HV5 : Hid (Aside v5 u8) := (Aside.grow HU.out HAU.out.symm hat5).symm
                have HB5 : Hid (Below wz.heap.size wz w5) := HB2.out.grown hgr5 hs2 HI.out.ge
                clear hown5 hgr5 hat5 ckr
                go_wp2
                go_roundw
                case rel => exact ⟨k + 1, by omega, by go_num, HI5, HU5, HV5, HB5⟩
                case measure => simp [intOf]; omega
              · obtain rfl : k = pn := by omega
                have HTA : Hid (pl.take k = pl) := List.take_of_length_le (by rw [← HPN.out]; exact Nat.le_refl _)
                rw [HTA.out] at HI
                have HBW : Hid (Below w0.heap.size w0 wr) := HB.out.trans (HB2.out.mono hs)
                obtain ⟨mi, hmi⟩ : ∃ m, m = (padOf kb 54 ++ pl.flatten).length := ⟨_, rfl⟩
                have HMI : Hid (mi = (padOf kb 54 ++ pl.flatten).length) := hmi
                have hmi2 : mi ≤ 1048640 := by rw [hmi, List.length_append, padOf_length, HKN.out]; have := HPF.out; omega
                have HIX : Hid (∀ x ∈ padOf kb 54 ++ pl.flatten, x < 256) := lt_append (padOf_lt HKX.out (by decide)) (flat_lt (parts_lt HP.out))
                obtain ⟨ai, ci, hvi, hci, hri⟩ := HI.out.read
                rw [← hmi] at hvi hci
                subst hvi
                have HRI : Hid (Row wr ai (padOf kb 54 ++ pl.flatten)) := hri
                clear hri hmi HI HAU
                go_wp2_with fail
                refine (refSum_any mi ci ai _ wr HMI.out (by omega) HIX.out HRI.out (HT.out.keep HBW.out)).mono ?_
                rintro e w5 ⟨rfl, h5⟩
                have HU5 : Hid (Own w5 wz.heap.size u8 (padOf kb 92)) := HU.out.keep h5
                have HB5 : Hid (Below wz.heap.size wz w5) := HB2.out.trans (h5.mono hs2)
                have hs5 := HB5.out.size
                clear h5 HRI HIX HMI HU HB2
                have HS1 : Hid ((sha (padOf kb 54 ++ pl.flatten)).length = 32) := sha_length _
                have HX1 : Hid (∀ x ∈ sha (padOf kb 54 ++ pl.flatten), x < 256) := sha_lt _
                generalize sha (padOf kb 54 ++ pl.flatten) = si at *
                have HC5 : Hid ((Tryd.prog.info? 24).map (·.size) = some (si.map bv).toArray.size) := by show _ = _; rw [size24]; simp [HS1.out]
                go_upto_region 18 with (first | (refine wpList_store_row rfl 24 _ _ rfl w5.heap.size (si.map bv).toArray rfl rfl 24 _ (Bl.new w5 _ _) HC5.out (by simp [HS1.out]) (all_oneCell_toArray (bv_one _)) ?_) | fail)
                obtain ⟨w6, hq6⟩ : ∃ x, x = (w5.alloc (Obj.cells #[.int .u8 0, .int .u8 0, .int .u8 0, .int .u8 0, .int .u8 0, .int .u8 0, .int .u8 0, .int .u8 0, .int .u8 0, .int .u8 0, .int .u8 0, .int .u8 0, .int .u8 0, .int .u8 0, .int .u8 0, .int .u8 0, .int .u8 0, .int .u8 0, .int .u8 0, .int .u8 0, .int .u8 0, .int .u8 0, .int .u8 0, .int .u8 0, .int .u8 0, .int .u8 0, .int .u8 0, .int .u8 0, .int .u8 0, .int .u8 0, .int .u8 0, .int .u8 0] 24)).setRow w5.heap.size (si.map bv).toArray := ⟨_, rfl⟩
                rw [← hq6]
                have HG6 : Hid (Bl w6 w5.heap.size (si.map bv) 24) := by rw [hq6]; exact (Bl.new w5 _ _).setRow _
                have HS6 : Hid (Below w5.heap.size w5 w6) := by rw [hq6]; exact below_setRow (below_new w5 _) (Nat.le_refl _) _
                clear hq6
                have HU6 : Hid (Own w6 wz.heap.size u8 (padOf kb 92)) := HU5.out.keep HS6.out
                have HB6 : Hid (Below wz.heap.size wz w6) := HB5.out.trans (HS6.out.mono hs5)
                have hs6 := HB6.out.size
                have HPL2 : Hid ((padOf kb 92).length = 64) := by show _ = _; rw [padOf_length, HKN.out]
                have hs32 : ∀ W, (Instr.sliceAt 24 (.pointer (some ⟨w5.heap.size, 0, none⟩)) none none none).run Tryd.prog W = .ok (.slice (some ⟨w5.heap.size, 0, none⟩) 32 32) W := fun W => arr_all 24 32 Tryd.underlying24 w5.heap.size 0 (by decide) W
                go_wp2_with (first | (at_builtin; refine wpList_append_at rfl _ _ rfl wz.heap.size _ (padOf kb 92) rfl HU6.out (some ⟨w5.heap.size, 0, none⟩) 32 32 si (by rw [HS1.out]) rfl HG6.out.row (by rw [HS1.out, HPL2.out]; decide) hs6 ?_) | fail)
                rintro v7 w7 hown7 hgr7 hat7
                have HU7 : Hid (Own w7 wz.heap.size v7 (padOf kb 92 ++ si)) := hown7
                have HB7 : Hid (Below w0.heap.size w0 w7) := HB.out.trans ((HB6.out.grown hgr7 hs6 HU6.out.ge).mono hs)
                have hs7 := HB7.out.size
                clear hown7 hgr7 hat7 HU5 HU6 HS6 HG6 HC5 hs32
                obtain ⟨a7, c7, hv7, hc7, hr7⟩ := HU7.out.read
                rw [show (padOf kb 92 ++ si).length = 96 by rw [List.length_append, HS1.out, HPL2.out]] at hv7 hc7
                subst hv7
                have HR7 : Hid (Row w7 a7 (padOf kb 92 ++ si)) := hr7
                have HOX : Hid (∀ x ∈ padOf kb 92 ++ si, x < 256) := lt_append (padOf_lt HKX.out (by decide)) HX1.out
                have HOL : Hid (96 = (padOf kb 92 ++ si).length) := by show _ = _; rw [List.length_append, HS1.out, HPL2.out]
                clear hr7
                go_wp2_with fail
                refine (refSum_any 96 c7 a7 _ w7 HOL.out (by decide) HOX.out HR7.out (HT.out.keep HB7.out)).mono ?_
                rintro e w9 ⟨rfl, h9⟩
                rw [← HMO.out]
                have GR9 : Hid (Bl w9 w.heap.size ((List.replicate 32 0).map bv) 24) := (GR0.out.keep HB7.out).keep h9
                have HB9 : Hid (Below w.heap.size w w9) := (HB0.out.trans (HB7.out.mono hs0)).trans (h9.mono (by omega))
                have HCO : Hid ((Tryd.prog.info? 24).map (·.size) = some (mo.map bv).toArray.size) := by show _ = _; rw [size24]; simp [HML.out]
                clear h9
                go_wp2_with (first | (refine wpList_store_row rfl 24 _ _ rfl w.heap.size (mo.map bv).toArray rfl rfl 24 ((List.replicate 32 0).map bv).toArray GR9.out HCO.out (by simp [HML.out]) (all_oneCell_toArray (bv_one _)) ?_) | fail)
                refine bodyPost_ret (results_cell_row rfl _ _ w.heap.size 24 (mo.map bv).toArray (0, 0) _ rfl (GR9.out.setRow _) Tryd.underlying24 rfl HCO.out) rfl ⟨rfl, below_setRow HB9.out (Nat.le_refl _) _⟩
end Go.Proofs.YtjdglpfjemoodaaDoor
