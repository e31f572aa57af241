/- The walk of the law DigestKeyed: for every key and all parts it returns true and turns nothing old; the table of roots is a condition. -/
import Derived.Test.YtjdglpfjemoodabDoorGuarded
import Derived.Test.YtjdglpfjemoodabDoorJoinedFn
import Derived.Test.YtjdglpfjemoodabDoorLive2
import Derived.Test.YtjdglpfjemoodabDoorArrEq
import Derived.Test.YtjdglpfjemoodabDoorSmallOwn
namespace Go.Proofs.YtjdglpfjemoodabDoor
open Go.RowKit

theorem join_length (pl : List (List Nat)) : (joinBytes pl).length = 8 * pl.length + pl.flatten.length := by
  unfold joinBytes
  induction pl with
  | nil => rfl
  | cons p r ih => simp only [List.flatMap_cons, List.length_append, eight_length, ih, List.length_cons, List.flatten_cons]; omega
theorem flat_le (pl : List (List Nat)) (k : Nat) : (pl.take k).flatten.length ≤ pl.flatten.length := by
  have h : pl.flatten = (pl.take k).flatten ++ (pl.drop k).flatten := by rw [← List.flatten_append, List.take_append_drop]
  rw [h, List.length_append]; omega
theorem pad_take_succ (kb : List Nat) (pad k : Nat) (h : k < kb.length) : (padOf kb pad).take (k + 1) = (padOf kb pad).take k ++ [kb.getD k 0 ^^^ pad] := by
  rw [List.take_succ_eq_append_getElem (by rw [padOf_length]; exact h)]
  congr 2
  simp [padOf, List.getD, h]
theorem eight_take_succ (m t : Nat) (ht : t < 8) : (eight m).take (t + 1) = (eight m).take t ++ [m / 2 ^ (56 - 8 * t) % 256] := by
  rw [List.take_succ_eq_append_getElem (by rw [eight_length]; exact ht)]
  congr 2
  simp [eight]
theorem Own.row {w : World} {B n c : Nat} {ao : Option Addr} {xs : List Nat} (h : Own w B (.slice ao n c) xs) : Row w ao xs := by
  obtain ⟨a', c', e, _, r⟩ := h.read
  cases e
  exact r
theorem parts_lt {w : World} {po : Option Addr} {pl : List (List Nat)} (h : Parts w po pl) : ∀ p ∈ pl, ∀ x ∈ p, x < 256 := by
  intro p hp
  obtain ⟨i, hi, rfl⟩ := List.getElem_of_mem hp
  rcases h with rfl | ⟨b, off, _, hc⟩
  · simp at hi
  · obtain ⟨_, _, _, _, _, h5⟩ := hc i hi
    simpa [List.getD, hi] using h5
theorem flat_lt {pl : List (List Nat)} (h : ∀ p ∈ pl, ∀ x ∈ p, x < 256) : ∀ x ∈ pl.flatten, x < 256 := by
  intro x hx
  obtain ⟨p, hp, hx⟩ := List.mem_flatten.1 hx
  exact h p hp x hx
theorem join_lt {pl : List (List Nat)} (h : ∀ p ∈ pl, ∀ x ∈ p, x < 256) : ∀ x ∈ joinBytes pl, x < 256 := by
  intro x hx
  obtain ⟨p, hp, hx⟩ := List.mem_flatMap.1 hx
  exact lt_append (eight_lt _) (h p hp) x hx

set_option maxHeartbeats 8000000 in
set_option maxRecDepth 100000 in
theorem digestKeyed_walk (n cap pn pc : Nat) (ao po : Option Addr) (xs : List Nat) (pl : List (List Nat)) (w : World) (hl : n ≤ 1048576) (hn : n = xs.length) (hx : ∀ x ∈ xs, x < 256) (hr : Row w ao xs)
    (hpn : pn = pl.length) (hpl : pn ≤ 1048576) (hpf : pl.flatten.length ≤ 1048576) (hp : Parts w po pl) (hT : Roots w 0) :
    Calls Tryd.prog 3 #[.slice ao n cap, .slice po pn pc] w fun e w' => e = .returned (.bool true) ∧ Below w.heap.size w w' := by
  have HN : Hid (n = xs.length) := hn
  have HX : Hid (∀ x ∈ xs, x < 256) := hx
  have HR : Hid (Row w ao xs) := hr
  have HT : Hid (Roots w 0) := hT
  have HPN : Hid (pn = pl.length) := hpn
  have HPF : Hid (pl.flatten.length ≤ 1048576) := hpf
  have HP : Hid (Parts w po pl) := hp
  have HK1 : Hid (64 < n → kkey xs = sha xs) := fun h => by unfold kkey; rw [if_pos (by omega)]
  have HK2 : Hid (¬ 64 < n → kkey xs = xs) := fun h => by unfold kkey; rw [if_neg (by omega)]
  have HKL : Hid ((kkey xs).length ≤ 64) := kkey_length xs
  have HKB : Hid (kblk xs = kkey xs ++ List.replicate (64 - (kkey xs).length) 0) := rfl
  have HKN : Hid ((kblk xs).length = 64) := kblk_length xs
  have HKX : Hid (∀ x ∈ kblk xs, x < 256) := kblk_lt hx
  have HSL : Hid ((sha xs).length = 32) := sha_length xs
  have HMO : Hid (macOf xs pl = sha (padOf (kblk xs) 92 ++ sha (padOf (kblk xs) 54 ++ pl.flatten))) := rfl
  have h00 := hT.lt
  clear hx hr hT hpn hp hpf hn
  generalize kkey xs = kk at *
  generalize kblk xs = kb at *
  go_enter Tryd.func3, Tryd.ntmps3
  go_wp2_with (first | (at_builtin; refine wpList_append_bytes rfl _ _ rfl w.heap.size _ [] rfl (own_new w w.heap.size [] (Nat.le_refl _) (Nat.zero_le _)) ao _ cap xs HN.out rfl (HR.out.keep (below_new w _)) (by simp; rw [← HN.out]; omega) (by simp) ?_) | fail)
  rintro v1 w1 hown1 hgr1
  obtain ⟨ao1, c1, rfl, hc1, hr1, hb1⟩ := copied hown1 hgr1 HN.out
  have HB1 : Hid (Below w.heap.size w w1) := hb1
  have HR1 : Hid (Row w1 ao1 xs) := hr1
  have HO1 : Hid (Own w1 w.heap.size (.slice ao1 n c1) xs) := hown1
  have hs1 := HB1.out.size
  clear hown1 hgr1 hr1 hb1
  go_upto_if 19 with fail
  go_cut [5] (fun v wx => Hid (Own wx w.heap.size v kk) ∧ Hid (Below w.heap.size w wx))
  case first =>
    by_cases hbig : 64 < n
    · go_wp2_with fail
      refine (sum_any n c1 ao1 xs w1 (by omega) HN.out hc1 HX.out HR1.out (HT.out.keep HB1.out)).mono ?_
      rintro e w2 ⟨rfl, h2⟩
      rw [← HK1.out hbig]
      have HK32 : Hid (kk.length = 32) := by show _ = _; rw [HK1.out hbig, HSL.out]
      have HB2 : Hid (Below w.heap.size w w2) := HB1.out.trans (h2.mono hs1)
      have hs2 := HB2.out.size
      clear h2
      have HC : Hid ((Tryd.prog.info? 24).map (·.size) = some (kk.map bv).toArray.size) := by show _ = _; rw [size24]; simp [HK32.out]
      go_upto_region 4 with (first | (refine wpList_store_row rfl 24 _ _ rfl w2.heap.size (kk.map bv).toArray rfl rfl 24 _ (Bl.new w2 _ _) HC.out (by simp [HK32.out]) (all_oneCell_toArray (bv_one _)) ?_) | fail)
      obtain ⟨w3, hq3⟩ : ∃ x, x = (w2.alloc (Obj.cells #[.int .u8 0, .int .u8 0, .int .u8 0, .int .u8 0, .int .u8 0, .int .u8 0, .int .u8 0, .int .u8 0, .int .u8 0, .int .u8 0, .int .u8 0, .int .u8 0, .int .u8 0, .int .u8 0, .int .u8 0, .int .u8 0, .int .u8 0, .int .u8 0, .int .u8 0, .int .u8 0, .int .u8 0, .int .u8 0, .int .u8 0, .int .u8 0, .int .u8 0, .int .u8 0, .int .u8 0, .int .u8 0, .int .u8 0, .int .u8 0, .int .u8 0, .int .u8 0] 24)).setRow w2.heap.size (kk.map bv).toArray := ⟨_, rfl⟩
      rw [← hq3]
      have HG3 : Hid (Bl w3 w2.heap.size (kk.map bv) 24) := by rw [hq3]; exact (Bl.new w2 _ _).setRow _
      have HS3 : Hid (Below w2.heap.size w2 w3) := by rw [hq3]; exact below_setRow (below_new w2 _) (Nat.le_refl _) _
      clear hq3
      have HB3 : Hid (Below w.heap.size w w3) := HB2.out.trans (HS3.out.mono hs2)
      have hs3 := HB3.out.size
      have hs32 : ∀ W, (Instr.sliceAt 24 (.pointer (some ⟨w2.heap.size, 0, none⟩)) none none none).run Tryd.prog W = .ok (.slice (some ⟨w2.heap.size, 0, none⟩) 32 32) W := fun W => arr_all 24 32 Tryd.underlying24 w2.heap.size 0 (by decide) W
      go_wp2_with (first | (at_builtin; refine wpList_append_bytes rfl _ _ rfl w.heap.size _ [] rfl (own_new w3 w.heap.size [] hs3 (Nat.zero_le _)) (some ⟨w2.heap.size, 0, none⟩) 32 32 kk (by rw [HK32.out]) rfl (HG3.out.row.keep (below_new w3 _)) (by simp; rw [HK32.out]; omega) (by simp; omega) ?_) | fail)
      rintro v4 w4 hown4 hgr4
      go_wp2
      go_meet
      case rel => exact ⟨hown4, ((HB3.out.alloc hs3 _).grown hgr4 (by simp; omega) (fun k hk => by simp [Value.ownBlock] at hk; omega))⟩
    · have HE : Hid (kk = xs) := HK2.out hbig
      go_wp2
      go_meet
      case rel => exact ⟨by rw [HE.out]; exact HO1, HB1⟩
  case rest =>
    obtain ⟨HO2, HB2⟩ := hcut
    clear HO1 HR1 HB1 hs1 HK1 HK2 HSL
    go_wp2
    go_loopw [5] (fun v wr => ∃ j : Nat, j ≤ 64 - kk.length ∧ Hid (Own wr w.heap.size v (kk ++ List.replicate j 0)) ∧ Hid (Below w.heap.size w wr)) (fun v _ => 64 - slLen v)
    case atStart => exact ⟨0, Nat.zero_le _, by rw [List.replicate_zero, List.append_nil]; exact HO2, HB2⟩
    case round =>
      clear HO2 HB2
      obtain ⟨j, hj, HO, HB⟩ := hrel
      have hs := HB.out.size
      obtain ⟨m, hm⟩ : ∃ m, m = kk.length + j := ⟨_, rfl⟩
      have HLn : Hid ((kk ++ List.replicate j 0).length = m) := by show _ = _; rw [hm]; simp
      have hmj : Hid (m = kk.length + j) := hm
      have hm64 : m ≤ 64 := by have := HKL.out; omega
      obtain ⟨a4, cp4, rfl, hcp4, hr4⟩ := HO.out.read
      rw [HLn.out] at HO hcp4 ⊢
      have HR4 : Hid (Row wr a4 (kk ++ List.replicate j 0)) := hr4
      clear hm hr4
      by_cases hlt : m < 64
      · go_wp2_with (first | (at_builtin; refine wpList_append_bytes rfl _ _ rfl w.heap.size _ (kk ++ List.replicate j 0) rfl (HO.out.alloc _) (some ⟨wr.heap.size, 0, none⟩) 1 1 [0] rfl rfl (row_one _ 0) (by rw [HLn.out]; simp; omega) (by simp; omega) ?_) | fail)
        rintro v5 w5 hown5 hgr5
        have HB5 : Hid (Below w.heap.size w w5) := (HB.out.alloc hs _).grown hgr5 (by simp; omega) HO.out.ge
        have HO5 : Hid (Own w5 w.heap.size v5 (kk ++ List.replicate (j + 1) 0)) := by rw [List.replicate_succ']; exact hown5
        clear hown5 hgr5
        obtain ⟨a5, cp5, he5, _, _⟩ := HO5.out.read
        have hl5 : (kk ++ List.replicate (j + 1) 0).length = m + 1 := by have := hmj.out; simp; omega
        rw [hl5] at he5
        subst he5
        go_wp2
        go_roundw
        case rel => exact ⟨j + 1, by have := hmj.out; omega, HO5, HB5⟩
        case measure => simp [slLen]; omega
      · obtain rfl : m = 64 := by omega
        have HKE : Hid (kk ++ List.replicate j 0 = kb) := by show _ = _; rw [HKB.out]; congr 2; have := hmj.out; omega
        rw [HKE.out] at HR4
        clear HO HLn HKE
        obtain ⟨wz, hwz⟩ : ∃ x : World, x = wr := ⟨_, rfl⟩
        subst hwz
        obtain ⟨gk, offk, rfl⟩ := HR4.out.form (by rw [HKN.out]; decide)
        go_wp2
        go_loopw [7, 8, 10] (fun vi vo i wr => ∃ k : Nat, k ≤ 64 ∧ i = .int .i64 (k : Int) ∧ Hid (Own wr wz.heap.size vi ((padOf kb 54).take k)) ∧ Hid (Own wr wz.heap.size vo ((padOf kb 92).take k)) ∧ Hid (Apart vi vo) ∧ Hid (Below wz.heap.size wz wr)) (fun _ _ i _ => 64 - (intOf i).toNat)
        case atStart => exact ⟨0, Nat.zero_le _, rfl, own_nil _ _, own_nil _ _, apart_nil _, Below.refl _ _⟩
        case round =>
          obtain ⟨k, hk, rfl, HI, HU, HA, HB2⟩ := hrel
          have hs2 := HB2.out.size
          by_cases hlt2 : k < 64
          · have HC : Hid (∀ W, Below wz.heap.size wz W → W.cell? ⟨gk, offk + k, none⟩ = some (.int .u8 ((kb.getD k 0 : Nat) : Int))) := fun W h => (HR4.out.keep h).cell k (by rw [HKN.out]; exact hlt2)
            have c0 := HC.out wr HB2.out
            have hxk := lt_get HKX.out k
            have HP1 : Hid ((padOf kb 54).take (k + 1) = (padOf kb 54).take k ++ [kb.getD k 0 ^^^ 54]) := pad_take_succ kb 54 k (by rw [HKN.out]; exact hlt2)
            have HP2 : Hid ((padOf kb 92).take (k + 1) = (padOf kb 92).take k ++ [kb.getD k 0 ^^^ 92]) := pad_take_succ kb 92 k (by rw [HKN.out]; exact hlt2)
            have HL1 : Hid (((padOf kb 54).take k).length ≤ 64) := by show _ ≤ _; rw [List.length_take]; omega
            have HL2 : Hid (((padOf kb 92).take k).length ≤ 64) := by show _ ≤ _; rw [List.length_take]; omega
            generalize kb.getD k 0 = x at *
            have hx1 : bits BinOp.xor IntKind.u8 (x : Int) 54 = ((x ^^^ 54 : Nat) : Int) := x8 x 54 hxk (by decide)
            have hx2 : bits BinOp.xor IntKind.u8 (x : Int) 92 = ((x ^^^ 92 : Nat) : Int) := x8 x 92 hxk (by decide)
            have hy1 := xor8_lt hxk (show 54 < 256 by decide)
            have hy2 := xor8_lt hxk (show 92 < 256 by decide)
            generalize x ^^^ 54 = y1 at *
            generalize x ^^^ 92 = y2 at *
            have hdt : decide ((k : Int) < 64) = true := decide_eq_true (by omega)
            go_wp2_with (first | (at_builtin; refine wpList_append_at rfl _ _ rfl wz.heap.size _ ((padOf kb 54).take k) rfl (HI.out.alloc _) (some ⟨wr.heap.size, 0, none⟩) 1 1 [y1] rfl rfl (row_one _ y1) (by have := HL1.out; simp; omega) (by simp; omega) ?_) | fail)
            rintro v5 w5 hown5 hgr5 hat5
            have HU5 : Hid (Own w5 wz.heap.size u8 ((padOf kb 92).take k)) := (HU.out.alloc _).other hgr5 HA.out.symm
            have HA5 : Hid (Apart v5 u8) := (Apart.grow' HU.out HA.out.symm hat5 (by omega)).symm
            have HB5 : Hid (Below wz.heap.size wz w5) := (HB2.out.alloc hs2 _).grown hgr5 (by simp; omega) HI.out.ge
            have HI5 : Hid (Own w5 wz.heap.size v5 ((padOf kb 54).take (k + 1))) := by rw [HP1.out]; exact hown5
            have c5 := HC.out w5 HB5.out
            have hs5 := HB5.out.size
            clear hown5 hgr5 hat5 c0
            go_wp2_with (first | (at_builtin; refine wpList_append_at rfl _ _ rfl wz.heap.size _ ((padOf kb 92).take k) rfl (HU5.out.alloc _) (some ⟨w5.heap.size, 0, none⟩) 1 1 [y2] rfl rfl (row_one _ y2) (by have := HL2.out; simp; omega) (by simp; omega) ?_) | fail)
            rintro v6 w6 hown6 hgr6 hat6
            have HI6 : Hid (Own w6 wz.heap.size v5 ((padOf kb 54).take (k + 1))) := (HI5.out.alloc _).other hgr6 HA5.out
            have HA6 : Hid (Apart v5 v6) := Apart.grow' HI5.out HA5.out hat6 (by omega)
            have HB6 : Hid (Below wz.heap.size wz w6) := (HB5.out.alloc hs5 _).grown hgr6 (by simp; omega) HU5.out.ge
            have HU6 : Hid (Own w6 wz.heap.size v6 ((padOf kb 92).take (k + 1))) := by rw [HP2.out]; exact hown6
            clear hown6 hgr6 hat6 c5
            go_wp2
            go_roundw
            case rel => exact ⟨k + 1, by omega, by go_num, HI6, HU6, HA6, HB6⟩
            case measure => simp [intOf]; omega
          · have hki : (k : Int) = 64 := by omega
            rw [hki]
            have HI' : Hid (Own wr wz.heap.size u7 (padOf kb 54)) := by have := HI.out; rw [List.take_of_length_le (by rw [padOf_length, HKN.out]; omega)] at this; exact this
            have HU' : Hid (Own wr wz.heap.size u8 (padOf kb 92)) := by have := HU.out; rw [List.take_of_length_le (by rw [padOf_length, HKN.out]; omega)] at this; exact this
            clear HI HU hki hlt2 hk
            go_wp2
            go_loopw [7, 9, 11] (fun vi vj i wr => ∃ k : Nat, k ≤ pn ∧ i = .int .i64 (k : Int) ∧ Hid (Own wr wz.heap.size vi (padOf kb 54 ++ (pl.take k).flatten)) ∧ Hid (Own wr wz.heap.size vj (joinBytes (pl.take k))) ∧ Hid (Own wr wz.heap.size u8 (padOf kb 92)) ∧ Hid (Apart vi vj) ∧ Hid (Apart vi u8) ∧ Hid (Apart vj u8) ∧ Hid (Below wz.heap.size wz wr)) (fun _ _ i _ => pn - (intOf i).toNat)
            case atStart => exact ⟨0, Nat.zero_le _, rfl, by rw [List.take_zero, List.flatten_nil, List.append_nil]; exact HI', own_nil _ _, HU', (apart_nil _).symm, HA, apart_nil _, HB2⟩
            case round =>
              clear HI' HU' HA HB2
              obtain ⟨k, hk, rfl, HI, HJ, HU, HAJ, HAU, HD, HB2⟩ := hrel
              have hs2 := HB2.out.size
              by_cases hlt2 : k < pn
              · obtain ⟨b, off, hpo, hcells⟩ : ∃ b off, po = some ⟨b, off, none⟩ ∧ ∀ i, i < pl.length → ∃ ao c, w.cell? ⟨b, off + i, none⟩ = some (.slice ao (pl.getD i []).length c) ∧ (pl.getD i []).length ≤ c ∧ Row w ao (pl.getD i []) ∧ (∀ x ∈ pl.getD i [], x < 256) := by
                  rcases HP.out with h | h
                  · rw [HPN.out, h] at hlt2; simp at hlt2
                  · exact h
                obtain ⟨ak, ck, hck, hlk, hrk, hxk⟩ := hcells k (by rw [← HPN.out]; exact hlt2)
                subst hpo
                have HCK : Hid (∀ W, Below wz.heap.size wz W → W.cell? ⟨b, off + k, none⟩ = some (.slice ak (pl.getD k []).length ck)) := fun W h => cell_kept hck (HB.out.trans (h.mono hs))
                have HTF : Hid ((pl.take (k + 1)).flatten = (pl.take k).flatten ++ pl.getD k []) := take_flat (by rw [← HPN.out]; exact hlt2)
                have HTJ : Hid (joinBytes (pl.take (k + 1)) = joinBytes (pl.take k) ++ eight (pl.getD k []).length ++ pl.getD k []) := take_join (by rw [← HPN.out]; exact hlt2)
                have HRK : Hid (∀ W, Below wz.heap.size wz W → Row W ak (pl.getD k [])) := fun W h => hrk.keep (HB.out.trans (h.mono hs))
                have HL1 : Hid ((pl.take k).flatten.length + (pl.getD k []).length ≤ 1048576) := by
                  have h1 := flat_le pl (k + 1)
                  have h2 := HPF.out
                  rw [HTF.out, List.length_append] at h1
                  show _ ≤ _; omega
                have HL2 : Hid ((joinBytes (pl.take k)).length + 8 + (pl.getD k []).length ≤ 9437184 + 64) := by
                  have h1 := join_length (pl.take k)
                  have h2 := HL1.out
                  rw [List.length_take] at h1
                  show _ ≤ _; omega
                clear hcells hck hrk hxk
                generalize pl.getD k [] = yk at *
                obtain ⟨m, hm⟩ : ∃ m, m = yk.length := ⟨_, rfl⟩
                have HM : Hid (m = yk.length) := hm
                rw [← hm] at HCK hlk HTJ HL1 HL2
                have hml : m ≤ 1048576 := by have := HL1.out; omega
                have HPL : Hid ((padOf kb 54).length = 64) := by show _ = _; rw [padOf_length, HKN.out]
                clear hm
                have ckr := HCK.out wr HB2.out
                have hdt : decide ((k : Int) < (pn : Int)) = true := decide_eq_true (by omega)
                go_wp2_with (first | (at_builtin; refine wpList_append_at rfl _ _ rfl wz.heap.size _ (padOf kb 54 ++ (pl.take k).flatten) rfl HI.out ak m ck yk HM.out rfl (HRK.out _ HB2.out) (by have := HL1.out; have := HPL.out; have := HM.out; rw [List.length_append]; omega) (by omega) ?_) | fail)
                rintro v5 w5 hown5 hgr5 hat5
                have HI5 : Hid (Own w5 wz.heap.size v5 (padOf kb 54 ++ (pl.take k).flatten ++ yk)) := by rw [List.append_assoc]; exact hown5
                have HJ5 : Hid (Own w5 wz.heap.size u9 (joinBytes (pl.take k))) := HJ.out.other hgr5 HAJ.out.symm
                have HU5 : Hid (Own w5 wz.heap.size u8 (padOf kb 92)) := HU.out.other hgr5 HAU.out.symm
                have HA5 : Hid (Apart v5 u9) := (Apart.grow HJ.out HAJ.out.symm hat5).symm
                have HV5 : Hid (Apart v5 u8) := (Apart.grow HU.out HAU.out.symm hat5).symm
                have HB5 : Hid (Below wz.heap.size wz w5) := HB2.out.grown hgr5 hs2 HI.out.ge
                have hs5 := HB5.out.size
                clear hown5 hgr5 hat5 ckr HI HJ HU HAJ HAU HB2
                go_wp2
                go_loopw [9, 12] (fun vj j wr => ∃ t : Nat, t ≤ 8 ∧ j = .int .i64 (56 - 8 * (t : Int)) ∧ Hid (Own wr wz.heap.size vj (joinBytes (pl.take k) ++ (eight m).take t)) ∧ Hid (Own wr wz.heap.size v5 (padOf kb 54 ++ (pl.take k).flatten ++ yk)) ∧ Hid (Own wr wz.heap.size u8 (padOf kb 92)) ∧ Hid (Apart v5 vj) ∧ Hid (Apart vj u8) ∧ Hid (Below wz.heap.size wz wr)) (fun _ j _ => (intOf j + 8).toNat)
                case atStart => exact ⟨0, Nat.zero_le _, rfl, by rw [List.take_zero, List.append_nil]; exact HJ5, HI5, HU5, HA5, HD, HB5⟩
                case round =>
                  clear HI5 HJ5 HU5 HA5 HD HB5
                  obtain ⟨t, ht, rfl, HJ2, HI2, HU2, HA2, HD2, HB6⟩ := hrel
                  have hs6 := HB6.out.size
                  have ckr := HCK.out wr HB6.out
                  by_cases ht8 : t < 8
                  · have HTS : Hid ((eight m).take (t + 1) = (eight m).take t ++ [m / 2 ^ (56 - 8 * t) % 256]) := eight_take_succ m t ht8
                    have HTL : Hid ((joinBytes (pl.take k) ++ (eight m).take t).length + 1 ≤ 9437184 + 128) := by
                      have h1 := HL2.out
                      show _ ≤ _
                      rw [List.length_append, List.length_take, eight_length]; omega
                    generalize hes : (eight m).take t = es at *
                    clear hes
                    rcases (show t = 0 ∨ t = 1 ∨ t = 2 ∨ t = 3 ∨ t = 4 ∨ t = 5 ∨ t = 6 ∨ t = 7 by omega) with rfl | rfl | rfl | rfl | rfl | rfl | rfl | rfl
                    · have hq0 : (m : Int) / 72057594037927936 = ((m / 72057594037927936 % 256 : Nat) : Int) := by omega
                      have hqb : m / 72057594037927936 % 256 < 256 := Nat.mod_lt _ (by decide)
                      have HTS2 : Hid ((eight m).take (0 + 1) = es ++ [m / 72057594037927936 % 256]) := HTS.out
                      clear HTS
                      generalize m / 72057594037927936 % 256 = q at *
                      go_wp2_with (first | (at_builtin; refine wpList_append_at rfl _ _ rfl wz.heap.size _ (joinBytes (pl.take k) ++ es) rfl (HJ2.out.alloc _) (some ⟨wr.heap.size, 0, none⟩) 1 1 [q] rfl rfl (row_one _ q) (by have := HTL.out; simp only [List.length_cons, List.length_nil]; omega) (by simp; omega) ?_) | fail)
                      rintro v7 w7 hown7 hgr7 hat7
                      have HJ7 : Hid (Own w7 wz.heap.size v7 (joinBytes (pl.take k) ++ (eight m).take (0 + 1))) := by rw [HTS2.out]; exact hown7
                      have HI7 : Hid (Own w7 wz.heap.size v5 (padOf kb 54 ++ (pl.take k).flatten ++ yk)) := (HI2.out.alloc _).other hgr7 HA2.out
                      have HU7 : Hid (Own w7 wz.heap.size u8 (padOf kb 92)) := (HU2.out.alloc _).other hgr7 HD2.out.symm
                      have HA7 : Hid (Apart v5 v7) := Apart.grow' HI2.out HA2.out hat7 (by omega)
                      have HD7 : Hid (Apart v7 u8) := (Apart.grow' HU2.out HD2.out.symm hat7 (by omega)).symm
                      have HB7 : Hid (Below wz.heap.size wz w7) := (HB6.out.alloc hs6 _).grown hgr7 (by simp; omega) HJ2.out.ge
                      clear hown7 hgr7 hat7
                      go_wp2
                      go_roundw
                      case rel => exact ⟨0 + 1, by omega, by go_num, HJ7, HI7, HU7, HA7, HD7, HB7⟩
                      case measure => simp [intOf]
                    · have hq1 : (m : Int) / 281474976710656 = ((m / 281474976710656 % 256 : Nat) : Int) := by omega
                      have hqb : m / 281474976710656 % 256 < 256 := Nat.mod_lt _ (by decide)
                      have HTS2 : Hid ((eight m).take (1 + 1) = es ++ [m / 281474976710656 % 256]) := HTS.out
                      clear HTS
                      generalize m / 281474976710656 % 256 = q at *
                      go_wp2_with (first | (at_builtin; refine wpList_append_at rfl _ _ rfl wz.heap.size _ (joinBytes (pl.take k) ++ es) rfl (HJ2.out.alloc _) (some ⟨wr.heap.size, 0, none⟩) 1 1 [q] rfl rfl (row_one _ q) (by have := HTL.out; simp only [List.length_cons, List.length_nil]; omega) (by simp; omega) ?_) | fail)
                      rintro v7 w7 hown7 hgr7 hat7
                      have HJ7 : Hid (Own w7 wz.heap.size v7 (joinBytes (pl.take k) ++ (eight m).take (1 + 1))) := by rw [HTS2.out]; exact hown7
                      have HI7 : Hid (Own w7 wz.heap.size v5 (padOf kb 54 ++ (pl.take k).flatten ++ yk)) := (HI2.out.alloc _).other hgr7 HA2.out
                      have HU7 : Hid (Own w7 wz.heap.size u8 (padOf kb 92)) := (HU2.out.alloc _).other hgr7 HD2.out.symm
                      have HA7 : Hid (Apart v5 v7) := Apart.grow' HI2.out HA2.out hat7 (by omega)
                      have HD7 : Hid (Apart v7 u8) := (Apart.grow' HU2.out HD2.out.symm hat7 (by omega)).symm
                      have HB7 : Hid (Below wz.heap.size wz w7) := (HB6.out.alloc hs6 _).grown hgr7 (by simp; omega) HJ2.out.ge
                      clear hown7 hgr7 hat7
                      go_wp2
                      go_roundw
                      case rel => exact ⟨1 + 1, by omega, by go_num, HJ7, HI7, HU7, HA7, HD7, HB7⟩
                      case measure => simp [intOf]
                    · have hq2 : (m : Int) / 1099511627776 = ((m / 1099511627776 % 256 : Nat) : Int) := by omega
                      have hqb : m / 1099511627776 % 256 < 256 := Nat.mod_lt _ (by decide)
                      have HTS2 : Hid ((eight m).take (2 + 1) = es ++ [m / 1099511627776 % 256]) := HTS.out
                      clear HTS
                      generalize m / 1099511627776 % 256 = q at *
                      go_wp2_with (first | (at_builtin; refine wpList_append_at rfl _ _ rfl wz.heap.size _ (joinBytes (pl.take k) ++ es) rfl (HJ2.out.alloc _) (some ⟨wr.heap.size, 0, none⟩) 1 1 [q] rfl rfl (row_one _ q) (by have := HTL.out; simp only [List.length_cons, List.length_nil]; omega) (by simp; omega) ?_) | fail)
                      rintro v7 w7 hown7 hgr7 hat7
                      have HJ7 : Hid (Own w7 wz.heap.size v7 (joinBytes (pl.take k) ++ (eight m).take (2 + 1))) := by rw [HTS2.out]; exact hown7
                      have HI7 : Hid (Own w7 wz.heap.size v5 (padOf kb 54 ++ (pl.take k).flatten ++ yk)) := (HI2.out.alloc _).other hgr7 HA2.out
                      have HU7 : Hid (Own w7 wz.heap.size u8 (padOf kb 92)) := (HU2.out.alloc _).other hgr7 HD2.out.symm
                      have HA7 : Hid (Apart v5 v7) := Apart.grow' HI2.out HA2.out hat7 (by omega)
                      have HD7 : Hid (Apart v7 u8) := (Apart.grow' HU2.out HD2.out.symm hat7 (by omega)).symm
                      have HB7 : Hid (Below wz.heap.size wz w7) := (HB6.out.alloc hs6 _).grown hgr7 (by simp; omega) HJ2.out.ge
                      clear hown7 hgr7 hat7
                      go_wp2
                      go_roundw
                      case rel => exact ⟨2 + 1, by omega, by go_num, HJ7, HI7, HU7, HA7, HD7, HB7⟩
                      case measure => simp [intOf]
                    · have hq3 : (m : Int) / 4294967296 = ((m / 4294967296 % 256 : Nat) : Int) := by omega
                      have hqb : m / 4294967296 % 256 < 256 := Nat.mod_lt _ (by decide)
                      have HTS2 : Hid ((eight m).take (3 + 1) = es ++ [m / 4294967296 % 256]) := HTS.out
                      clear HTS
                      generalize m / 4294967296 % 256 = q at *
                      go_wp2_with (first | (at_builtin; refine wpList_append_at rfl _ _ rfl wz.heap.size _ (joinBytes (pl.take k) ++ es) rfl (HJ2.out.alloc _) (some ⟨wr.heap.size, 0, none⟩) 1 1 [q] rfl rfl (row_one _ q) (by have := HTL.out; simp only [List.length_cons, List.length_nil]; omega) (by simp; omega) ?_) | fail)
                      rintro v7 w7 hown7 hgr7 hat7
                      have HJ7 : Hid (Own w7 wz.heap.size v7 (joinBytes (pl.take k) ++ (eight m).take (3 + 1))) := by rw [HTS2.out]; exact hown7
                      have HI7 : Hid (Own w7 wz.heap.size v5 (padOf kb 54 ++ (pl.take k).flatten ++ yk)) := (HI2.out.alloc _).other hgr7 HA2.out
                      have HU7 : Hid (Own w7 wz.heap.size u8 (padOf kb 92)) := (HU2.out.alloc _).other hgr7 HD2.out.symm
                      have HA7 : Hid (Apart v5 v7) := Apart.grow' HI2.out HA2.out hat7 (by omega)
                      have HD7 : Hid (Apart v7 u8) := (Apart.grow' HU2.out HD2.out.symm hat7 (by omega)).symm
                      have HB7 : Hid (Below wz.heap.size wz w7) := (HB6.out.alloc hs6 _).grown hgr7 (by simp; omega) HJ2.out.ge
                      clear hown7 hgr7 hat7
                      go_wp2
                      go_roundw
                      case rel => exact ⟨3 + 1, by omega, by go_num, HJ7, HI7, HU7, HA7, HD7, HB7⟩
                      case measure => simp [intOf]
                    · have hq4 : (m : Int) / 16777216 = ((m / 16777216 % 256 : Nat) : Int) := by omega
                      have hqb : m / 16777216 % 256 < 256 := Nat.mod_lt _ (by decide)
                      have HTS2 : Hid ((eight m).take (4 + 1) = es ++ [m / 16777216 % 256]) := HTS.out
                      clear HTS
                      generalize m / 16777216 % 256 = q at *
                      go_wp2_with (first | (at_builtin; refine wpList_append_at rfl _ _ rfl wz.heap.size _ (joinBytes (pl.take k) ++ es) rfl (HJ2.out.alloc _) (some ⟨wr.heap.size, 0, none⟩) 1 1 [q] rfl rfl (row_one _ q) (by have := HTL.out; simp only [List.length_cons, List.length_nil]; omega) (by simp; omega) ?_) | fail)
                      rintro v7 w7 hown7 hgr7 hat7
                      have HJ7 : Hid (Own w7 wz.heap.size v7 (joinBytes (pl.take k) ++ (eight m).take (4 + 1))) := by rw [HTS2.out]; exact hown7
                      have HI7 : Hid (Own w7 wz.heap.size v5 (padOf kb 54 ++ (pl.take k).flatten ++ yk)) := (HI2.out.alloc _).other hgr7 HA2.out
                      have HU7 : Hid (Own w7 wz.heap.size u8 (padOf kb 92)) := (HU2.out.alloc _).other hgr7 HD2.out.symm
                      have HA7 : Hid (Apart v5 v7) := Apart.grow' HI2.out HA2.out hat7 (by omega)
                      have HD7 : Hid (Apart v7 u8) := (Apart.grow' HU2.out HD2.out.symm hat7 (by omega)).symm
                      have HB7 : Hid (Below wz.heap.size wz w7) := (HB6.out.alloc hs6 _).grown hgr7 (by simp; omega) HJ2.out.ge
                      clear hown7 hgr7 hat7
                      go_wp2
                      go_roundw
                      case rel => exact ⟨4 + 1, by omega, by go_num, HJ7, HI7, HU7, HA7, HD7, HB7⟩
                      case measure => simp [intOf]
                    · have hq5 : (m : Int) / 65536 = ((m / 65536 % 256 : Nat) : Int) := by omega
                      have hqb : m / 65536 % 256 < 256 := Nat.mod_lt _ (by decide)
                      have HTS2 : Hid ((eight m).take (5 + 1) = es ++ [m / 65536 % 256]) := HTS.out
                      clear HTS
                      generalize m / 65536 % 256 = q at *
                      go_wp2_with (first | (at_builtin; refine wpList_append_at rfl _ _ rfl wz.heap.size _ (joinBytes (pl.take k) ++ es) rfl (HJ2.out.alloc _) (some ⟨wr.heap.size, 0, none⟩) 1 1 [q] rfl rfl (row_one _ q) (by have := HTL.out; simp only [List.length_cons, List.length_nil]; omega) (by simp; omega) ?_) | fail)
                      rintro v7 w7 hown7 hgr7 hat7
                      have HJ7 : Hid (Own w7 wz.heap.size v7 (joinBytes (pl.take k) ++ (eight m).take (5 + 1))) := by rw [HTS2.out]; exact hown7
                      have HI7 : Hid (Own w7 wz.heap.size v5 (padOf kb 54 ++ (pl.take k).flatten ++ yk)) := (HI2.out.alloc _).other hgr7 HA2.out
                      have HU7 : Hid (Own w7 wz.heap.size u8 (padOf kb 92)) := (HU2.out.alloc _).other hgr7 HD2.out.symm
                      have HA7 : Hid (Apart v5 v7) := Apart.grow' HI2.out HA2.out hat7 (by omega)
                      have HD7 : Hid (Apart v7 u8) := (Apart.grow' HU2.out HD2.out.symm hat7 (by omega)).symm
                      have HB7 : Hid (Below wz.heap.size wz w7) := (HB6.out.alloc hs6 _).grown hgr7 (by simp; omega) HJ2.out.ge
                      clear hown7 hgr7 hat7
                      go_wp2
                      go_roundw
                      case rel => exact ⟨5 + 1, by omega, by go_num, HJ7, HI7, HU7, HA7, HD7, HB7⟩
                      case measure => simp [intOf]
                    · have hq6 : (m : Int) / 256 % 256 = ((m / 256 % 256 : Nat) : Int) := by omega
                      have hqb : m / 256 % 256 < 256 := Nat.mod_lt _ (by decide)
                      have HTS2 : Hid ((eight m).take (6 + 1) = es ++ [m / 256 % 256]) := HTS.out
                      clear HTS
                      generalize m / 256 % 256 = q at *
                      go_wp2_with (first | (at_builtin; refine wpList_append_at rfl _ _ rfl wz.heap.size _ (joinBytes (pl.take k) ++ es) rfl (HJ2.out.alloc _) (some ⟨wr.heap.size, 0, none⟩) 1 1 [q] rfl rfl (row_one _ q) (by have := HTL.out; simp only [List.length_cons, List.length_nil]; omega) (by simp; omega) ?_) | fail)
                      rintro v7 w7 hown7 hgr7 hat7
                      have HJ7 : Hid (Own w7 wz.heap.size v7 (joinBytes (pl.take k) ++ (eight m).take (6 + 1))) := by rw [HTS2.out]; exact hown7
                      have HI7 : Hid (Own w7 wz.heap.size v5 (padOf kb 54 ++ (pl.take k).flatten ++ yk)) := (HI2.out.alloc _).other hgr7 HA2.out
                      have HU7 : Hid (Own w7 wz.heap.size u8 (padOf kb 92)) := (HU2.out.alloc _).other hgr7 HD2.out.symm
                      have HA7 : Hid (Apart v5 v7) := Apart.grow' HI2.out HA2.out hat7 (by omega)
                      have HD7 : Hid (Apart v7 u8) := (Apart.grow' HU2.out HD2.out.symm hat7 (by omega)).symm
                      have HB7 : Hid (Below wz.heap.size wz w7) := (HB6.out.alloc hs6 _).grown hgr7 (by simp; omega) HJ2.out.ge
                      clear hown7 hgr7 hat7
                      go_wp2
                      go_roundw
                      case rel => exact ⟨6 + 1, by omega, by go_num, HJ7, HI7, HU7, HA7, HD7, HB7⟩
                      case measure => simp [intOf]
                    · have hq7 : (m : Int) % 256 = ((m / 1 % 256 : Nat) : Int) := by omega
                      have hqz : (m : Int) / 2 ^ min (IntKind.u64.wrap 0).toNat 64 = (m : Int) := by show (m : Int) / 1 = m; omega
                      have hqb : m / 1 % 256 < 256 := Nat.mod_lt _ (by decide)
                      have HTS2 : Hid ((eight m).take (7 + 1) = es ++ [m / 1 % 256]) := HTS.out
                      clear HTS
                      generalize m / 1 % 256 = q at *
                      go_wp2_with (first | (at_builtin; refine wpList_append_at rfl _ _ rfl wz.heap.size _ (joinBytes (pl.take k) ++ es) rfl (HJ2.out.alloc _) (some ⟨wr.heap.size, 0, none⟩) 1 1 [q] rfl rfl (row_one _ q) (by have := HTL.out; simp only [List.length_cons, List.length_nil]; omega) (by simp; omega) ?_) | fail)
                      rintro v7 w7 hown7 hgr7 hat7
                      have HJ7 : Hid (Own w7 wz.heap.size v7 (joinBytes (pl.take k) ++ (eight m).take (7 + 1))) := by rw [HTS2.out]; exact hown7
                      have HI7 : Hid (Own w7 wz.heap.size v5 (padOf kb 54 ++ (pl.take k).flatten ++ yk)) := (HI2.out.alloc _).other hgr7 HA2.out
                      have HU7 : Hid (Own w7 wz.heap.size u8 (padOf kb 92)) := (HU2.out.alloc _).other hgr7 HD2.out.symm
                      have HA7 : Hid (Apart v5 v7) := Apart.grow' HI2.out HA2.out hat7 (by omega)
                      have HD7 : Hid (Apart v7 u8) := (Apart.grow' HU2.out HD2.out.symm hat7 (by omega)).symm
                      have HB7 : Hid (Below wz.heap.size wz w7) := (HB6.out.alloc hs6 _).grown hgr7 (by simp; omega) HJ2.out.ge
                      clear hown7 hgr7 hat7
                      go_wp2
                      go_roundw
                      case rel => exact ⟨7 + 1, by omega, by go_num, HJ7, HI7, HU7, HA7, HD7, HB7⟩
                      case measure => simp [intOf]
                  · obtain rfl : t = 8 := by omega
                    have HE8 : Hid ((eight m).take 8 = eight m) := List.take_of_length_le (by rw [eight_length]; decide)
                    rw [HE8.out] at HJ2
                    go_wp2_with (first | (at_builtin; refine wpList_append_at rfl _ _ rfl wz.heap.size _ (joinBytes (pl.take k) ++ eight m) rfl HJ2.out ak m ck yk HM.out rfl (HRK.out _ HB6.out) (by have := HL2.out; have := HM.out; rw [List.length_append, eight_length]; omega) (by omega) ?_) | fail)
                    rintro v7 w7 hown7 hgr7 hat7
                    have HJ7 : Hid (Own w7 wz.heap.size v7 (joinBytes (pl.take (k + 1)))) := by rw [HTJ.out]; rw [List.append_assoc]; exact hown7
                    have HI7 : Hid (Own w7 wz.heap.size v5 (padOf kb 54 ++ (pl.take (k + 1)).flatten)) := by rw [HTF.out, ← List.append_assoc]; exact HI2.out.other hgr7 HA2.out
                    have HU7 : Hid (Own w7 wz.heap.size u8 (padOf kb 92)) := HU2.out.other hgr7 HD2.out.symm
                    have HA7 : Hid (Apart v5 v7) := Apart.grow HI2.out HA2.out hat7
                    have HD7 : Hid (Apart v7 u8) := (Apart.grow HU2.out HD2.out.symm hat7).symm
                    have HB7 : Hid (Below wz.heap.size wz w7) := HB6.out.grown hgr7 hs6 HJ2.out.ge
                    clear hown7 hgr7 hat7
                    go_wp2
                    go_roundw
                    case rel => exact ⟨k + 1, by omega, by go_num, HI7, HJ7, HU7, HA7, HV5, HD7, HB7⟩
                    case measure => simp [intOf]; omega
              · obtain rfl : k = pn := by omega
                have hdt : decide ((k : Int) < (k : Int)) = false := decide_eq_false (by omega)
                have HTA : Hid (pl.take k = pl) := List.take_of_length_le (by rw [← HPN.out]; exact Nat.le_refl _)
                rw [HTA.out] at HI HJ
                have HBW : Hid (Below w.heap.size w wr) := HB.out.trans (HB2.out.mono hs)
                obtain ⟨mi, hmi⟩ : ∃ m, m = (padOf kb 54 ++ pl.flatten).length := ⟨_, rfl⟩
                have HMI : Hid (mi = (padOf kb 54 ++ pl.flatten).length) := hmi
                have hmi2 : mi ≤ 1048640 := by rw [hmi, List.length_append, padOf_length, HKN.out]; have := HPF.out; omega
                obtain ⟨mj, hmj2⟩ : ∃ m, m = (joinBytes pl).length := ⟨_, rfl⟩
                have HMJ : Hid (mj = (joinBytes pl).length) := hmj2
                have hmj3 : mj ≤ 9437184 := by rw [hmj2, join_length, ← HPN.out]; have := HPF.out; omega
                have HIX : Hid (∀ x ∈ padOf kb 54 ++ pl.flatten, x < 256) := lt_append (padOf_lt HKX.out (by decide)) (flat_lt (parts_lt HP.out))
                have HJX : Hid (∀ x ∈ joinBytes pl, x < 256) := join_lt (parts_lt HP.out)
                obtain ⟨ai, ci, hvi, hci, hri⟩ := HI.out.read
                rw [← hmi] at hvi hci
                subst hvi
                have HRI : Hid (Row wr ai (padOf kb 54 ++ pl.flatten)) := hri
                obtain ⟨aj, cj, hvj, hcj, hrj⟩ := HJ.out.read
                rw [← hmj2] at hvj hcj
                subst hvj
                clear hri hmi hrj hmj2 HI HAJ HAU
                go_wp2_with fail
                refine (sum_any mi ci ai _ wr (by omega) HMI.out hci HIX.out HRI.out (HT.out.keep HBW.out)).mono ?_
                rintro e w5 ⟨rfl, h5⟩
                have HU5 : Hid (Own w5 wz.heap.size u8 (padOf kb 92)) := HU.out.keep h5
                have HJ5 : Hid (Own w5 wz.heap.size (.slice aj mj cj) (joinBytes pl)) := HJ.out.keep h5
                have HB5 : Hid (Below wz.heap.size wz w5) := HB2.out.trans (h5.mono hs2)
                have hs5 := HB5.out.size
                clear h5 HRI HIX HMI HU HJ HB2
                have HS1 : Hid ((sha (padOf kb 54 ++ pl.flatten)).length = 32) := sha_length _
                have HX1 : Hid (∀ x ∈ sha (padOf kb 54 ++ pl.flatten), x < 256) := sha_lt _
                generalize sha (padOf kb 54 ++ pl.flatten) = si at *
                have HC5 : Hid ((Tryd.prog.info? 24).map (·.size) = some (si.map bv).toArray.size) := by show _ = _; rw [size24]; simp [HS1.out]
                go_upto_region 23 with (first | (refine wpList_store_row rfl 24 _ _ rfl w5.heap.size (si.map bv).toArray rfl rfl 24 _ (Bl.new w5 _ _) HC5.out (by simp [HS1.out]) (all_oneCell_toArray (bv_one _)) ?_) | fail)
                obtain ⟨w6, hq6⟩ : ∃ x, x = (w5.alloc (Obj.cells #[.int .u8 0, .int .u8 0, .int .u8 0, .int .u8 0, .int .u8 0, .int .u8 0, .int .u8 0, .int .u8 0, .int .u8 0, .int .u8 0, .int .u8 0, .int .u8 0, .int .u8 0, .int .u8 0, .int .u8 0, .int .u8 0, .int .u8 0, .int .u8 0, .int .u8 0, .int .u8 0, .int .u8 0, .int .u8 0, .int .u8 0, .int .u8 0, .int .u8 0, .int .u8 0, .int .u8 0, .int .u8 0, .int .u8 0, .int .u8 0, .int .u8 0, .int .u8 0] 24)).setRow w5.heap.size (si.map bv).toArray := ⟨_, rfl⟩
                rw [← hq6]
                have HG6 : Hid (Bl w6 w5.heap.size (si.map bv) 24) := by rw [hq6]; exact (Bl.new w5 _ _).setRow _
                have HS6 : Hid (Below w5.heap.size w5 w6) := by rw [hq6]; exact below_setRow (below_new w5 _) (Nat.le_refl _) _
                clear hq6
                have HU6 : Hid (Own w6 wz.heap.size u8 (padOf kb 92)) := HU5.out.keep HS6.out
                have HJ6 : Hid (Own w6 wz.heap.size (.slice aj mj cj) (joinBytes pl)) := HJ5.out.keep HS6.out
                have HB6 : Hid (Below wz.heap.size wz w6) := HB5.out.trans (HS6.out.mono hs5)
                have hs6 := HB6.out.size
                have HPL2 : Hid ((padOf kb 92).length = 64) := by show _ = _; rw [padOf_length, HKN.out]
                have hs32 : ∀ W, (Instr.sliceAt 24 (.pointer (some ⟨w5.heap.size, 0, none⟩)) none none none).run Tryd.prog W = .ok (.slice (some ⟨w5.heap.size, 0, none⟩) 32 32) W := fun W => arr_all 24 32 Tryd.underlying24 w5.heap.size 0 (by decide) W
                go_wp2_with (first | (at_builtin; refine wpList_append_at rfl _ _ rfl wz.heap.size _ (padOf kb 92) rfl HU6.out (some ⟨w5.heap.size, 0, none⟩) 32 32 si (by rw [HS1.out]) rfl HG6.out.row (by rw [HS1.out, HPL2.out]; decide) hs6 ?_) | fail)
                rintro v7 w7 hown7 hgr7 hat7
                have HU7 : Hid (Own w7 wz.heap.size v7 (padOf kb 92 ++ si)) := hown7
                have HJ7 : Hid (Own w7 wz.heap.size (.slice aj mj cj) (joinBytes pl)) := HJ6.out.other hgr7 HD.out
                have HB7 : Hid (Below w.heap.size w w7) := HB.out.trans ((HB6.out.grown hgr7 hs6 HU6.out.ge).mono hs)
                have hs7 := HB7.out.size
                clear hown7 hgr7 hat7 HU5 HU6 HJ5 HJ6 HS6 HG6 HC5 hs32
                obtain ⟨a7, c7, hv7, hc7, hr7⟩ := HU7.out.read
                rw [show (padOf kb 92 ++ si).length = 96 by rw [List.length_append, HS1.out, HPL2.out]] at hv7 hc7
                subst hv7
                have HR7 : Hid (Row w7 a7 (padOf kb 92 ++ si)) := hr7
                have HOX : Hid (∀ x ∈ padOf kb 92 ++ si, x < 256) := lt_append (padOf_lt HKX.out (by decide)) HX1.out
                have HOL : Hid (96 = (padOf kb 92 ++ si).length) := by show _ = _; rw [List.length_append, HS1.out, HPL2.out]
                have HRJ7 : Hid (Row w7 aj (joinBytes pl)) := HJ7.out.row
                clear hr7
                generalize padOf kb 92 ++ si = ob at *
                have HOS : Hid ((sha ob).length = 32) := sha_length _
                generalize hso : sha ob = so at *
                replace hso := hide hso
                have HJS : Hid ((sha (joinBytes pl)).length = 32) := sha_length _
                generalize hsj : sha (joinBytes pl) = sj at *
                replace hsj := hide hsj
                have hq1 : ∀ W, (Op.equalIn 10000 24 (.agg (so.map bv).toArray) (.agg (so.map bv).toArray)).run Tryd.prog W = .ok true W := fun W => by rw [arr32_eq _ _ W HOS.out HOS.out]; simp
                have hq2 : ∀ W, (Op.equalIn 10000 24 (.agg (sj.map bv).toArray) (.agg (sj.map bv).toArray)).run Tryd.prog W = .ok true W := fun W => by rw [arr32_eq _ _ W HJS.out HJS.out]; simp
                go_wp2_with fail
                refine (live_true w7 (HT.out.keep HB7.out)).mono ?_
                rintro e w8 ⟨rfl, h8⟩
                have HB8 : Hid (Below w.heap.size w w8) := HB7.out.trans (h8.mono hs7)
                have HR8 : Hid (Row w8 a7 ob) := HR7.out.keep h8
                have HRJ8 : Hid (Row w8 aj (joinBytes pl)) := HRJ7.out.keep h8
                have hs8 := HB8.out.size
                clear h8 HR7 HRJ7
                go_wp2_with (first | (at_builtin; refine wpList_append_g (by rfl) _ _ rfl w8.heap.size _ [] rfl (own_new w8 w8.heap.size [] (Nat.le_refl _) (Nat.zero_le _)) ao n cap xs HN.out rfl ((HR.out.keep HB8.out).keep (below_new w8 _)) (by simp; rw [← HN.out]; omega) (by simp) ?_) | fail)
                rintro v9 w9 hown9 hgr9 _
                obtain ⟨ao9, c9, rfl, hc9, hr9, hb9⟩ := copied hown9 hgr9 HN.out
                have HB9 : Hid (Below w.heap.size w w9) := HB8.out.trans (hb9.mono hs8)
                have HK9 : Hid (Row w9 ao9 xs) := hr9
                have HR9 : Hid (Row w9 a7 ob) := HR8.out.keep hb9
                have HRJ9 : Hid (Row w9 aj (joinBytes pl)) := HRJ8.out.keep hb9
                have hs9 := HB9.out.size
                clear hown9 hgr9 hr9 hb9 HR8 HRJ8
                go_wp2_with fail
                refine (mac_any n c9 k pc ao9 po xs pl w9 HN.out hc9 (by omega) HX.out HK9.out HPN.out (by omega) (by have := HPF.out; omega) (HP.out.keep HB9.out) (HT.out.keep HB9.out)).mono ?_
                rintro e w10 ⟨rfl, h10⟩
                rw [HMO.out]
                have HB10 : Hid (Below w.heap.size w w10) := HB9.out.trans (h10.mono hs9)
                have HR10 : Hid (Row w10 a7 ob) := HR9.out.keep h10
                have HRJ10 : Hid (Row w10 aj (joinBytes pl)) := HRJ9.out.keep h10
                have hs10 := HB10.out.size
                clear h10 HR9 HRJ9 HK9
                go_wp2_with fail
                refine (sum_any 96 c7 a7 ob w10 (by decide) HOL.out hc7 HOX.out HR10.out (HT.out.keep HB10.out)).mono ?_
                rintro e w11 ⟨rfl, h11⟩
                rw [hso.out]
                have HB11 : Hid (Below w.heap.size w w11) := HB10.out.trans (h11.mono hs10)
                have HRJ11 : Hid (Row w11 aj (joinBytes pl)) := HRJ10.out.keep h11
                have hs11 := HB11.out.size
                clear h11 HR10 HRJ10
                go_wp2_with fail
                refine (joined_any k pc po pl w11 HPN.out (by omega) (by rw [← HMJ.out]; omega) (HP.out.keep HB11.out) (HT.out.keep HB11.out)).mono ?_
                rintro e w12 ⟨rfl, h12⟩
                rw [hsj.out]
                have HB12 : Hid (Below w.heap.size w w12) := HB11.out.trans (h12.mono hs11)
                have HRJ12 : Hid (Row w12 aj (joinBytes pl)) := HRJ11.out.keep h12
                have hs12 := HB12.out.size
                clear h12 HRJ11
                go_wp2_with fail
                refine (sum_any mj cj aj (joinBytes pl) w12 (by omega) HMJ.out hcj HJX.out HRJ12.out (HT.out.keep HB12.out)).mono ?_
                rintro e w13 ⟨rfl, h13⟩
                rw [hsj.out]
                go_wp2
                go_ret
                exact ⟨rfl, HB12.out.trans (h13.mono hs12)⟩
end Go.Proofs.YtjdglpfjemoodabDoor
