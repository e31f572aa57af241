/- The walk of New. -/
import Derived.Test.YticbfcognnofbaaDNew2
namespace Go.Proofs.Yticbfcognnofbaa
open Go.RowKit Go.Maps

/-- What New answers. -/
def NewPost (fs : List Fi) (room : Int) (w : World) (e : Ending) (w' : World) : Prop :=
  (if newErr fs room = 0 then ∃ dp L, e = .returned (.tuple #[pf dp, .int .i64 0]) ∧ Rep w' dp (born fs room.toNat) L fs.length ∧ (∀ b ∈ L.blocks dp, w.heap.size ≤ b) else e = .returned (.tuple #[.pointer none, .int .i64 (newErr fs room : Int)])) ∧ Below w.heap.size w w'
theorem new_refused {fs : List Fi} {room : Int} {w w' : World} {m : Nat} (h : newErr fs room = m) (h0 : m ≠ 0) (hb : Below w.heap.size w w') : NewPost fs room w (.returned (.tuple #[.pointer none, .int .i64 (m : Int)])) w' := by
  unfold NewPost
  rw [h, if_neg h0]
  exact ⟨rfl, hb⟩
theorem sizes_beg {fs : List Fi} (h64 : fs.length ≤ 64) (h : ∀ j, j < fs.length → faultAt fs j = 0) : ((dirAt fs fs.length).map fun p => (fun i => (fs.getD i ([], [])).2.length) p.2).sum = total fs := by
  rw [← born_sizes h64 h]
  unfold sizes
  congr 1
  apply List.map_congr_left
  intro p hp
  rw [born_at ((dirAt_ok fs.length (Nat.le_refl _) h64 h).1.num p hp)]
theorem total_le {fs : List Fi} (h64 : fs.length ≤ 64) (h : ∀ j, j < fs.length → faultAt fs j = 0) : total fs ≤ 268435456 := by
  have hO := (dirAt_ok fs.length (Nat.le_refl _) h64 h)
  have key : ∀ l : List Fi, (∀ f ∈ l, f.2.length ≤ 4194304) → total l ≤ 4194304 * l.length := by
    intro l
    induction l with
    | nil => intro _; exact Nat.le_refl _
    | cons f l ih =>
      intro hl
      have h1 := ih (fun g hg => hl g (by simp [hg]))
      have h2 := hl f (by simp)
      unfold total at h1 ⊢
      rw [List.map_cons, List.sum_cons, List.length_cons]
      omega
  have := key fs (fun f hf => by
    obtain ⟨j, hj, rfl⟩ := List.getElem_of_mem hf
    have hz := (fault_zero (h j hj)).2.2
    rwa [List.getD_eq_getElem?_getD, List.getElem?_eq_getElem hj] at hz)
  omega
set_option maxHeartbeats 4000000 in
set_option maxRecDepth 100000 in
theorem new_any (ao : Option Addr) (n c : Nat) (fs : List Fi) (room : Int) (w : World) (hs : FSee w ao fs) (hn : n = fs.length) (hcap : n ≤ c) (hl : ∀ f ∈ fs, f.1.length ≤ maxLen ∧ f.1.length ≤ 281474976710656 ∧ f.2.length ≤ 140737488355328) (hr : room ≤ 9223372036854775807) :
    Calls Try.prog 27 #[.slice ao n c, .int .i64 room] w fun e w' => True ∧ NewPost fs room w e w' := by
  obtain ⟨PP, hPP⟩ : ∃ PP, PP = NewPost fs room w := ⟨_, rfl⟩
  rw [← hPP]
  have HPR : Hid (∀ (m : Nat) w', newErr fs room = m → m ≠ 0 → Below w.heap.size w w' → PP (.returned (.tuple #[.pointer none, .int .i64 (m : Int)])) w') := fun m w' h1 h2 h3 => by rw [hPP]; exact new_refused h1 h2 h3
  have HPY : Hid (∀ dp L w', newErr fs room = 0 → Rep w' dp (born fs room.toNat) L fs.length → (∀ b ∈ L.blocks dp, w.heap.size ≤ b) → Below w.heap.size w w' → PP (.returned (.tuple #[pf dp, .int .i64 0])) w') := fun dp L w' h1 h2 h3 h4 => by rw [hPP]; unfold NewPost; rw [if_pos h1]; exact ⟨⟨dp, L, rfl, h2, h3⟩, h4⟩
  clear hPP
  by_cases h0 : room < 0
  · have HE : Hid (newErr fs room = 2) := by show _ = _; unfold newErr; rw [if_pos h0]
    go_enter Try.func27, Try.ntmps27
    go_wp2
    first | (go_ret2; exact ⟨trivial, HPR.out 2 w HE.out (by decide) (Below.refl _ _)⟩) | exact HPR.out 2 w HE.out (by decide) (Below.refl _ _)
  by_cases h64 : 64 < n
  · have HE : Hid (newErr fs room = 32) := by show _ = _; unfold newErr; rw [if_neg h0, if_pos (by omega)]
    have q : decide ((64 : Int) < (n : Int)) = true := decide_eq_true (by omega)
    have hnb : ¬ room < 0 := h0
    clear h64 hn
    go_enter Try.func27, Try.ntmps27
    go_wp2
    first | (go_ret2; exact ⟨trivial, HPR.out 32 w HE.out (by decide) (Below.refl _ _)⟩) | exact HPR.out 32 w HE.out (by decide) (Below.refl _ _)
  have q : decide ((64 : Int) < (n : Int)) = false := decide_eq_false (by omega)
  have HS := hide hs
  have HN := hide hn
  have HL := hide hl
  have H64 : Hid (n ≤ 64) := by show _ ≤ _; omega
  have H0 : Hid (0 ≤ room) := by show _ ≤ _; omega
  have hmm := @run_makeMap Try.prog
  have HD0 : Hid (DirAt (w.alloc (.map #[] 0)) w.heap.size [] []) := World.ownsMap_made w Try.prog 9 rp
  have HU := hide (below_new w (.map #[] 0))
  obtain ⟨nb, hnb⟩ : ∃ nb, nb = w.heap.size := ⟨_, rfl⟩
  rw [← hnb] at HD0
  clear hs hn hl h64
  go_enter Try.func27, Try.ntmps27
  go_wp2_with fail
  rw [← hnb]
  have HNB := hide hnb
  clear hnb
  generalize w.alloc (.map #[] 0) = u at *
  go_loopw [18] (fun i wr => ∃ (k : Nat) (bs : List Nat) (rv : List Value), k ≤ n ∧ i = .int .i64 (k : Int) ∧ Hid (Beg wr nb bs rv fs k) ∧ Hid (∀ j, j < k → faultAt fs j = 0) ∧ Hid (Below nb w wr)) (fun i _ => n - (intOf i).toNat)
  case atStart => exact ⟨0, [], [], Nat.zero_le _, rfl, beg_nil HD0.out, fun j hj => by omega, by rw [HNB.out]; exact HU.out⟩
  case round =>
    obtain ⟨k, bs, rv, hk, rfl, HBG, HZ, HB⟩ := hrel
    by_cases hlt : k < n
    · obtain ⟨x, hx⟩ : ∃ x, fs[k]? = some x := ⟨_, List.getElem?_eq_getElem (by rw [← HN.out]; exact hlt)⟩
      have hxd : fs.getD k ([], []) = x := by rw [List.getD_eq_getElem?_getD, hx]; rfl
      obtain ⟨ab, aoff, bao, bc, rfl, x1, x2, x3⟩ := HS.out.cell k x hx
      have hxl := HL.out x (List.mem_of_getElem? hx)
      have hBw : Below w.heap.size w wr := by rw [← HNB.out]; exact HB.out
      have y1 := cell_kept x1 hBw
      have y2 := cell_kept x2 hBw
      have HY3 := hide (x3.keep hBw)
      have HXD := hide hxd
      obtain ⟨nm, by_⟩ := x
      simp only at y1 y2 hxl HY3
      have HFA : Hid (∀ W, DirAt W nb bs (dirAt fs k) → Calls Try.prog 61 #[.map (some nb), .agg #[.string (str nm), .slice bao by_.length bc]] W fun e w' => e = .returned (.int .i64 (faultAt fs k : Int)) ∧ Below W.heap.size W w') := fun W hW => by
        have := fault_any nb bs (dirAt fs k) nm bao by_.length bc W hW hxl.1
        unfold faultAt
        rw [hxd]
        exact this
      have HXL := hide hxl
      have hki : (k : Int) < (n : Int) := by omega
      have hkb : (k : Int) + 1 ≤ 4611686018427387904 := by have := H64.out; omega
      clear hx hxd x1 x2 x3 hxl hBw
      obtain ⟨bl, hbl⟩ : ∃ bl, bl = by_.length := ⟨_, rfl⟩
      have HBLN := hide hbl
      rw [← hbl] at y2 HFA
      clear hbl
      obtain ⟨s, hs⟩ : ∃ s, s = str nm := ⟨_, rfl⟩
      have HSN := hide hs
      rw [← hs] at y1 HFA
      clear hs
      go_upto_region 9 with fail
      have HV := hide (Bl.new wr #[.string s, .slice bao bl bc] 54)
      have HBV := hide (below_new wr (.cells #[.string s, .slice bao bl bc] 54))
      obtain ⟨N, hN⟩ : ∃ N, N = wr.heap.size := ⟨_, rfl⟩
      rw [← hN] at HV ⊢
      clear y1 y2 hN
      generalize wr.alloc (.cells #[.string s, .slice bao bl bc] 54) = wv at *
      have v0 : wv.cell? ⟨N, 0, none⟩ = some (.string s) := HV.out.cell 0
      have v1 : wv.cell? ⟨N, 1, none⟩ = some (.slice bao bl bc) := HV.out.cell 1
      have HC9 := hide (HFA.out wv (HBG.out.names.same (HBV.out.block nb HBG.out.names.lt)))
      clear HFA
      by_cases hf0 : faultAt fs k = 0
      · rw [hf0] at HC9
        have HF0 := hide hf0
        clear hf0
        go_wp2_with (first | (go_at_call 61; refine HC9.out.mono ?_; rintro e w9 ⟨rfl, hb9⟩; have HBG9 := hide (HBV.out.trans (hb9.mono HBV.out.size)); have HV9 := hide (HV.out.keep hb9); clear hb9 v0 v1))
        have z0 : w9.cell? ⟨N, 0, none⟩ = some (.string s) := HV9.out.cell 0
        have z1 : w9.cell? ⟨N, 1, none⟩ = some (.slice bao bl bc) := HV9.out.cell 1
        clear HC9 HV HBV
        have HCL : Hid (∀ W, Calls Try.prog 53 #[.string s] W fun e w' => e = .returned (.string s) ∧ Below W.heap.size W w') := fun W => clone_any s W (by rw [HSN.out, str_size]; exact HXL.out.2.1)
        have HBC : Hid (∀ W, Below w9.heap.size w9 W → Calls Try.prog 60 #[.slice bao bl bc] W fun e w' => ∃ vao vn vcap, e = .returned (.slice vao vn vcap) ∧ Own w' 0 (.slice vao vn vcap) by_ ∧ (∀ g, (Value.slice vao vn vcap).ownBlock = some g → wr.heap.size ≤ g) ∧ Below W.heap.size W w') := fun W hW => by
          have hrw : Below wr.heap.size wr W := HBG9.out.trans (hW.mono HBG9.out.size)
          refine (bytesClone_any bao bl bc by_ W HBLN.out (HY3.out.keep hrw) HXL.out.2.2).mono fun e w' ⟨u, h1, h2, h3, h4⟩ => ?_
          obtain ⟨uao, un, ucap, rfl⟩ := own_shape h2
          exact ⟨uao, un, ucap, h1, h2, fun g hg => Nat.le_trans hrw.size (h3 g hg), h4⟩
        have HDP : Hid (∀ W fb, Below w9.heap.size w9 W → DirAt W nb (bs ++ [fb]) (dirAt fs k)) := fun W fb hW => by
          have hrw : Below wr.heap.size wr W := HBG9.out.trans (hW.mono HBG9.out.size)
          have hD := HBG.out.names.same (hrw.block nb HBG.out.names.lt)
          unfold DirAt
          rw [dd_more bs fb (dirAt fs k) (fun p hp => by
            have := (dirAt_ok (fs := fs) k (by have := HN.out; omega) (by have := H64.out; omega) HZ.out).1.num p hp
            rw [HBG.out.blen]; exact this)]
          exact hD
        have HGET : Hid (∀ fb : Nat, (bs ++ [fb])[k]? = some fb) := fun fb => by rw [← HBG.out.blen, List.getElem?_concat_length]
        have HDLN : Hid ((dirAt fs k).length < maxLen) := by
          have := (dirAt_ok (fs := fs) k (by have := HN.out; omega) (by have := H64.out; omega) HZ.out).2.1
          rw [this]; have := H64.out; unfold maxLen; show _ < _; omega
        have HSTEP : Hid (∀ (wb wd : World) (vao : Option Addr) (vn vcap : Nat), Below w9.heap.size w9 wb → Own wb 0 (.slice vao vn vcap) by_ → (∀ g, (Value.slice vao vn vcap).ownBlock = some g → wr.heap.size ≤ g) → DirAt wd nb (bs ++ [wb.heap.size]) (dput nm k (dirAt fs k)) → Fr [nb] (wb.alloc (.cells #[.int .i64 (k : Int), .slice vao vn vcap, .int .i64 (bl : Int)] 96)) wd → Beg wd nb (bs ++ [wb.heap.size]) (rv ++ [.slice vao vn vcap]) fs (k + 1) ∧ Below nb w wd) := fun wb wd vao vn vcap g1 g2 g3 g4 g5 => by
          have hrw : Below wr.heap.size wr wb := HBG9.out.trans (g1.mono HBG9.out.size)
          refine ⟨beg_step HBG.out hrw (by rw [HXD.out]; exact g2) g3 (by rw [HXD.out]; exact g4) (by
            rw [HXD.out]
            simp only
            rw [← HBLN.out]
            exact g5), ?_⟩
          have hnl := HBG.out.names.lt
          have hz : (wb.alloc (.cells #[.int .i64 (k : Int), .slice vao vn vcap, .int .i64 (bl : Int)] 96)).heap.size = wb.heap.size + 1 := by simp
          have hrs := hrw.size
          exact (HB.out.trans (hrw.mono (by omega))).trans (((below_new wb _).mono (by omega)).trans (g5.below nb (by omega) (fun x hx => by rw [List.mem_singleton.1 hx]; exact Nat.le_refl _)))
        have HPUT : Hid (∀ (wb : World) (vao : Option Addr) (vn vcap : Nat), Below w9.heap.size w9 wb → Own wb 0 (.slice vao vn vcap) by_ → (∀ g, (Value.slice vao vn vcap).ownBlock = some g → wr.heap.size ≤ g) → ∃ wd, (Instr.mapUpdate 84 (.map (some nb)) (.string s) (.pointer (some ⟨wb.heap.size, 0, none⟩))).run Try.prog (wb.alloc (.cells #[.int .i64 (k : Int), .slice vao vn vcap, .int .i64 (bl : Int)] 96)) = .ok () wd ∧ Beg wd nb (bs ++ [wb.heap.size]) (rv ++ [.slice vao vn vcap]) fs (k + 1) ∧ Below nb w wd) := fun wb vao vn vcap g1 g2 g3 => by
          obtain ⟨wd, h1, h2, h3⟩ := run_dir_put (nm := nm) (i := k) (b := wb.heap.size) ((HDP.out wb wb.heap.size g1).alloc (.cells #[.int .i64 (k : Int), .slice vao vn vcap, .int .i64 (bl : Int)] 96)) (HGET.out _) HXL.out.1 HDLN.out
          exact ⟨wd, by rw [HSN.out]; exact h1, HSTEP.out wb wd vao vn vcap g1 g2 g3 h2 h3⟩
        have HCUR : Hid (Below w9.heap.size w9 w9.drew) := below_drewN (Below.refl _ _) 1
        have HZ2 : Hid (∀ j, j < k + 1 → faultAt fs j = 0) := fun j hj => by
          rcases Nat.lt_or_eq_of_le (Nat.le_of_lt_succ hj) with h | h
          · exact HZ.out j h
          · rw [h]; exact HF0.out
        clear HV9 HBG9 HY3 HXL HXD HF0 HBG HZ HB
        go_region_law (first
          | (refine law_call rfl 32 rfl 53 #[.string s] (by unfold execOp; simp; go_simp) (HCL.out _) ?_; rintro ε wa ⟨rfl, hb⟩; refine ⟨_, rfl, ?_⟩; have hcur := HCUR.out.trans (hb.mono HCUR.out.size); clear HCUR; have HCUR := hide hcur; have za0 := cell_kept z0 hcur; have za1 := cell_kept z1 hcur; clear hcur hb)
          | (refine law_call rfl 36 rfl 60 #[.slice bao bl bc] (by unfold execOp; simp; go_simp) (HBC.out _ HCUR.out) ?_; rintro ε wb ⟨vao, vn, vcap, rfl, hou, hng, hb⟩; refine ⟨_, rfl, ?_⟩; have hcur := HCUR.out.trans (hb.mono HCUR.out.size); clear HCUR; have HCUR := hide hcur; have zb0 := cell_kept z0 hcur; have zb1 := cell_kept z1 hcur; have zc1 := cell_kept zb1 (below_new wb (.cells #[.int .i64 (k : Int), .slice vao vn vcap, .int .i64 (bl : Int)] 96)); obtain ⟨wd, hrun, hfi⟩ := HPUT.out wb vao vn vcap hcur hou hng; have HFI := hide hfi; clear hou hng hcur hb hfi))
        all_goals
          clear HCL HBC HDP HSTEP HPUT HCUR z0 z1 za0 za1 zb0 zb1 zc1
          go_wp2_with fail
          go_roundw
          case rel => exact ⟨k + 1, bs ++ [wb.heap.size], rv ++ [.slice vao vn vcap], by omega, by simp, hide HFI.out.1, HZ2, hide HFI.out.2⟩
          case measure => simp [intOf]; omega
      · have hne : ((faultAt fs k : Int) != 0) = true := by simp; omega
        have hne2 : ¬ (faultAt fs k : Int) = 0 := by omega
        have HE : Hid (newErr fs room = faultAt fs k) := by
          show _ = _
          unfold newErr
          rw [if_neg (by have := H0.out; omega), if_neg (by have := H64.out; have := HN.out; omega), first_some (by have := HN.out; omega) HZ.out hf0]
        have HF0 := hide hf0
        generalize faultAt fs k = fk at *
        clear hf0
        go_wp2_with (first | (go_at_call 61; refine HC9.out.mono ?_; rintro e w9 ⟨rfl, hb9⟩; have HBG9 := hide (HBV.out.trans (hb9.mono HBV.out.size)); clear hb9 v0 v1))
        have HX := hide (HPR.out fk w9 HE.out HF0.out (by
          have h1 : Below w.heap.size w wr := by rw [← HNB.out]; exact HB.out
          exact h1.trans (HBG9.out.mono h1.size)))
        first | (go_ret2; exact ⟨trivial, HX.out⟩) | exact HX.out
    · have hki : ¬ (k : Int) < (n : Int) := by omega
      obtain rfl : k = n := by omega
      have hz : ∀ j, j < fs.length → faultAt fs j = 0 := by rw [← HN.out]; exact HZ.out
      have h64' : fs.length ≤ 64 := by rw [← HN.out]; exact H64.out
      have hDk := dirAt_ok fs.length (Nat.le_refl _) h64' hz
      have HBGN := HBG
      rw [HN.out] at HBGN
      have HSZ := hide (size_any nb bs (dirAt fs fs.length) (fun i => (fs.getD i ([], [])).2.length) wr HBGN.out.names hDk.1.rising (fun p hp => by
        have hp2 := hDk.1.num p hp
        obtain ⟨b, hb⟩ : ∃ b, bs[p.2]? = some b := ⟨_, List.getElem?_eq_getElem (by rw [HBGN.out.blen]; exact hp2)⟩
        obtain ⟨v, hv⟩ : ∃ v, rv[p.2]? = some v := ⟨_, List.getElem?_eq_getElem (by rw [HBGN.out.rlen]; exact hp2)⟩
        have hF := HBGN.out.file p.2 b v hb hv
        obtain ⟨vao, vcap, e, _⟩ := hF.2.read
        refine ⟨vao, vcap, ?_⟩
        have hc : wr.cell? ⟨b, 1, none⟩ = some v := hF.1.cell 1
        rw [show bs.getD p.2 0 = b by simp [List.getD, hb], hc, e]) (by rw [sizes_beg h64' hz]; have := total_le h64' hz; omega))
      rw [sizes_beg h64' hz] at HSZ
      have HTL := hide (total_le h64' hz)
      have HERR : Hid (newErr fs room = if room < (total fs : Int) then 5 else 0) := by
        show _ = _
        unfold newErr
        rw [if_neg (by have := H0.out; omega), if_neg (by omega), first_none hz]
      have HMC : Hid (∀ W, DirAt W nb bs (dirAt fs fs.length) → Calls Try.prog 57 #[.map (some nb)] W fun e w' => e = .returned (.map (some W.heap.size)) ∧ DirAt w' W.heap.size bs (dirAt fs fs.length) ∧ Below W.heap.size W w') := fun W hW => mapClone_any nb bs (dirAt fs fs.length) W hW
      have HBW : Hid (Below w.heap.size w wr) := by rw [← HNB.out]; exact HB.out
      generalize total fs = T at *
      clear hz h64' hDk
      by_cases hT : room < (T : Int)
      · have q2 : decide (room < (T : Int)) = true := decide_eq_true hT
        rw [if_pos hT] at HERR
        clear hT
        go_wp2_with (first | (go_at_call 62; refine HSZ.out.mono ?_; rintro e w9 ⟨rfl, hb9⟩; have HB9 := hide hb9; clear hb9))
        have HX := hide (HPR.out 5 w9 HERR.out (by decide) (HBW.out.trans (HB9.out.mono HBW.out.size)))
        first | (go_ret2; exact ⟨trivial, HX.out⟩) | exact HX.out
      · have q2 : decide (room < (T : Int)) = false := decide_eq_false hT
        rw [if_neg hT] at HERR
        clear hT
        go_wp2_with (first | (go_at_call 62; refine HSZ.out.mono ?_; rintro e w9 ⟨rfl, hb9⟩; have HB9 := hide hb9; clear hb9) | (go_at_call 57; refine (HMC.out _ (HBGN.out.names.same (HB9.out.block nb HBGN.out.names.lt))).mono ?_; rintro e w8 ⟨rfl, hd8, hb8⟩; have HD8 := hide hd8; have HB8 := hide hb8; clear hd8 hb8))
        have HX : Hid (PP (.returned (.tuple #[pf w8.heap.size, .int .i64 0])) (w8.alloc (.cells #[.map (some nb), .map (some w9.heap.size), .slice none 0 0, .int .i64 room, .int .i64 (k : Int), .int .i64 0, .int .i64 0, .bool false] 87))) := by
          have h9 := HB9.out.size
          have h8 := HB8.out.size
          have hd8 := HD8.out.lt
          have hB8 : Below wr.heap.size wr (w8.alloc (.cells #[.map (some nb), .map (some w9.heap.size), .slice none 0 0, .int .i64 room, .int .i64 (k : Int), .int .i64 0, .int .i64 0, .bool false] 87)) := (HB9.out.trans (HB8.out.mono h9)).trans ((below_new w8 _).mono (by omega))
          have hrm : room = (room.toNat : Int) := by have := H0.out; omega
          have hr := rep_begins (room := room.toNat) HBGN.out hB8 h9 hd8 (HD8.out.alloc _) (by
            have := Bl.new w8 #[.map (some nb), .map (some w9.heap.size), .slice none 0 0, .int .i64 room, .int .i64 (k : Int), .int .i64 0, .int .i64 0, .bool false] 87
            rw [← hrm, ← HN.out]
            exact this)
          refine HPY.out _ _ _ HERR.out hr (fun b hb => ?_) (HBW.out.trans (hB8.mono HBW.out.size))
          have hnb := HNB.out
          have hws := HBW.out.size
          rw [Lay.mem] at hb
          simp only [show vb nilS = [] from rfl, List.not_mem_nil, false_or] at hb
          rcases hb with rfl | rfl | rfl | hb | hb
          · omega
          · omega
          · omega
          · have := HBGN.out.rng b (List.mem_append.2 (.inl hb)); omega
          · have := HBGN.out.rng b (List.mem_append.2 (.inr hb)); omega
        first | (go_ret2; exact ⟨trivial, HX.out⟩) | exact HX.out
end Go.Proofs.Yticbfcognnofbaa
