/- The contract of SyncDir. -/
import Derived.Test.YticbfcognnofbaaDCallF
namespace Go.Proofs.Yticbfcognnofbaa
open Go.RowKit Go.Maps

theorem flat3_get (bs : List Nat) : ∀ (l : List Ch) (k : Nat) (c : Ch), l[k]? = some c → ∀ j, j < 3 → (l.flatMap (chCells bs))[k * 3 + j]? = (chCells bs c)[j]?
  | [], k, c, h, _, _ => by simp at h
  | d :: l, 0, c, h, j, hj => by
    have : d = c := by simpa using h
    subst this
    rw [List.flatMap_cons, Nat.zero_mul, Nat.zero_add, List.getElem?_append_left (by simpa [chCells] using hj)]
  | d :: l, k + 1, c, h, j, hj => by
    have h2 : l[k]? = some c := by simpa using h
    have := flat3_get bs l k c h2 j hj
    have hl : (chCells bs d).length = 3 := rfl
    rw [List.flatMap_cons, List.getElem?_append_right (by rw [hl]; omega), hl, show (k + 1) * 3 + j - 3 = k * 3 + j by omega]
    exact this
/-- The kept changes, one by one. -/
theorem kept_cells {w : World} {bs : List Nat} {l : List Ch} {g n cap : Nat} (h : w.ownsRow 0 94 3 (.slice (some ⟨g, 0, none⟩) n cap) n (l.flatMap (chCells bs))) {k : Nat} {c : Ch} (hk : l[k]? = some c) :
    w.cell? ⟨g, k * 3, none⟩ = some (.string (str c.fr)) ∧ w.cell? ⟨g, k * 3 + 1, none⟩ = some (.string (str c.tn)) ∧ w.cell? ⟨g, k * 3 + 2, none⟩ = some (if c.tn = [] then .pointer none else pf (bs.getD c.fl 0)) := by
  have hc := World.ownsRow.cells h (g := g) rfl
  have e : ∀ j u, j < 3 → (chCells bs c)[j]? = some u → w.cell? ⟨g, k * 3 + j, none⟩ = some u := fun j u hj hu => by
    have := hc (k * 3 + j) u (by rw [flat3_get bs l k c hk j hj]; exact hu)
    rwa [add_none, Nat.zero_add] at this
  exact ⟨e 0 _ (by omega) rfl, e 1 _ (by omega) rfl, e 2 _ (by omega) rfl⟩
theorem chds_take {d : Dir} {l : List Ch} {k : Nat} {c : Ch} (h : l[k]? = some c) : chds d (l.take (k + 1)) = chd c (chds d (l.take k)) := by
  rw [List.take_add_one, h, Option.toList_some, chds_snoc]
theorem rep_synced {w wr : World} {dp nx : Nat} {S : DS} {L : Lay} (h : Rep w dp S L nx) (hnow : chds S.safe S.chg = S.dir) (hd : DirAt wr L.sf L.bs (chds S.safe S.chg)) (hf : Fr [L.sf] w wr) :
    Aft w (wr.setCell ⟨dp, 2, none⟩ nilS) dp L { S with safe := S.dir, chg := [] } nx ∧ wr.cell? ⟨dp, 2, none⟩ = some L.kv ∧ wr.frozen? ⟨dp, 2, none⟩ = false := by
  have hnod := h.nod
  have hsf : L.sf ≠ dp ∧ L.sf ≠ L.bn ∧ (∀ b ∈ L.bs, b ≠ L.sf) ∧ (∀ g ∈ L.rv.flatMap vb, g ≠ L.sf) := by
    unfold Lay.blocks at hnod
    simp only [List.nodup_cons, List.mem_cons, List.mem_append, not_or] at hnod
    obtain ⟨⟨a1, a2, a3, a4⟩, ⟨b1, b2, b3⟩, ⟨c1, c2, c3⟩, d⟩ := hnod
    exact ⟨fun e => a2 e.symm, fun e => b1 e.symm, fun b hb e => c2 (e ▸ hb), fun g hg e => c3 (e ▸ hg)⟩
  have hdp : ∀ b ∈ L.bn :: L.sf :: (vb L.kv ++ (L.bs ++ L.rv.flatMap vb)), b ≠ dp := by
    have h1 := h.nod
    unfold Lay.blocks at h1
    rw [List.nodup_cons] at h1
    exact fun b hb e => h1.1 (e ▸ hb)
  have same : ∀ b ∈ L.blocks dp, b ≠ L.sf → wr.heap[b]? = w.heap[b]? := fun b hb hne => hf.block b (h.lt b hb) (by simpa using hne)
  have box : Bl wr dp (diskCells L S nx) 87 := (same dp ((L.mem dp dp).2 (.inl rfl)) (fun e => hsf.1 e.symm)).trans h.box
  have set : ∀ b, b ≠ dp → (wr.setCell ⟨dp, 2, none⟩ nilS).heap[b]? = wr.heap[b]? := fun b hb => heap_setCell_other wr ⟨dp, 2, none⟩ b nilS hb
  have hsz : (wr.setCell ⟨dp, 2, none⟩ nilS).heap.size = wr.heap.size := by simp [World.setCell]
  have sub : ∀ b ∈ ({ L with kv := nilS } : Lay).blocks dp, b ∈ L.blocks dp := fun b hb => by
    have e : vb nilS = [] := rfl
    rw [Lay.mem] at hb ⊢
    simp only [e, List.not_mem_nil, false_or] at hb
    rcases hb with hb | hb | hb | hb | hb
    · exact .inl hb
    · exact .inr (.inl hb)
    · exact .inr (.inr (.inl hb))
    · exact .inr (.inr (.inr (.inr (.inl hb))))
    · exact .inr (.inr (.inr (.inr (.inr hb))))
  refine ⟨⟨{ L with kv := nilS }, ⟨?_, fun b hb => ?_, box.set 2 nilS, ?_, ?_, World.ownsRow_nil _ _ _ _, h.blen, h.rlen, fun i b v h1 h2 => ⟨?_, ?_⟩⟩, ?_, fun b hb => .inl (sub b hb)⟩, box.cell 2, box.frozen 2⟩
  · have e : vb nilS = [] := rfl
    unfold Lay.blocks at hnod ⊢
    simp only [e, List.nil_append]
    refine hnod.sublist ?_
    exact List.Sublist.cons_cons _ (List.Sublist.cons_cons _ (List.Sublist.cons_cons _ (List.sublist_append_right _ _)))
  · rw [hsz]
    have := h.lt b (sub b hb)
    have := hf.size
    omega
  · refine h.names.same ?_
    rw [set _ (hdp _ (by simp))]
    exact same _ ((L.mem dp _).2 (.inr (.inl rfl))) (fun e => hsf.2.1 e.symm)
  · show DirAt _ L.sf L.bs S.dir
    rw [← hnow]
    exact hd.same (set _ hsf.1)
  · have hb := List.mem_of_getElem? h1
    exact ((set b (hdp b (by simp [hb]))).trans (same b (L.mem_file dp h1) (hsf.2.2.1 b hb))).trans (h.file i b v h1 h2).1
  · refine owns_same (h.file i b v h1 h2).2 fun g hg => ?_
    have hm : g ∈ L.rv.flatMap vb := List.mem_flatMap.2 ⟨v, List.mem_of_getElem? h2, mem_vb.2 hg⟩
    rw [set g (hdp g (by simp only [List.mem_cons, List.mem_append]; exact .inr (.inr (.inr (.inr hm)))))]
    exact same g (L.mem_row dp h2 hg) (hsf.2.2.2 g hm)
  · exact (hf.mono (fun x hx => .inl (by rw [List.mem_singleton.1 hx]; exact (L.mem dp _).2 (.inr (.inr (.inl rfl)))))).trans (Fr.setCell _ wr dp 2 nilS ((L.mem dp dp).2 (.inl rfl))) (fun x hx => .inl hx)
set_option maxHeartbeats 2000000 in
set_option maxRecDepth 100000 in
theorem syncDir_any (dp nx : Nat) (S : DS) (L : Lay) (w : World) (h : Rep w dp S L nx) (hO : Ok S) :
    Calls Try.prog 21 #[pf dp] w fun e w' => e = .returned (.int .i64 ((syncDir S).1 : Int)) ∧ Aft w w' dp L (syncDir S).2 nx := by
  have H := hide h
  obtain ⟨c0, c1, c2, c3, c4, c5, c6, c7⟩ := h.c
  unfold syncDir
  cases hd : S.dead with
  | true =>
    rw [hd] at c7
    simp only [if_true]
    unfold pf at *
    clear h hO hd
    go_enter Try.func21, Try.ntmps21
    go_wp2
    go_ret
    exact ⟨rfl, Aft.same H.out (Below.refl _ _)⟩
  | false =>
    rw [hd] at c7
    simp only [Bool.false_eq_true, if_false]
    have HOP : Hid (Calls Try.prog 55 #[pf dp, .agg #[.string { data := #[] }, .string { data := #[] }, .pointer none]] w fun e w' => e = .returned (.int .i64 ((goes S id).1 : Int)) ∧ Rep w' dp (goes S id).2 L nx ∧ Fr [dp] w w') := operate_zero dp nx S L w h hd hO.ops hO.armed
    rcases goes_split S (fun T => { T with safe := T.dir, chg := [] }) with ⟨g1, g2⟩ | ⟨g1, g2, g3⟩
    · rw [g2]
      have hne : (((goes S id).1 : Int) != 0) = true := by simp; omega
      have hne2 : ¬ ((goes S id).1 : Int) = 0 := by omega
      generalize goes S id = r at *
      unfold pf at *
      clear h hO hd g1 g2
      go_enter Try.func21, Try.ntmps21
      go_wp2_with (first | (go_at_call 55; refine HOP.out.mono ?_; rintro e w4 ⟨rfl, h4, f4⟩; have H4 := hide h4; have F4 := hide f4; clear h4 f4))
      go_ret
      exact ⟨rfl, Aft.dp H4.out F4.out⟩
    · rw [g2]
      rw [g1] at HOP
      obtain ⟨r, hr2⟩ : ∃ r, r = (goes S id).2 := ⟨_, rfl⟩
      rw [← hr2] at HOP ⊢
      have hrn : chds r.safe r.chg = r.dir := by rw [hr2, g3]; exact hO.now
      have HRN := hide hrn
      have HHI : Hid (∀ k, Dok r.files.length (chds r.safe (r.chg.take k))) := by rw [hr2, g3]; exact hO.hist
      have HCK : Hid (∀ c ∈ r.chg, Cok r.files.length c) := by rw [hr2, g3]; exact hO.cok
      have HLN : Hid (r.chg.length ≤ 1048576) := by rw [hr2, g3]; have := hO.clen; have := hO.ops; show S.chg.length ≤ _; omega
      unfold pf at *
      clear h hO hd g1 g2 g3 hr2 hrn
      go_enter Try.func21, Try.ntmps21
      go_wp2_with (first | (go_at_call 55; refine HOP.out.mono ?_; rintro e w4 ⟨rfl, h4, f4⟩; have H4 := hide h4; have F4 := hide f4; obtain ⟨d0, d1, d2, d3, d4, d5, d6, d7⟩ := h4.c; obtain ⟨ao, cap, hkv⟩ := ownsRow_slice h4.kept; rw [hkv] at d2; have HKV := hide hkv; clear h4 f4 hkv))
      have HSF : Hid (∀ g, ao = some ⟨g, 0, none⟩ → g ≠ L.sf) := fun g hg e => by
        have hn := H4.out.nod
        unfold Lay.blocks at hn
        simp only [List.nodup_cons, List.mem_cons, List.mem_append, not_or] at hn
        obtain ⟨_, _, ⟨c1, _⟩, _⟩ := hn
        exact c1 (mem_vb.2 (by rw [HKV.out, hg, e]; rfl))
      have HDS : Hid (dp ≠ L.sf) := fun e => by
        have hn := H4.out.nod
        unfold Lay.blocks at hn
        simp only [List.nodup_cons, List.mem_cons, not_or] at hn
        exact hn.1.2.1 e
      have HKR := hide H4.out.kept
      rw [HKV.out] at HKR
      have HBL := hide H4.out.blen
      have HS0 := hide H4.out.safe
      have HBOX := hide H4.out.box
      obtain ⟨n, hn⟩ : ∃ n, n = r.chg.length := ⟨_, rfl⟩
      rw [← hn] at HKR HLN HKV d2 ⊢
      have HN := hide hn
      clear hn d0 d1 d2 d3 d4 d5 d6 d7 c0 c1 c2 c3 c4 c5 c6 c7 HOP
      go_loopw [23] (fun i wr => ∃ k : Nat, k ≤ n ∧ i = .int .i64 (k : Int) ∧ Hid (DirAt wr L.sf L.bs (chds r.safe (r.chg.take k))) ∧ Hid (Fr [L.sf] w4 wr)) (fun i _ => n - (intOf i).toNat)
      case atStart => exact ⟨0, Nat.zero_le _, rfl, HS0.out, Fr.refl _ _⟩
      case round =>
        obtain ⟨k, hk, rfl, HD, HF⟩ := hrel
        by_cases hlt : k < n
        · obtain ⟨c, hc⟩ : ∃ c, r.chg[k]? = some c := ⟨_, List.getElem?_eq_getElem (by rw [← HN.out]; exact hlt)⟩
          obtain ⟨g, rfl⟩ : ∃ g, ao = some ⟨g, 0, none⟩ := by
            rcases HKR.out.2 with ⟨e, e2⟩ | ⟨g, cap', cur, e, _⟩
            · omega
            · injection e with e _ _; exact ⟨g, e⟩
          have hrow : wr.ownsRow 0 94 3 (.slice (some ⟨g, 0, none⟩) n cap) n (r.chg.flatMap (chCells L.bs)) := owns_same HKR.out fun b hb => HF.out.block b (World.ownsRow.lt HKR.out b hb).2 (fun e => by injection hb with hb; exact HSF.out g rfl (hb.trans (List.mem_singleton.1 e)))
          obtain ⟨k0, k1, k2⟩ := kept_cells hrow hc
          obtain ⟨po, hpv⟩ : ∃ po, (if c.tn = [] then Value.pointer none else pf (L.bs.getD c.fl 0)) = Value.pointer po := by
            by_cases e : c.tn = []
            · exact ⟨none, by rw [if_pos e]⟩
            · exact ⟨_, by rw [if_neg e]; rfl⟩
          rw [hpv] at k2
          have HCC := HCK.out c (List.mem_of_getElem? hc)
          have HDO := hide (fun W hW => doneOn_any c L.bs L.sf (chds r.safe (r.chg.take k)) W hW HCC.fr HCC.tn (fun e => by rw [HBL.out]; exact HCC.num e) (by have := (HHI.out k).len; omega))
          rw [← chds_take hc, show (chCells L.bs c).toArray = #[.string (str c.fr), .string (str c.tn), .pointer po] by rw [← hpv]; rfl] at HDO
          have x1 : wr.cell? ⟨dp, 1, none⟩ = some (.map (some L.sf)) := (Fr.bl HBOX.out HF.out (by simpa using HDS.out)).cell 1
          have hcap : n ≤ cap := by
            rcases HKR.out.2 with ⟨e, _⟩ | ⟨g', cap', cur, e, _, _, h3, _⟩
            · cases e
            · injection e with _ _ e3; omega
          have hkn : (k : Int) < (n : Int) := by omega
          clear hrow hc hpv HCC
          generalize str c.fr = sfr at *
          generalize str c.tn = stn at *
          go_upto_region 11 with fail
          obtain ⟨N, hN⟩ : ∃ N, N = wr.heap.size := ⟨_, rfl⟩
          have HV := hide (Bl.new wr #[.string sfr, .string stn, .pointer po] 94)
          have HX := hide (cell_kept x1 (below_new wr (.cells #[.string sfr, .string stn, .pointer po] 94)))
          have HDN := hide (HD.out.alloc (.cells #[.string sfr, .string stn, .pointer po] 94))
          have HFN := hide (HF.out.trans (Fr.alloc [L.sf] wr (.cells #[.string sfr, .string stn, .pointer po] 94)) (fun x hx => .inl hx))
          have HNS : Hid (N ∉ [L.sf]) := by have := HD.out.lt; show ¬ _; simp; omega
          rw [← hN] at HV ⊢
          clear k0 k1 k2 x1 hN HD HF
          generalize wr.alloc (.cells #[.string sfr, .string stn, .pointer po] 94) = wv at *
          obtain ⟨v0, v1, v2⟩ := HV.out.three
          have vx := HX.out
          have hdn : DirAt wv.drew L.sf L.bs (chds r.safe (r.chg.take k)) := HDN.out.same rfl
          have HC7 := hide (HDO.out wv.drew hdn)
          clear hdn
          go_region_held (fun W' => W'.cell? ⟨N, 0, none⟩ = some (.string sfr) ∧ W'.cell? ⟨N, 1, none⟩ = some (.string stn) ∧ W'.cell? ⟨N, 2, none⟩ = some (.pointer po) ∧ W'.cell? ⟨dp, 1, none⟩ = some (.map (some L.sf))) (go_keep) (first | (go_at_call 56; refine HC7.out.mono ?_; rintro e w3 ⟨rfl, hd3, hf3⟩; have HD3 := hide hd3; have HF3 := hide hf3.undrew; obtain ⟨t0, t1, t2⟩ := (Fr.bl HV.out HF3.out HNS.out).three; have tx : w3.cell? ⟨dp, 1, none⟩ = some (.map (some L.sf)) := (Fr.bl HBOX.out (HFN.out.trans HF3.out (fun x hx => .inl hx)) (by simpa using HDS.out)).cell 1; clear hd3 hf3 v0 v1 v2 vx))
          clear t0 t1 t2 tx
          have hkb : (k : Int) + 1 ≤ 4611686018427387904 := by have := HLN.out; omega
          go_wp2_with fail
          go_roundw
          case rel => exact ⟨k + 1, by omega, by simp, HD3, hide (HFN.out.trans HF3.out (fun x hx => .inl hx))⟩
          case measure => simp [intOf]; omega
        · have hkn : ¬ (k : Int) < (n : Int) := by omega
          have hke : r.chg.take k = r.chg := List.take_of_length_le (by have := HN.out; omega)
          rw [hke] at HD
          have HRS := hide (rep_synced H4.out HRN.out HD.out HF.out)
          have s2 := HRS.out.2.1
          rw [HKV.out] at s2
          have f2 := HRS.out.2.2
          clear hke
          go_wp2_with fail
          go_ret
          refine ⟨rfl, ?_⟩
          obtain ⟨L', q1, q2, q3⟩ := HRS.out.1
          exact ⟨L', q1, (F4.out.mono (fun x hx => .inl (by rw [List.mem_singleton.1 hx]; exact (L.mem dp dp).2 (.inl rfl)))).trans q2 (fun x hx => .inl hx), fun g hg => (q3 g hg).imp id (fun e => Nat.le_trans F4.out.size e)⟩
end Go.Proofs.Yticbfcognnofbaa
