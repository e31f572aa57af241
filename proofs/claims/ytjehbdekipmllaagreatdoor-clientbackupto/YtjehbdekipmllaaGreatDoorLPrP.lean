/- The program's Print: every list of clients. -/
import Derived.Test.YtjehbdekipmllaaGreatDoorLPrT
namespace Go.Proofs.YtjehbdekipmllaaGreatDoor
open Go.RowKit

theorem BS.slot {B b : Nat} {w0 w : World} {xs : List Nat} (h : BS B b w0 w xs) : ∃ so cap, w.cell? ⟨b, 1, none⟩ = some (.slice so xs.length cap) := by
  have f : ∀ p, Lib.BuilderAtF 67 5 B b p (xs.map bv) w → ∃ so cap, w.cell? ⟨b, 1, none⟩ = some (.slice so xs.length cap) := by
    rintro p ⟨_, v, hbk, hown, _⟩
    have hc : w.cell? ⟨b, 1, none⟩ = some v := by rw [Lib.cell_of_heap hbk]; rfl
    rw [List.length_map] at hown
    rcases hown.2 with ⟨rfl, h0⟩ | ⟨g, cap, cur, fz, rfl, _⟩
    · exact ⟨none, 0, by rw [hc, h0]⟩
    · exact ⟨_, cap, hc⟩
  rcases h.1 with h1 | h1
  · exact f _ h1
  · exact f _ h1
set_option maxHeartbeats 400000 in
set_option maxRecDepth 100000 in
theorem lenS_any (B b : Nat) (w0 w : World) (xs : List Nat) (h : BS B b w0 w xs) :
    Calls Tryz.prog 31 #[.pointer (some ⟨b, 0, none⟩)] w fun e w' => e = .returned (.int .i64 (xs.length : Int)) ∧ w' = w := by
  obtain ⟨so, cap, hc⟩ := h.slot
  clear h
  obtain ⟨n, hn⟩ : ∃ n, n = xs.length := ⟨_, rfl⟩
  rw [← hn] at hc ⊢
  clear hn
  go_enter Tryz.func31, Tryz.ntmps31
  go_wp2
  go_ret
  exact ⟨rfl, rfl⟩
/-- The line of a client, and the text of some. -/
def lineT (c : Cl) : List Nat := prt (lnPairs c) ++ [10]
def textR (L : List Cl) : List Nat := (L.map lineT).flatten
theorem textR_snoc (L : List Cl) (c : Cl) : textR (L ++ [c]) = textR L ++ lineT c := by simp [textR]
theorem lineT_len {c : Cl} (h : ClOk c) : (lineT c).length ≤ 295075 := by
  have h1 := prt_len (lnPairs c)
  have h2 := lnPairs_tot h
  unfold lineT
  rw [List.length_append]
  simp
  omega
theorem prt_okk {c : Cl} (h : ClOk c) : ∀ x ∈ prt (lnPairs c), x < 256 := prt_lt _ (fun q hq => (lnPre_mem h 6 (by omega) q hq).1)
theorem lineT_lt {c : Cl} (h : ClOk c) : ∀ x ∈ lineT c, x < 256 := by
  intro x hx
  rcases List.mem_append.1 hx with hx | hx
  · exact prt_okk h x hx
  · simp at hx; omega
theorem textR_ok : ∀ {L : List Cl}, (∀ c ∈ L, ClOk c) → (textR L).length ≤ 295075 * L.length ∧ ∀ x ∈ textR L, x < 256
  | [], _ => by simp [textR]
  | c :: L, h => by
    obtain ⟨h1, h2⟩ := textR_ok (L := L) (fun d hd => h d (by simp [hd]))
    have h3 := lineT_len (h c (by simp))
    have e : textR (c :: L) = lineT c ++ textR L := rfl
    rw [e]
    refine ⟨by rw [List.length_append, List.length_cons, Nat.mul_add]; omega, fun x hx => ?_⟩
    rcases List.mem_append.1 hx with hx | hx
    · exact lineT_lt (h c (by simp)) x hx
    · exact h2 x hx
/-- What Print says. -/
def printR (L : List Cl) : List Nat × Nat := if faultR L ≠ 0 then ([], faultR L) else if 65536 < (textR L).length then ([], 1) else (textR L, 0)
theorem fault_none {L : List Cl} (h : faultR L = 0) : (∀ c ∈ L, checkB c = true) ∧ (L.map Cl.id).Nodup ∧ L.length ≤ 256 := by
  unfold faultR at h
  split at h
  · rename_i h1
    split at h
    · cases h
    · rename_i h2
      split at h
      · cases h
      · refine ⟨List.all_eq_true.1 h1, ?_, by omega⟩
        unfold twB at h2
        simp only [decide_eq_true_eq, Decidable.not_not] at h2
        exact h2
  · cases h
set_option linter.unusedSimpArgs false in
set_option maxHeartbeats 4000000 in
set_option maxRecDepth 100000 in
theorem clPrint_any (n c : Nat) (ao : Option Addr) (L : List Cl) (w : World) (hn : n = L.length) (hl : n ≤ 1099511627776) (hz : ∀ c ∈ L, ClBd c) (hr : CRow w ao L) (hM : MaxL w) (hG : NG w) :
    Calls Tryz.prog 13 #[.slice ao n c] w fun e w' => e = .returned (.tuple #[.string (bstr (printR L).1), .int .i64 ((printR L).2 : Int)]) ∧ Below w.heap.size w w' := by
  have HN := hide hn
  have HR := hide hr
  have HG := hide hG
  have HLF := hide (listFault_any n c ao L w hn hl hz hr hM)
  obtain ⟨R, hR⟩ : ∃ R, R = printR L := ⟨_, rfl⟩
  obtain ⟨F, hF⟩ : ∃ F, F = faultR L := ⟨_, rfl⟩
  have HRE : Hid (R = if F ≠ 0 then ([], F) else if 65536 < (textR L).length then ([], 1) else (textR L, 0)) := by show _ = _; rw [hR, hF]; rfl
  have HFE := hide hF
  rw [← hR]
  rw [← hF] at HLF
  clear hn hr hM hG hz hR hF
  go_enter Tryz.func13, Tryz.ntmps13
  go_wp2_with fail
  refine HLF.out.mono ?_
  rintro e w1 ⟨rfl, hb1⟩
  have HB1 := hide hb1
  have hs1 := hb1.size
  clear hb1 HLF
  by_cases h0 : F = 0
  rotate_left
  · have h0i : ((F : Int) == 0) = false := by simp; omega
    have h0n : ((F : Int) != 0) = true := by rw [bne, h0i]; rfl
    have HF : Hid (R = ([], F)) := by show _ = _; rw [HRE.out, if_pos h0]
    clear h0
    go_wp2
    go_ret2
    refine ⟨?_, HB1.out⟩
    rw [HF.out]
    rfl
  subst h0
  obtain ⟨hok, -, h256⟩ := fault_none HFE.out.symm
  have HOK : Hid (∀ c ∈ L, ClOk c) := fun c hc => clok (hok c hc)
  have hn256 : n ≤ 256 := by rw [HN.out]; exact h256
  have HRF : Hid (R = if 65536 < (textR L).length then ([], 1) else (textR L, 0)) := HRE
  have HFD := hide (fields_any w1)
  have HK2 : Hid (Known (w1.alloc (.map knownEs 6)) w1.heap.size) := heap_alloc_new w1 _
  have HB2 : Hid (Below w.heap.size w (w1.alloc (.map knownEs 6))) := HB1.out.trans ((below_new w1 _).mono hs1)
  have hsz : (w1.alloc (.map knownEs 6)).heap.size = w1.heap.size + 1 := by simp
  clear hok h256 HRE HFE
  go_wp2_with (first | (go_at_call 16; refine HFD.out.mono ?_; rintro e wf ⟨rfl, rfl⟩) | fail)
  generalize hg1 : w1.heap.size = gm at *
  generalize (w1.alloc (.map knownEs 6)) = w2 at *
  have hk2 := HK2.out.lt
  rw [← hsz]
  have hs2 := HB2.out.size
  have HR2 := hide (HR.out.keep HB2.out)
  have HG2 := hide (HG.out.keep HB2.out)
  clear hsz HFD HB1 HR HG hs1 hg1
  go_loopw [17] (fun i wr => ∃ k : Nat, k ≤ n ∧ i = .int .i64 k ∧ Hid (BS w2.heap.size w2.heap.size w2 wr (textR (L.take k)))) (fun i _ => n - (intOf i).toNat)
  case atStart => exact ⟨0, by omega, rfl, ⟨Lib.IsBuilderF.of (Lib.fresh_isBuilder _ _ _), below_new _ _⟩⟩
  case round =>
    obtain ⟨k, hk, rfl, HS⟩ := hrel
    have hs := HS.out.size
    have hsl := HS.out.lt
    by_cases hlt : k < n
    · obtain ⟨b, off, rfl⟩ := HR2.out.form (by rw [← HN.out]; omega)
      obtain ⟨q, hq⟩ : ∃ q, L[k]? = some q := ⟨_, List.getElem?_eq_getElem (by rw [← HN.out]; exact hlt)⟩
      obtain ⟨so, m, cp, d0, d1, d2, d3, d4, d5, hsat⟩ := (HR2.out.keep HS.out.2).cell hq
      have HQ := hide (HOK.out q (List.mem_of_getElem? hq))
      have HT : Hid (textR (L.take (k + 1)) = textR (L.take k) ++ lineT q) := by show _ = _; rw [List.take_add_one, hq]; exact textR_snoc _ _
      have HTL : Hid ((textR (L.take k)).length ≤ 75539200) := by
        show _ ≤ _
        have h1 := (textR_ok (L := L.take k) (fun d hd => HOK.out d (List.mem_of_mem_take hd))).1
        have h2 : (L.take k).length ≤ 256 := by rw [List.length_take]; omega
        have h3 : 295075 * (L.take k).length ≤ 295075 * 256 := Nat.mul_le_mul_left _ h2
        omega
      have hki : (k : Int) < (n : Int) := by omega
      have HBX : Hid (Below wr.heap.size wr (wr.alloc (.cells #[.string q.id, .string q.secret, .int .i64 q.grants, .bool q.ping, .string q.url, .slice so m cp] 47))) := below_new wr _
      have HSX := hide (HS.out.keep HBX.out hs)
      have HLO := hide (lineOf_any q HQ.out so m cp gm (wr.alloc (.cells #[.string q.id, .string q.secret, .int .i64 q.grants, .bool q.ping, .string q.url, .slice so m cp] 47)) (hsat.keep HBX.out) ((HK2.out.keep HS.out.2 hk2).keep HBX.out (by omega)) ((HG2.out.keep HS.out.2).keep HBX.out))
      have hsx := HBX.out.size
      clear hq hsat HS
      go_wp2_with fail
      refine HLO.out.mono ?_
      rintro e w3 ⟨rfl, hb3⟩
      have HS3 := hide (HSX.out.keep hb3 (by omega))
      have hs3 := hb3.size
      clear hb3 HLO HSX
      have HPL : Hid ((prt (lnPairs q)).length + 1 ≤ 295075) := by
        show _ ≤ _
        have := lineT_len HQ.out
        unfold lineT at this
        rw [List.length_append] at this
        exact this
      have HTW : Hid (lineT q = prt (lnPairs q) ++ [10]) := rfl
      go_wp2_with fail
      refine (putS_any _ _ w2 w3 _ _ (Nat.le_refl _) HS3.out (prt_okk HQ.out) (by have := HTL.out; have := HPL.out; omega)).mono ?_
      rintro e w4 ⟨rfl, HS4, -⟩
      clear HS3
      go_wp2_with fail
      refine (putB_any _ _ w2 w4 _ 10 (Nat.le_refl _) HS4.out (by have := HTL.out; have := HPL.out; rw [List.length_append]; omega)).mono ?_
      rintro e w5 ⟨rfl, HS5, -⟩
      clear HS4
      go_wp2
      go_roundw
      case rel =>
        refine ⟨k + 1, by omega, by go_num, ?_⟩
        rw [HT.out, HTW.out]
        have h5 := HS5.out
        rw [List.append_assoc] at h5
        exact h5
      case measure => simp [intOf]; omega
    · obtain rfl : k = n := by omega
      have HSE : Hid (BS w2.heap.size w2.heap.size w2 wr (textR L)) := by
        have h := HS.out
        rw [List.take_of_length_le (by rw [← HN.out]; omega)] at h
        exact h
      obtain ⟨m, hm⟩ : ∃ m, m = (textR L).length := ⟨_, rfl⟩
      have HLN := hide (lenS_any _ _ w2 wr _ HSE.out)
      rw [← hm] at HLN HRF
      have HBW : Hid (Below w.heap.size w wr) := HB2.out.trans (HSE.out.2.mono hs2)
      have hti := (textR_ok HOK.out).2
      have HTI := hide hti
      have hm2 : m ≤ 75539200 := by
        rw [hm]
        have h1 := (textR_ok HOK.out).1
        have h3 : 295075 * L.length ≤ 295075 * 256 := Nat.mul_le_mul_left _ (by rw [← HN.out]; exact hn256)
        omega
      clear HS hm hti
      by_cases hlg : 65536 < m
      · have hli : (65536 : Int) < (m : Int) := by omega
        have HF : Hid (R = ([], 1)) := by show _ = _; rw [HRF.out, if_pos hlg]
        go_wp2_with (first | (go_at_call 31; refine HLN.out.mono ?_; rintro e wx ⟨rfl, rfl⟩) | fail)
        go_ret2
        refine ⟨?_, HBW.out⟩
        rw [HF.out]
        rfl
      · have hli : ¬ (65536 : Int) < (m : Int) := by omega
        have HF : Hid (R = (textR L, 0)) := by show _ = _; rw [HRF.out, if_neg hlg]
        have HGS := hide (getS_any _ _ w2 wr _ (Nat.le_refl _) HSE.out HTI.out)
        go_wp2_with (first | (go_at_call 31; refine HLN.out.mono ?_; rintro e wx ⟨rfl, rfl⟩) | (go_at_call 32; refine HGS.out.mono ?_))
        rintro e w6 ⟨rfl, hb6⟩
        have HB6 : Hid (Below w.heap.size w w6) := HB2.out.trans (hb6.out.mono hs2)
        clear hb6
        go_wp2
        go_ret2
        refine ⟨?_, HB6.out⟩
        rw [HF.out]
        rfl
end Go.Proofs.YtjehbdekipmllaaGreatDoor
