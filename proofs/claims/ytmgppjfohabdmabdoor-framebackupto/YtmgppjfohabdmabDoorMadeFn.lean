/- The contract of the law's function made: a file of frames out of kinds and texts. -/
import Derived.Deep.RegionHeld
import Derived.Test.YtmgppjfohabdmabDoorText
import Derived.Test.YtmgppjfohabdmabDoorSealAll
namespace Go.Proofs.YtmgppjfohabdmabDoor
open Go.RowKit

/-- A row of strings in memory. -/
def SRow (w : World) (ao : Option Addr) (ts : List ByteArray) : Prop := ts = [] ∨ ∃ b off, ao = some ⟨b, off, none⟩ ∧ ∀ i, i < ts.length → w.cell? ⟨b, off + i, none⟩ = some (.string (ts.getD i ByteArray.empty))
theorem SRow.keep {w w' : World} {ao : Option Addr} {ts : List ByteArray} (h : SRow w ao ts) (hb : Below w.heap.size w w') : SRow w' ao ts := by
  rcases h with h | ⟨b, off, rfl, hc⟩
  · exact .inl h
  · refine .inr ⟨b, off, rfl, fun i hi => ?_⟩
    rw [hb.cell (p := ⟨b, off + i, none⟩) (World.block_lt_of_cell? w _ (hc i hi))]; exact hc i hi
theorem SRow.form {w : World} {ao : Option Addr} {ts : List ByteArray} (h : SRow w ao ts) (hne : 0 < ts.length) : ∃ b off, ao = some ⟨b, off, none⟩ ∧ ∀ i, i < ts.length → w.cell? ⟨b, off + i, none⟩ = some (.string (ts.getD i ByteArray.empty)) := by
  rcases h with rfl | h
  · simp at hne
  · exact h

def mkF : List (Nat × ByteArray) → List (Nat × List Nat)
  | [] => []
  | (k, s) :: r => if k = 0 ∨ 2097152 < s.size then mkF r else (k, sbytes s) :: mkF r
def fileOf : List (Nat × List Nat) → List Nat
  | [] => []
  | (k, l) :: r => sealed k l ++ fileOf r
theorem mkF_append (a b : List (Nat × ByteArray)) : mkF (a ++ b) = mkF a ++ mkF b := by
  induction a with
  | nil => rfl
  | cons x a ih =>
    obtain ⟨k, s⟩ := x
    simp only [List.cons_append, mkF]
    split
    · exact ih
    · rw [ih, List.cons_append]
theorem fileOf_append (a b : List (Nat × List Nat)) : fileOf (a ++ b) = fileOf a ++ fileOf b := by
  induction a with
  | nil => rfl
  | cons x a ih => obtain ⟨k, l⟩ := x; simp only [List.cons_append, fileOf, ih, List.append_assoc]
theorem mkF_step {ks : List Nat} {ts : List ByteArray} {i : Nat} (hk : i < ks.length) (ht : i < ts.length) : mkF ((ks.zip ts).take (i + 1)) = mkF ((ks.zip ts).take i) ++ (if ks.getD i 0 = 0 ∨ 2097152 < (ts.getD i ByteArray.empty).size then [] else [(ks.getD i 0, sbytes (ts.getD i ByteArray.empty))]) := by
  have hz : i < (ks.zip ts).length := by simp; omega
  rw [List.take_succ_eq_append_getElem hz, mkF_append]
  have e1 : ks.getD i 0 = ks[i] := by simp [List.getD, hk]
  have e2 : ts.getD i ByteArray.empty = ts[i] := by simp [List.getD, ht]
  rw [e1, e2, List.getElem_zip]
  simp only [mkF]
theorem mkF_mono (l : List (Nat × ByteArray)) (i : Nat) : (fileOf (mkF (l.take i))).length ≤ (fileOf (mkF l)).length := by
  conv => rhs; rw [← List.take_append_drop i l]
  rw [mkF_append, fileOf_append, List.length_append]
  omega
theorem mkF_len (l : List (Nat × ByteArray)) : (mkF l).length ≤ l.length := by
  induction l with
  | nil => simp [mkF]
  | cons x l ih =>
    obtain ⟨k, s⟩ := x
    simp only [mkF, List.length_cons]
    split
    · omega
    · simp; omega
theorem fileOf_lt : ∀ {fr : List (Nat × List Nat)}, (∀ x ∈ fr, x.1 < 256 ∧ ∀ y ∈ x.2, y < 256) → ∀ y ∈ fileOf fr, y < 256
  | [], _, y, h => by simp [fileOf] at h
  | (k, l) :: r, hf, y, h => by
    rcases List.mem_append.1 h with h | h
    · exact sealed_lt (hf (k, l) (by simp)).1 (hf (k, l) (by simp)).2 y h
    · exact fileOf_lt (fun x hx => hf x (by simp [hx])) y h
theorem mkF_mem : ∀ {l : List (Nat × ByteArray)} {x : Nat × List Nat}, x ∈ mkF l → (∀ y ∈ l, y.1 < 256) → 0 < x.1 ∧ x.1 < 256 ∧ x.2.length ≤ 2097152 ∧ ∀ y ∈ x.2, y < 256
  | [], x, h, _ => by simp [mkF] at h
  | (k, s) :: r, x, h, hk => by
    simp only [mkF] at h
    split at h
    · exact mkF_mem h (fun y hy => hk y (by simp [hy]))
    · rename_i hn
      rcases List.mem_cons.1 h with rfl | h
      · exact ⟨by simp; omega, hk (k, s) (by simp), by simp [sbytes_length]; omega, sbytes_lt s⟩
      · exact mkF_mem h (fun y hy => hk y (by simp [hy]))

set_option maxHeartbeats 1600000 in
set_option maxRecDepth 100000 in
theorem made_any (ck ct : Nat) (ko tx : Option Addr) (ks : List Nat) (ts : List ByteArray) (w : World) (hlk : ks.length ≤ 1073741824) (hlt : ts.length ≤ 1073741824) (hsz : ∀ s ∈ ts, s.size ≤ 1073741824) (hfit : (fileOf (mkF (ks.zip ts))).length ≤ 1073741824)
    (hk : ∀ x ∈ ks, x < 256) (hrk : Row w ko ks) (hrt : SRow w tx ts) (hT : Tab w) :
    Calls Tryd.prog 24 #[.slice ko ks.length ck, .slice tx ts.length ct] w fun e w' => ∃ bo bn bc, e = .returned (.tuple #[.slice bo bn bc, .int .i64 ((mkF (ks.zip ts)).length : Nat), .bool true]) ∧ Hid (Made w w' bo bn bc (fileOf (mkF (ks.zip ts)))) := by
  have HK : Hid (∀ x ∈ ks, x < 256) := hk
  have HRK : Hid (Row w ko ks) := hrk
  have HRT : Hid (SRow w tx ts) := hrt
  have HT : Hid (Tab w) := hT
  have HSZ : Hid (∀ s ∈ ts, s.size ≤ 1073741824) := hsz
  have HFIT : Hid ((fileOf (mkF (ks.zip ts))).length ≤ 1073741824) := hfit
  clear hk hrk hrt hT hsz hfit
  obtain ⟨nk, hnk⟩ : ∃ n, n = ks.length := ⟨_, rfl⟩
  obtain ⟨nt, hnt⟩ : ∃ n, n = ts.length := ⟨_, rfl⟩
  have HNK : Hid (nk = ks.length) := hnk
  have HNT : Hid (nt = ts.length) := hnt
  rw [← hnk] at hlk ⊢
  rw [← hnt] at hlt ⊢
  clear hnk hnt
  go_enter Tryd.func24, Tryd.ntmps24
  go_wp2
  go_loopw [7, 8, 9] (fun v c i wr => ∃ (p : Nat) (acc : List (Nat × List Nat)), (p ≤ nk ∧ p ≤ nt ∧ acc.length ≤ p) ∧ c = .int .i64 (acc.length : Nat) ∧ i = .int .i64 (p : Int) ∧ Hid (Own wr w.heap.size v (fileOf acc) ∧ Below w.heap.size w wr) ∧ Hid (acc = mkF ((ks.zip ts).take p))) (fun _ _ i _ => nk - (intOf i).toNat)
  case atStart => exact ⟨0, [], ⟨by omega, by omega, by simp⟩, rfl, rfl, ⟨own_nil _ _, Below.refl _ _⟩, rfl⟩
  case round =>
    obtain ⟨p, acc, hp, rfl, rfl, HI, HA⟩ := hrel
    have hsr := HI.out.2.size
    by_cases hlp : p < nk ∧ p < nt
    · obtain ⟨kb, koff, rfl⟩ := HRK.out.form (by rw [← HNK.out]; omega)
      obtain ⟨tb, toff, rfl, htc⟩ := HRT.out.form (by rw [← HNT.out]; omega)
      have HKC : Hid (wr.cell? ⟨kb, koff + p, none⟩ = some (.int .u8 ((ks.getD p 0 : Nat) : Int))) := (HRK.out.keep HI.out.2).cell p (by rw [← HNK.out]; omega)
      have HTC : Hid (wr.cell? ⟨tb, toff + p, none⟩ = some (.string (ts.getD p ByteArray.empty))) := cell_kept (htc p (by rw [← HNT.out]; omega)) HI.out.2
      have HST := mkF_step (ks := ks) (ts := ts) (i := p) (by rw [← HNK.out]; omega) (by rw [← HNT.out]; omega)
      obtain ⟨k, hkk⟩ : ∃ k, k = ks.getD p 0 := ⟨_, rfl⟩
      obtain ⟨s, hss⟩ : ∃ s, s = ts.getD p ByteArray.empty := ⟨_, rfl⟩
      rw [← hkk, ← hss] at HST
      have hkc : wr.cell? ⟨kb, koff + p, none⟩ = some (.int .u8 (k : Int)) := by rw [hkk]; exact HKC.out
      have htc2 : wr.cell? ⟨tb, toff + p, none⟩ = some (.string s) := by rw [hss]; exact HTC.out
      have hk256 : k < 256 := by rw [hkk]; exact lt_get HK.out p
      have HTR : Hid (Tab wr) := HT.out.keep HI.out.2
      clear HKC HTC hkk hss htc
      by_cases hk0 : k = 0
      · subst hk0
        go_wp2
        go_roundw
        case rel => exact ⟨p + 1, acc, ⟨by omega, by omega, by omega⟩, rfl, rfl, HI, by show acc = _; rw [HST, if_pos (.inl rfl), List.append_nil]; exact HA.out⟩
        case measure => simp [intOf]; omega
      · have hkb : ((k : Int) == 0) = false := by rw [beq_eq_false_iff_ne]; omega
        by_cases hbig : 2097152 < s.size
        · have hbb : decide ((2097152 : Int) < (s.size : Int)) = true := by simp; omega
          go_wp2
          go_roundw
          case rel => exact ⟨p + 1, acc, ⟨by omega, by omega, by omega⟩, rfl, rfl, HI, by show acc = _; rw [HST, if_pos (.inr hbig), List.append_nil]; exact HA.out⟩
          case measure => simp [intOf]; omega
        · have hbb : decide ((2097152 : Int) < (s.size : Int)) = false := by simp; omega
          have HST2 : Hid (mkF ((ks.zip ts).take (p + 1)) = acc ++ [(k, sbytes s)]) := by show _ = _; rw [HST, if_neg (by omega), ← HA.out]
          have HFL : Hid ((fileOf acc).length + (sealed k (sbytes s)).length ≤ 1073741824) := by
            show _ ≤ _
            have h := mkF_mono (ks.zip ts) (p + 1)
            rw [HST2.out, fileOf_append, List.length_append] at h
            have h3 := HFIT.out
            simp only [fileOf, List.append_nil] at h
            omega
          obtain ⟨sc, w1, hcv, hrow1, hb1⟩ : ∃ sc w1, (convert 9 22 (.string s)).run Tryd.prog wr.drew = .ok (.slice (some ⟨wr.heap.size, 0, none⟩) s.size sc) w1 ∧ Hid (Row w1 (some ⟨wr.heap.size, 0, none⟩) (sbytes s)) ∧ Hid (Below wr.heap.size wr w1) := by
            obtain ⟨sc, w1, h1, h2, h3⟩ := conv_text wr.drew s
            exact ⟨sc, w1, h1, h2, ⟨h3.os, h3.tape, h3.output, h3.size, h3.block⟩⟩
          have hk1 := cell_kept hkc hb1.out
          have ht1 := cell_kept htc2 hb1.out
          have HT1 : Hid (Tab w1) := HTR.out.keep hb1.out
          have hsl : s.size = (sbytes s).length := (sbytes_length s).symm
          have HSL : Hid (s.size = (sbytes s).length) := hsl
          clear hsl HST
          go_upto_region 7 with fail
          go_region_held (fun W => W.cell? ⟨kb, koff + p, none⟩ = some (.int .u8 (k : Int)) ∧ W.cell? ⟨tb, toff + p, none⟩ = some (.string s)) (go_keep) (first | (go_at_call 26; refine (seal_any sc k (some ⟨wr.heap.size, 0, none⟩) s.size (sbytes s) w1 (by omega) hk256 HSL.out (by omega) (sbytes_lt s) hrow1.out HT1.out).mono ?_; rintro e w2 ⟨rfl, h2⟩; have hk2 := cell_kept hk1 h2.out.2; have ht2 := cell_kept ht1 h2.out.2))
          have HB2 : Hid (Below wr.heap.size wr w2) := hb1.out.trans (h2.out.2.mono hb1.out.size)
          have HO2 : Hid (Own w2 w.heap.size u7 (fileOf acc)) := HI.out.1.keep HB2.out
          have HP2 : Hid (Blk w2 w1.heap.size (sealed k (sbytes s))) := h2.out.1
          have HL2 : Hid (Below w.heap.size w w2) := HI.out.2.trans (HB2.out.mono hsr)
          have hs2 := HL2.out.size
          have HLN : Hid (9 + s.size = (sealed k (sbytes s)).length) := by show _ = _; rw [sealed_length, sbytes_length]
          clear h2 hk1 ht1 hk2 ht2 hkc htc2 hcv hb1 hrow1
          go_wp2_with (first
            | (go_at_call 12; refine (num_any _ _).mono ?_; rintro e w5 ⟨rfl, rfl⟩)
            | (at_builtin; refine wpList_append_bytes rfl _ _ rfl w.heap.size _ (fileOf acc) rfl HO2.out (some ⟨w1.heap.size, 0, none⟩) (9 + s.size) (9 + s.size) (sealed k (sbytes s)) HLN.out rfl HP2.out.row (by have := HFL.out; omega) hs2 ?_; intro v3 w3 hown3 hgrow3))
          go_roundw
          case rel =>
            refine ⟨p + 1, acc ++ [(k, sbytes s)], ⟨by omega, by omega, by simp; omega⟩, by simp, rfl, ⟨by rw [fileOf_append]; simpa [fileOf] using hown3, ?_⟩, HST2.out.symm⟩
            exact HL2.out.grown hgrow3 hs2 (fun j hj => (World.ownsRow.lt HO2.out j hj).1)
          case measure => simp [intOf]; omega
    · have HE : Hid (acc = mkF (ks.zip ts)) := by
        show acc = _
        rw [HA.out, List.take_of_length_le (by rw [List.length_zip, ← HNK.out, ← HNT.out]; omega)]
      obtain ⟨bo, bc, rfl, hmd⟩ := made_of HI.out.1 HI.out.2
      have HM : Hid (Made w wr bo (fileOf acc).length bc (fileOf acc)) := hmd
      clear hmd HI HA
      generalize (fileOf acc).length = bn at *
      rcases (show (p < nk ∧ nt ≤ p) ∨ nk ≤ p by omega) with ⟨h1, h2⟩ | h1
      · have hg1 : decide ((p : Int) < nt) = false := by simp; omega
        go_wp2
        rw [← HE.out]
        go_ret3
        exact ⟨_, _, _, rfl, HM⟩
      · have hg1 : decide ((p : Int) < nk) = false := by simp; omega
        go_wp2
        rw [← HE.out]
        go_ret3
        exact ⟨_, _, _, rfl, HM⟩
end Go.Proofs.YtmgppjfohabdmabDoor
