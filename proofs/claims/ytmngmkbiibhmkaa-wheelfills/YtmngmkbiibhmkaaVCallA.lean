/- The contracts of New, Now, Len, At, Add, Remove. -/
import Derived.Test.YtmngmkbiibhmkaaVWithout
import Derived.Test.YtmngmkbiibhmkaaVOk
namespace Go.Proofs.Ytmngmkbiibhmkaa
open Go.RowKit Go.Maps

/-- A wheel at a time, with its timers. -/
def Whl (w : World) (wp now : Nat) (L : List Tm) (Y : Lay) : Prop := ∃ S, Rep w wp now L S Y ∧ Ok now L S
theorem Whl.below {w w' : World} {wp now : Nat} {L : List Tm} {Y : Lay} (h : Whl w wp now L Y) (hb : Below w.heap.size w w') : Whl w' wp now L Y := by
  obtain ⟨S, h1, h2⟩ := h
  exact ⟨S, h1.below hb, h2⟩
theorem Whl.apart {w w' : World} {wp now : Nat} {L : List Tm} {Y : Lay} {fp : List Nat} (h : Whl w wp now L Y) (hf : Fr fp w w') (ha : ∀ b ∈ Y.blocks wp, b ∉ fp) : Whl w' wp now L Y := by
  obtain ⟨S, h1, h2⟩ := h
  exact ⟨S, h1.apartFr hf ha, h2⟩
theorem Whl.lt {w : World} {wp now : Nat} {L : List Tm} {Y : Lay} (h : Whl w wp now L Y) : ∀ b ∈ Y.blocks wp, b < w.heap.size := by
  obtain ⟨S, h1, h2⟩ := h
  exact h1.lt
theorem Rep.now {w : World} {wp now : Nat} {L : List Tm} {S : List (List Nat)} {Y : Lay} (h : Rep w wp now L S Y) : w.cell? ⟨wp, 0, none⟩ = some (.int .u64 (now : Int)) := h.box.cell 0
theorem Rep.mapc {w : World} {wp now : Nat} {L : List Tm} {S : List (List Nat)} {Y : Lay} (h : Rep w wp now L S Y) : w.cell? ⟨wp, 1, none⟩ = some (.map (some Y.mp)) := h.box.cell 1
set_option maxHeartbeats 1000000 in
set_option maxRecDepth 100000 in
theorem now_any (wp now : Nat) (L : List Tm) (Y : Lay) (w : World) (h : Whl w wp now L Y) : Calls Try.prog 25 #[pw wp] w fun e w' => e = .returned (.int .u64 (now : Int)) ∧ w' = w := by
  obtain ⟨S, h1, h2⟩ := h
  have c0 := h1.now
  clear h1 h2
  unfold pw
  go_enter Try.func25, Try.ntmps25
  go_wp2
  go_ret
  exact ⟨rfl, rfl⟩
set_option maxHeartbeats 1000000 in
set_option maxRecDepth 100000 in
theorem len_any (wp now : Nat) (L : List Tm) (Y : Lay) (w : World) (h : Whl w wp now L Y) : Calls Try.prog 16 #[pw wp] w fun e w' => e = .returned (.int .i64 (L.length : Int)) ∧ w' = w := by
  obtain ⟨S, h1, h2⟩ := h
  have c1 := h1.mapc
  have hlen := fun ty => h1.map.len ty
  generalize L.length = n at *
  clear h1 h2
  unfold pw
  go_enter Try.func16, Try.ntmps16
  go_wp2
  go_ret
  exact ⟨rfl, rfl⟩
set_option maxHeartbeats 1000000 in
set_option maxRecDepth 100000 in
theorem at_any (wp now id : Nat) (L : List Tm) (Y : Lay) (w : World) (h : Whl w wp now L Y) (hid : id < 18446744073709551616) : Calls Try.prog 27 #[pw wp, .int .u64 (id : Int)] w fun e w' => e = .returned (.tuple #[.int .u64 (((tget id L).getD 0 : Nat) : Int), .bool (tget id L).isSome]) ∧ w' = w := by
  obtain ⟨S, h1, h2⟩ := h
  have c1 := h1.mapc
  have hlk := h1.map.look2 hid
  generalize (tget id L).getD 0 = a at *
  generalize (tget id L).isSome = b at *
  clear h1 h2
  unfold pw
  go_enter Try.func27, Try.ntmps27
  go_wp2
  go_ret2
  exact ⟨rfl, rfl⟩
set_option maxHeartbeats 4000000 in
set_option maxRecDepth 100000 in
theorem add_any (wp now id a : Nat) (L : List Tm) (Y : Lay) (w : World) (h : Whl w wp now L Y) (hid : id < 18446744073709551616) (ha : a < 18446744073709551616) :
    Calls Try.prog 14 #[pw wp, .int .u64 (id : Int), .int .u64 (a : Int)] w fun e w' => e = .returned (.int .i64 (addE now L id a : Int)) ∧ ∃ Y', Whl w' wp now (addL now L id a) Y' ∧ Aft wp Y Y' w w' := by
  obtain ⟨S, h1, h2⟩ := h
  have c0 := h1.now
  have c1 := h1.mapc
  have hlk := h1.map.look2 hid
  have hlen := fun ty => h1.map.len ty
  have HH := hide h1
  have HO := hide h2
  unfold addL addE
  unfold pw
  clear h1 h2
  cases hg : tget id L with
  | some b =>
    rw [hg] at hlk
    simp only [Option.isSome_some, if_true, Option.getD_some] at hlk ⊢
    clear hg
    go_enter Try.func14, Try.ntmps14
    go_wp2
    go_ret
    exact ⟨rfl, Y, ⟨S, HH.out, HO.out⟩, Aft.refl _ _ _⟩
  | none =>
    rw [hg] at hlk
    simp only [Option.isSome_none, Bool.false_eq_true, if_false, Option.getD_none] at hlk ⊢
    by_cases h70 : a ≤ now
    · rw [if_pos h70]
      have h70' : (a : Int) ≤ (now : Int) := by omega
      clear hg h70
      go_enter Try.func14, Try.ntmps14
      go_wp2
      go_ret
      exact ⟨rfl, Y, ⟨S, HH.out, HO.out⟩, Aft.refl _ _ _⟩
    · rw [if_neg h70]
      have h70' : ¬ (a : Int) ≤ (now : Int) := by omega
      by_cases h5 : 8192 ≤ L.length
      · rw [if_pos h5]
        have h5' : (8192 : Int) ≤ (L.length : Int) := by omega
        clear hg h70 h5
        go_enter Try.func14, Try.ntmps14
        go_wp2
        go_ret
        exact ⟨rfl, Y, ⟨S, HH.out, HO.out⟩, Aft.refl _ _ _⟩
      · rw [if_neg h5]
        have h5' : ¬ (8192 : Int) ≤ (L.length : Int) := by omega
        obtain ⟨v, xs, hv, hx, -⟩ := HH.out.get (slotN_lt now a)
        have HOK := hide (HO.out.add hid ha hg (by omega) (by omega) hx)
        have HX := hide hx
        have HXL := hide (HO.out.short hx)
        have HID := hide hid
        have HAA := hide ha
        have HL : Hid (L.length < maxLen) := by unfold maxLen; show _ < _; omega
        have HTP : Hid (tput (id, a) L = tins (id, a) L) := by show _ = _; unfold tput; rw [tdel_none (tget_none hg)]
        simp only [if_true]
        clear hg h70 h5 hv hx hid ha
        go_enter Try.func14, Try.ntmps14
        go_wp2_with (at_mapUpdate; refine wpList_map_put rfl _ _ _ rfl Y.mp L id a rfl HH.out.map rfl rfl HID.out HL.out ?_; intro w2 h2 f2; rw [HTP.out] at h2; have hm := HH.out.map' h2 f2; have H2 := hide hm.1; have HA2 := hide hm.2; clear h2 f2 hm c0 c1 hlk hlen)
        refine (place_any wp now id a (tins (id, a) L) S Y xs w2 H2.out HO.out.nowb HAA.out HX.out (by have := HXL.out; omega)).mono ?_
        rintro e w3 ⟨rfl, Y', hr, hA⟩
        have H3 := hide hr
        have HA3 := hide hA
        clear hr hA
        go_wp2_with fail
        go_ret
        exact ⟨rfl, Y', ⟨_, H3.out, HOK.out⟩, HA2.out.trans HA3.out⟩
end Go.Proofs.Ytmngmkbiibhmkaa
