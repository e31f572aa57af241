/- The walk of the law ClientPrints: every list of clients: true, and nothing old turns. -/
import Derived.Test.YtjehbdekipmllaaGreatDoorLRPrt
import Derived.Test.YtjehbdekipmllaaGreatDoorLLive
namespace Go.Proofs.YtjehbdekipmllaaGreatDoor
open Go.RowKit

theorem COwn.rowP {w : World} {B n c : Nat} {ao : Option Addr} {l : List Cl} (h : COwn w B (.slice ao n c) l) : CRow w ao l := by
  obtain ⟨a, c', e, _, hr, _⟩ := h.shape
  cases e
  exact hr
theorem DOwn.rowP {w : World} {B n c : Nat} {ao : Option Addr} {l : List Cl} (hn : n = l.length) (h : DOwn w B (.slice ao n c) l) : CRow w ao l ∧ n ≤ c := by
  obtain ⟨a, c', e, hle, hr, _⟩ := h.shape
  cases e
  exact ⟨hr, hle⟩
set_option linter.unusedSimpArgs false in
set_option maxHeartbeats 4000000 in
set_option maxRecDepth 100000 in
theorem clientPrints_walk (n c : Nat) (ao : Option Addr) (L : List Cl) (w : World) (hn : n = L.length) (hl : n ≤ 1048576) (hr : CRow0 w ao L) (hz : ∀ c ∈ L, ClBd c) (hM : MaxL w) (hG : NG w) :
    Calls Tryz.prog 4 #[.slice ao n c] w fun e w' => e = .returned (.bool true) ∧ Below w.heap.size w w' := by
  have HN := hide hn
  have HR : Hid (CRow0 w ao L) := hr
  have HM := hide hM
  have HG := hide hG
  have HZ : Hid (∀ c ∈ L, ClBd c) := hz
  have HZ16 : Hid (∀ c ∈ L, c.scopes.length * 16 ≤ 140737488355328) := fun c hc => by have := (hz c hc).2.2.2.1; omega
  have HZL : Hid (∀ c ∈ L, c.scopes.length ≤ 140737488355328) := fun c hc => by have := (hz c hc).2.2.2.1; omega
  have HC := hide (lcopied_any n c ao L w hn (by omega) HZ16.out hr)
  obtain ⟨P, hP⟩ : ∃ P, P = printR L := ⟨_, rfl⟩
  have HPR : Hid (∀ (n c : Nat) (ao : Option Addr) (W : World), n = L.length → n ≤ 1099511627776 → CRow W ao L → MaxL W → NG W → Calls Tryz.prog 13 #[.slice ao n c] W fun e w' => e = .returned (.tuple #[.string (bstr P.1), .int .i64 (P.2 : Int)]) ∧ Below W.heap.size W w') := fun n c ao W h1 h2 h3 h4 h5 => by
    rw [hP]; exact clPrint_any n c ao L W h1 h2 hz h3 h4 h5
  have HDR : Hid (∀ (n c : Nat) (ao : Option Addr) (W : World), n = L.length → n ≤ c → n ≤ 1099511627776 → CRow W ao L → Calls Tryz.prog 14 #[.slice ao n c] W fun e w' => e = .returned (.tuple #[.string (bstr P.1), .int .i64 (P.2 : Int)]) ∧ Below W.heap.size W w') := fun n c ao W h1 h2 h3 h4 => by
    rw [hP]; exact rclPrint_any n c ao L W h1 h2 h3 hz h4
  generalize bstr P.1 = T at *
  generalize P.2 = er at *
  clear hn hr hM hG hz hP
  go_enter Tryz.func4, Tryz.ntmps4
  go_wp2_with fail
  refine HC.out.mono ?_
  rintro e w1 ⟨-, fo, fc, rfl, hown, hb1⟩
  have HB1 := hide hb1
  have HR1 := hide hown.rowP
  have hs1 := hb1.size
  have HP1 := hide (HPR.out n fc fo w1 HN.out (by omega) HR1.out (HM.out.keep hb1) (HG.out.keep hb1))
  clear hown hb1 HC
  go_wp2_with fail
  refine HP1.out.mono ?_
  rintro e w2 ⟨rfl, hb2⟩
  have HB2 := hide (HB1.out.trans (hb2.mono hs1))
  have HR2 := hide (HR1.out.keep hb2)
  have hs2 := HB2.out.size
  have HAL := hide (all_any n c ao L w2 HN.out (by omega) HZ16.out (HR.out.keep HB2.out))
  clear hb2 HP1 HR1
  go_wp2_with fail
  refine HAL.out.mono ?_
  rintro e w3 ⟨-, go, gc, rfl, hdown, hb3⟩
  have HB3 := hide (HB2.out.trans (hb3.mono hs2))
  have HR3 := hide (HR2.out.keep hb3)
  have hs3 := HB3.out.size
  obtain ⟨hd1, hd2⟩ := hdown.rowP HN.out
  have HD := hide (HDR.out n gc go w3 HN.out hd2 (by omega) hd1)
  clear hdown hb3 HAL HR2 hd1 hd2
  go_wp2_with fail
  refine HD.out.mono ?_
  rintro e w4 ⟨rfl, hb4⟩
  have HB4 := hide (HB3.out.trans (hb4.mono hs3))
  have HR4 := hide (HR3.out.keep hb4)
  have hs4 := HB4.out.size
  clear hb4 HD HR3
  have HA5 := hide (all_any n c ao L w4 HN.out (by omega) HZ16.out (HR.out.keep HB4.out))
  go_wp2_with (first | (go_at_call 8; refine (num_any _ _).mono ?_; rintro e wx ⟨rfl, hwx⟩; have hwy := hwx.symm; subst hwy; clear hwx) | fail)
  refine HA5.out.mono ?_
  rintro e w5 ⟨-, ho, hc, rfl, hdown5, hb5⟩
  have HB5 := hide (HB4.out.trans (hb5.mono hs4))
  have hs5 := HB5.out.size
  have HLT := hide (list_true n fc hc fo ho L w5 HN.out (by omega) HZL.out (HR4.out.keep hb5) (hdown5.rowP HN.out).1)
  clear hdown5 hb5 HA5 HR4
  go_wp2_with fail
  refine HLT.out.mono ?_
  rintro e w6 ⟨rfl, hb6⟩
  have HB6 := hide (HB5.out.trans (hb6.mono hs5))
  have hs6 := HB6.out.size
  have HLV := hide (live_true w6 (HM.out.keep HB6.out))
  clear hb6 HLT
  go_wp2_with fail
  refine HLV.out.mono ?_
  rintro e w7 ⟨rfl, hb7⟩
  have HB7 := hide (HB6.out.trans (hb7.mono hs6))
  clear hb7 HLV
  go_wp2
  go_ret
  exact ⟨rfl, HB7.out⟩
end Go.Proofs.YtjehbdekipmllaaGreatDoor
