/- CodesShows, walked. -/
import Derived.Test.YtonnnolnkjahgaaDoorCRefB
import Derived.Test.YtonnnolnkjahgaaDoorCLive
namespace Go.Proofs.YtonnnolnkjahgaaDoor
open Go.RowKit Go.Shelf

set_option maxHeartbeats 1000000 in
set_option maxRecDepth 100000 in
theorem codesShows_walk (s : ByteArray) (w : World) (hT : Lets w) (hs : s.size ≤ maxLen) : Calls Tryd.prog 5 #[.string s] w fun e w' => e = .returned (.bool true) ∧ Below w.heap.size w w' := by
  have HL : Hid (∀ W, Below w.heap.size w W → Calls Tryd.prog 10 #[] W fun e w' => e = .returned (.bool true) ∧ Below W.heap.size W w') := hide fun W h => live_true W (hT.keep h)
  have HN := hide (normal_any s w hT)
  have HR := hide (rnormal_any s)
  have HS : Hid (∀ W, Below w.heap.size w W → Calls Tryd.prog 17 #[.string s] W fun e w' => e = .returned (.string (bstr (showT (sbytes s)))) ∧ Below W.heap.size W w') := hide fun W h => show_any s W (hT.keep h)
  have HQ := hide fun W => rshow_any s W hs
  generalize bstr (normT (sbytes s)) = A at *
  generalize normE (sbytes s) = B at *
  generalize bstr (showT (sbytes s)) = C at *
  clear hT hs
  go_enter Tryd.func5, Tryd.ntmps5
  go_wp2_with (first
    | (go_at_call 15; refine HN.out.mono ?_; rintro e w1 ⟨rfl, h1⟩; have H1 := hide h1; clear h1)
    | (go_at_call 16; refine (HR.out _).mono ?_; rintro e w2 ⟨rfl, h2⟩; have H2 := hide (H1.out.trans (h2.mono H1.out.size)); clear h2)
    | (go_at_call 17; refine (HS.out _ H2.out).mono ?_; rintro e w3 ⟨rfl, h3⟩; have H3 := hide (H2.out.trans (h3.mono H2.out.size)); clear h3)
    | (go_at_call 18; refine (HQ.out _).mono ?_; rintro e w4 ⟨rfl, h4⟩; have H4 := hide (H3.out.trans (h4.mono H3.out.size)); clear h4)
    | (go_at_call 9; refine (num_any _ _).mono ?_; rintro e wx ⟨rfl, hwx⟩; have hwy := hwx.symm; subst hwy; clear hwx)
    | (go_at_call 10; refine (HL.out _ H4.out).mono ?_; rintro e w5 ⟨rfl, h5⟩; have H5 := hide (H4.out.trans (h5.mono H4.out.size)); clear h5))
  go_ret
  exact ⟨rfl, H5.out⟩
end Go.Proofs.YtonnnolnkjahgaaDoor
