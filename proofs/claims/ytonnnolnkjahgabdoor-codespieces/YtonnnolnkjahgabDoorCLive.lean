/- The laws' live: a code is made of bytes, shown, and read as it was typed. -/
import Derived.Test.YtonnnolnkjahgabDoorCUser
import Derived.Test.YtonnnolnkjahgabDoorCShow
namespace Go.Proofs.YtonnnolnkjahgabDoor
open Go.RowKit Go.Shelf

/-- A source made since w. -/
structure Young (w w' : World) (sp : Nat) (xs : List Nat) : Prop where
  src : ∃ bs, Src 49 w' sp xs bs ∧ ∀ b ∈ bs, w.heap.size ≤ b
  bel : Below w.heap.size w w'
theorem new_y (n c : Nat) (ds : List Nat) (ao : Option Addr) (w0 w : World) (h0 : Below w0.heap.size w0 w) (hr : Row w ao ds) (hb : ∀ y ∈ ds, y < 256) (hn : n = ds.length) (hnc : n ≤ c) :
    Calls Tryd.prog 7 #[.slice ao n c] w fun e w' => ∃ sp, e = .returned (pf sp) ∧ Young w0 w' sp (ds.take 4096) := by
  refine (nsrc_any n c ds ao w hr hb hn hnc).mono ?_
  rintro e w' ⟨sp, rfl, bs, h1, h2, h3⟩
  exact ⟨sp, rfl, ⟨bs, h1, fun b hb => Nat.le_trans h0.size (h3 b hb)⟩, h0.trans (h2.mono h0.size)⟩
theorem Young.keep {w0 w w' : World} {sp : Nat} {xs : List Nat} (h : Young w0 w sp xs) (hb : Below w.heap.size w w') : Young w0 w' sp xs := by
  obtain ⟨bs, h1, h2⟩ := h.src
  exact ⟨⟨bs, h1.keep hb, h2⟩, h.bel.trans (hb.mono h.bel.size)⟩
theorem left_y {w0 w : World} {sp : Nat} {xs : List Nat} (h : Young w0 w sp xs) : Calls Tryd.prog 11 #[pf sp] w fun e w' => e = .returned (.int .i64 (xs.length : Int)) ∧ w' = w := by
  obtain ⟨bs, h1, h2⟩ := h.src
  exact left_any sp xs bs w h1
theorem user_y {w0 w : World} {sp : Nat} {xs : List Nat} (h : Young w0 w sp xs) (hT : Lets w0) : Calls Tryd.prog 17 #[pf sp] w fun e w' => e = .returned (.tuple #[.string (bstr (userR [] xs).1), .int .i64 (((userR [] xs).2.1 : Nat) : Int)]) ∧ Young w0 w' sp (userR [] xs).2.2 := by
  obtain ⟨bs, h1, h2⟩ := h.src
  refine (user_any sp xs bs w h1 (hT.keep h.bel) (fun hm => by have := h2 _ hm; have := hT.lt; omega)).mono ?_
  rintro e w' ⟨rfl, k1, k2⟩
  exact ⟨rfl, ⟨bs, k1, h2⟩, h.bel.trans (k2.fr.below _ h.bel.size h2)⟩
theorem normal_y (s : ByteArray) (t : ByteArray) (e : Nat) (w0 w : World) (h0 : Below w0.heap.size w0 w) (hT : Lets w0) (ht : bstr (normT (sbytes s)) = t) (he : normE (sbytes s) = e) : Calls Tryd.prog 18 #[.string s] w fun r w' => r = .returned (.tuple #[.string t, .int .i64 (e : Int)]) ∧ Below w.heap.size w w' := by
  subst ht; subst he
  exact normal_any s w (hT.keep h0)
set_option maxHeartbeats 1000000 in
set_option maxRecDepth 100000 in
theorem live_true (w : World) (hT : Lets w) : Calls Tryd.prog 6 #[] w fun e w' => e = .returned (.bool true) ∧ Below w.heap.size w w' := by
  have HB0 := hide (below_new w (.cells #[.int .u8 0, .int .u8 19, .int .u8 20, .int .u8 239, .int .u8 240, .int .u8 1, .int .u8 2, .int .u8 3, .int .u8 4] 5))
  have HN : Hid (Calls Tryd.prog 7 #[.slice (some ⟨w.heap.size, 0, none⟩) 9 9] (w.alloc (.cells #[.int .u8 0, .int .u8 19, .int .u8 20, .int .u8 239, .int .u8 240, .int .u8 1, .int .u8 2, .int .u8 3, .int .u8 4] 5)) fun e w' => ∃ sp, e = .returned (pf sp) ∧ Young w w' sp [0, 19, 20, 239, 240, 1, 2, 3, 4]) := hide (new_y 9 9 [0, 19, 20, 239, 240, 1, 2, 3, 4] _ w _ HB0.out (row_n w [0, 19, 20, 239, 240, 1, 2, 3, 4]) (by decide) rfl (by omega))
  have HU : Hid (∀ W sp, Young w W sp [0, 19, 20, 239, 240, 1, 2, 3, 4] → Calls Tryd.prog 17 #[pf sp] W fun e w' => e = .returned (.tuple #[.string { data := #[66, 90, 66, 90, 67, 68, 70, 71] }, .int .i64 0]) ∧ Young w w' sp []) := hide fun W sp h => user_y h hT
  have HN1 : Hid (∀ W, Below w.heap.size w W → Calls Tryd.prog 18 #[.string { data := #[98, 122, 45, 98, 122, 32, 99, 100, 102, 103] }] W fun r w' => r = .returned (.tuple #[.string { data := #[66, 90, 66, 90, 67, 68, 70, 71] }, .int .i64 0]) ∧ Below W.heap.size W w') := hide fun W h => normal_y _ _ 0 w W h hT (by rfl) (by rfl)
  have HN2 : Hid (∀ W, Below w.heap.size w W → Calls Tryd.prog 18 #[.string { data := #[98, 122, 45, 98, 122, 32, 99, 100, 102] }] W fun r w' => r = .returned (.tuple #[.string { data := #[] }, .int .i64 91]) ∧ Below W.heap.size W w') := hide fun W h => normal_y _ _ 91 w W h hT (by rfl) (by rfl)
  have HL : Hid (∀ W sp, Young w W sp [] → Calls Tryd.prog 11 #[pf sp] W fun e w' => e = .returned (.int .i64 0) ∧ w' = W) := hide fun W sp h => left_y h
  have HS : Hid (∀ W, Below w.heap.size w W → Calls Tryd.prog 19 #[.string { data := #[66, 90, 66, 90, 67, 68, 70, 71] }] W fun e w' => e = .returned (.string { data := #[66, 90, 66, 90, 45, 67, 68, 70, 71] }) ∧ Below W.heap.size W w') := hide fun W h => show_any { data := #[66, 90, 66, 90, 67, 68, 70, 71] } W (hT.keep h)
  clear hT
  unfold pf at *
  have tok : True := trivial
  go_enter Tryd.func6, Tryd.ntmps6
  go_wp2_with (first
    | (go_at_call 7; refine HN.out.mono ?_; rintro e w1 ⟨sp, rfl, h1⟩; have H1 := hide h1; clear h1)
    | (go_at_call 17; refine (HU.out _ _ H1.out).mono ?_; rintro e w2 ⟨rfl, h2⟩; have H2 := hide h2; clear h2 H1)
    | (go_at_call 18; have _t := tok; refine (HN1.out _ H2.out.bel).mono ?_; rintro e w3 ⟨rfl, h3⟩; have H3 := hide (H2.out.keep h3); clear h3 tok H2)
    | (go_at_call 18; refine (HN2.out _ H3.out.bel).mono ?_; rintro e w4 ⟨rfl, h4⟩; have H4 := hide (H3.out.keep h4); clear h4 H3)
    | (go_at_call 14; refine (num_any _ _).mono ?_; rintro e wx ⟨rfl, hwx⟩; have hwy := hwx.symm; subst hwy; clear hwx)
    | (go_at_call 11; refine (HL.out _ _ H4.out).mono ?_; rintro e wx ⟨rfl, hwx⟩; have hwy := hwx.symm; subst hwy; clear hwx)
    | (go_at_call 19; refine (HS.out _ H4.out.bel).mono ?_; rintro e w5 ⟨rfl, h5⟩; have H5 := hide (H4.out.keep h5); clear h5))
  go_ret
  exact ⟨rfl, H5.out.bel⟩
end Go.Proofs.YtonnnolnkjahgabDoor
