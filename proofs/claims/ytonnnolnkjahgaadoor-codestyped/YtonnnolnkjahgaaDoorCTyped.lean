/- CodesTyped, walked. -/
import Derived.Test.YtonnnolnkjahgaaDoorCTypedA
namespace Go.Proofs.YtonnnolnkjahgaaDoor
open Go.RowKit Go.Shelf

theorem userS_let {code : List Nat} (h : ∀ y ∈ code, isLet y = true) (x : Nat) : ∀ y ∈ userS code x, isLet y = true := by
  unfold userS
  split
  · intro y hy
    rcases List.mem_append.1 hy with hy | hy
    · exact h y hy
    · rw [List.mem_singleton.1 hy]
      exact isLet_of (x % 20) (Nat.mod_lt _ (by decide)) rfl
  · exact h
/-- What User makes is a code, or nothing and the error. -/
theorem userR_code : ∀ (xs code : List Nat), (∀ y ∈ code, isLet y = true) → code.length ≤ 8 → (isCode (userR code xs).1 = true ∧ (userR code xs).2.1 = 0) ∨ ((userR code xs).1 = [] ∧ (userR code xs).2.1 = 90)
  | [], code, h, hl => by
    by_cases h8 : 8 ≤ code.length
    · rw [userR_done h8]
      exact .inl ⟨by unfold isCode; rw [show code.length = 8 by omega]; simpa using h, rfl⟩
    · rw [userR_dry h8]; exact .inr ⟨rfl, rfl⟩
  | x :: xs, code, h, hl => by
    by_cases h8 : 8 ≤ code.length
    · rw [userR_done h8]
      exact .inl ⟨by unfold isCode; rw [show code.length = 8 by omega]; simpa using h, rfl⟩
    · rw [userR_next h8]
      exact userR_code xs (userS code x) (userS_let h x) (by have := userS_len code x; omega)
theorem code_keep {l : List Nat} (h : isCode l = true) : keepT l = l := by
  have h2 : l.all isLet = true := by unfold isCode at h; rw [Bool.and_eq_true] at h; exact h.2
  have : ∀ (m : List Nat), (∀ x ∈ m, isLet x = true) → keepT m = m := by
    intro m
    induction m with
    | nil => intro _; rfl
    | cons x m ih =>
      intro hm
      rw [show x :: m = [x] ++ m from rfl, keepT_append, (keep_let (hm x (by simp))).1, ih (fun y hy => hm y (by simp [hy]))]
  exact this l (List.all_eq_true.1 h2)
theorem norm_of {tl l : List Nat} (hk : keepT tl = l) (hl : tl.length ≤ 64) (hc : isCode l = true) : normT tl = l ∧ normE tl = 0 := by
  constructor
  · unfold normT
    rw [if_neg (by omega), hk, hc]
    rfl
  · unfold normE
    rw [if_neg (by omega), hk, hc]
    rfl
theorem show_norm {l : List Nat} (h : isCode l = true) : keepT (showT l) = l ∧ (showT l).length ≤ 64 := by
  have h8 := (isCode_parts h).1
  have hkt : keepT (l.take 4) = l.take 4 ∧ keepT (l.drop 4) = l.drop 4 := by
    have h2 : l.all isLet = true := by unfold isCode at h; rw [Bool.and_eq_true] at h; exact h.2
    have hm : ∀ (m : List Nat), (∀ x ∈ m, isLet x = true) → keepT m = m := by
      intro m
      induction m with
      | nil => intro _; rfl
      | cons x m ih =>
        intro hm
        rw [show x :: m = [x] ++ m from rfl, keepT_append, (keep_let (hm x (by simp))).1, ih (fun y hy => hm y (by simp [hy]))]
    exact ⟨hm _ fun x hx => List.all_eq_true.1 h2 x (List.mem_of_mem_take hx), hm _ fun x hx => List.all_eq_true.1 h2 x (List.mem_of_mem_drop hx)⟩
  unfold showT
  rw [if_pos h]
  refine ⟨?_, by simp; omega⟩
  rw [keepT_append, keepT_append, hkt.1, hkt.2, show keepT [45] = [] by decide]
  simp
theorem showT_lt {l : List Nat} (h : ∀ x ∈ l, x < 256) : ∀ x ∈ showT l, x < 256 := by
  unfold showT
  split
  · exact lt_append (lt_append (lt_take h 4) (by decide)) (lt_drop h 4)
  · intro x hx; cases hx
theorem code_lt {l : List Nat} (h : isCode l = true) : ∀ x ∈ l, x < 256 := by
  intro x hx
  have h2 : l.all isLet = true := by unfold isCode at h; rw [Bool.and_eq_true] at h; exact h.2
  have := let_range (List.all_eq_true.1 h2 x hx)
  omega
set_option maxHeartbeats 1000000 in
set_option maxRecDepth 100000 in
theorem codesTyped_walk (n c m d : Nat) (ao bo : Option Addr) (ds ks : List Nat) (w : World) (hT : Lets w) (hn : n = ds.length) (hnc : n ≤ c) (hr : Row w ao ds) (hb : ∀ x ∈ ds, x < 256) (hm : m = ks.length) (hm2 : m ≤ 140737488355328) (hr2 : Row w bo ks) (hb2 : ∀ x ∈ ks, x < 256) :
    Calls Tryd.prog 7 #[.slice ao n c, .slice bo m d] w fun e w' => e = .returned (.bool true) ∧ Below w.heap.size w w' := by
  have HL : Hid (∀ W, Below w.heap.size w W → Calls Tryd.prog 10 #[] W fun e w' => e = .returned (.bool true) ∧ Below W.heap.size W w') := hide fun W h => live_true W (hT.keep h)
  have HNS := hide (new_y n c ds ao w w (Below.refl _ _) hr hb hn hnc)
  have HUS : Hid (∀ W sp, Young w W sp (ds.take 4096) → Calls Tryd.prog 23 #[pf sp] W fun e w' => e = .returned (.tuple #[.string (bstr (userR [] (ds.take 4096)).1), .int .i64 (((userR [] (ds.take 4096)).2.1 : Nat) : Int)]) ∧ Young w w' sp (userR [] (ds.take 4096)).2.2) := hide fun W sp h => user_y h hT
  rcases userR_code (ds.take 4096) [] (fun y hy => by cases hy) (by simp) with ⟨h1, h2⟩ | ⟨h1, h2⟩
  · have hlt := code_lt h1
    obtain ⟨hk1, hk2⟩ := show_norm h1
    have hsb := sbytes_bstr hlt
    have hN1 : ∀ W, Below w.heap.size w W → Calls Tryd.prog 15 #[.string (bstr (userR [] (ds.take 4096)).1)] W fun r w' => r = .returned (.tuple #[.string (bstr (userR [] (ds.take 4096)).1), .int .i64 0]) ∧ Below W.heap.size W w' := fun W h => by
      have := normal_any (bstr (userR [] (ds.take 4096)).1) W (hT.keep h)
      rw [hsb] at this
      obtain ⟨e1, e2⟩ := norm_of (code_keep h1) (by have := (isCode_parts h1).1; omega) h1
      rw [e1, e2] at this
      exact this
    have hS : ∀ W, Below w.heap.size w W → Calls Tryd.prog 17 #[.string (bstr (userR [] (ds.take 4096)).1)] W fun e w' => e = .returned (.string (bstr (showT (userR [] (ds.take 4096)).1))) ∧ Below W.heap.size W w' := fun W h => by
      have := show_any (bstr (userR [] (ds.take 4096)).1) W (hT.keep h)
      rw [hsb] at this
      exact this
    have hN2 : ∀ W, Below w.heap.size w W → Calls Tryd.prog 15 #[.string (bstr (showT (userR [] (ds.take 4096)).1))] W fun r w' => r = .returned (.tuple #[.string (bstr (userR [] (ds.take 4096)).1), .int .i64 0]) ∧ Below W.heap.size W w' := fun W h => by
      have := normal_any (bstr (showT (userR [] (ds.take 4096)).1)) W (hT.keep h)
      rw [sbytes_bstr (showT_lt hlt)] at this
      obtain ⟨e1, e2⟩ := norm_of hk1 hk2 h1
      rw [e1, e2] at this
      exact this
    have hTY : ∀ W, Below w.heap.size w W → Calls Tryd.prog 24 #[.string (bstr (userR [] (ds.take 4096)).1), .slice bo m d] W fun e w' => TypedPost (userR [] (ds.take 4096)).1 W e w' := fun W h => by
      have := typed_any (bstr (userR [] (ds.take 4096)).1) m d bo ks W (by rw [hsb]; exact h1) hm hm2 (hr2.keep h) hb2
      rw [hsb] at this
      exact this
    have hN3 : ∀ W S tl, TyI (userR [] (ds.take 4096)).1 8 S tl → Below w.heap.size w W → Calls Tryd.prog 15 #[.string S] W fun r w' => r = .returned (.tuple #[.string (bstr (userR [] (ds.take 4096)).1), .int .i64 0]) ∧ Below W.heap.size W w' := fun W S tl hi h => by
      have := normal_any S W (hT.keep h)
      rw [hi.eq, sbytes_bstr hi.byte] at this
      have h8 := (isCode_parts h1).1
      obtain ⟨e1, e2⟩ := norm_of (tl := tl) (l := (userR [] (ds.take 4096)).1) (by rw [hi.keep, List.take_of_length_le (by omega)]) (by have := hi.len; omega) h1
      rw [e1, e2] at this
      rw [hi.eq]
      exact this
    have hRC : ∀ W, Calls Tryd.prog 25 #[.string (bstr (userR [] (ds.take 4096)).1)] W fun e w' => e = .returned (.bool true) ∧ w' = W := fun W => by
      have := rcode_any (bstr (userR [] (ds.take 4096)).1) W (by rw [bstr_size]; have := (isCode_parts h1).1; unfold maxLen; omega)
      rw [hsb, h1] at this
      exact this
    have HN1 := hide hN1
    have HN2 := hide hN2
    have HN3 := hide hN3
    have HS := hide hS
    have HTY := hide hTY
    have HRC := hide hRC
    rw [h2] at HUS
    generalize bstr (showT (userR [] (ds.take 4096)).1) = SS at *
    generalize (userR [] (ds.take 4096)).2.2 = rest at *
    generalize (userR [] (ds.take 4096)).1 = L at *
    generalize bstr L = SL at *
    generalize ds.take 4096 = dt at *
    clear hT hn hnc hr hb hm hm2 hr2 hb2 h1 h2 hlt hk1 hk2 hsb hN1 hN2 hN3 hS hTY hRC
    unfold pf at *
    have tok1 : True := trivial
    have tok2 : True := trivial
    go_enter Tryd.func7, Tryd.ntmps7
    go_wp2_with (first
      | (go_at_call 11; refine HNS.out.mono ?_; rintro e w1 ⟨sp, rfl, h1⟩; have H1 := hide h1; clear h1)
      | (go_at_call 23; refine (HUS.out _ _ H1.out).mono ?_; rintro e w2 ⟨rfl, h2⟩; have H2 := hide h2.bel; clear h2)
      | (go_at_call 10; refine (HL.out _ H2.out).mono ?_; rintro e w3 ⟨rfl, h3⟩; have H3 := hide (H2.out.trans (h3.mono H2.out.size)); clear h3)
      | (go_at_call 9; refine (num_any _ _).mono ?_; rintro e wx ⟨rfl, hwx⟩; have hwy := hwx.symm; subst hwy; clear hwx)
      | (go_at_call 15; have _t := tok1; refine (HN1.out _ H3.out).mono ?_; rintro e w4 ⟨rfl, h4⟩; have H4 := hide (H3.out.trans (h4.mono H3.out.size)); clear h4 tok1)
      | (go_at_call 17; refine (HS.out _ H4.out).mono ?_; rintro e w5 ⟨rfl, h5⟩; have H5 := hide (H4.out.trans (h5.mono H4.out.size)); clear h5)
      | (go_at_call 15; have _t := tok2; refine (HN2.out _ H5.out).mono ?_; rintro e w6 ⟨rfl, h6⟩; have H6 := hide (H5.out.trans (h6.mono H5.out.size)); clear h6 tok2)
      | (go_at_call 24; refine (HTY.out _ H6.out).mono ?_; rintro e w7 ⟨S, tl, rfl, hi, h7⟩; have H7 := hide (H6.out.trans (h7.mono H6.out.size)); have HI := hide hi; clear h7 hi)
      | (go_at_call 15; refine (HN3.out _ _ _ HI.out H7.out).mono ?_; rintro e w8 ⟨rfl, h8⟩; have H8 := hide (H7.out.trans (h8.mono H7.out.size)); clear h8)
      | (go_at_call 25; refine (HRC.out _).mono ?_; rintro e wx ⟨rfl, hwx⟩; have hwy := hwx.symm; subst hwy; clear hwx))
    go_ret
    exact ⟨rfl, H8.out⟩
  · rw [h1, h2, bstr_nil] at HUS
    generalize (userR [] (ds.take 4096)).2.2 = rest at *
    generalize ds.take 4096 = dt at *
    clear hT hn hnc hr hb hm hm2 hr2 hb2 h1 h2
    unfold pf at *
    go_enter Tryd.func7, Tryd.ntmps7
    go_wp2_with (first
      | (go_at_call 11; refine HNS.out.mono ?_; rintro e w1 ⟨sp, rfl, h1⟩; have H1 := hide h1; clear h1)
      | (go_at_call 23; refine (HUS.out _ _ H1.out).mono ?_; rintro e w2 ⟨rfl, h2⟩; have H2 := hide h2.bel; clear h2)
      | (go_at_call 10; refine (HL.out _ H2.out).mono ?_; rintro e w3 ⟨rfl, h3⟩; have H3 := hide (H2.out.trans (h3.mono H2.out.size)); clear h3)
      | (go_at_call 9; refine (num_any _ _).mono ?_; rintro e wx ⟨rfl, hwx⟩; have hwy := hwx.symm; subst hwy; clear hwx))
    go_ret
    exact ⟨rfl, H3.out⟩
end Go.Proofs.YtonnnolnkjahgaaDoor
