/- CodesApart, walked: sources that differ in the bytes that count make different codes. -/
import Derived.Test.YtonnnolnkjahgabDoorCDraw
import Derived.Test.YtonnnolnkjahgabDoorCLive
namespace Go.Proofs.YtonnnolnkjahgabDoor
open Go.RowKit Go.Shelf

theorem b64_length {l : List Nat} (h : ∀ x ∈ l, x < 256) : (b64of l).length = (8 * l.length + 5) / 6 := by rw [← b64of_ref l h]; simp
theorem b64_lt {l : List Nat} (h : ∀ x ∈ l, x < 256) : ∀ y ∈ b64of l, y < 256 := by
  rw [b64of_g l h]
  intro y hy
  obtain ⟨n, hn, rfl⟩ := List.mem_map.1 hy
  exact lt64_lt n (g64_lt l h n hn)
theorem b64_inj {l m : List Nat} (hl : ∀ x ∈ l, x < 256) (hm : ∀ x ∈ m, x < 256) (h : b64of l = b64of m) : l = m := by
  rw [b64of_g l hl, b64of_g m hm] at h
  have h2 := congrArg vals h
  rw [vals_map (g64_lt l hl), vals_map (g64_lt m hm)] at h2
  have := congrArg d64 h2
  rwa [(d64_g64 l hl).1, (d64_g64 m hm).1] at this
theorem b64_same {l m : List Nat} (hl : ∀ x ∈ l, x < 256) (hm : ∀ x ∈ m, x < 256) : ((bstr (b64of l)).toList == (bstr (b64of m)).toList) = decide (l = m) := by
  rw [bstr_beq (b64_lt hl) (b64_lt hm)]
  exact decide_eq_decide.2 ⟨b64_inj hl hm, fun h => by rw [h]⟩
theorem device_y {w0 w : World} {sp : Nat} {xs : List Nat} (h : Young w0 w sp xs) : Calls Tryd.prog 12 #[pf sp] w fun e w' => e = .returned (.tuple #[.string (bstr (drawT 32 xs)), .int .i64 ((drawE 32 xs : Nat) : Int)]) ∧ Below w0.heap.size w0 w' := by
  obtain ⟨bs, h1, h2⟩ := h.src
  refine (device_any sp xs bs w h1).mono ?_
  rintro e w' ⟨rfl, k1, k2⟩
  exact ⟨rfl, h.bel.trans (k2.fr.below _ h.bel.size h2)⟩
theorem auth_y {w0 w : World} {sp : Nat} {xs : List Nat} (h : Young w0 w sp xs) : Calls Tryd.prog 13 #[pf sp] w fun e w' => e = .returned (.tuple #[.string (bstr (drawT 24 xs)), .int .i64 ((drawE 24 xs : Nat) : Int)]) ∧ Below w0.heap.size w0 w' := by
  obtain ⟨bs, h1, h2⟩ := h.src
  refine (auth_any sp xs bs w h1).mono ?_
  rintro e w' ⟨rfl, k1, k2⟩
  exact ⟨rfl, h.bel.trans (k2.fr.below _ h.bel.size h2)⟩
theorem one_t (w : World) : Calls Tryd.prog 15 #[.bool true] w fun e w' => e = .returned (.int .i64 1) ∧ w' = w := by
  go_enter Tryd.func15, Tryd.ntmps15
  go_wp2
  go_ret
  exact ⟨rfl, rfl⟩
theorem one_f (w : World) : Calls Tryd.prog 15 #[.bool false] w fun e w' => e = .returned (.int .i64 0) ∧ w' = w := by
  go_enter Tryd.func15, Tryd.ntmps15
  go_wp2
  go_ret
  exact ⟨rfl, rfl⟩
/-- What Device and Auth make of a source of these bytes. -/
theorem draw_long {k : Nat} {xs : List Nat} (hk : k ≤ 4096) (h : k ≤ xs.length) : drawT k (xs.take 4096) = b64of (xs.take k) ∧ drawE k (xs.take 4096) = 0 := by
  obtain ⟨e1, e2⟩ := draw_ok (n := k) (xs := xs.take 4096) (by simp; omega)
  rw [e1, e2, List.take_take, Nat.min_eq_left hk]
  exact ⟨rfl, rfl⟩
theorem draw_short {k : Nat} {xs : List Nat} (h : xs.length < k) : drawT k (xs.take 4096) = [] ∧ drawE k (xs.take 4096) = 90 := by
  obtain ⟨e1, e2, -⟩ := draw_dry (n := k) (xs := xs.take 4096) (by simp; omega)
  exact ⟨e1, e2⟩
theorem ap_long {k n : Nat} {xs : List Nat} (hk : k ≤ 4096) (hn : n = xs.length) (h : k ≤ n) (hb : ∀ x ∈ xs, x < 256) : (bstr (drawT k (xs.take 4096))).size = (8 * k + 5) / 6 ∧ drawE k (xs.take 4096) = 0 := by
  obtain ⟨e1, e2⟩ := draw_long hk (hn ▸ h)
  rw [e1, e2, bstr_size, b64_length (lt_take hb k), List.length_take, Nat.min_eq_left (hn ▸ h)]
  exact ⟨rfl, rfl⟩
theorem ap_short {k n : Nat} {xs : List Nat} (hn : n = xs.length) (h : n < k) : (bstr (drawT k (xs.take 4096))).size = 0 ∧ drawE k (xs.take 4096) = 90 := by
  obtain ⟨e1, e2⟩ := draw_short (k := k) (xs := xs) (hn ▸ h)
  rw [e1, e2, bstr_size]
  exact ⟨rfl, rfl⟩
theorem ap_same {k : Nat} {xs ys : List Nat} (hk : k ≤ 4096) (hx : k ≤ xs.length) (hy : k ≤ ys.length) (bx : ∀ x ∈ xs, x < 256) (byy : ∀ y ∈ ys, y < 256) :
    ((bstr (drawT k (xs.take 4096))).toList == (bstr (drawT k (ys.take 4096))).toList) = ((bstr (xs.take k)).toList == (bstr (ys.take k)).toList) := by
  rw [(draw_long hk hx).1, (draw_long hk hy).1, b64_same (lt_take bx k) (lt_take byy k), bstr_beq (lt_take bx k) (lt_take byy k)]
theorem cut_conv {w : World} {ao : Option Addr} {xs : List Nat} {n c k : Nat} (h : Row w ao xs) (hn : n = xs.length) (hk : k ≤ n) {W : World} (hb : Below w.heap.size w W) : (convert 22 9 (.slice ao k c)).run Tryd.prog W = .ok (.string (bstr (xs.take k))) W := by
  have := conv_row c ((h.keep hb).takeN k)
  rw [List.length_take, Nat.min_eq_left (by omega)] at this
  exact this
set_option maxHeartbeats 4000000 in
set_option maxRecDepth 100000 in
theorem codesApart_walk (n c m d : Nat) (ao bo : Option Addr) (js ks : List Nat) (w : World) (hT : Lets w) (hn : n = js.length) (hnc : n ≤ c) (hr : Row w ao js) (hb : ∀ x ∈ js, x < 256) (hm : m = ks.length) (hmd : m ≤ d) (hr2 : Row w bo ks) (hb2 : ∀ x ∈ ks, x < 256) :
    Calls Tryd.prog 4 #[.slice ao n c, .slice bo m d] w fun e w' => e = .returned (.bool true) ∧ Below w.heap.size w w' := by
  have HL : Hid (∀ W, Below w.heap.size w W → Calls Tryd.prog 6 #[] W fun e w' => e = .returned (.bool true) ∧ Below W.heap.size W w') := hide fun W h => live_true W (hT.keep h)
  have HNA : Hid (∀ W, Below w.heap.size w W → Calls Tryd.prog 7 #[.slice ao n c] W fun e w' => ∃ sp, e = .returned (pf sp) ∧ Young w w' sp (js.take 4096)) := hide fun W h => new_y n c js ao w W h (hr.keep h) hb hn hnc
  have HNB : Hid (∀ W, Below w.heap.size w W → Calls Tryd.prog 7 #[.slice bo m d] W fun e w' => ∃ sp, e = .returned (pf sp) ∧ Young w w' sp (ks.take 4096)) := hide fun W h => new_y m d ks bo w W h (hr2.keep h) hb2 hm hmd
  have HDA : Hid (∀ W sp, Young w W sp (js.take 4096) → Calls Tryd.prog 12 #[pf sp] W fun e w' => e = .returned (.tuple #[.string (bstr (drawT 32 (js.take 4096))), .int .i64 ((drawE 32 (js.take 4096) : Nat) : Int)]) ∧ Below w.heap.size w w') := hide fun W sp h => device_y h
  have HDB : Hid (∀ W sp, Young w W sp (ks.take 4096) → Calls Tryd.prog 12 #[pf sp] W fun e w' => e = .returned (.tuple #[.string (bstr (drawT 32 (ks.take 4096))), .int .i64 ((drawE 32 (ks.take 4096) : Nat) : Int)]) ∧ Below w.heap.size w w') := hide fun W sp h => device_y h
  have HAA : Hid (∀ W sp, Young w W sp (js.take 4096) → Calls Tryd.prog 13 #[pf sp] W fun e w' => e = .returned (.tuple #[.string (bstr (drawT 24 (js.take 4096))), .int .i64 ((drawE 24 (js.take 4096) : Nat) : Int)]) ∧ Below w.heap.size w w') := hide fun W sp h => auth_y h
  have HAB : Hid (∀ W sp, Young w W sp (ks.take 4096) → Calls Tryd.prog 13 #[pf sp] W fun e w' => e = .returned (.tuple #[.string (bstr (drawT 24 (ks.take 4096))), .int .i64 ((drawE 24 (ks.take 4096) : Nat) : Int)]) ∧ Below w.heap.size w w') := hide fun W sp h => auth_y h
  have HCA32 : Hid (32 ≤ n → ∀ W, Below w.heap.size w W → (convert 22 9 (.slice ao 32 c)).run Tryd.prog W = .ok (.string (bstr (js.take 32))) W) := hide fun hk W h => cut_conv hr hn hk h
  have HCA24 : Hid (24 ≤ n → ∀ W, Below w.heap.size w W → (convert 22 9 (.slice ao 24 c)).run Tryd.prog W = .ok (.string (bstr (js.take 24))) W) := hide fun hk W h => cut_conv hr hn hk h
  have HCB32 : Hid (32 ≤ m → ∀ W, Below w.heap.size w W → (convert 22 9 (.slice bo 32 d)).run Tryd.prog W = .ok (.string (bstr (ks.take 32))) W) := hide fun hk W h => cut_conv hr2 hm hk h
  have HCB24 : Hid (24 ≤ m → ∀ W, Below w.heap.size w W → (convert 22 9 (.slice bo 24 d)).run Tryd.prog W = .ok (.string (bstr (ks.take 24))) W) := hide fun hk W h => cut_conv hr2 hm hk h
  have HE32 : Hid (32 ≤ n → 32 ≤ m → ((bstr (drawT 32 (js.take 4096))).toList == (bstr (drawT 32 (ks.take 4096))).toList) = ((bstr (js.take 32)).toList == (bstr (ks.take 32)).toList)) := hide fun h1 h2 => ap_same (by omega) (by omega) (by omega) hb hb2
  have HE24 : Hid (24 ≤ n → 24 ≤ m → ((bstr (drawT 24 (js.take 4096))).toList == (bstr (drawT 24 (ks.take 4096))).toList) = ((bstr (js.take 24)).toList == (bstr (ks.take 24)).toList)) := hide fun h1 h2 => ap_same (by omega) (by omega) (by omega) hb hb2
  have s32 := cut_to ao n c 32
  have s24 := cut_to ao n c 24
  have t32 := cut_to bo m d 32
  have t24 := cut_to bo m d 24
  have HN := hide hnc
  have HM := hide hmd
  have cases3 : ∀ n xs, n = List.length xs → (∀ x ∈ xs, x < 256) → (32 ≤ n ∧ (bstr (drawT 32 (xs.take 4096))).size = 43 ∧ (bstr (drawT 24 (xs.take 4096))).size = 32 ∧ drawE 32 (xs.take 4096) = 0 ∧ drawE 24 (xs.take 4096) = 0) ∨ ((24 ≤ n ∧ n < 32) ∧ (bstr (drawT 32 (xs.take 4096))).size = 0 ∧ (bstr (drawT 24 (xs.take 4096))).size = 32 ∧ drawE 32 (xs.take 4096) = 90 ∧ drawE 24 (xs.take 4096) = 0) ∨ (n < 24 ∧ (bstr (drawT 32 (xs.take 4096))).size = 0 ∧ (bstr (drawT 24 (xs.take 4096))).size = 0 ∧ drawE 32 (xs.take 4096) = 90 ∧ drawE 24 (xs.take 4096) = 90) := fun n xs hn hb => by
    by_cases h32 : 32 ≤ n
    · have h1 := ap_long (k := 32) (by omega) hn h32 hb
      have h2 := ap_long (k := 24) (by omega) hn (by omega) hb
      exact .inl ⟨h32, h1.1, h2.1, h1.2, h2.2⟩
    · have h1 := ap_short (k := 32) hn (by omega)
      by_cases h24 : 24 ≤ n
      · have h2 := ap_long (k := 24) (by omega) hn h24 hb
        exact .inr (.inl ⟨⟨h24, by omega⟩, h1.1, h2.1, h1.2, h2.2⟩)
      · have h2 := ap_short (k := 24) hn (by omega)
        exact .inr (.inr ⟨by omega, h1.1, h2.1, h1.2, h2.2⟩)
  have ca := cases3 n js hn hb
  have cb := cases3 m ks hm hb2
  clear cases3 hT hn hnc hr hb hm hmd hr2 hb2
  generalize bstr (drawT 32 (js.take 4096)) = X at *
  generalize bstr (drawT 32 (ks.take 4096)) = Y at *
  generalize bstr (drawT 24 (js.take 4096)) = V at *
  generalize bstr (drawT 24 (ks.take 4096)) = Z at *
  generalize drawE 32 (js.take 4096) = E at *
  generalize drawE 32 (ks.take 4096) = F at *
  generalize drawE 24 (js.take 4096) = G at *
  generalize drawE 24 (ks.take 4096) = J at *
  generalize bstr (js.take 32) = A32 at *
  generalize bstr (ks.take 32) = B32 at *
  generalize bstr (js.take 24) = A24 at *
  generalize bstr (ks.take 24) = B24 at *
  generalize js.take 4096 = at_ at *
  generalize ks.take 4096 = bt_ at *
  unfold pf at *
  rcases ca with ⟨ha, hX, hV, rfl, rfl⟩ | ⟨⟨ha, ha2⟩, hX, hV, rfl, rfl⟩ | ⟨ha, hX, hV, rfl, rfl⟩ <;> rcases cb with ⟨hb, hY, hZ, rfl, rfl⟩ | ⟨⟨hb, hb2⟩, hY, hZ, rfl, rfl⟩ | ⟨hb, hY, hZ, rfl, rfl⟩
  · have ha' : (32 : Int) ≤ (n : Int) := by omega
    have hb' : (32 : Int) ≤ (m : Int) := by omega
    have ha'' : (24 : Int) ≤ (n : Int) := by omega
    have hb'' : (24 : Int) ≤ (m : Int) := by omega
    have u32 : ∀ w, (Instr.slice 22 (.slice ao n c) none (some (.int .i64 32)) none).run Tryd.prog w = .ok (.slice ao 32 c) w := s32 (by have := HN.out; omega)
    have v32 : ∀ w, (Instr.slice 22 (.slice bo m d) none (some (.int .i64 32)) none).run Tryd.prog w = .ok (.slice bo 32 d) w := t32 (by have := HM.out; omega)
    have e32 := HE32.out (by omega) (by omega)
    obtain ⟨q32, hq32⟩ : ∃ q, q = (A32.toList == B32.toList) := ⟨_, rfl⟩
    rw [← hq32] at e32
    have f32 := hq32.symm
    clear hq32
    have K32 := hide (HCA32.out (by omega))
    have L32 := hide (HCB32.out (by omega))
    have u24 : ∀ w, (Instr.slice 22 (.slice ao n c) none (some (.int .i64 24)) none).run Tryd.prog w = .ok (.slice ao 24 c) w := s24 (by have := HN.out; omega)
    have v24 : ∀ w, (Instr.slice 22 (.slice bo m d) none (some (.int .i64 24)) none).run Tryd.prog w = .ok (.slice bo 24 d) w := t24 (by have := HM.out; omega)
    have e24 := HE24.out (by omega) (by omega)
    obtain ⟨q24, hq24⟩ : ∃ q, q = (A24.toList == B24.toList) := ⟨_, rfl⟩
    rw [← hq24] at e24
    have f24 := hq24.symm
    clear hq24
    have K24 := hide (HCA24.out (by omega))
    have L24 := hide (HCB24.out (by omega))
    clear s32 s24 t32 t24 ha hb
    have tok1 : True := trivial
    have tok2 : True := trivial
    have tok3 : True := trivial
    have tok4 : True := trivial
    go_enter Tryd.func4, Tryd.ntmps4
    go_wp2_with (first
      | (go_at_call 7; have _t := tok1; refine (HNA.out _ (Below.refl _ _)).mono ?_; rintro e w1 ⟨sp, rfl, h1⟩; have H1 := hide h1; clear h1 tok1)
      | (go_at_call 12; have _t := tok2; refine (HDA.out _ _ H1.out).mono ?_; rintro e w2 ⟨rfl, h2⟩; have H2 := hide h2; clear h2 tok2 H1)
      | (go_at_call 7; have _t := tok3; refine (HNB.out _ H2.out).mono ?_; rintro e w3 ⟨sp2, rfl, h3⟩; have H3 := hide h3; clear h3 tok3)
      | (go_at_call 12; refine (HDB.out _ _ H3.out).mono ?_; rintro e w4 ⟨rfl, h4⟩; have H4 := hide h4; clear h4 H3)
      | (go_at_call 7; have _t := tok4; refine (HNA.out _ H4.out).mono ?_; rintro e w5 ⟨sp3, rfl, h5⟩; have H5 := hide h5; have tok5 : True := trivial; clear h5 tok4)
      | (go_at_call 13; have _t := tok5; refine (HAA.out _ _ H5.out).mono ?_; rintro e w6 ⟨rfl, h6⟩; have H6 := hide h6; clear h6 tok5 H5)
      | (go_at_call 7; refine (HNB.out _ H6.out).mono ?_; rintro e w7 ⟨sp4, rfl, h7⟩; have H7 := hide h7; clear h7)
      | (go_at_call 13; refine (HAB.out _ _ H7.out).mono ?_; rintro e w8 ⟨rfl, h8⟩; have H8 := hide h8; clear h8 H7)
      | (go_at_call 14; refine (num_any _ _).mono ?_; rintro e wx ⟨rfl, hwx⟩; have hwy := hwx.symm; subst hwy; clear hwx)
      | (go_at_call 6; refine (HL.out _ H8.out).mono ?_; rintro e w9 ⟨rfl, h9⟩; have H9 := hide (H8.out.trans (h9.mono H8.out.size)); clear h9))
    have k32 : ∀ k, (convert 22 9 (.slice ao 32 c)).run Tryd.prog (w9.drewN k) = .ok (.string A32) (w9.drewN k) := fun k => K32.out _ (below_drewN H9.out k)
    have l32 : ∀ k, (convert 22 9 (.slice bo 32 d)).run Tryd.prog (w9.drewN k) = .ok (.string B32) (w9.drewN k) := fun k => L32.out _ (below_drewN H9.out k)
    go_quiet ((go_at_call 14; exact (num_any _ _).mono fun _ _ h => ⟨h.1, _, h.2⟩))
    have H10 : Hid (Below w.heap.size w (w9.drewN nq)) := hide (below_drewN H9.out nq)
    clear k32 l32
    generalize w9.drewN nq = w10 at *
    go_wp2_with fail
    have k24 : ∀ k, (convert 22 9 (.slice ao 24 c)).run Tryd.prog (w10.drewN k) = .ok (.string A24) (w10.drewN k) := fun k => K24.out _ (below_drewN H10.out k)
    have l24 : ∀ k, (convert 22 9 (.slice bo 24 d)).run Tryd.prog (w10.drewN k) = .ok (.string B24) (w10.drewN k) := fun k => L24.out _ (below_drewN H10.out k)
    go_quiet ((go_at_call 14; exact (num_any _ _).mono fun _ _ h => ⟨h.1, _, h.2⟩))
    have H11 : Hid (Below w.heap.size w (w10.drewN nq)) := hide (below_drewN H10.out nq)
    clear k24 l24
    generalize w10.drewN nq = w11 at *
    go_wp2_with (first
      | (go_at_call 14; refine (num_any _ _).mono ?_; rintro e wx ⟨rfl, hwx⟩; have hwy := hwx.symm; subst hwy; clear hwx)
      | (go_at_call 15; (first | refine (one_t _).mono ?_ | refine (one_f _).mono ?_); rintro e wx ⟨rfl, hwx⟩; have hwy := hwx.symm; subst hwy; clear hwx))
    go_ret
    exact ⟨rfl, H11.out⟩
  · have ha' : (32 : Int) ≤ (n : Int) := by omega
    have hb' : ¬ (32 : Int) ≤ (m : Int) := by omega
    have ha'' : (24 : Int) ≤ (n : Int) := by omega
    have hb'' : (24 : Int) ≤ (m : Int) := by omega
    have u24 : ∀ w, (Instr.slice 22 (.slice ao n c) none (some (.int .i64 24)) none).run Tryd.prog w = .ok (.slice ao 24 c) w := s24 (by have := HN.out; omega)
    have v24 : ∀ w, (Instr.slice 22 (.slice bo m d) none (some (.int .i64 24)) none).run Tryd.prog w = .ok (.slice bo 24 d) w := t24 (by have := HM.out; omega)
    have e24 := HE24.out (by omega) (by omega)
    obtain ⟨q24, hq24⟩ : ∃ q, q = (A24.toList == B24.toList) := ⟨_, rfl⟩
    rw [← hq24] at e24
    have f24 := hq24.symm
    clear hq24
    have K24 := hide (HCA24.out (by omega))
    have L24 := hide (HCB24.out (by omega))
    clear s32 s24 t32 t24 ha hb hb2
    have tok1 : True := trivial
    have tok2 : True := trivial
    have tok3 : True := trivial
    have tok4 : True := trivial
    go_enter Tryd.func4, Tryd.ntmps4
    go_wp2_with (first
      | (go_at_call 7; have _t := tok1; refine (HNA.out _ (Below.refl _ _)).mono ?_; rintro e w1 ⟨sp, rfl, h1⟩; have H1 := hide h1; clear h1 tok1)
      | (go_at_call 12; have _t := tok2; refine (HDA.out _ _ H1.out).mono ?_; rintro e w2 ⟨rfl, h2⟩; have H2 := hide h2; clear h2 tok2 H1)
      | (go_at_call 7; have _t := tok3; refine (HNB.out _ H2.out).mono ?_; rintro e w3 ⟨sp2, rfl, h3⟩; have H3 := hide h3; clear h3 tok3)
      | (go_at_call 12; refine (HDB.out _ _ H3.out).mono ?_; rintro e w4 ⟨rfl, h4⟩; have H4 := hide h4; clear h4 H3)
      | (go_at_call 7; have _t := tok4; refine (HNA.out _ H4.out).mono ?_; rintro e w5 ⟨sp3, rfl, h5⟩; have H5 := hide h5; have tok5 : True := trivial; clear h5 tok4)
      | (go_at_call 13; have _t := tok5; refine (HAA.out _ _ H5.out).mono ?_; rintro e w6 ⟨rfl, h6⟩; have H6 := hide h6; clear h6 tok5 H5)
      | (go_at_call 7; refine (HNB.out _ H6.out).mono ?_; rintro e w7 ⟨sp4, rfl, h7⟩; have H7 := hide h7; clear h7)
      | (go_at_call 13; refine (HAB.out _ _ H7.out).mono ?_; rintro e w8 ⟨rfl, h8⟩; have H8 := hide h8; clear h8 H7)
      | (go_at_call 14; refine (num_any _ _).mono ?_; rintro e wx ⟨rfl, hwx⟩; have hwy := hwx.symm; subst hwy; clear hwx)
      | (go_at_call 6; refine (HL.out _ H8.out).mono ?_; rintro e w9 ⟨rfl, h9⟩; have H9 := hide (H8.out.trans (h9.mono H8.out.size)); clear h9))
    go_quiet ((go_at_call 14; exact (num_any _ _).mono fun _ _ h => ⟨h.1, _, h.2⟩))
    have H10 : Hid (Below w.heap.size w (w9.drewN nq)) := hide (below_drewN H9.out nq)
    generalize w9.drewN nq = w10 at *
    go_wp2_with fail
    have k24 : ∀ k, (convert 22 9 (.slice ao 24 c)).run Tryd.prog (w10.drewN k) = .ok (.string A24) (w10.drewN k) := fun k => K24.out _ (below_drewN H10.out k)
    have l24 : ∀ k, (convert 22 9 (.slice bo 24 d)).run Tryd.prog (w10.drewN k) = .ok (.string B24) (w10.drewN k) := fun k => L24.out _ (below_drewN H10.out k)
    go_quiet ((go_at_call 14; exact (num_any _ _).mono fun _ _ h => ⟨h.1, _, h.2⟩))
    have H11 : Hid (Below w.heap.size w (w10.drewN nq)) := hide (below_drewN H10.out nq)
    clear k24 l24
    generalize w10.drewN nq = w11 at *
    go_wp2_with (first
      | (go_at_call 14; refine (num_any _ _).mono ?_; rintro e wx ⟨rfl, hwx⟩; have hwy := hwx.symm; subst hwy; clear hwx)
      | (go_at_call 15; (first | refine (one_t _).mono ?_ | refine (one_f _).mono ?_); rintro e wx ⟨rfl, hwx⟩; have hwy := hwx.symm; subst hwy; clear hwx))
    go_ret
    exact ⟨rfl, H11.out⟩
  · have ha' : (32 : Int) ≤ (n : Int) := by omega
    have hb' : ¬ (32 : Int) ≤ (m : Int) := by omega
    have ha'' : (24 : Int) ≤ (n : Int) := by omega
    have hb'' : ¬ (24 : Int) ≤ (m : Int) := by omega
    clear s32 s24 t32 t24 ha hb
    have tok1 : True := trivial
    have tok2 : True := trivial
    have tok3 : True := trivial
    have tok4 : True := trivial
    go_enter Tryd.func4, Tryd.ntmps4
    go_wp2_with (first
      | (go_at_call 7; have _t := tok1; refine (HNA.out _ (Below.refl _ _)).mono ?_; rintro e w1 ⟨sp, rfl, h1⟩; have H1 := hide h1; clear h1 tok1)
      | (go_at_call 12; have _t := tok2; refine (HDA.out _ _ H1.out).mono ?_; rintro e w2 ⟨rfl, h2⟩; have H2 := hide h2; clear h2 tok2 H1)
      | (go_at_call 7; have _t := tok3; refine (HNB.out _ H2.out).mono ?_; rintro e w3 ⟨sp2, rfl, h3⟩; have H3 := hide h3; clear h3 tok3)
      | (go_at_call 12; refine (HDB.out _ _ H3.out).mono ?_; rintro e w4 ⟨rfl, h4⟩; have H4 := hide h4; clear h4 H3)
      | (go_at_call 7; have _t := tok4; refine (HNA.out _ H4.out).mono ?_; rintro e w5 ⟨sp3, rfl, h5⟩; have H5 := hide h5; have tok5 : True := trivial; clear h5 tok4)
      | (go_at_call 13; have _t := tok5; refine (HAA.out _ _ H5.out).mono ?_; rintro e w6 ⟨rfl, h6⟩; have H6 := hide h6; clear h6 tok5 H5)
      | (go_at_call 7; refine (HNB.out _ H6.out).mono ?_; rintro e w7 ⟨sp4, rfl, h7⟩; have H7 := hide h7; clear h7)
      | (go_at_call 13; refine (HAB.out _ _ H7.out).mono ?_; rintro e w8 ⟨rfl, h8⟩; have H8 := hide h8; clear h8 H7)
      | (go_at_call 14; refine (num_any _ _).mono ?_; rintro e wx ⟨rfl, hwx⟩; have hwy := hwx.symm; subst hwy; clear hwx)
      | (go_at_call 6; refine (HL.out _ H8.out).mono ?_; rintro e w9 ⟨rfl, h9⟩; have H9 := hide (H8.out.trans (h9.mono H8.out.size)); clear h9))
    go_quiet ((go_at_call 14; exact (num_any _ _).mono fun _ _ h => ⟨h.1, _, h.2⟩))
    have H10 : Hid (Below w.heap.size w (w9.drewN nq)) := hide (below_drewN H9.out nq)
    generalize w9.drewN nq = w10 at *
    go_wp2_with fail
    go_quiet ((go_at_call 14; exact (num_any _ _).mono fun _ _ h => ⟨h.1, _, h.2⟩))
    have H11 : Hid (Below w.heap.size w (w10.drewN nq)) := hide (below_drewN H10.out nq)
    generalize w10.drewN nq = w11 at *
    go_wp2_with (first
      | (go_at_call 14; refine (num_any _ _).mono ?_; rintro e wx ⟨rfl, hwx⟩; have hwy := hwx.symm; subst hwy; clear hwx)
      | (go_at_call 15; (first | refine (one_t _).mono ?_ | refine (one_f _).mono ?_); rintro e wx ⟨rfl, hwx⟩; have hwy := hwx.symm; subst hwy; clear hwx))
    go_ret
    exact ⟨rfl, H11.out⟩
  · have ha' : ¬ (32 : Int) ≤ (n : Int) := by omega
    have hb' : (32 : Int) ≤ (m : Int) := by omega
    have ha'' : (24 : Int) ≤ (n : Int) := by omega
    have hb'' : (24 : Int) ≤ (m : Int) := by omega
    have u24 : ∀ w, (Instr.slice 22 (.slice ao n c) none (some (.int .i64 24)) none).run Tryd.prog w = .ok (.slice ao 24 c) w := s24 (by have := HN.out; omega)
    have v24 : ∀ w, (Instr.slice 22 (.slice bo m d) none (some (.int .i64 24)) none).run Tryd.prog w = .ok (.slice bo 24 d) w := t24 (by have := HM.out; omega)
    have e24 := HE24.out (by omega) (by omega)
    obtain ⟨q24, hq24⟩ : ∃ q, q = (A24.toList == B24.toList) := ⟨_, rfl⟩
    rw [← hq24] at e24
    have f24 := hq24.symm
    clear hq24
    have K24 := hide (HCA24.out (by omega))
    have L24 := hide (HCB24.out (by omega))
    clear s32 s24 t32 t24 ha hb ha2
    have tok1 : True := trivial
    have tok2 : True := trivial
    have tok3 : True := trivial
    have tok4 : True := trivial
    go_enter Tryd.func4, Tryd.ntmps4
    go_wp2_with (first
      | (go_at_call 7; have _t := tok1; refine (HNA.out _ (Below.refl _ _)).mono ?_; rintro e w1 ⟨sp, rfl, h1⟩; have H1 := hide h1; clear h1 tok1)
      | (go_at_call 12; have _t := tok2; refine (HDA.out _ _ H1.out).mono ?_; rintro e w2 ⟨rfl, h2⟩; have H2 := hide h2; clear h2 tok2 H1)
      | (go_at_call 7; have _t := tok3; refine (HNB.out _ H2.out).mono ?_; rintro e w3 ⟨sp2, rfl, h3⟩; have H3 := hide h3; clear h3 tok3)
      | (go_at_call 12; refine (HDB.out _ _ H3.out).mono ?_; rintro e w4 ⟨rfl, h4⟩; have H4 := hide h4; clear h4 H3)
      | (go_at_call 7; have _t := tok4; refine (HNA.out _ H4.out).mono ?_; rintro e w5 ⟨sp3, rfl, h5⟩; have H5 := hide h5; have tok5 : True := trivial; clear h5 tok4)
      | (go_at_call 13; have _t := tok5; refine (HAA.out _ _ H5.out).mono ?_; rintro e w6 ⟨rfl, h6⟩; have H6 := hide h6; clear h6 tok5 H5)
      | (go_at_call 7; refine (HNB.out _ H6.out).mono ?_; rintro e w7 ⟨sp4, rfl, h7⟩; have H7 := hide h7; clear h7)
      | (go_at_call 13; refine (HAB.out _ _ H7.out).mono ?_; rintro e w8 ⟨rfl, h8⟩; have H8 := hide h8; clear h8 H7)
      | (go_at_call 14; refine (num_any _ _).mono ?_; rintro e wx ⟨rfl, hwx⟩; have hwy := hwx.symm; subst hwy; clear hwx)
      | (go_at_call 6; refine (HL.out _ H8.out).mono ?_; rintro e w9 ⟨rfl, h9⟩; have H9 := hide (H8.out.trans (h9.mono H8.out.size)); clear h9))
    go_quiet ((go_at_call 14; exact (num_any _ _).mono fun _ _ h => ⟨h.1, _, h.2⟩))
    have H10 : Hid (Below w.heap.size w (w9.drewN nq)) := hide (below_drewN H9.out nq)
    generalize w9.drewN nq = w10 at *
    go_wp2_with fail
    have k24 : ∀ k, (convert 22 9 (.slice ao 24 c)).run Tryd.prog (w10.drewN k) = .ok (.string A24) (w10.drewN k) := fun k => K24.out _ (below_drewN H10.out k)
    have l24 : ∀ k, (convert 22 9 (.slice bo 24 d)).run Tryd.prog (w10.drewN k) = .ok (.string B24) (w10.drewN k) := fun k => L24.out _ (below_drewN H10.out k)
    go_quiet ((go_at_call 14; exact (num_any _ _).mono fun _ _ h => ⟨h.1, _, h.2⟩))
    have H11 : Hid (Below w.heap.size w (w10.drewN nq)) := hide (below_drewN H10.out nq)
    clear k24 l24
    generalize w10.drewN nq = w11 at *
    go_wp2_with (first
      | (go_at_call 14; refine (num_any _ _).mono ?_; rintro e wx ⟨rfl, hwx⟩; have hwy := hwx.symm; subst hwy; clear hwx)
      | (go_at_call 15; (first | refine (one_t _).mono ?_ | refine (one_f _).mono ?_); rintro e wx ⟨rfl, hwx⟩; have hwy := hwx.symm; subst hwy; clear hwx))
    go_ret
    exact ⟨rfl, H11.out⟩
  · have ha' : ¬ (32 : Int) ≤ (n : Int) := by omega
    have hb' : ¬ (32 : Int) ≤ (m : Int) := by omega
    have ha'' : (24 : Int) ≤ (n : Int) := by omega
    have hb'' : (24 : Int) ≤ (m : Int) := by omega
    have u24 : ∀ w, (Instr.slice 22 (.slice ao n c) none (some (.int .i64 24)) none).run Tryd.prog w = .ok (.slice ao 24 c) w := s24 (by have := HN.out; omega)
    have v24 : ∀ w, (Instr.slice 22 (.slice bo m d) none (some (.int .i64 24)) none).run Tryd.prog w = .ok (.slice bo 24 d) w := t24 (by have := HM.out; omega)
    have e24 := HE24.out (by omega) (by omega)
    obtain ⟨q24, hq24⟩ : ∃ q, q = (A24.toList == B24.toList) := ⟨_, rfl⟩
    rw [← hq24] at e24
    have f24 := hq24.symm
    clear hq24
    have K24 := hide (HCA24.out (by omega))
    have L24 := hide (HCB24.out (by omega))
    clear s32 s24 t32 t24 ha hb ha2 hb2
    have tok1 : True := trivial
    have tok2 : True := trivial
    have tok3 : True := trivial
    have tok4 : True := trivial
    go_enter Tryd.func4, Tryd.ntmps4
    go_wp2_with (first
      | (go_at_call 7; have _t := tok1; refine (HNA.out _ (Below.refl _ _)).mono ?_; rintro e w1 ⟨sp, rfl, h1⟩; have H1 := hide h1; clear h1 tok1)
      | (go_at_call 12; have _t := tok2; refine (HDA.out _ _ H1.out).mono ?_; rintro e w2 ⟨rfl, h2⟩; have H2 := hide h2; clear h2 tok2 H1)
      | (go_at_call 7; have _t := tok3; refine (HNB.out _ H2.out).mono ?_; rintro e w3 ⟨sp2, rfl, h3⟩; have H3 := hide h3; clear h3 tok3)
      | (go_at_call 12; refine (HDB.out _ _ H3.out).mono ?_; rintro e w4 ⟨rfl, h4⟩; have H4 := hide h4; clear h4 H3)
      | (go_at_call 7; have _t := tok4; refine (HNA.out _ H4.out).mono ?_; rintro e w5 ⟨sp3, rfl, h5⟩; have H5 := hide h5; have tok5 : True := trivial; clear h5 tok4)
      | (go_at_call 13; have _t := tok5; refine (HAA.out _ _ H5.out).mono ?_; rintro e w6 ⟨rfl, h6⟩; have H6 := hide h6; clear h6 tok5 H5)
      | (go_at_call 7; refine (HNB.out _ H6.out).mono ?_; rintro e w7 ⟨sp4, rfl, h7⟩; have H7 := hide h7; clear h7)
      | (go_at_call 13; refine (HAB.out _ _ H7.out).mono ?_; rintro e w8 ⟨rfl, h8⟩; have H8 := hide h8; clear h8 H7)
      | (go_at_call 14; refine (num_any _ _).mono ?_; rintro e wx ⟨rfl, hwx⟩; have hwy := hwx.symm; subst hwy; clear hwx)
      | (go_at_call 6; refine (HL.out _ H8.out).mono ?_; rintro e w9 ⟨rfl, h9⟩; have H9 := hide (H8.out.trans (h9.mono H8.out.size)); clear h9))
    go_quiet ((go_at_call 14; exact (num_any _ _).mono fun _ _ h => ⟨h.1, _, h.2⟩))
    have H10 : Hid (Below w.heap.size w (w9.drewN nq)) := hide (below_drewN H9.out nq)
    generalize w9.drewN nq = w10 at *
    go_wp2_with fail
    have k24 : ∀ k, (convert 22 9 (.slice ao 24 c)).run Tryd.prog (w10.drewN k) = .ok (.string A24) (w10.drewN k) := fun k => K24.out _ (below_drewN H10.out k)
    have l24 : ∀ k, (convert 22 9 (.slice bo 24 d)).run Tryd.prog (w10.drewN k) = .ok (.string B24) (w10.drewN k) := fun k => L24.out _ (below_drewN H10.out k)
    go_quiet ((go_at_call 14; exact (num_any _ _).mono fun _ _ h => ⟨h.1, _, h.2⟩))
    have H11 : Hid (Below w.heap.size w (w10.drewN nq)) := hide (below_drewN H10.out nq)
    clear k24 l24
    generalize w10.drewN nq = w11 at *
    go_wp2_with (first
      | (go_at_call 14; refine (num_any _ _).mono ?_; rintro e wx ⟨rfl, hwx⟩; have hwy := hwx.symm; subst hwy; clear hwx)
      | (go_at_call 15; (first | refine (one_t _).mono ?_ | refine (one_f _).mono ?_); rintro e wx ⟨rfl, hwx⟩; have hwy := hwx.symm; subst hwy; clear hwx))
    go_ret
    exact ⟨rfl, H11.out⟩
  · have ha' : ¬ (32 : Int) ≤ (n : Int) := by omega
    have hb' : ¬ (32 : Int) ≤ (m : Int) := by omega
    have ha'' : (24 : Int) ≤ (n : Int) := by omega
    have hb'' : ¬ (24 : Int) ≤ (m : Int) := by omega
    clear s32 s24 t32 t24 ha hb ha2
    have tok1 : True := trivial
    have tok2 : True := trivial
    have tok3 : True := trivial
    have tok4 : True := trivial
    go_enter Tryd.func4, Tryd.ntmps4
    go_wp2_with (first
      | (go_at_call 7; have _t := tok1; refine (HNA.out _ (Below.refl _ _)).mono ?_; rintro e w1 ⟨sp, rfl, h1⟩; have H1 := hide h1; clear h1 tok1)
      | (go_at_call 12; have _t := tok2; refine (HDA.out _ _ H1.out).mono ?_; rintro e w2 ⟨rfl, h2⟩; have H2 := hide h2; clear h2 tok2 H1)
      | (go_at_call 7; have _t := tok3; refine (HNB.out _ H2.out).mono ?_; rintro e w3 ⟨sp2, rfl, h3⟩; have H3 := hide h3; clear h3 tok3)
      | (go_at_call 12; refine (HDB.out _ _ H3.out).mono ?_; rintro e w4 ⟨rfl, h4⟩; have H4 := hide h4; clear h4 H3)
      | (go_at_call 7; have _t := tok4; refine (HNA.out _ H4.out).mono ?_; rintro e w5 ⟨sp3, rfl, h5⟩; have H5 := hide h5; have tok5 : True := trivial; clear h5 tok4)
      | (go_at_call 13; have _t := tok5; refine (HAA.out _ _ H5.out).mono ?_; rintro e w6 ⟨rfl, h6⟩; have H6 := hide h6; clear h6 tok5 H5)
      | (go_at_call 7; refine (HNB.out _ H6.out).mono ?_; rintro e w7 ⟨sp4, rfl, h7⟩; have H7 := hide h7; clear h7)
      | (go_at_call 13; refine (HAB.out _ _ H7.out).mono ?_; rintro e w8 ⟨rfl, h8⟩; have H8 := hide h8; clear h8 H7)
      | (go_at_call 14; refine (num_any _ _).mono ?_; rintro e wx ⟨rfl, hwx⟩; have hwy := hwx.symm; subst hwy; clear hwx)
      | (go_at_call 6; refine (HL.out _ H8.out).mono ?_; rintro e w9 ⟨rfl, h9⟩; have H9 := hide (H8.out.trans (h9.mono H8.out.size)); clear h9))
    go_quiet ((go_at_call 14; exact (num_any _ _).mono fun _ _ h => ⟨h.1, _, h.2⟩))
    have H10 : Hid (Below w.heap.size w (w9.drewN nq)) := hide (below_drewN H9.out nq)
    generalize w9.drewN nq = w10 at *
    go_wp2_with fail
    go_quiet ((go_at_call 14; exact (num_any _ _).mono fun _ _ h => ⟨h.1, _, h.2⟩))
    have H11 : Hid (Below w.heap.size w (w10.drewN nq)) := hide (below_drewN H10.out nq)
    generalize w10.drewN nq = w11 at *
    go_wp2_with (first
      | (go_at_call 14; refine (num_any _ _).mono ?_; rintro e wx ⟨rfl, hwx⟩; have hwy := hwx.symm; subst hwy; clear hwx)
      | (go_at_call 15; (first | refine (one_t _).mono ?_ | refine (one_f _).mono ?_); rintro e wx ⟨rfl, hwx⟩; have hwy := hwx.symm; subst hwy; clear hwx))
    go_ret
    exact ⟨rfl, H11.out⟩
  · have ha' : ¬ (32 : Int) ≤ (n : Int) := by omega
    have hb' : (32 : Int) ≤ (m : Int) := by omega
    have ha'' : ¬ (24 : Int) ≤ (n : Int) := by omega
    have hb'' : (24 : Int) ≤ (m : Int) := by omega
    clear s32 s24 t32 t24 ha hb
    have tok1 : True := trivial
    have tok2 : True := trivial
    have tok3 : True := trivial
    have tok4 : True := trivial
    go_enter Tryd.func4, Tryd.ntmps4
    go_wp2_with (first
      | (go_at_call 7; have _t := tok1; refine (HNA.out _ (Below.refl _ _)).mono ?_; rintro e w1 ⟨sp, rfl, h1⟩; have H1 := hide h1; clear h1 tok1)
      | (go_at_call 12; have _t := tok2; refine (HDA.out _ _ H1.out).mono ?_; rintro e w2 ⟨rfl, h2⟩; have H2 := hide h2; clear h2 tok2 H1)
      | (go_at_call 7; have _t := tok3; refine (HNB.out _ H2.out).mono ?_; rintro e w3 ⟨sp2, rfl, h3⟩; have H3 := hide h3; clear h3 tok3)
      | (go_at_call 12; refine (HDB.out _ _ H3.out).mono ?_; rintro e w4 ⟨rfl, h4⟩; have H4 := hide h4; clear h4 H3)
      | (go_at_call 7; have _t := tok4; refine (HNA.out _ H4.out).mono ?_; rintro e w5 ⟨sp3, rfl, h5⟩; have H5 := hide h5; have tok5 : True := trivial; clear h5 tok4)
      | (go_at_call 13; have _t := tok5; refine (HAA.out _ _ H5.out).mono ?_; rintro e w6 ⟨rfl, h6⟩; have H6 := hide h6; clear h6 tok5 H5)
      | (go_at_call 7; refine (HNB.out _ H6.out).mono ?_; rintro e w7 ⟨sp4, rfl, h7⟩; have H7 := hide h7; clear h7)
      | (go_at_call 13; refine (HAB.out _ _ H7.out).mono ?_; rintro e w8 ⟨rfl, h8⟩; have H8 := hide h8; clear h8 H7)
      | (go_at_call 14; refine (num_any _ _).mono ?_; rintro e wx ⟨rfl, hwx⟩; have hwy := hwx.symm; subst hwy; clear hwx)
      | (go_at_call 6; refine (HL.out _ H8.out).mono ?_; rintro e w9 ⟨rfl, h9⟩; have H9 := hide (H8.out.trans (h9.mono H8.out.size)); clear h9))
    go_quiet ((go_at_call 14; exact (num_any _ _).mono fun _ _ h => ⟨h.1, _, h.2⟩))
    have H10 : Hid (Below w.heap.size w (w9.drewN nq)) := hide (below_drewN H9.out nq)
    generalize w9.drewN nq = w10 at *
    go_wp2_with fail
    go_quiet ((go_at_call 14; exact (num_any _ _).mono fun _ _ h => ⟨h.1, _, h.2⟩))
    have H11 : Hid (Below w.heap.size w (w10.drewN nq)) := hide (below_drewN H10.out nq)
    generalize w10.drewN nq = w11 at *
    go_wp2_with (first
      | (go_at_call 14; refine (num_any _ _).mono ?_; rintro e wx ⟨rfl, hwx⟩; have hwy := hwx.symm; subst hwy; clear hwx)
      | (go_at_call 15; (first | refine (one_t _).mono ?_ | refine (one_f _).mono ?_); rintro e wx ⟨rfl, hwx⟩; have hwy := hwx.symm; subst hwy; clear hwx))
    go_ret
    exact ⟨rfl, H11.out⟩
  · have ha' : ¬ (32 : Int) ≤ (n : Int) := by omega
    have hb' : ¬ (32 : Int) ≤ (m : Int) := by omega
    have ha'' : ¬ (24 : Int) ≤ (n : Int) := by omega
    have hb'' : (24 : Int) ≤ (m : Int) := by omega
    clear s32 s24 t32 t24 ha hb hb2
    have tok1 : True := trivial
    have tok2 : True := trivial
    have tok3 : True := trivial
    have tok4 : True := trivial
    go_enter Tryd.func4, Tryd.ntmps4
    go_wp2_with (first
      | (go_at_call 7; have _t := tok1; refine (HNA.out _ (Below.refl _ _)).mono ?_; rintro e w1 ⟨sp, rfl, h1⟩; have H1 := hide h1; clear h1 tok1)
      | (go_at_call 12; have _t := tok2; refine (HDA.out _ _ H1.out).mono ?_; rintro e w2 ⟨rfl, h2⟩; have H2 := hide h2; clear h2 tok2 H1)
      | (go_at_call 7; have _t := tok3; refine (HNB.out _ H2.out).mono ?_; rintro e w3 ⟨sp2, rfl, h3⟩; have H3 := hide h3; clear h3 tok3)
      | (go_at_call 12; refine (HDB.out _ _ H3.out).mono ?_; rintro e w4 ⟨rfl, h4⟩; have H4 := hide h4; clear h4 H3)
      | (go_at_call 7; have _t := tok4; refine (HNA.out _ H4.out).mono ?_; rintro e w5 ⟨sp3, rfl, h5⟩; have H5 := hide h5; have tok5 : True := trivial; clear h5 tok4)
      | (go_at_call 13; have _t := tok5; refine (HAA.out _ _ H5.out).mono ?_; rintro e w6 ⟨rfl, h6⟩; have H6 := hide h6; clear h6 tok5 H5)
      | (go_at_call 7; refine (HNB.out _ H6.out).mono ?_; rintro e w7 ⟨sp4, rfl, h7⟩; have H7 := hide h7; clear h7)
      | (go_at_call 13; refine (HAB.out _ _ H7.out).mono ?_; rintro e w8 ⟨rfl, h8⟩; have H8 := hide h8; clear h8 H7)
      | (go_at_call 14; refine (num_any _ _).mono ?_; rintro e wx ⟨rfl, hwx⟩; have hwy := hwx.symm; subst hwy; clear hwx)
      | (go_at_call 6; refine (HL.out _ H8.out).mono ?_; rintro e w9 ⟨rfl, h9⟩; have H9 := hide (H8.out.trans (h9.mono H8.out.size)); clear h9))
    go_quiet ((go_at_call 14; exact (num_any _ _).mono fun _ _ h => ⟨h.1, _, h.2⟩))
    have H10 : Hid (Below w.heap.size w (w9.drewN nq)) := hide (below_drewN H9.out nq)
    generalize w9.drewN nq = w10 at *
    go_wp2_with fail
    go_quiet ((go_at_call 14; exact (num_any _ _).mono fun _ _ h => ⟨h.1, _, h.2⟩))
    have H11 : Hid (Below w.heap.size w (w10.drewN nq)) := hide (below_drewN H10.out nq)
    generalize w10.drewN nq = w11 at *
    go_wp2_with (first
      | (go_at_call 14; refine (num_any _ _).mono ?_; rintro e wx ⟨rfl, hwx⟩; have hwy := hwx.symm; subst hwy; clear hwx)
      | (go_at_call 15; (first | refine (one_t _).mono ?_ | refine (one_f _).mono ?_); rintro e wx ⟨rfl, hwx⟩; have hwy := hwx.symm; subst hwy; clear hwx))
    go_ret
    exact ⟨rfl, H11.out⟩
  · have ha' : ¬ (32 : Int) ≤ (n : Int) := by omega
    have hb' : ¬ (32 : Int) ≤ (m : Int) := by omega
    have ha'' : ¬ (24 : Int) ≤ (n : Int) := by omega
    have hb'' : ¬ (24 : Int) ≤ (m : Int) := by omega
    clear s32 s24 t32 t24 ha hb
    have tok1 : True := trivial
    have tok2 : True := trivial
    have tok3 : True := trivial
    have tok4 : True := trivial
    go_enter Tryd.func4, Tryd.ntmps4
    go_wp2_with (first
      | (go_at_call 7; have _t := tok1; refine (HNA.out _ (Below.refl _ _)).mono ?_; rintro e w1 ⟨sp, rfl, h1⟩; have H1 := hide h1; clear h1 tok1)
      | (go_at_call 12; have _t := tok2; refine (HDA.out _ _ H1.out).mono ?_; rintro e w2 ⟨rfl, h2⟩; have H2 := hide h2; clear h2 tok2 H1)
      | (go_at_call 7; have _t := tok3; refine (HNB.out _ H2.out).mono ?_; rintro e w3 ⟨sp2, rfl, h3⟩; have H3 := hide h3; clear h3 tok3)
      | (go_at_call 12; refine (HDB.out _ _ H3.out).mono ?_; rintro e w4 ⟨rfl, h4⟩; have H4 := hide h4; clear h4 H3)
      | (go_at_call 7; have _t := tok4; refine (HNA.out _ H4.out).mono ?_; rintro e w5 ⟨sp3, rfl, h5⟩; have H5 := hide h5; have tok5 : True := trivial; clear h5 tok4)
      | (go_at_call 13; have _t := tok5; refine (HAA.out _ _ H5.out).mono ?_; rintro e w6 ⟨rfl, h6⟩; have H6 := hide h6; clear h6 tok5 H5)
      | (go_at_call 7; refine (HNB.out _ H6.out).mono ?_; rintro e w7 ⟨sp4, rfl, h7⟩; have H7 := hide h7; clear h7)
      | (go_at_call 13; refine (HAB.out _ _ H7.out).mono ?_; rintro e w8 ⟨rfl, h8⟩; have H8 := hide h8; clear h8 H7)
      | (go_at_call 14; refine (num_any _ _).mono ?_; rintro e wx ⟨rfl, hwx⟩; have hwy := hwx.symm; subst hwy; clear hwx)
      | (go_at_call 6; refine (HL.out _ H8.out).mono ?_; rintro e w9 ⟨rfl, h9⟩; have H9 := hide (H8.out.trans (h9.mono H8.out.size)); clear h9))
    go_quiet ((go_at_call 14; exact (num_any _ _).mono fun _ _ h => ⟨h.1, _, h.2⟩))
    have H10 : Hid (Below w.heap.size w (w9.drewN nq)) := hide (below_drewN H9.out nq)
    generalize w9.drewN nq = w10 at *
    go_wp2_with fail
    go_quiet ((go_at_call 14; exact (num_any _ _).mono fun _ _ h => ⟨h.1, _, h.2⟩))
    have H11 : Hid (Below w.heap.size w (w10.drewN nq)) := hide (below_drewN H10.out nq)
    generalize w10.drewN nq = w11 at *
    go_wp2_with (first
      | (go_at_call 14; refine (num_any _ _).mono ?_; rintro e wx ⟨rfl, hwx⟩; have hwy := hwx.symm; subst hwy; clear hwx)
      | (go_at_call 15; (first | refine (one_t _).mono ?_ | refine (one_f _).mono ?_); rintro e wx ⟨rfl, hwx⟩; have hwy := hwx.symm; subst hwy; clear hwx))
    go_ret
    exact ⟨rfl, H11.out⟩
end Go.Proofs.YtonnnolnkjahgabDoor
