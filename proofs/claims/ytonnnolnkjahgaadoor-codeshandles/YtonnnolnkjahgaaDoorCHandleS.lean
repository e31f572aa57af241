/- The document's Handle and Match; CodesHandles, walked. -/
import Derived.Test.YtonnnolnkjahgaaDoorCHandleR
import Derived.Test.YtonnnolnkjahgaaDoorCLive
namespace Go.Proofs.YtonnnolnkjahgaaDoor
open Go.RowKit Go.Shelf

theorem strCells_eq (s : ByteArray) : Lib.strCells s = (sbytes s).map bv := by
  simp [Lib.strCells, sbytes, bv]
theorem wpList_append_text {w : World} {ops : Array Oper} {rest : List Oper} {o : Oper} {a : Act} {Q : Exit → Act → World → Prop} (hgd : o.guard = none) (sl x : Operand)
    (ho : o.op = .call { callee := .builtin .append, args := #[sl, x], argTypes := #[25, 9] }) (B : Nat) (v : Value) (xs : List Nat) (hs : a.eval sl = v) (hown : Own w B v xs)
    (s : ByteArray) (hx : a.eval x = .string s) (hsz : xs.length + s.size ≤ 140737488355328) (hB : B ≤ w.heap.size)
    (h : ∀ v' w', Own w' B v' (xs ++ sbytes s) → w.grownBy w' v.ownBlock → wpList Tryd.prog ops Q rest (a.put o.dst v') w') : wpList Tryd.prog ops Q (o :: rest) a w := by
  obtain ⟨i0, hi, hz0, hz1, hz2⟩ := info_parts info8
  refine wpList_plain hgd fun K hK => ?_
  obtain ⟨v', w', hrun, h1, h2, _⟩ := Lib.run_append_own_string (P := Tryd.prog) w B 25 9 o.type 5 i0 Tryd.underlying25 Tryd.underlying9 hi hz0 hz1 hz2 v xs.length (xs.map bv) hown s (by unfold maxLen; omega) hsz hB
  unfold Oper.wp
  simp [execOp, ho, resolve, invoke, builtin, hs, hx, hrun, Result.andThen]
  refine hK _ _ (h v' w' ?_ h2)
  unfold Own
  rw [List.length_append, sbytes_length, List.map_append, ← strCells_eq]
  exact h1
set_option maxRecDepth 100000 in
theorem rhandleBad_any (k : Int) (s : ByteArray) (w : World) (h1 : k ≠ 1) (h2 : k ≠ 2) : Calls Tryd.prog 20 #[.int .i64 k, .string s] w fun e w' => e = .returned (.tuple #[.string { data := #[] }, .int .i64 2]) ∧ w' = w := by
  have e3 : (k != 1) = true := by simpa using h1
  have e4 : (k != 2) = true := by simpa using h2
  clear h1 h2
  go_enter Tryd.func20, Tryd.ntmps20
  go_wp2
  go_ret2
  exact ⟨rfl, rfl⟩
set_option maxRecDepth 100000 in
theorem rhandleLong_any (k : Int) (s : ByteArray) (w : World) (h : k = 1 ∨ k = 2) (hs : 64 < s.size) : Calls Tryd.prog 20 #[.int .i64 k, .string s] w fun e w' => e = .returned (.tuple #[.string { data := #[] }, .int .i64 1]) ∧ w' = w := by
  have hs' : (64 : Int) < (s.size : Int) := by omega
  clear hs
  rcases h with rfl | rfl
  all_goals
    go_enter Tryd.func20, Tryd.ntmps20
    go_wp2
    go_ret2
    exact ⟨rfl, rfl⟩
set_option maxHeartbeats 1000000 in
set_option maxRecDepth 100000 in
theorem rhandleOk_any (k : Nat) (s : ByteArray) (w : World) (h : k = 1 ∨ k = 2) (hs : s.size ≤ 64) (hT : Roots w 3) : Calls Tryd.prog 20 #[.int .i64 (k : Int), .string s] w fun e w' => e = .returned (.tuple #[.string (bstr (sha (k :: sbytes s))), .int .i64 0]) ∧ Below w.heap.size w w' := by
  have HT := hide hT
  have HS := hide hs
  have hs' : ¬ (64 : Int) < (s.size : Int) := by omega
  have hk256 : IntKind.u8.wrap (k : Int) = (k : Int) := by rcases h with rfl | rfl <;> rfl
  have HO0 : Hid (Own (w.alloc (.cells #[.int .u8 (k : Int)] 5)) w.heap.size (.slice (some ⟨w.heap.size, 0, none⟩) 1 1) [k]) := hide (own_new w w.heap.size [k] (Nat.le_refl _) (by simp [maxLen]))
  have HBY : Hid (∀ x ∈ k :: sbytes s, x < 256) := hide (fun x hx => by
    rcases List.mem_cons.1 hx with e | e
    · omega
    · exact sbytes_lt s x e)
  have HLN : Hid ((k :: sbytes s).length ≤ 65) := hide (by have := sbytes_length s; simp; omega)
  have HSL : Hid ((sha (k :: sbytes s)).length = 32) := sha_length _
  have HSLT := hide (sha_lt (k :: sbytes s))
  have HSB := hide (fun n c ao W hn hr hT => refSum_any n c ao (k :: sbytes s) W hn (by have := HLN.out; omega) HBY.out hr hT)
  have h12 : (((k : Int) != 1) = false) ∨ (((k : Int) != 1) = true ∧ ((k : Int) != 2) = false) := by
    rcases h with rfl | rfl
    · exact .inl rfl
    · exact .inr ⟨rfl, rfl⟩
  generalize sha (k :: sbytes s) = kk at *
  clear hT hs h
  rcases h12 with h1 | ⟨h1, h2⟩
  all_goals
    go_enter Tryd.func20, Tryd.ntmps20
    go_wp2_with (first
      | (at_builtin; refine wpList_append_text rfl _ _ rfl w.heap.size _ [k] rfl HO0.out s rfl (by have := HS.out; simp; omega) (by simp) ?_))
    rintro v1 w1 hown1 hgr1
    have HB1 : Hid (Below w.heap.size w w1) := hide ((below_new w _).grown hgr1 (by simp) HO0.out.ge)
    obtain ⟨ao, c, rfl, -, hrow⟩ := hown1.read
    have HD := hide (HSB.out _ c ao w1 rfl hrow (HT.out.keep HB1.out))
    clear hown1 hgr1 hrow
    generalize (k :: sbytes s).length = n at *
    go_upto_region 7 with (first
      | (go_at_call 42; refine HD.out.mono ?_; rintro e w4 ⟨rfl, h4⟩; have HB4 := hide (HB1.out.trans (h4.mono HB1.out.size)); have HC : Hid ((Tryd.prog.info? 64).map (·.size) = some (kk.map bv).toArray.size) := (by show _ = _; rw [size24]; simp [HSL.out]); clear h4)
      | (refine wpList_store_row rfl 64 _ _ rfl w4.heap.size (kk.map bv).toArray rfl rfl 64 _ (Bl.new w4 _ _) HC.out (by simp [HSL.out]) (all_oneCell_toArray (bv_one _)) ?_)
      | fail)
    obtain ⟨w5, hq5⟩ : ∃ x, x = (w4.alloc (Obj.cells #[.int .u8 0, .int .u8 0, .int .u8 0, .int .u8 0, .int .u8 0, .int .u8 0, .int .u8 0, .int .u8 0, .int .u8 0, .int .u8 0, .int .u8 0, .int .u8 0, .int .u8 0, .int .u8 0, .int .u8 0, .int .u8 0, .int .u8 0, .int .u8 0, .int .u8 0, .int .u8 0, .int .u8 0, .int .u8 0, .int .u8 0, .int .u8 0, .int .u8 0, .int .u8 0, .int .u8 0, .int .u8 0, .int .u8 0, .int .u8 0, .int .u8 0, .int .u8 0] 64)).setRow w4.heap.size (kk.map bv).toArray := ⟨_, rfl⟩
    rw [← hq5]
    have HG5 : Hid (Bl w5 w4.heap.size (kk.map bv) 64) := by rw [hq5]; exact (Bl.new w4 _ _).setRow _
    have HB5 : Hid (Below w.heap.size w w5) := by rw [hq5]; exact below_setRow (HB4.out.alloc HB4.out.size _) HB4.out.size _
    clear hq5
    go_wp2_with fail
    go_loopw [8, 9] (fun v a wr => ∃ i : Nat, a = .int .i64 (i : Int) ∧ i ≤ 32 ∧ Hid (Own wr w5.heap.size v (kk.take i)) ∧ Hid (Below w5.heap.size w5 wr)) (fun _ a _ => 32 - (intOf a).toNat)
    case atStart => exact ⟨0, rfl, by omega, hide (own_nil _ _), hide (Below.refl _ _)⟩
    case round =>
      obtain ⟨i, rfl, hi, HO, HBW⟩ := hrel
      have hwri : IntKind.i64.wrap ((i : Int) + 1) = ((i + 1 : Nat) : Int) := by rw [IntKind.wrap_i64]; omega
      obtain ⟨vo, vc, rfl, -, -⟩ := HO.out.read
      have hti : (kk.take i).length = i := by have := HSL.out; simp; omega
      rw [hti] at HO ⊢
      by_cases hin : i < 32
      · have hin' : (i : Int) < 32 := by omega
        have HIN := hide hin
        have hc5 : wr.cell? ⟨w4.heap.size, i, none⟩ = some (.int .u8 ((kk.getD i 0 : Nat) : Int)) := by
          rw [(HG5.out.keep HBW.out).cell]
          have := HSL.out
          simp [List.getD, show i < kk.length by omega, bv]
        have HTK : Hid (kk.take (i + 1) = kk.take i ++ [kk.getD i 0]) := hide (stake_getD (by have := HSL.out; omega))
        have HTI := hide hti
        clear hi hin hti
        generalize kk.getD i 0 = x at *
        generalize kk.take i = code at *
        go_wp2_with (first
          | (at_builtin; refine wpList_append_bytes rfl _ _ rfl w5.heap.size _ code rfl (HO.out.alloc _) (some ⟨wr.heap.size, 0, none⟩) 1 1 [x] rfl rfl (row_one _ _) (by have := HTI.out; have := HIN.out; simp; omega) (by have := HBW.out.size; simp; omega) ?_))
        rintro v2 w6 hown2 hgr2
        have HB6 : Hid (Below w5.heap.size w5 w6) := (HBW.out.alloc HBW.out.size _).grown hgr2 (by have := HBW.out.size; simp; omega) HO.out.ge
        have HO6 : Hid (Own w6 w5.heap.size v2 (code ++ [x])) := hown2
        clear hown2 hgr2
        go_wp2
        go_roundw
        case rel => exact ⟨i + 1, by first | rfl | simp, HIN.out, by rw [HTK.out]; exact HO6, HB6⟩
        case measure => have := HIN.out; simp [intOf]; omega
      · have hin' : ¬ (i : Int) < 32 := by omega
        obtain rfl : i = 32 := by omega
        obtain ⟨vo', vc', hv, -, hro⟩ := HO.out.read
        have hcv := conv_row vc' hro
        rw [← hv] at hcv
        have HKE : Hid (kk.take 32 = kk) := hide (List.take_of_length_le (by have := HSL.out; omega))
        rw [HKE.out] at hcv
        clear hi hin hro hv hti
        go_wp2_with fail
        go_ret2
        exact ⟨rfl, HB5.out.trans (HBW.out.mono HB5.out.size)⟩
theorem rhandle_any (k : Int) (s : ByteArray) (w : World) (hT : Roots w 3) : Calls Tryd.prog 20 #[.int .i64 k, .string s] w fun e w' => e = .returned (.tuple #[.string (bstr (hdlT k (sbytes s))), .int .i64 ((hdlE k (sbytes s) : Nat) : Int)]) ∧ Below w.heap.size w w' := by
  have hsl := sbytes_length s
  by_cases h : k = 1 ∨ k = 2
  · by_cases hl : s.size ≤ 64
    · obtain ⟨n, rfl⟩ : ∃ n : Nat, k = (n : Int) := ⟨k.toNat, by omega⟩
      have hn : n = 1 ∨ n = 2 := by omega
      obtain ⟨e1, e2⟩ := hdl_ok (k := n) (l := sbytes s) hn (by omega)
      rw [e1, e2]
      exact rhandleOk_any n s w hn hl hT
    · obtain ⟨e1, e2⟩ := hdl_long (k := k) (l := sbytes s) h (by omega)
      rw [e1, e2]
      refine (rhandleLong_any k s w h (by omega)).mono ?_
      rintro e w' ⟨rfl, rfl⟩
      exact ⟨rfl, Below.refl _ _⟩
  · obtain ⟨e1, e2⟩ := hdl_bad (k := k) (l := sbytes s) (by omega) (by omega)
    rw [e1, e2]
    refine (rhandleBad_any k s w (by omega) (by omega)).mono ?_
    rintro e w' ⟨rfl, rfl⟩
    exact ⟨rfl, Below.refl _ _⟩
set_option maxHeartbeats 1000000 in
set_option maxRecDepth 100000 in
theorem rmatch_any (k : Int) (s t : ByteArray) (w : World) (hT : Roots w 3) : Calls Tryd.prog 22 #[.int .i64 k, .string s, .string t] w fun e w' => e = .returned (.bool (matB k (sbytes s) (sbytes t))) ∧ Below w.heap.size w w' := by
  have HH := hide (rhandle_any k s w hT)
  have HB := hide (hdlT_lt k (sbytes s))
  by_cases he : hdlE k (sbytes s) = 0
  · have HM : Hid (matB k (sbytes s) (sbytes t) = decide (hdlT k (sbytes s) = sbytes t)) := hide (by unfold matB; rw [he]; rfl)
    rw [HM.out]
    rw [he] at HH
    have heq : ((bstr (hdlT k (sbytes s))).toList == t.toList) = decide (hdlT k (sbytes s) = sbytes t) := by
      have := bstr_beq HB.out (sbytes_lt t)
      rwa [bstr_sbytes] at this
    clear hT he HM
    generalize decide (hdlT k (sbytes s) = sbytes t) = q at *
    generalize bstr (hdlT k (sbytes s)) = S at *
    go_enter Tryd.func22, Tryd.ntmps22
    go_wp2_with (first
      | (go_at_call 20; refine HH.out.mono ?_; rintro e w1 ⟨rfl, h1⟩; have H1 := hide h1; clear h1))
    go_ret
    exact ⟨rfl, H1.out⟩
  · have HM : Hid (matB k (sbytes s) (sbytes t) = false) := hide (by unfold matB; simp [he])
    rw [HM.out]
    have he' : (((hdlE k (sbytes s) : Nat) : Int) == 0) = false := by simpa using he
    clear hT he HM
    generalize bstr (hdlT k (sbytes s)) = S at *
    generalize hdlE k (sbytes s) = E at *
    go_enter Tryd.func22, Tryd.ntmps22
    go_wp2_with (first
      | (go_at_call 20; refine HH.out.mono ?_; rintro e w1 ⟨rfl, h1⟩; have H1 := hide h1; clear h1))
    go_ret
    exact ⟨rfl, H1.out⟩
theorem mat_self (k : Int) (l : List Nat) : matB k l (hdlT k l) = (hdlE k l == 0) := by unfold matB; simp
set_option maxHeartbeats 1000000 in
set_option maxRecDepth 100000 in
theorem codesHandles_walk (k : Int) (s t : ByteArray) (w : World) (hT : Lets w) (hR : Roots w 2) (hR2 : Roots w 3) : Calls Tryd.prog 6 #[.int .i64 k, .string s, .string t] w fun e w' => e = .returned (.bool true) ∧ Below w.heap.size w w' := by
  have HL : Hid (∀ W, Below w.heap.size w W → Calls Tryd.prog 10 #[] W fun e w' => e = .returned (.bool true) ∧ Below W.heap.size W w') := hide fun W h => live_true W (hT.keep h)
  have HH := hide (handle_any k s w hR)
  have HH2 : Hid (∀ W, Below w.heap.size w W → Calls Tryd.prog 20 #[.int .i64 k, .string s] W fun e w' => e = .returned (.tuple #[.string (bstr (hdlT k (sbytes s))), .int .i64 ((hdlE k (sbytes s) : Nat) : Int)]) ∧ Below W.heap.size W w') := hide fun W h => rhandle_any k s W (hR2.keep h)
  have HM : Hid (∀ W, Below w.heap.size w W → Calls Tryd.prog 21 #[.int .i64 k, .string s, .string t] W fun e w' => e = .returned (.bool (matB k (sbytes s) (sbytes t))) ∧ Below W.heap.size W w') := hide fun W h => match_any k s t W (hR.keep h)
  have HM2 : Hid (∀ W, Below w.heap.size w W → Calls Tryd.prog 22 #[.int .i64 k, .string s, .string t] W fun e w' => e = .returned (.bool (matB k (sbytes s) (sbytes t))) ∧ Below W.heap.size W w') := hide fun W h => rmatch_any k s t W (hR2.keep h)
  have HM3 : Hid (∀ W, Below w.heap.size w W → Calls Tryd.prog 21 #[.int .i64 k, .string s, .string (bstr (hdlT k (sbytes s)))] W fun e w' => e = .returned (.bool (hdlE k (sbytes s) == 0)) ∧ Below W.heap.size W w') := hide fun W h => by
    have := match_any k s (bstr (hdlT k (sbytes s))) W (hR.keep h)
    rw [sbytes_bstr (hdlT_lt k (sbytes s)), mat_self] at this
    exact this
  obtain ⟨q, hq⟩ : ∃ q, q = (hdlE k (sbytes s) == 0) := ⟨_, rfl⟩
  have hq2 : (((hdlE k (sbytes s) : Nat) : Int) == 0) = q := by
    rw [hq, Bool.eq_iff_iff]
    simp
  rw [← hq] at HM3
  clear hT hR hR2 hq
  generalize bstr (hdlT k (sbytes s)) = S at *
  generalize hdlE k (sbytes s) = E at *
  generalize matB k (sbytes s) (sbytes t) = b at *
  have tok : True := trivial
  go_enter Tryd.func6, Tryd.ntmps6
  go_wp2_with (first
    | (go_at_call 19; refine HH.out.mono ?_; rintro e w1 ⟨rfl, h1⟩; have H1 := hide h1; clear h1)
    | (go_at_call 20; refine (HH2.out _ H1.out).mono ?_; rintro e w2 ⟨rfl, h2⟩; have H2 := hide (H1.out.trans (h2.mono H1.out.size)); clear h2)
    | (go_at_call 9; refine (num_any _ _).mono ?_; rintro e wx ⟨rfl, hwx⟩; have hwy := hwx.symm; subst hwy; clear hwx)
    | (go_at_call 21; have _t := tok; refine (HM.out _ H2.out).mono ?_; rintro e w3 ⟨rfl, h3⟩; have H3 := hide (H2.out.trans (h3.mono H2.out.size)); clear h3 tok)
    | (go_at_call 22; refine (HM2.out _ H3.out).mono ?_; rintro e w4 ⟨rfl, h4⟩; have H4 := hide (H3.out.trans (h4.mono H3.out.size)); clear h4)
    | (go_at_call 21; refine (HM3.out _ H4.out).mono ?_; rintro e w5 ⟨rfl, h5⟩; have H5 := hide (H4.out.trans (h5.mono H4.out.size)); clear h5)
    | (go_at_call 10; refine (HL.out _ H5.out).mono ?_; rintro e w6 ⟨rfl, h6⟩; have H6 := hide (H5.out.trans (h6.mono H5.out.size)); clear h6))
  go_ret
  exact ⟨rfl, H6.out⟩
end Go.Proofs.YtonnnolnkjahgaaDoor
