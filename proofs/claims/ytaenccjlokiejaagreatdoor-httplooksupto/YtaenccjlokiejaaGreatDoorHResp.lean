/- A response, read and printed by the program. -/
import Derived.Test.YtaenccjlokiejaaGreatDoorHStat
import Derived.Test.YtaenccjlokiejaaGreatDoorHRest
import Derived.Test.YtaenccjlokiejaaGreatDoorHReq
namespace Go.Proofs.YtaenccjlokiejaaGreatDoor
open Go.RowKit Go.Shelf

theorem statLine_ok {raw : U} {n k : Nat} (h : statLineR raw = .ok (n, k)) : 100 ≤ n ∧ n ≤ 599 ∧ k ≤ raw.length := by
  unfold statLineR at h
  split at h
  · split at h
    · rename_i h1 h2
      have hp := prefix_lenH h2.2.2.2
      rw [List.length_drop] at hp
      injection h with h
      injection h with e1 e2
      subst e1; subst e2
      refine ⟨h2.2.1, h2.2.2.1, ?_⟩
      simp only [List.length_append, List.length_cons, List.length_nil] at hp ⊢
      omega
    · cases h
  · cases h
theorem statLine_err {raw : U} {e p : Nat} (h : statLineR raw = .error (e, p)) : e ≠ 0 := by
  unfold statLineR at h
  split at h
  · split at h
    · cases h
    · cases h; decide
  · cases h; decide
def psV (v : Value) : Except (Nat × Nat) Rs → Value
  | .error (e, p) => .tuple #[.agg #[.int .i64 0, .slice none 0 0, .string { data := #[] }], .int .i64 (e : Int), .int .i64 (p : Int)]
  | .ok q => .tuple #[.agg #[.int .i64 (q.n : Int), v, .string (str q.b)], .int .i64 0, .int .i64 0]
def PsPost (w : World) (R : Except (Nat × Nat) Rs) (e : Ending) (w' : World) : Prop :=
  ∃ v, e = .returned (psV v R) ∧ (match R with | .error x => x.1 ≠ 0 | .ok q => FOwn 78 w' w.heap.size v q.fs ∧ q.fs.length ≤ 64) ∧ Below w.heap.size w w'
/-- A block of three cells. -/
def RsB (w : World) (b : Nat) (x y z : Value) : Prop := w.heap[b]? = some (.cells #[x, y, z] 39 (0, 0))
theorem RsB.cells {w : World} {b : Nat} {x y z : Value} (h : RsB w b x y z) : w.cell? ⟨b, 0, none⟩ = some x ∧ w.cell? ⟨b, 1, none⟩ = some y ∧ w.cell? ⟨b, 2, none⟩ = some z := by
  refine ⟨?_, ?_, ?_⟩ <;> rw [Lib.cell_of_heap h] <;> rfl
theorem RsB.frozen {w : World} {b : Nat} {x y z : Value} (h : RsB w b x y z) (i : Nat) : w.frozen? ⟨b, i, none⟩ = false := Lib.frozen_of_heap h i
theorem RsB.keep {w w' : World} {b : Nat} {x y z : Value} (h : RsB w b x y z) (hb : Below w.heap.size w w') : RsB w' b x y z := (hb.block b (Array.getElem?_eq_some_iff.1 h).1).trans h
/-- All three cells written. -/
def put3 (w : World) (b : Nat) (x y z : Value) : World := ((w.setCell ⟨b, 0, none⟩ x).setCell ⟨b, 1, none⟩ y).setCell ⟨b, 2, none⟩ z
theorem put3_is {w : World} {b : Nat} {x y z : Value} (h : RsB w b x y z) (x' y' z' : Value) : RsB (put3 w b x' y' z') b x' y' z' := by
  have s0 : RsB (w.setCell ⟨b, 0, none⟩ x') b x' y z := by show _ = _; rw [setCell_eq_setRow w b 0 _ _ _ _ h, setRow_heap w b _ _ _ _ h]; rfl
  have s1 : RsB ((w.setCell ⟨b, 0, none⟩ x').setCell ⟨b, 1, none⟩ y') b x' y' z := by show _ = _; rw [setCell_eq_setRow _ b 1 _ _ _ _ s0, setRow_heap _ b _ _ _ _ s0]; rfl
  show _ = _
  unfold put3
  rw [setCell_eq_setRow _ b 2 _ _ _ _ s1, setRow_heap _ b _ _ _ _ s1]; rfl
theorem put3_below {n : Nat} {w w' : World} (h : Below n w w') {b : Nat} (hb : n ≤ b) (x y z : Value) : Below n w (put3 w' b x y z) := ((h.setCell hb _).setCell hb _).setCell hb _
theorem put3_other {w : World} {b k : Nat} (hk : k ≠ b) (x y z : Value) : (put3 w b x y z).heap[k]? = w.heap[k]? :=
  (Below.heap_setCell _ ⟨b, 2, none⟩ _ k hk).trans ((Below.heap_setCell _ ⟨b, 1, none⟩ _ k hk).trans (Below.heap_setCell _ ⟨b, 0, none⟩ _ k hk))
set_option maxHeartbeats 2000000 in
set_option maxRecDepth 100000 in
theorem parseResponse_any (raw : U) (w : World) (hl : raw.length ≤ 9223372036854775807) (E : Env w) :
    Calls Tryz.prog 18 #[.string (str raw)] w fun e w' => PsPost w (parseRespR raw) e w' := by
  obtain ⟨R, hR⟩ : ∃ R, R = parseRespR raw := ⟨_, rfl⟩
  rw [← hR]
  have HR : Hid (R = if 32768 < raw.length then .error (1, 0) else
    match statLineR raw with
    | .error e => .error e
    | .ok (m, k) => match restR raw k with
      | .error e => .error e
      | .ok (fs, b) => .ok ⟨m, fs, b⟩) := hR
  have hz := str_size raw
  obtain ⟨N, hN⟩ : ∃ N, N = raw.length := ⟨_, rfl⟩
  have HN := hide hN
  rw [← hN] at hz hl HR
  have HE := hide E
  have HLI := hide (fun (h : raw.length ≤ 32768) W EE => readStatusLine_any raw W h EE)
  have HRE := hide (fun k W h1 h2 EE => readRest_any raw k W h1 h2 EE)
  rw [← hN] at HLI HRE
  generalize str raw = s at *
  have hw0 : RsB (w.alloc (.cells #[.int .i64 0, .slice none 0 0, .string { data := #[] }] 39)) w.heap.size (.int .i64 0) (.slice none 0 0) (.string { data := #[] }) := new_at w _ _ rfl
  have HB0 : Hid (Below w.heap.size w (w.alloc (.cells #[.int .i64 0, .slice none 0 0, .string { data := #[] }] 39))) := below_new w _
  have HW0 := hide hw0
  have HLT : Hid (w.heap.size < (w.alloc (.cells #[.int .i64 0, .slice none 0 0, .string { data := #[] }] 39)).heap.size) := by show _ < _; simp
  clear hR E hN hw0
  go_enter Tryz.func18, Tryz.ntmps18
  go_upto_region 1 with fail
  generalize hA : w.heap.size = A at *
  generalize w.alloc (.cells #[.int .i64 0, .slice none 0 0, .string { data := #[] }] 39) = w0 at *
  by_cases hbig : 32768 < N
  · have HD : Hid (R = .error (1, 0)) := by show _ = _; rw [HR.out, if_pos hbig]
    obtain ⟨c0, c1, c2⟩ := HW0.out.cells
    have f0 := HW0.out.frozen 0
    have f1 := HW0.out.frozen 1
    have f2 := HW0.out.frozen 2
    have HP := hide (put3_is HW0.out (.int .i64 0) (.slice none 0 0) (.string { data := #[] }))
    have HPB := hide (put3_below HB0.out (Nat.le_refl A) (.int .i64 0) (.slice none 0 0) (.string { data := #[] }))
    unfold put3 at HP HPB
    clear HR HW0 HB0
    go_wp2
    obtain ⟨d0, d1, d2⟩ := HP.out.cells
    refine bodyPost_ret (v := psV (.slice none 0 0) (.error (1, 0))) (by simp [results, Tryz.results18, go_sem, psV, d0, d1, d2]) rfl ?_
    rw [HD.out]
    exact ⟨.slice none 0 0, rfl, (by show (1 : Nat) ≠ 0; decide), hA ▸ HPB.out⟩
  have HE0 : Hid (Env w0) := HE.out.keep (hA ▸ HB0.out)
  have HRR : Hid (R = match statLineR raw with
    | .error e => .error e
    | .ok (m, k) => match restR raw k with
      | .error e => .error e
      | .ok (fs, b) => .ok ⟨m, fs, b⟩) := by show _ = _; rw [HR.out, if_neg hbig]
  clear HR
  go_wp2_with fail
  refine (HLI.out (by omega) w0 HE0.out).mono ?_
  rintro e w1 ⟨rfl, hb1⟩
  have HB1 := hide (HB0.out.trans (hb1.mono (by have := HLT.out; omega)))
  have HW1 := hide (HW0.out.keep hb1)
  have HE1 := hide (HE0.out.keep hb1)
  have HL1 : Hid (A < w1.heap.size) := by show _ < _; have := HLT.out; have := hb1.size; omega
  clear hb1 HB0 HW0 HE0 HLT HLI
  cases hline : statLineR raw with
  | error x =>
    obtain ⟨er, p⟩ := x
    rw [hline] at HRR
    have HD : Hid (R = .error (er, p)) := HRR.out
    have hne := statLine_err hline
    have hni : ((er : Int) != 0) = true := by rw [bne_iff_ne]; omega
    have HNE := hide hne
    obtain ⟨c0, c1, c2⟩ := HW1.out.cells
    have f0 := HW1.out.frozen 0
    have f1 := HW1.out.frozen 1
    have f2 := HW1.out.frozen 2
    have HP := hide (put3_is HW1.out (.int .i64 0) (.slice none 0 0) (.string { data := #[] }))
    have HPB := hide (put3_below HB1.out (Nat.le_refl A) (.int .i64 0) (.slice none 0 0) (.string { data := #[] }))
    unfold put3 at HP HPB
    unfold statV
    clear HRR HW1 HB1 hline hne
    go_wp2
    obtain ⟨d0, d1, d2⟩ := HP.out.cells
    refine bodyPost_ret (v := psV (.slice none 0 0) (.error (er, p))) (by simp [results, Tryz.results18, go_sem, psV, d0, d1, d2]) rfl ?_
    rw [HD.out]
    exact ⟨.slice none 0 0, rfl, HNE.out, hA ▸ HPB.out⟩
  | ok x =>
    obtain ⟨m, k⟩ := x
    rw [hline] at HRR
    obtain ⟨hmb, htb, hk⟩ := statLine_ok hline
    have HRST := hide (HRE.out k w1 (by omega) (by rw [HN.out]; exact hk) HE1.out)
    have HRR2 : Hid (R = match restR raw k with
      | .error e => .error e
      | .ok (fs, b) => .ok ⟨m, fs, b⟩) := HRR.out
    unfold statV
    clear HRR hline hmb htb hk HRE HE1
    generalize restR raw k = D at *
    go_wp2_with fail
    refine HRST.out.mono ?_
    rintro e w2 ⟨v, rfl, hp, hb2⟩
    have HB2 := hide (HB1.out.trans (hb2.mono (by have := HL1.out; omega)))
    have HW2 := hide (HW1.out.keep hb2)
    have HL2 : Hid (A < w2.heap.size) := by show _ < _; have := HL1.out; have := hb2.size; omega
    clear hb2 HB1 HW1 HRST
    cases D with
    | error x =>
      obtain ⟨er, p⟩ := x
      have HD : Hid (R = .error (er, p)) := HRR2.out
      have hne : er ≠ 0 := hp
      have hni : ((er : Int) != 0) = true := by rw [bne_iff_ne]; omega
      have HNE := hide hne
      obtain ⟨c0, c1, c2⟩ := HW2.out.cells
      have f0 := HW2.out.frozen 0
      have f1 := HW2.out.frozen 1
      have f2 := HW2.out.frozen 2
      have HP := hide (put3_is HW2.out (.int .i64 0) (.slice none 0 0) (.string { data := #[] }))
      have HPB := hide (put3_below HB2.out (Nat.le_refl A) (.int .i64 0) (.slice none 0 0) (.string { data := #[] }))
      unfold put3 at HP HPB
      unfold restV
      clear HRR2 HW2 HB2 hne hp
      go_wp2
      obtain ⟨d0, d1, d2⟩ := HP.out.cells
      refine bodyPost_ret (v := psV (.slice none 0 0) (.error (er, p))) (by simp [results, Tryz.results18, go_sem, psV, d0, d1, d2]) rfl ?_
      rw [HD.out]
      exact ⟨.slice none 0 0, rfl, HNE.out, hA ▸ HPB.out⟩
    | ok x =>
      obtain ⟨fs, b⟩ := x
      have HD : Hid (R = .ok ⟨m, fs, b⟩) := HRR2.out
      obtain ⟨ho, h64⟩ := hp
      have HO := hide ho
      have H64 := hide h64
      obtain ⟨ao, cap, hv, _, _, _⟩ := ho.shape
      subst hv
      unfold restV
      clear ho h64 HRR2
      obtain ⟨c0, c1, c2⟩ := HW2.out.cells
      have f0 := HW2.out.frozen 0
      have f1 := HW2.out.frozen 1
      have f2 := HW2.out.frozen 2
      have HP := hide (put3_is HW2.out (.int .i64 (m : Int)) (.slice ao fs.length cap) (.string (str b)))
      have HPB := hide (put3_below HB2.out (Nat.le_refl A) (.int .i64 (m : Int)) (.slice ao fs.length cap) (.string (str b)))
      have HOO : Hid (FOwn 78 (put3 w2 A (.int .i64 (m : Int)) (.slice ao fs.length cap) (.string (str b))) A (.slice ao fs.length cap) fs) := by
        refine ⟨HO.out.1, ?_⟩
        rcases HO.out.2 with h3 | ⟨g, cap2, cur, e, hg, hh, r⟩
        · exact .inl h3
        · exact .inr ⟨g, cap2, cur, e, by have := HL1.out; omega, (put3_other (by have := HL1.out; omega) _ _ _).trans hh, r⟩
      unfold put3 at HP HPB HOO
      clear HW2 HB2 HO
      go_wp2
      obtain ⟨d0, d1, d2⟩ := HP.out.cells
      refine bodyPost_ret (v := psV (.slice ao fs.length cap) (.ok ⟨m, fs, b⟩)) (by simp [results, Tryz.results18, go_sem, psV, d0, d1, d2]) rfl ?_
      rw [HD.out]
      exact ⟨.slice ao fs.length cap, rfl, ⟨hA ▸ HOO.out, H64.out⟩, hA ▸ HPB.out⟩
theorem add_strU {x y : ByteArray} (h : x.size + y.size ≤ 4611686018427387904) : ∀ w, (Op.stringOp .add x y).run Tryz.prog w = .ok (.string (x ++ y)) w := fun w => by
  simp [Op.stringOp]
  omega
def sAgg (n : Int) (b : U) (ao : Option Addr) (k c : Nat) : Value := .agg #[.int .i64 n, .slice ao k c, .string (str b)]
set_option maxHeartbeats 2000000 in
set_option maxRecDepth 100000 in
theorem printResponse_any (n : Int) (fs : List Fl) (b : U) (ao : Option Addr) (k c : Nat) (w : World) (hk : k = fs.length) (hr : FRow w ao fs) (hn0 : -9223372036854775808 ≤ n) (hn1 : n ≤ 9223372036854775807) (hb : b.length ≤ 4611686018427387904)
    (hz : FZ fs) (hkk : k ≤ 4611686018427387904) (E : Env w) :
    Calls Tryz.prog 22 #[sAgg n b ao k c] w fun e w' => e = .returned (wAns (printRespR n fs b)) ∧ Below w.heap.size w w' := by
  have HW := hide (fun first W hf hrr EE => written_any first fs b ao k c W hk hrr hf hb hz hkk EE)
  have HIS := hide (fun W => isStatus_any n W)
  have HST := hide (fun W EE => statusText_any n W hn0 hn1 EE)
  have HE := hide E
  have HRow := hide hr
  obtain ⟨R, hR⟩ : ∃ R, R = printRespR n fs b := ⟨_, rfl⟩
  rw [← hR]
  have HR : Hid (R = if statusB n = true then writtenR (ver8 ++ [32] ++ statusT n) fs b else .error 156) := hR
  have HB0 : Hid (Below w.heap.size w (w.alloc (.cells #[.int .i64 n, .slice ao k c, .string (str b)] 39))) := below_new _ _
  have HS0 : Hid (RsB (w.alloc (.cells #[.int .i64 n, .slice ao k c, .string (str b)] 39)) w.heap.size (.int .i64 n) (.slice ao k c) (.string (str b))) := new_at w _ _ rfl
  have hap := str_app ver9 (statusT n)
  have e9 : str ver9 = (⟨#[72, 84, 84, 80, 47, 49, 46, 49, 32]⟩ : ByteArray) := rfl
  rw [e9] at hap
  have efirst : ver8 ++ [32] ++ statusT n = ver9 ++ statusT n := rfl
  have hzs := str_size (statusT n)
  have hsl := statusT_len n hn0 hn1
  have HFL : Hid ((ver9 ++ statusT n).length ≤ 3000) := by show _ ≤ _; rw [List.length_append]; have : ver9.length = 9 := rfl; omega
  obtain ⟨ks, hks⟩ : ∃ ks, ks = (statusT n).length := ⟨_, rfl⟩
  rw [← hks] at hzs hsl
  rw [efirst] at HR
  unfold sAgg
  generalize str b = sb at *
  clear hR hk hr hb hz E e9 hks efirst
  go_enter Tryz.func22, Tryz.ntmps22
  go_upto_region 1 with fail
  generalize hA : w.heap.size = A at *
  generalize w.alloc (.cells #[.int .i64 n, .slice ao k c, .string sb] 39) = w0 at *
  obtain ⟨c0, c1, c2⟩ := HS0.out.cells
  go_wp2_with fail
  refine (HIS.out w0).mono ?_
  rintro e w1 ⟨rfl, h1⟩
  have h2 := h1.symm
  subst h2
  clear h1 HIS
  by_cases hs : statusB n = true
  · have HQ : Hid (R = writtenR (ver9 ++ statusT n) fs b) := by show _ = _; rw [HR.out, if_pos hs]
    have HW2 := hide (fun W hrr EE => HW.out (ver9 ++ statusT n) W HFL.out hrr EE)
    rw [← HQ.out] at HW2
    rw [hs]
    generalize str (ver9 ++ statusT n) = sf at *
    generalize str (statusT n) = ss at *
    clear hs HR HW HFL
    have hadd := add_strU (x := (⟨#[72, 84, 84, 80, 47, 49, 46, 49, 32]⟩ : ByteArray)) (y := ss) (by have : (⟨#[72, 84, 84, 80, 47, 49, 46, 49, 32]⟩ : ByteArray).size = 9 := rfl; omega)
    rw [hap] at hadd
    cases R with
    | ok t =>
      rw [show wAns (.ok t) = .tuple #[.string (str t), .int .i64 0] from rfl] at HW2
      go_upto_region 3 with fail
      go_region_held3 (fun W => W.cell? ⟨A, 0, none⟩ = some (.int .i64 n) ∧ W.cell? ⟨A, 1, none⟩ = some (.slice ao k c) ∧ W.cell? ⟨A, 2, none⟩ = some (.string sb)) (go_keep) (first
        | (go_at_call 51; refine (HST.out _ (HE.out.keep (below_drewN (hA ▸ HB0.out) 1))).mono ?_; rintro e w3 ⟨rfl, hb3⟩; have HB3 : Hid (Below w0.heap.size w0 w3) := below_undrewN1 hb3; clear hb3; have k0 := cell_kept c0 HB3.out; have k1 := cell_kept c1 HB3.out; have k2 := cell_kept c2 HB3.out; have HB4 := hide (HB0.out.trans (HB3.out.mono (hA ▸ HB0.out.size))))
        | (go_at_call 49; refine (HW2.out _ (HRow.out.keep (hA ▸ HB4.out)) (HE.out.keep (hA ▸ HB4.out))).mono ?_; rintro e w5 ⟨rfl, hb5⟩; have HB5 : Hid (Below A w w5) := HB4.out.trans (hb5.mono (hA ▸ HB4.out.size)); have HB6 := hide hb5; clear hb5; have q0 := cell_kept k0 HB6.out; have q1 := cell_kept k1 HB6.out; have q2 := cell_kept k2 HB6.out))
      go_wp2
      go_ret2
      exact ⟨rfl, hA ▸ HB5.out⟩
    | error x =>
      rw [show wAns (.error x) = .tuple #[.string { data := #[] }, .int .i64 (x : Int)] from rfl] at HW2
      go_upto_region 3 with fail
      go_region_held3 (fun W => W.cell? ⟨A, 0, none⟩ = some (.int .i64 n) ∧ W.cell? ⟨A, 1, none⟩ = some (.slice ao k c) ∧ W.cell? ⟨A, 2, none⟩ = some (.string sb)) (go_keep) (first
        | (go_at_call 51; refine (HST.out _ (HE.out.keep (below_drewN (hA ▸ HB0.out) 1))).mono ?_; rintro e w3 ⟨rfl, hb3⟩; have HB3 : Hid (Below w0.heap.size w0 w3) := below_undrewN1 hb3; clear hb3; have k0 := cell_kept c0 HB3.out; have k1 := cell_kept c1 HB3.out; have k2 := cell_kept c2 HB3.out; have HB4 := hide (HB0.out.trans (HB3.out.mono (hA ▸ HB0.out.size))))
        | (go_at_call 49; refine (HW2.out _ (HRow.out.keep (hA ▸ HB4.out)) (HE.out.keep (hA ▸ HB4.out))).mono ?_; rintro e w5 ⟨rfl, hb5⟩; have HB5 : Hid (Below A w w5) := HB4.out.trans (hb5.mono (hA ▸ HB4.out.size)); have HB6 := hide hb5; clear hb5; have q0 := cell_kept k0 HB6.out; have q1 := cell_kept k1 HB6.out; have q2 := cell_kept k2 HB6.out))
      go_wp2
      go_ret2
      exact ⟨rfl, hA ▸ HB5.out⟩
  · have hsf : statusB n = false := Bool.eq_false_iff.2 hs
    have HQ : Hid (R = .error 156) := by show _ = _; rw [HR.out, if_neg hs]
    rw [hsf]
    go_wp2
    go_ret2
    exact ⟨by rw [HQ.out]; rfl, hA ▸ HB0.out⟩
end Go.Proofs.YtaenccjlokiejaaGreatDoor
