/- The walk of the law FormJoins: every two texts: true, and nothing old turns. -/
import Derived.Test.YtebcodbmkphgaabDoorFAgainLaw
import Derived.Test.YtebcodbmkphgaabDoorAppPairs
import Derived.BigFrame
namespace Go.Proofs.YtebcodbmkphgaabDoor
open Go.RowKit

theorem wpList_append_pairs_g {w : World} {ops : Array Oper} {rest : List Oper} {o : Oper} {a : Act} {Q : Exit → Act → World → Prop} {t st : TypeId} {i0 : TypeInfo} (hw : Region.wanted o (yielded ops a.tmps) = true) (s x : Operand)
    (ho : o.op = .call { callee := .builtin .append, args := #[s, x], argTypes := #[st, st] }) (hst : Tryd.prog.underlying st = some (.slice t)) (hi : Tryd.prog.info? t = some i0) (hz0 : i0.zero = some (.agg #[.string { data := #[] }, .string { data := #[] }])) (hz1 : i0.size = 2) (hz2 : i0.bytes = 32)
    (B : Nat) (v : Value) (l r : List Two) (hs : a.eval s = v) (hown : POwn t w B v l)
    (ao : Option Addr) (n c : Nat) (hn : n = r.length) (hx : a.eval x = .slice ao n c) (hr : PRow w ao r) (hsz : (l.length + r.length) * 32 ≤ 140737488355328) (hB : B ≤ w.heap.size)
    (h : ∀ v' w', POwn t w' B v' (l ++ r) → w.grownBy w' v.ownBlock → wpList Tryd.prog ops Q rest (a.put o.dst v') w') : wpList Tryd.prog ops Q (o :: rest) a w := by
  refine BigFrame.wpList_want hw fun K hK => ?_
  obtain ⟨v', w', hrun, h1, h2⟩ := run_append_pairs hst hi hz0 hz1 hz2 hown ao c hr hsz hB o.type
  subst hn
  unfold Oper.wp
  simp [execOp, ho, resolve, invoke, builtin, hs, hx, hrun, Result.andThen]
  exact hK _ _ (h v' w' h1 h2)

/-- What a body gives that is read: its length and what parse says. -/
theorem parOut_ok {xs : List Nat} {l : List Two} {pl : Nat} (h : parOut xs = (l, 0, pl)) : xs.length ≤ 16384 ∧ parse xs 0 [] = .ok l := by
  unfold parOut at h
  split at h
  · cases h
  · rename_i hx
    refine ⟨by omega, ?_⟩
    cases hp : parse xs 0 [] with
    | ok r => rw [hp] at h; simp only [outOf, Prod.mk.injEq] at h; rw [h.1]
    | error x =>
      obtain ⟨a, b⟩ := x
      rw [hp] at h
      simp only [outOf, Prod.mk.injEq] at h
      exact absurd h.2.1 (parse_err _ _ _ _ _ _ (Nat.le_refl _) hp).1
theorem parOut_join {xs ys : List Nat} {l m : List Two} {p q : Nat} (hx : parOut xs = (l, 0, p)) (hy : parOut ys = (m, 0, q)) :
    (16384 < xs.length + ys.length + 1 → parOut (xs ++ 38 :: ys) = ([], 1, 0)) ∧
    (xs.length + ys.length + 1 ≤ 16384 → 64 < l.length + m.length → ∃ k, parOut (xs ++ 38 :: ys) = ([], 32, k)) ∧
    (xs.length + ys.length + 1 ≤ 16384 → l.length + m.length ≤ 64 → parOut (xs ++ 38 :: ys) = (l ++ m, 0, 0)) := by
  have hlen : (xs ++ 38 :: ys).length = xs.length + ys.length + 1 := by simp; omega
  have h1 := (parOut_ok hx).2
  have h2 := (parOut_ok hy).2
  have hll : l.length ≤ 64 := by have := (parOut_len xs).1; rw [hx] at this; exact this
  obtain ⟨m', hm', hb⟩ := parse_behind _ _ _ _ _ (Nat.le_refl _) h2
  rw [List.nil_append] at hm'
  subst hm'
  refine ⟨fun h => ?_, fun h h64 => ?_, fun h h64 => ?_⟩
  · unfold parOut; rw [if_pos (by omega)]
  · obtain ⟨k, hk⟩ := (hb (0 + xs.length + 1) l hll).2 h64
    refine ⟨k, ?_⟩
    unfold parOut
    rw [if_neg (by omega), parse_join _ _ _ _ _ (Nat.le_refl _), h1]
    simp only
    rw [hk]; rfl
  · have hk := (hb (0 + xs.length + 1) l hll).1 h64
    unfold parOut
    rw [if_neg (by omega), parse_join _ _ _ _ _ (Nat.le_refl _), h1]
    simp only
    rw [hk]; rfl
theorem sbytes_append (a b : ByteArray) : sbytes (a ++ b) = sbytes a ++ sbytes b := by
  unfold sbytes
  rw [ByteArray.data_append]
  simp

set_option linter.unusedSimpArgs false in
set_option maxHeartbeats 1600000 in
set_option maxRecDepth 100000 in
theorem formJoins_walk (a b : ByteArray) (w : World) (hsa : a.size ≤ 9223372036854775807) (hsb : b.size ≤ 9223372036854775807) (hM : MaxL w) :
    Calls Tryd.prog 5 #[.string a, .string b] w fun e w' => e = .returned (.bool true) ∧ Below w.heap.size w w' := by
  have HM : Hid (MaxL w) := hM
  have HSA : Hid (a.size ≤ 9223372036854775807) := hsa
  have HSB : Hid (b.size ≤ 9223372036854775807) := hsb
  obtain ⟨l, er, pl, HO⟩ : ∃ l er pl, Hid (parOut (sbytes a) = (l, er, pl)) := ⟨_, _, _, rfl⟩
  obtain ⟨m, fr, ql, HP⟩ : ∃ l er pl, Hid (parOut (sbytes b) = (l, er, pl)) := ⟨_, _, _, rfl⟩
  obtain ⟨n1, hn1⟩ : ∃ n, n = l.length := ⟨_, rfl⟩
  obtain ⟨n2, hn2⟩ : ∃ n, n = m.length := ⟨_, rfl⟩
  have HN1 : Hid (n1 = l.length) := hn1
  have HN2 : Hid (n2 = m.length) := hn2
  have hl1 : n1 ≤ 64 := by have := (parOut_len (sbytes a)).1; rw [HO.out] at this; rw [hn1]; exact this
  have hl2 : n2 ≤ 64 := by have := (parOut_len (sbytes b)).1; rw [HP.out] at this; rw [hn2]; exact this
  obtain ⟨i0, hi, hz0, hz1, hz2⟩ := info_parts infoPair
  clear hn1 hn2 hM hsa hsb
  go_enter Tryd.func5, Tryd.ntmps5
  go_wp2_with fail
  refine (parse_m a l er pl n1 w HO.out HN1.out HSA.out HM.out).mono ?_
  rintro e w1 ⟨f1, c1, rfl, h1⟩
  have HB1 : Hid (Below w.heap.size w w1) := h1.out.2
  have HR1 : Hid (PRow w1 f1 l) := h1.out.1.row
  have hs1 := HB1.out.size
  clear h1
  go_wp2_with fail
  refine (parse_m b m fr ql n2 w1 HP.out HN2.out HSB.out (HM.out.keep HB1.out)).mono ?_
  rintro e w2 ⟨f2, c2, rfl, h2⟩
  have HB2 : Hid (Below w.heap.size w w2) := HB1.out.trans (h2.out.2.mono hs1)
  have HR2 : Hid (PRow w2 f2 m) := h2.out.1.row
  have HR12 : Hid (PRow w2 f1 l) := HR1.out.keep h2.out.2
  have hs2 := HB2.out.size
  clear h2 HR1
  by_cases he : er = 0
  · subst he
    by_cases hf : fr = 0
    · subst hf
      have ha := (parOut_ok HO.out).1
      have hb := (parOut_ok HP.out).1
      rw [sbytes_length] at ha hb
      obtain ⟨a1, HA1⟩ : ∃ a1, Hid (a1 = a ++ { data := #[38] }) := ⟨_, hide rfl⟩
      obtain ⟨t, HT⟩ : ∃ t, Hid (t = a ++ { data := #[38] } ++ b) := ⟨_, hide rfl⟩
      have hz38 : ({ data := #[38] } : ByteArray).size = 1 := rfl
      have p1 : ∀ w, (Op.stringOp .add a { data := #[38] }).run Tryd.prog w = .ok (.string a1) w := fun w => by
        rw [HA1.out]; exact run_string_add_sum (P := Tryd.prog) (w := w) a { data := #[38] } (by rw [hz38]; omega)
      have p2 : ∀ w, (Op.stringOp .add a1 b).run Tryd.prog w = .ok (.string t) w := fun w => by
        rw [HT.out, HA1.out]; exact run_string_add_sum (P := Tryd.prog) (w := w) _ b (by rw [ByteArray.size_append, hz38]; omega)
      have HTB : Hid (sbytes t = sbytes a ++ 38 :: sbytes b) := by
        show _ = _
        rw [HT.out, sbytes_append, sbytes_append, List.append_assoc]; rfl
      have HTL : Hid (t.size ≤ 9223372036854775807) := by
        show _ ≤ _
        rw [HT.out, ByteArray.size_append, ByteArray.size_append, hz38]; omega
      have HJ := hide (parOut_join HO.out HP.out)
      rw [sbytes_length, sbytes_length, ← HTB.out, ← HN1.out, ← HN2.out] at HJ
      clear hz38
      go_wp2_with (go_at_call 9; refine (num_any _ _).mono ?_; rintro e wn ⟨rfl, rfl⟩)
      by_cases hN : 16384 < a.size + b.size + 1
      · refine (parse_m t [] 1 0 0 _ (HJ.out.1 hN) rfl HTL.out (HM.out.keep HB2.out)).mono ?_
        rintro e w3 ⟨f3, c3, rfl, h3⟩
        have HB3 : Hid (Below w.heap.size w w3) := HB2.out.trans (h3.out.2.mono hs2)
        clear h3
        have hNi : (16384 : Int) < (a.size : Int) + (b.size : Int) + 1 := by omega
        go_wp2_with (go_at_call 9; refine (num_any _ _).mono ?_; rintro e wn ⟨rfl, rfl⟩)
        go_ret
        exact ⟨rfl, HB3.out⟩
      · have hNi : (a.size : Int) + (b.size : Int) + 1 ≤ 16384 := by omega
        by_cases hm : 64 < n1 + n2
        · obtain ⟨k, HK⟩ : ∃ k, Hid (parOut (sbytes t) = ([], 32, k)) := HJ.out.2.1 (by omega) hm
          refine (parse_m t [] 32 k 0 _ HK.out rfl HTL.out (HM.out.keep HB2.out)).mono ?_
          rintro e w3 ⟨f3, c3, rfl, h3⟩
          have HB3 : Hid (Below w.heap.size w w3) := HB2.out.trans (h3.out.2.mono hs2)
          clear h3
          have hmi : (64 : Int) < (n1 : Int) + (n2 : Int) := by omega
          go_wp2_with (go_at_call 9; refine (num_any _ _).mono ?_; rintro e wn ⟨rfl, rfl⟩)
          go_ret
          exact ⟨rfl, HB3.out⟩
        · have hmi : (n1 : Int) + (n2 : Int) ≤ 64 := by omega
          have HLM : Hid (n1 + n2 = (l ++ m).length) := by show _ = _; rw [List.length_append, ← HN1.out, ← HN2.out]
          refine (parse_m t (l ++ m) 0 0 (n1 + n2) _ (HJ.out.2.2 (by omega) (by omega)) HLM.out HTL.out (HM.out.keep HB2.out)).mono ?_
          rintro e w3 ⟨f3, c3, rfl, h3⟩
          have HB3 : Hid (Below w.heap.size w w3) := HB2.out.trans (h3.out.2.mono hs2)
          have HR3 : Hid (PRow w3 f3 (l ++ m)) := h3.out.1.row
          have HR13 : Hid (PRow w3 f1 l) := HR12.out.keep h3.out.2
          have HR23 : Hid (PRow w3 f2 m) := HR2.out.keep h3.out.2
          have hs3 := HB3.out.size
          clear h3 HR12 HR2
          go_wp2_with (first | (go_at_call 9; refine (num_any _ _).mono ?_; rintro e wn ⟨rfl, rfl⟩) | (at_builtin; refine wpList_append_pairs_g (t := 49) (st := 22) (i0 := i0) (by rfl) (.tmp 68) (.tmp 69) rfl Tryd.underlying22 hi hz0 hz1 hz2 _ _ [] l rfl (pown_new _ _ _ (Nat.le_refl _)) f1 n1 c1 HN1.out rfl (HR13.out.keep (below_new _ _)) (by rw [← HN1.out]; simp; omega) (by simp) ?_) | fail)
          intro v4 w4 hown4 hgrow4
          have HO4 : Hid (POwn 49 w4 wn.heap.size v4 l) := hown4
          have hb4 : Below wn.heap.size wn w4 := ((Below.refl _ _).alloc (Nat.le_refl _) _).grown hgrow4 (by simp) (fun k hk => by simp [Value.ownBlock] at hk; omega)
          have HB4 : Hid (Below w.heap.size w w4) := HB3.out.trans (hb4.mono hs3)
          have HR24 : Hid (PRow w4 f2 m) := HR23.out.keep hb4
          have HBn4 := hide hb4
          have hs4 := hb4.size
          clear hown4 hgrow4 hb4 HR23
          go_wp2_with (first | (at_builtin; refine wpList_append_pairs_g (t := 49) (st := 22) (i0 := i0) (by rfl) (.tmp 70) (.tmp 71) rfl Tryd.underlying22 hi hz0 hz1 hz2 wn.heap.size v4 l m rfl HO4.out f2 n2 c2 HN2.out rfl HR24.out (by rw [← HN1.out, ← HN2.out]; omega) hs4 ?_) | fail)
          intro v5 w5 hown5 hgrow5
          have hb5 : Below wn.heap.size wn w5 := HBn4.out.grown hgrow5 hs4 HO4.out.ge
          have HB5 : Hid (Below w.heap.size w w5) := HB3.out.trans (hb5.mono hs3)
          have HR35 : Hid (PRow w5 f3 (l ++ m)) := HR3.out.keep hb5
          obtain ⟨f5, c5, hv, _, hr5, _⟩ := POwn.shape hown5
          rw [← HLM.out] at hv
          subst hv
          have HR5 : Hid (PRow w5 f5 (l ++ m)) := hr5
          have hs5 := HB5.out.size
          clear hown5 hgrow5 hb5 hr5
          go_wp2_with fail
          refine (pairs_true (n1 + n2) c3 c5 f3 f5 (l ++ m) _ HLM.out (by omega) HR35.out HR5.out).mono ?_
          rintro e w6 ⟨rfl, k6, rfl⟩
          go_wp2_with fail
          refine (live_true _ (HM.out.keep (below_drewN HB5.out _))).mono ?_
          rintro e w7 ⟨rfl, hb7⟩
          have HB7 : Hid (Below w.heap.size w w7) := (below_drewN HB5.out k6).trans (hb7.mono (by simp; omega))
          clear hb7
          go_wp2
          go_ret
          exact ⟨rfl, HB7.out⟩
    · have hfi : ((fr : Int) != 0) = true := by rw [bne_iff_ne]; omega
      have HFr : Hid (fr ≠ 0) := hf
      clear hf
      go_wp2_with (go_at_call 9; refine (num_any _ _).mono ?_; rintro e wn ⟨rfl, rfl⟩)
      refine (live_true _ (HM.out.keep HB2.out)).mono ?_
      rintro e w7 ⟨rfl, hb7⟩
      have HB7 : Hid (Below w.heap.size w w7) := HB2.out.trans (hb7.mono hs2)
      go_wp2
      go_ret
      exact ⟨rfl, HB7.out⟩
  · have hei : ((er : Int) != 0) = true := by rw [bne_iff_ne]; omega
    have HEr : Hid (er ≠ 0) := he
    clear he
    go_wp2_with (go_at_call 9; refine (num_any _ _).mono ?_; rintro e wn ⟨rfl, rfl⟩)
    refine (live_true _ (HM.out.keep HB2.out)).mono ?_
    rintro e w7 ⟨rfl, hb7⟩
    have HB7 : Hid (Below w.heap.size w w7) := HB2.out.trans (hb7.mono hs2)
    go_wp2
    go_ret
    exact ⟨rfl, HB7.out⟩
end Go.Proofs.YtebcodbmkphgaabDoor
