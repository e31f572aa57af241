/- The contracts of frame.PutText and frame.Text: every row of bytes, every text, every bound. -/
import Derived.Test.YtmgppjfohabdmabDoorUint
import Derived.Test.YtmgppjfohabdmabDoorSmall
import Derived.Lib.AppendStr
import Derived.Laws.IdiomStrings
namespace Go.Proofs.YtmgppjfohabdmabDoor
open Go.RowKit

/-- A text's bytes. -/
def sbytes (s : ByteArray) : List Nat := s.data.toList.map UInt8.toNat
theorem sbytes_length (s : ByteArray) : (sbytes s).length = s.size := by unfold sbytes; rw [List.length_map, Array.length_toList]; rfl
theorem sbytes_lt (s : ByteArray) : ∀ x ∈ sbytes s, x < 256 := by
  intro x hx
  obtain ⟨b, _, rfl⟩ := List.mem_map.1 hx
  exact b.toNat_lt
theorem sbytes_bstr {xs : List Nat} (hx : ∀ x ∈ xs, x < 256) : sbytes (bstr xs) = xs := by
  simp only [sbytes, bstr, List.map_map]
  conv => rhs; rw [← List.map_id xs]
  apply List.map_congr_left
  intro x hm
  have := hx x hm
  simp
  omega
theorem bstr_sbytes (s : ByteArray) : bstr (sbytes s) = s := by
  cases s
  simp [sbytes, bstr, Function.comp_def]
theorem strCells_eq (s : ByteArray) : Lib.strCells s = (sbytes s).map bv := by
  simp [Lib.strCells, sbytes, bv]
theorem wpList_append_text {w : World} {ops : Array Oper} {rest : List Oper} {o : Oper} {a : Act} {Q : Exit → Act → World → Prop} (hgd : o.guard = none) (sl x : Operand)
    (ho : o.op = .call { callee := .builtin .append, args := #[sl, x], argTypes := #[22, 9] }) (B : Nat) (v : Value) (xs : List Nat) (hs : a.eval sl = v) (hown : Own w B v xs)
    (s : ByteArray) (hx : a.eval x = .string s) (hsz : xs.length + s.size ≤ 140737488355328) (hB : B ≤ w.heap.size)
    (h : ∀ v' w', Own w' B v' (xs ++ sbytes s) → w.grownBy w' v.ownBlock → wpList Tryd.prog ops Q rest (a.put o.dst v') w') : wpList Tryd.prog ops Q (o :: rest) a w := by
  obtain ⟨i0, hi, hz0, hz1, hz2⟩ := info_parts info8
  refine Lib.wpList_append_own_string _ hgd sl x 22 9 ho B 5 i0 Tryd.underlying22 Tryd.underlying9 hi hz0 hz1 hz2 v xs.length (xs.map bv) hs hown s hx (by unfold maxLen; omega) hsz hB ?_
  intro v' w' h1 h2 _
  refine h v' w' ?_ h2
  unfold Own
  rw [List.length_append, sbytes_length, List.map_append, ← strCells_eq]
  exact h1
theorem conv_text (w : World) (s : ByteArray) : ∃ c w', (convert 9 22 (.string s)).run Tryd.prog w = .ok (.slice (some ⟨w.heap.size, 0, none⟩) s.size c) w' ∧ Row w' (some ⟨w.heap.size, 0, none⟩) (sbytes s) ∧ Below w.heap.size w w' := by
  refine ⟨_, _, run_bytes_of_string w 9 22 5 s Tryd.underlying9 Tryd.underlying22 Tryd.underlying5, ?_, ((Below.refl _ _).drew).alloc (Nat.le_refl _) _⟩
  refine .inr ⟨_, _, rfl, fun i hi => ?_⟩
  rw [sbytes_length] at hi
  have hi2 : i < s.data.size := hi
  have e : (⟨w.heap.size, 0 + i, none⟩ : Addr) = ⟨w.drew.heap.size, i, none⟩ := by simp
  rw [e, World.cell?_alloc_mark, bytesRow_at s _ i hi2]
  simp [sbytes, List.getD, Array.getElem?_eq_getElem hi2]

set_option maxRecDepth 100000 in
theorem putText_any (n c : Nat) (ao : Option Addr) (xs : List Nat) (s : ByteArray) (w : World) (hn : n = xs.length) (hl : n ≤ 140737488351232) (hs : n + s.size ≤ 140737488355000) (hr : Row w ao xs) :
    Calls Tryd.prog 22 #[.slice ao n c, .string s] w fun e w' => ∃ ro rn rc, e = .returned (.slice ro rn rc) ∧ Hid (Made w w' ro rn rc (xs ++ uenc s.size ++ sbytes s)) := by
  have HR : Hid (Row w ao xs) := hr
  have HN : Hid (n = xs.length) := hn
  clear hr hn
  go_enter Tryd.func22, Tryd.ntmps22
  go_wp2_with fail
  refine (copyWithRoom_n n c (10 + s.size) _ (by omega) ao xs w HN.out (by omega) (by omega) HR.out).mono ?_
  rintro e w1 ⟨rfl, h1⟩
  have HO1 : Hid (Own w1 w.heap.size (.slice (some ⟨w.heap.size, 0, none⟩) n (n + (10 + s.size))) xs) := h1.out.1.own HN.out (by simp) (Nat.le_refl _) (by unfold maxLen; omega)
  have HL1 : Hid (Below w.heap.size w w1) := h1.out.2
  clear h1
  go_wp2_with fail
  refine (appendUint_any s.size w.heap.size n _ _ xs w1 (by omega) HN.out (by omega) HL1.out.size HO1.out).mono ?_
  rintro e w2 ⟨r, rfl, h2⟩
  have HO2 : Hid (Own w2 w.heap.size r (xs ++ uenc s.size)) := h2.out.1
  have HL2 : Hid (Below w.heap.size w w2) := HL1.out.trans h2.out.2
  have hul := uenc_length s.size
  have hxn := HN.out
  clear h2 HO1
  go_wp2_with (first | (at_builtin; refine wpList_append_text rfl _ _ rfl w.heap.size _ (xs ++ uenc s.size) rfl HO2.out s rfl ?hsz HL2.out.size ?_) | fail)
  case hsz => rw [List.length_append]; omega
  rintro v3 w3 hown3 hgr3
  have HL3 : Hid (Below w.heap.size w w3) := HL2.out.grown hgr3 HL2.out.size HO2.out.ge
  obtain ⟨ro, rc, hrr, hmd⟩ := made_of (w := w) (xs := xs ++ uenc s.size ++ sbytes s) (by first | exact hown3 | (rw [List.append_assoc]; exact hown3)) HL3.out
  have HM : Hid (Made w w3 ro (xs ++ uenc s.size ++ sbytes s).length rc (xs ++ uenc s.size ++ sbytes s)) := hmd
  clear hmd hown3 hgr3
  subst hrr
  generalize (xs ++ uenc s.size ++ sbytes s).length = rn at *
  go_wp2
  go_ret
  exact ⟨ro, rn, rc, rfl, HM⟩

/-- What Text answers: the bytes, how many were read, the error. -/
def textOf (xs : List Nat) (most : Int) : List Nat × Nat × Nat :=
  if most < 0 then ([], 0, 2)
  else if (uread xs).2.2 ≠ 0 then ([], 0, (uread xs).2.2)
  else if most < ((uread xs).1 : Int) then ([], 0, 1)
  else if xs.length - (uread xs).2.1 < (uread xs).1 then ([], 0, 3)
  else ((xs.drop (uread xs).2.1).take (uread xs).1, (uread xs).2.1 + (uread xs).1, 0)
theorem slice_text (b off n cap k v : Nat) (xs : List Nat) (hk : k + v ≤ n) (hnc : n ≤ cap) :
    ∃ ao, (∀ w, (Instr.slice 22 (.slice (some ⟨b, off, none⟩) n cap) (some (.int .i64 (k : Int))) (some (.int .i64 ((k : Int) + (v : Int)))) none).run Tryd.prog w = .ok (.slice ao v (cap - k)) w) ∧
      (∀ w, n = xs.length → Row w (some ⟨b, off, none⟩) xs → Row w ao ((xs.drop k).take v)) := by
  refine ⟨if cap = k then some ⟨b, off, none⟩ else some ⟨b, off + k, none⟩, fun w => ?_, fun w hn hr => ?_⟩
  · rw [run_slice_lh w 22 (some ⟨b, off, none⟩) n cap underBytes .i64 .i64 (k : Int) ((k : Int) + (v : Int)) (by omega) (by omega) (by omega), sizeRun]
    have e : ((k : Int) + (v : Int)).toNat = k + v := by omega
    simp [Result.andThen, sliced, add_none, e]
  · by_cases h : cap = k
    · have h0 : v = 0 := by omega
      subst h0; exact .inl (by simp)
    · rw [if_neg h]; exact (hr.dropN k).takeN v
set_option maxHeartbeats 800000 in
set_option maxRecDepth 100000 in
theorem text_any (n cap : Nat) (ao : Option Addr) (most : Int) (xs : List Nat) (w : World) (hn : n = xs.length) (hnc : n ≤ cap) (hl : n ≤ 140737488351232) (hm : -9223372036854775808 ≤ most ∧ most ≤ 9223372036854775807) (hx : ∀ x ∈ xs, x < 256) (hr : Row w ao xs) :
    Calls Tryd.prog 23 #[.slice ao n cap, .int .i64 most] w fun e w' => e = .returned (.tuple #[.string (bstr (textOf xs most).1), .int .i64 (((textOf xs most).2.1 : Nat) : Int), .int .i64 (((textOf xs most).2.2 : Nat) : Int)]) ∧ w' = w := by
  have HX : Hid (∀ x ∈ xs, x < 256) := hx
  have HR : Hid (Row w ao xs) := hr
  have HN : Hid (n = xs.length) := hn
  by_cases h0 : most < 0
  · have HE : Hid (textOf xs most = ([], 0, 2)) := by show _ = _; unfold textOf; rw [if_pos h0]
    rw [HE.out]
    clear hx hr hn
    go_enter Tryd.func23, Tryd.ntmps23
    go_wp2
    go_ret3
    exact ⟨rfl, rfl⟩
  · obtain ⟨rv, rk, re, hu⟩ : ∃ rv rk re, uread xs = (rv, rk, re) := ⟨_, _, _, rfl⟩
    have hrv : rv < 18446744073709551616 := by have := uread_lt xs; rw [hu] at this; exact this
    have hend : re = 0 → rk ≤ n ∧ 0 < rk := fun h => by
      have := udec_end xs 0 0
      unfold uread at hu
      rw [hu] at this
      have := this h
      simp only at this
      omega
    have HU : Hid (uread xs = (rv, rk, re)) := hu
    have HE : Hid (textOf xs most = if re ≠ 0 then ([], 0, re) else if most < (rv : Int) then ([], 0, 1) else if n - rk < rv then ([], 0, 3) else ((xs.drop rk).take rv, rk + rv, 0)) := by
      show _ = _
      unfold textOf
      rw [if_neg h0, hu, hn]
    rw [HE.out]
    clear hx hr hn hu HE
    by_cases he : re = 0
    · obtain ⟨hk1, hk2⟩ := hend he
      subst he
      rw [if_neg (by simp)]
      have hne : (((0 : Nat) : Int) != 0) = false := by decide
      clear hend
      by_cases hb1 : most < (rv : Int)
      · rw [if_pos hb1]
        go_enter Tryd.func23, Tryd.ntmps23
        go_wp2_with fail
        refine (uint_any n cap ao xs w HN.out hl HX.out HR.out).mono ?_
        rintro e w1 ⟨rfl, rfl⟩
        rw [HU.out]
        go_wp2
        go_ret3
        exact ⟨rfl, rfl⟩
      · rw [if_neg hb1]
        by_cases hb2 : n - rk < rv
        · rw [if_pos hb2]
          go_enter Tryd.func23, Tryd.ntmps23
          go_wp2_with fail
          refine (uint_any n cap ao xs w HN.out hl HX.out HR.out).mono ?_
          rintro e w1 ⟨rfl, rfl⟩
          rw [HU.out]
          go_wp2
          go_ret3
          exact ⟨rfl, rfl⟩
        · rw [if_neg hb2]
          obtain ⟨b, off, hao⟩ := HR.out.form (by have := HN.out; omega)
          obtain ⟨lo, hsl, hlo⟩ := slice_text b off n cap rk rv xs (by omega) hnc
          have HLO : Hid (Row w lo ((xs.drop rk).take rv)) := hlo w HN.out (by rw [← hao]; exact HR.out)
          have hcv : (convert 22 9 (.slice lo rv (cap - rk))).run Tryd.prog w = .ok (.string (bstr ((xs.drop rk).take rv))) w := by
            have := conv_row (cap - rk) HLO.out
            rwa [show ((xs.drop rk).take rv).length = rv by have := HN.out; simp; omega] at this
          clear hlo
          generalize bstr ((xs.drop rk).take rv) = out at *
          go_enter Tryd.func23, Tryd.ntmps23
          go_wp2_with fail
          refine (uint_any n cap _ xs w HN.out hl HX.out (by first | exact HR.out | (rw [← hao]; exact HR.out))).mono ?_
          rintro e w1 ⟨rfl, rfl⟩
          rw [HU.out]
          go_wp2
          go_ret3
          exact ⟨by go_num, rfl⟩
    · rw [if_pos he]
      have hne : (((re : Nat) : Int) != 0) = true := by rw [bne_iff_ne]; omega
      clear hend he
      go_enter Tryd.func23, Tryd.ntmps23
      go_wp2_with fail
      refine (uint_any n cap ao xs w HN.out hl HX.out HR.out).mono ?_
      rintro e w1 ⟨rfl, rfl⟩
      rw [HU.out]
      go_wp2
      go_ret3
      exact ⟨rfl, rfl⟩
end Go.Proofs.YtmgppjfohabdmabDoor
