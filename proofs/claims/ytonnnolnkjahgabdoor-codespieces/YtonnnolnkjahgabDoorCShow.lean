/- What is shown: the contract of Show. -/
import Derived.Test.YtonnnolnkjahgabDoorCNorm
import Derived.Test.YtonnnolnkjahgabDoorCJoin
import Derived.Test.YtonnnolnkjahgabDoorSteps2
namespace Go.Proofs.YtonnnolnkjahgabDoor
open Go.RowKit Go.Shelf

theorem conv_text (w : World) (s : ByteArray) : ∃ c w', (convert 9 22 (.string s)).run Tryd.prog w = .ok (.slice (some ⟨w.heap.size, 0, none⟩) s.size c) w' ∧ Row w' (some ⟨w.heap.size, 0, none⟩) (sbytes s) ∧ Below w.heap.size w w' ∧ s.size ≤ c := by
  refine ⟨_, _, run_bytes_of_string w 9 22 5 s Tryd.underlying9 Tryd.underlying22 Tryd.underlying5, ?_, ((Below.refl _ _).drew).alloc (Nat.le_refl _) _, grownCap_ge w _ 0 5⟩
  refine .inr ⟨_, _, rfl, fun i hi => ?_⟩
  rw [sbytes_length] at hi
  have hi2 : i < s.data.size := hi
  have e : (⟨w.heap.size, 0 + i, none⟩ : Addr) = ⟨w.drew.heap.size, i, none⟩ := by simp
  rw [e, World.cell?_alloc_mark, bytesRow_at s _ i hi2]
  simp [sbytes, List.getD, Array.getElem?_eq_getElem hi2]
theorem ofNat_toNat (l : List UInt8) : (l.map UInt8.toNat).map (fun n => UInt8.ofNat n) = l := by simp [Function.comp_def]
theorem extract_bstr (s : ByteArray) (a b : Nat) : s.extract a b = bstr (((sbytes s).take b).drop a) := by
  have e : (s.extract a b).data.toList = (s.data.toList.take b).drop a := by
    rw [ByteArray.data_extract, Array.toList_extract, List.extract_eq_take_drop, List.drop_take]
  have e2 : (bstr (((sbytes s).take b).drop a)).data.toList = (s.data.toList.take b).drop a := by
    unfold bstr sbytes
    rw [← List.map_take, ← List.map_drop]
    exact ofNat_toNat _
  have : (s.extract a b).data = (bstr (((sbytes s).take b).drop a)).data := Array.toList_inj.1 (e.trans e2.symm)
  exact ByteArray.ext this
theorem str_from (s : ByteArray) (k : Nat) (i : Int) (hi : i = (k : Int)) (hk : k ≤ s.size) (w : World) : (Instr.slice 9 (.string s) (some (.int .i64 i)) none none).run Tryd.prog w = .ok (.string (bstr ((sbytes s).drop k))) w := by
  subst hi
  rw [run_slice_string_l w 9 s Tryd.underlying9 .i64 (k : Int) (by omega) (by omega), extract_bstr, Int.toNat_natCast, List.take_of_length_le (by rw [sbytes_length]; exact Nat.le_refl _)]
theorem str_to (s : ByteArray) (k : Nat) (i : Int) (hi : i = (k : Int)) (hk : k ≤ s.size) (w : World) : (Instr.slice 9 (.string s) none (some (.int .i64 i)) none).run Tryd.prog w = .ok (.string (bstr ((sbytes s).take k))) w := by
  subst hi
  rw [run_slice_string_h w 9 s Tryd.underlying9 .i64 (k : Int) (by omega) (by omega), extract_bstr, Int.toNat_natCast, List.drop_zero]
section
variable {ops : Array Oper} {Q : Exit → Act → World → Prop}
/-- A step that makes a row of bytes. -/
def Mk (Q : Exit → Act → World → Prop) (o : Oper) (a : Act) (w : World) (d : Nat) (xs : List Nat) : Prop := ∀ K : Act → World → Prop, (∀ g c w', Row w' (some ⟨g, 0, none⟩) xs → Below w.heap.size w w' → xs.length ≤ c → K (a.put (some d) (.slice (some ⟨g, 0, none⟩) xs.length c)) w') → Oper.wp Tryd.prog o a w K Q
theorem mk_of {o : Oper} {a : Act} {w w' : World} {g c : Nat} {xs : List Nat} (d : Nat) (hd : o.dst = some d) (h : (execOp a.eval o).run Tryd.prog w = .ok (.value (.slice (some ⟨g, 0, none⟩) xs.length c)) w') (hr : Row w' (some ⟨g, 0, none⟩) xs) (hb : Below w.heap.size w w') (hc : xs.length ≤ c) : Mk Q o a w d xs := fun K hK => by
  unfold Oper.wp
  rw [h, Oper.upon_value]
  simp only [hd]
  exact hK _ _ _ hr hb hc
theorem mk_conv {o : Oper} {a : Act} {w : World} (d : Nat) (hd : o.dst = some d) (t : Operand) (ho : o.op = .convert 9 22 t) (xs : List Nat) (hx : ∀ x ∈ xs, x < 256) (hs : a.eval t = .string (bstr xs)) : Mk Q o a w d xs := by
  obtain ⟨c, w', h1, h2, h3, h4⟩ := conv_text w (bstr xs)
  rw [sbytes_bstr hx] at h2
  rw [bstr_size] at h1 h4
  exact mk_of d hd (by simp [execOp, ho, hs, h1, Result.andThen]) h2 h3 h4
theorem ready3 {i j k : Nat} {oi oj ok : Oper} {fuel : Nat} {listed : Array Bool} {a : Act} {w : World} (hr : Region.ready .any ops listed = [i, j, k]) (hi : ops[i]? = some oi) (hj : ops[j]? = some oj) (hk : ops[k]? = some ok)
    (gi : oi.guard = none) (gj : oj.guard = none) (gk : ok.guard = none)
    (h1 : ∀ K, (∀ a w, wpAny Tryd.prog .any ops Q fuel (listed.setIfInBounds i true) a w → K a w) → Oper.wp Tryd.prog oi a w K Q) (h2 : ∀ K, (∀ a w, wpAny Tryd.prog .any ops Q fuel (listed.setIfInBounds j true) a w → K a w) → Oper.wp Tryd.prog oj a w K Q) (h3 : ∀ K, (∀ a w, wpAny Tryd.prog .any ops Q fuel (listed.setIfInBounds k true) a w → K a w) → Oper.wp Tryd.prog ok a w K Q) : wpAny Tryd.prog .any ops Q (fuel + 1) listed a w :=
  wpAny_ready hr (by simp) (AllReady.cons hi (fun K hK => by rw [if_pos (by simp [Region.wanted, gi])]; exact h1 K hK) (AllReady.cons hj (fun K hK => by rw [if_pos (by simp [Region.wanted, gj])]; exact h2 K hK) (AllReady.cons hk (fun K hK => by rw [if_pos (by simp [Region.wanted, gk])]; exact h3 K hK) AllReady.nil)))
theorem ev_put_ne (a : Act) (d t : Nat) (v : Value) (h : d ≠ t) : (a.put (some d) v).eval (.tmp t) = a.eval (.tmp t) := by rw [ev_put, if_neg (fun e => h e.1)]
theorem ev_put_eq (a : Act) (d : Nat) (v : Value) (h : d < a.tmps.size) : (a.put (some d) v).eval (.tmp d) = v := by rw [ev_put, if_pos ⟨rfl, h⟩]
/-- A row of one byte, built. -/
theorem mk_one {o : Oper} {a : Act} {w : World} {n : Nat} (d : Nat) (hd : o.dst = some d) (h : (execOp a.eval o).run Tryd.prog w = .ok (.value (.slice (some ⟨w.heap.size, 0, none⟩) 1 1)) (w.alloc (.cells #[.int .u8 (n : Int)] 5))) {K : Act → World → Prop}
    (hK : ∀ g w', Row w' (some ⟨g, 0, none⟩) [n] → Below w.heap.size w w' → w'.heap[g]? = some (.cells #[.int .u8 (n : Int)] 5 (0, 0)) → w.heap.size ≤ g → K (a.put (some d) (.slice (some ⟨g, 0, none⟩) 1 1)) w') : Oper.wp Tryd.prog o a w K Q := by
  unfold Oper.wp
  rw [h, Oper.upon_value]
  simp only [hd]
  exact hK _ _ (row_one w n) (below_new w _) (heap_alloc_new w _) (Nat.le_refl _)
theorem mk_use {o : Oper} {a : Act} {w : World} {d : Nat} {xs : List Nat} (h : Mk Q o a w d xs) {K : Act → World → Prop} (hK : ∀ g c w', Row w' (some ⟨g, 0, none⟩) xs → Below w.heap.size w w' → xs.length ≤ c → K (a.put (some d) (.slice (some ⟨g, 0, none⟩) xs.length c)) w') : Oper.wp Tryd.prog o a w K Q := h K hK
theorem cell_freeze (w : World) (a : Addr) (n : Nat) (b : Addr) : (w.freeze a n).cell? b = w.cell? b := by
  unfold World.freeze
  split
  · rfl
  · simp only [World.cell?, Array.getElem?_modify]
    by_cases h : a.block = b.block
    · rw [if_pos h]
      cases hh : w.heap[b.block]? with
      | none => simp
      | some o => cases o <;> simp
    · rw [if_neg h]
theorem row_freeze {w : World} {ao : Option Addr} {xs : List Nat} (h : Row w ao xs) {w' : World} (he : ∀ p, w'.cell? p = w.cell? p) : Row w' ao xs := by
  rcases h with h | ⟨b, off, rfl, hc⟩
  · exact .inl h
  · exact .inr ⟨b, off, rfl, fun i hi => by rw [he]; exact hc i hi⟩
/-- The mark on a constant's bytes. -/
theorem mark_use {o : Oper} {a : Act} {w : World} {g n c : Nat} {C : Array Value} (d : Nat) (hd : o.dst = some d) (t : Operand) (ho : o.op = .convert 22 22 t) (hs : a.eval t = .slice (some ⟨g, 0, none⟩) n c) (hh : w.heap[g]? = some (.cells C 5 (0, 0))) {K : Act → World → Prop}
    (hK : ∀ w', (∀ p, w'.cell? p = w.cell? p) → (∀ (B : Nat) (u : World), Below B u w → B ≤ g → Below B u w') → K (a.put (some d) (.slice (some ⟨g, 0, none⟩) n c)) w') : Oper.wp Tryd.prog o a w K Q := by
  have hsh : w.shape? g = some (5, C.size) := by unfold World.shape?; rw [hh]
  have hrun : (convert 22 22 (.slice (some ⟨g, 0, none⟩) n c)).run Tryd.prog w = .ok (.slice (some ⟨g, 0, none⟩) n c) (w.freeze ⟨g, C.size, none⟩ 1) := by
    simp [convert, run_underlying Tryd.underlying22, run_underlying Tryd.underlying5, markStringish, hsh]
  have he : (execOp a.eval o).run Tryd.prog w = .ok (.value (.slice (some ⟨g, 0, none⟩) n c)) (w.freeze ⟨g, C.size, none⟩ 1) := by simp [execOp, ho, hs, hrun, Result.andThen]
  unfold Oper.wp
  rw [he, Oper.upon_value]
  simp only [hd]
  refine hK _ (cell_freeze w _ _) (fun B u h hB => ?_)
  refine ⟨h.os, h.tape, h.output, by simp [World.freeze]; exact h.size, fun k hk => ?_⟩
  rw [← h.block k hk]
  simp only [World.freeze, Nat.one_ne_zero, if_false, Array.getElem?_modify]
  rw [if_neg (by show ¬ g = k; omega)]
theorem ready2 {i j : Nat} {oi oj : Oper} {fuel : Nat} {listed : Array Bool} {a : Act} {w : World} (hr : Region.ready .any ops listed = [i, j]) (hi : ops[i]? = some oi) (hj : ops[j]? = some oj) (gi : oi.guard = none) (gj : oj.guard = none) (ki : ∀ K, (∀ a w, wpAny Tryd.prog .any ops Q fuel (listed.setIfInBounds i true) a w → K a w) → Oper.wp Tryd.prog oi a w K Q) (kj : ∀ K, (∀ a w, wpAny Tryd.prog .any ops Q fuel (listed.setIfInBounds j true) a w → K a w) → Oper.wp Tryd.prog oj a w K Q) : wpAny Tryd.prog .any ops Q (fuel + 1) listed a w :=
  wpAny_ready hr (by simp) (AllReady.cons hi (fun K hK => by rw [if_pos (by simp [Region.wanted, gi])]; exact ki K hK) (AllReady.cons hj (fun K hK => by rw [if_pos (by simp [Region.wanted, gj])]; exact kj K hK) AllReady.nil))
theorem ready1 {i : Nat} {oi : Oper} {fuel : Nat} {listed : Array Bool} {a : Act} {w : World} (hr : Region.ready .any ops listed = [i]) (hi : ops[i]? = some oi) (gi : oi.guard = none) (ki : ∀ K, (∀ a w, wpAny Tryd.prog .any ops Q fuel (listed.setIfInBounds i true) a w → K a w) → Oper.wp Tryd.prog oi a w K Q) : wpAny Tryd.prog .any ops Q (fuel + 1) listed a w :=
  wpAny_ready hr (by simp) (AllReady.cons hi (fun K hK => by rw [if_pos (by simp [Region.wanted, gi])]; exact ki K hK) AllReady.nil)
end
theorem psee3 (w : World) {a1 a2 a3 : Option Addr} {c1 c2 c3 : Nat} {x1 x2 x3 : List Nat} (h1 : Row w a1 x1) (h2 : Row w a2 x2) (h3 : Row w a3 x3) :
    PSee (w.alloc (.cells #[.slice a1 x1.length c1, .slice a2 x2.length c2, .slice a3 x3.length c3] 22)) w.heap.size 0 [⟨a1, c1, x1⟩, ⟨a2, c2, x2⟩, ⟨a3, c3, x3⟩] := by
  have hb := below_new w (.cells #[.slice a1 x1.length c1, .slice a2 x2.length c2, .slice a3 x3.length c3] 22)
  have hB := Bl.new w #[.slice a1 x1.length c1, .slice a2 x2.length c2, .slice a3 x3.length c3] 22
  intro i p hp
  rw [Nat.zero_add, hB.cell]
  match i, hp with
  | 0, hp => cases hp; exact ⟨rfl, h1.keep hb⟩
  | 1, hp => cases hp; exact ⟨rfl, h2.keep hb⟩
  | 2, hp => cases hp; exact ⟨rfl, h3.keep hb⟩
set_option linter.unusedSimpArgs false in
set_option maxHeartbeats 1000000 in
/-- The end of Show's last statement: the parts are laid side by side, joined, made a text. -/
theorem show_tail {ops : Array Oper} {Q : Exit → Act → World → Prop} {listed : Array Bool} {A : Act} {l SH : List Nat} {w W : World} {b1 b2 b3 c1 c2 c3 : Nat} {o8 o9 o10 o11 : Oper}
    (h8 : ops[8]? = some o8) (h9 : ops[9]? = some o9) (h10 : ops[10]? = some o10) (h11 : ops[11]? = some o11)
    (d8 : o8.dst = some 14) (d9 : o9.dst = some 15) (d10 : o10.dst = some 16) (d11 : o11.dst = some 2)
    (g8 : o8.guard = none) (g9 : o9.guard = none) (g10 : o10.guard = none) (g11 : o11.guard = none)
    (p8 : o8.op = .buildSlice 65 3 #[(0, .tmp 8), (1, .tmp 10), (2, .tmp 13)]) (p9 : o9.op = .call { callee := .value (.func 29), args := #[.tmp 14], argTypes := #[65] }) (p10 : o10.op = .convert 22 9 (.tmp 15)) (p11 : o11.op = .assign (.tmp 16))
    (r8 : Region.ready .any ops listed = [8]) (r9 : Region.ready .any ops (listed.setIfInBounds 8 true) = [9]) (r10 : Region.ready .any ops ((listed.setIfInBounds 8 true).setIfInBounds 9 true) = [10]) (r11 : Region.ready .any ops (((listed.setIfInBounds 8 true).setIfInBounds 9 true).setIfInBounds 10 true) = [11]) (r12 : Region.ready .any ops ((((listed.setIfInBounds 8 true).setIfInBounds 9 true).setIfInBounds 10 true).setIfInBounds 11 true) = [])
    (hsz : A.tmps.size = 17) (e8 : A.eval (.tmp 8) = .slice (some ⟨b1, 0, none⟩) (l.take 4).length c1) (e10 : A.eval (.tmp 10) = .slice (some ⟨b2, 0, none⟩) 1 c2) (e13 : A.eval (.tmp 13) = .slice (some ⟨b3, 0, none⟩) (l.drop 4).length c3)
    (q1 : Row W (some ⟨b1, 0, none⟩) (l.take 4)) (q2 : Row W (some ⟨b2, 0, none⟩) [45]) (q3 : Row W (some ⟨b3, 0, none⟩) (l.drop 4)) (hB : Below w.heap.size w W) (hl : l.length = 8) (hSH : SH = l.take 4 ++ [45] ++ l.drop 4)
    (hQ : ∀ g v W', Below w.heap.size w W' → Q .normal ((((A.put (some 14) g).put (some 15) v).put (some 16) (.string (bstr SH))).put (some 2) (.string (bstr SH))) W') : wpAny Tryd.prog .any ops Q 4 listed A W := by
  have hP : PSee (W.alloc (.cells #[.slice (some ⟨b1, 0, none⟩) (l.take 4).length c1, .slice (some ⟨b2, 0, none⟩) 1 c2, .slice (some ⟨b3, 0, none⟩) (l.drop 4).length c3] 22)) W.heap.size 0 [⟨some ⟨b1, 0, none⟩, c1, l.take 4⟩, ⟨some ⟨b2, 0, none⟩, c2, [45]⟩, ⟨some ⟨b3, 0, none⟩, c3, l.drop 4⟩] := psee3 W q1 q2 q3
  have hJ := joined_any W.heap.size 0 3 3 _ _ hP rfl (by omega) (by simp [flat]; omega)
  have hB2 := hB.trans ((below_new W (.cells #[.slice (some ⟨b1, 0, none⟩) (l.take 4).length c1, .slice (some ⟨b2, 0, none⟩) 1 c2, .slice (some ⟨b3, 0, none⟩) (l.drop 4).length c3] 22)).mono hB.size)
  have w8 : ∀ y, Region.wanted o8 y = true := fun y => by simp [Region.wanted, g8]
  have w9 : ∀ y, Region.wanted o9 y = true := fun y => by simp [Region.wanted, g9]
  have w10 : ∀ y, Region.wanted o10 y = true := fun y => by simp [Region.wanted, g10]
  have w11 : ∀ y, Region.wanted o11 y = true := fun y => by simp [Region.wanted, g11]
  refine step_one (w' := W.alloc (.cells #[.slice (some ⟨b1, 0, none⟩) (l.take 4).length c1, .slice (some ⟨b2, 0, none⟩) 1 c2, .slice (some ⟨b3, 0, none⟩) (l.drop 4).length c3] 22)) 14 (.slice (some ⟨W.heap.size, 0, none⟩) 3 3) h8 d8 r8 (w8 _) (by simp [execOp, p8, e8, e10, e13]; go_simp) ?_
  refine step_call 15 29 #[.slice (some ⟨W.heap.size, 0, none⟩) 3 3] h9 d9 r9 (w9 _) (by simp [execOp, p9, ev_put, hsz]; go_simp) ?_
  refine hJ.mono ?_
  rintro e w5 ⟨v, rfl, ho5, hb5⟩
  refine ⟨_, rfl, ?_⟩
  obtain ⟨vo, vc, rfl, -, hro⟩ := ho5.read
  have hcv := conv_row vc hro
  have hB5 := hB2.trans (hb5.mono hB2.size)
  have hfl : SH = flat [⟨some ⟨b1, 0, none⟩, c1, l.take 4⟩, ⟨some ⟨b2, 0, none⟩, c2, [45]⟩, ⟨some ⟨b3, 0, none⟩, c3, l.drop 4⟩] := by rw [hSH]; simp [flat]
  rw [← hfl] at hcv ⊢
  refine step_one (w' := w5) 16 (.string (bstr SH)) h10 d10 r10 (w10 _) (by simp [execOp, p10, ev_put, hsz, sz_put, hcv, Result.andThen]) ?_
  refine step_one (w' := w5) 2 (.string (bstr SH)) h11 d11 r11 (w11 _) (by simp [execOp, p11, ev_put, hsz, sz_put]) ?_
  refine wpAny_done r12 ?_ _
  exact hQ _ _ _ hB5
theorem below_undrew2 (w : World) : Below w.heap.size w w.drew := (Below.refl _ _).drew
/-- What Show answers. -/
def showT (l : List Nat) : List Nat := if isCode l then l.take 4 ++ [45] ++ l.drop 4 else []
set_option maxHeartbeats 1000000 in
set_option maxRecDepth 100000 in
set_option linter.unusedSimpArgs false in
theorem show_any (s : ByteArray) (w : World) (hT : Lets w) : Calls Tryd.prog 19 #[.string s] w fun e w' => e = .returned (.string (bstr (showT (sbytes s)))) ∧ Below w.heap.size w w' := by
  have HI := hide (isUserCode_any s w hT)
  have HST : Hid (showT (sbytes s) = if isCode (sbytes s) then (sbytes s).take 4 ++ [45] ++ (sbytes s).drop 4 else []) := hide rfl
  have hsl := sbytes_length s
  have HLT := hide (sbytes_lt s)
  cases hc : isCode (sbytes s) with
  | false =>
    rw [hc] at HI HST
    have e : showT (sbytes s) = [] := HST.out
    rw [e, bstr_nil]
    clear hc hT hsl HST HLT e
    go_enter Tryd.func19, Tryd.ntmps19
    go_wp2_with (go_at_call 28; refine HI.out.mono ?_; rintro e wx ⟨rfl, hwx⟩; have hwy := hwx.symm; subst hwy; clear hwx)
    go_ret
    exact ⟨rfl, Below.refl _ _⟩
  | true =>
    rw [hc] at HI HST
    have h8 : s.size = 8 := by
      unfold isCode at hc
      rw [Bool.and_eq_true] at hc
      have := beq_iff_eq.1 hc.1
      omega
    have hs1 := str_to s 4 4 rfl (by omega)
    have hs2 := str_from s 4 4 rfl (by omega)
    have HLL : Hid ((sbytes s).length = 8) := hide (by omega)
    have HSO : Hid (showT (sbytes s) = (sbytes s).take 4 ++ [45] ++ (sbytes s).drop 4) := hide HST.out
    have HTK := hide (lt_take (sbytes_lt s) 4)
    have HDR := hide (lt_drop (sbytes_lt s) 4)
    have HB0 := hide (below_undrew2 w)
    generalize showT (sbytes s) = SH at *
    generalize sbytes s = l at *
    clear hc hT hsl HST h8
    go_enter Tryd.func19, Tryd.ntmps19
    go_upto_region 3 with (go_at_call 28; refine HI.out.mono ?_; rintro e wx ⟨rfl, hwx⟩; have hwy := hwx.symm; subst hwy; clear hwx)
    refine region_any_var (by kernel_rfl) ?_
    intro A hA
    have hsz : A.tmps.size = 17 := by rw [hA]; rfl
    have e0 : A.eval (.tmp 0) = .string s := by rw [hA]; rfl
    have hb0 := HB0.out
    refine take_move (i := 0) 6 0 (.string s) rfl rfl rfl (by kernel_rfl) (by kernel_rfl) (by kernel_rfl) (fun _ _ _ h => h) rfl (by simp [e0]) ?_
    refine take_run (i := 1) 7 (.string (bstr (l.take 4))) rfl rfl (by kernel_rfl) (by kernel_rfl) (by kernel_rfl) (fun _ _ _ h => h) rfl (fun w => by unfold execOp; simp [ev_put, hsz, sz_put, e0]; go_simp) ?_
    refine take_move (i := 5) 11 0 (.string s) rfl rfl rfl (by kernel_rfl) (by kernel_rfl) (by kernel_rfl) (fun _ _ _ h => h) rfl (by simp [ev_put, hsz, sz_put, e0]) ?_
    refine take_run (i := 6) 12 (.string (bstr (l.drop 4))) rfl rfl (by kernel_rfl) (by kernel_rfl) (by kernel_rfl) (fun _ _ _ h => h) rfl (fun w => by unfold execOp; simp [ev_put, hsz, sz_put, e0]; go_simp) ?_
    generalize hQQ : Exit.then _ _ = QQ
    have sz0' : ((((A.put (some 6) (.string s)).put (some 7) (.string (bstr (l.take 4)))).put (some 11) (.string s)).put (some 12) (.string (bstr (l.drop 4)))).tmps.size = 17 := by simp [sz_put, hsz]
    have e7' : ((((A.put (some 6) (.string s)).put (some 7) (.string (bstr (l.take 4)))).put (some 11) (.string s)).put (some 12) (.string (bstr (l.drop 4)))).eval (.tmp 7) = .string (bstr (l.take 4)) := by simp [ev_put, hsz, sz_put]
    have e12' : ((((A.put (some 6) (.string s)).put (some 7) (.string (bstr (l.take 4)))).put (some 11) (.string s)).put (some 12) (.string (bstr (l.drop 4)))).eval (.tmp 12) = .string (bstr (l.drop 4)) := by simp [ev_put, hsz, sz_put]
    generalize hA0 : (((A.put (some 6) (.string s)).put (some 7) (.string (bstr (l.take 4)))).put (some 11) (.string s)).put (some 12) (.string (bstr (l.drop 4))) = A0 at sz0' e7' e12' ⊢
    have sz0 := sz0'
    have e7_0 := e7'
    have e12_0 := e12'
    clear sz0' e7' e12' e0 hsz
    refine ready3 (i := 2) (j := 3) (k := 7) (oi := { dst := some 8, op := Op.convert 9 22 (Operand.tmp 7), type := 22, pos := "typed.go:55", after := #[{ on := 1, ground := Ground.data }], guard := none }) (oj := { dst := some 9, op := Op.buildSlice 22 1 #[(0, Operand.const (Value.int IntKind.u8 45))], type := 22, pos := "typed.go:55", after := #[], guard := none }) (ok := { dst := some 13, op := Op.convert 9 22 (Operand.tmp 12), type := 22, pos := "typed.go:55", after := #[{ on := 6, ground := Ground.data }], guard := none }) (by kernel_rfl) rfl rfl rfl rfl rfl rfl ?_ ?_ ?_
    · intro K hK
      refine mk_use (mk_conv 8 rfl (.tmp 7) rfl (l.take 4) HTK.out e7_0) fun b1 c1 W1 r1_1 kk m1 => hK _ _ ?_
      clear hK K
      have sz1' := (sz_put A0 8 (.slice (some ⟨b1, 0, none⟩) (l.take 4).length c1)).trans sz0
      have e7_1' := (ev_put_ne A0 8 7 (.slice (some ⟨b1, 0, none⟩) (l.take 4).length c1) (by decide)).trans e7_0
      have e12_1' := (ev_put_ne A0 8 12 (.slice (some ⟨b1, 0, none⟩) (l.take 4).length c1) (by decide)).trans e12_0
      have e8_1' := ev_put_eq A0 8 (.slice (some ⟨b1, 0, none⟩) (l.take 4).length c1) (by rw [sz0]; decide)
      generalize hA1 : A0.put (some 8) (.slice (some ⟨b1, 0, none⟩) (l.take 4).length c1) = A1 at sz1' e7_1' e12_1' e8_1' ⊢
      have sz1 := sz1'
      have e7_1 := e7_1'
      have e12_1 := e12_1'
      have e8_1 := e8_1'
      clear sz1' e7_1' e12_1' e8_1'
      have hb1 := hb0.trans (kk.mono hb0.size)
      refine ready2 (i := 3) (j := 7) (oi := { dst := some 9, op := Op.buildSlice 22 1 #[(0, Operand.const (Value.int IntKind.u8 45))], type := 22, pos := "typed.go:55", after := #[], guard := none }) (oj := { dst := some 13, op := Op.convert 9 22 (Operand.tmp 12), type := 22, pos := "typed.go:55", after := #[{ on := 6, ground := Ground.data }], guard := none }) (by kernel_rfl) rfl rfl rfl rfl ?_ ?_
      · intro K hK
        refine mk_one (n := 45) 9 rfl (by unfold execOp; simp; go_simp) fun b2 W2 r2_2 kk h2_2 g2' => hK _ _ ?_
        have g2 : w.heap.size ≤ b2 := Nat.le_trans hb1.size g2'
        clear g2'
        clear hK K
        have sz2' := (sz_put A1 9 (.slice (some ⟨b2, 0, none⟩) 1 1)).trans sz1
        have e7_2' := (ev_put_ne A1 9 7 (.slice (some ⟨b2, 0, none⟩) 1 1) (by decide)).trans e7_1
        have e12_2' := (ev_put_ne A1 9 12 (.slice (some ⟨b2, 0, none⟩) 1 1) (by decide)).trans e12_1
        have e8_2' := (ev_put_ne A1 9 8 (.slice (some ⟨b2, 0, none⟩) 1 1) (by decide)).trans e8_1
        have e9_2' := ev_put_eq A1 9 (.slice (some ⟨b2, 0, none⟩) 1 1) (by rw [sz1]; decide)
        generalize hA2 : A1.put (some 9) (.slice (some ⟨b2, 0, none⟩) 1 1) = A2 at sz2' e7_2' e12_2' e8_2' e9_2' ⊢
        have sz2 := sz2'
        have e7_2 := e7_2'
        have e12_2 := e12_2'
        have e8_2 := e8_2'
        have e9_2 := e9_2'
        clear sz2' e7_2' e12_2' e8_2' e9_2'
        have hb2 := hb1.trans (kk.mono hb1.size)
        have r1_2 := r1_1.keep kk
        refine ready2 (i := 4) (j := 7) (oi := { dst := some 10, op := Op.convert 22 22 (Operand.tmp 9), type := 22, pos := "typed.go:55", after := #[{ on := 3, ground := Ground.data }], guard := none }) (oj := { dst := some 13, op := Op.convert 9 22 (Operand.tmp 12), type := 22, pos := "typed.go:55", after := #[{ on := 6, ground := Ground.data }], guard := none }) (by kernel_rfl) rfl rfl rfl rfl ?_ ?_
        · intro K hK
          refine mark_use 10 rfl (.tmp 9) rfl e9_2 h2_2 fun W3 ce be => hK _ _ ?_
          clear hK K
          have sz3' := (sz_put A2 10 (.slice (some ⟨b2, 0, none⟩) 1 1)).trans sz2
          have e7_3' := (ev_put_ne A2 10 7 (.slice (some ⟨b2, 0, none⟩) 1 1) (by decide)).trans e7_2
          have e12_3' := (ev_put_ne A2 10 12 (.slice (some ⟨b2, 0, none⟩) 1 1) (by decide)).trans e12_2
          have e8_3' := (ev_put_ne A2 10 8 (.slice (some ⟨b2, 0, none⟩) 1 1) (by decide)).trans e8_2
          have e9_3' := (ev_put_ne A2 10 9 (.slice (some ⟨b2, 0, none⟩) 1 1) (by decide)).trans e9_2
          have e10_3' := ev_put_eq A2 10 (.slice (some ⟨b2, 0, none⟩) 1 1) (by rw [sz2]; decide)
          generalize hA3 : A2.put (some 10) (.slice (some ⟨b2, 0, none⟩) 1 1) = A3 at sz3' e7_3' e12_3' e8_3' e9_3' e10_3' ⊢
          have sz3 := sz3'
          have e7_3 := e7_3'
          have e12_3 := e12_3'
          have e8_3 := e8_3'
          have e9_3 := e9_3'
          have e10_3 := e10_3'
          clear sz3' e7_3' e12_3' e8_3' e9_3' e10_3'
          have hb3 := be _ _ hb2 g2
          have r1_3 := row_freeze r1_2 ce
          have r2_3 := row_freeze r2_2 ce
          refine ready1 (i := 7) (oi := { dst := some 13, op := Op.convert 9 22 (Operand.tmp 12), type := 22, pos := "typed.go:55", after := #[{ on := 6, ground := Ground.data }], guard := none }) (by kernel_rfl) rfl rfl ?_
          intro K hK
          refine mk_use (mk_conv 13 rfl (.tmp 12) rfl (l.drop 4) HDR.out e12_3) fun b3 c3 W4 r3_4 kk m3 => hK _ _ ?_
          clear hK K
          have sz4' := (sz_put A3 13 (.slice (some ⟨b3, 0, none⟩) (l.drop 4).length c3)).trans sz3
          have e7_4' := (ev_put_ne A3 13 7 (.slice (some ⟨b3, 0, none⟩) (l.drop 4).length c3) (by decide)).trans e7_3
          have e12_4' := (ev_put_ne A3 13 12 (.slice (some ⟨b3, 0, none⟩) (l.drop 4).length c3) (by decide)).trans e12_3
          have e8_4' := (ev_put_ne A3 13 8 (.slice (some ⟨b3, 0, none⟩) (l.drop 4).length c3) (by decide)).trans e8_3
          have e9_4' := (ev_put_ne A3 13 9 (.slice (some ⟨b3, 0, none⟩) (l.drop 4).length c3) (by decide)).trans e9_3
          have e10_4' := (ev_put_ne A3 13 10 (.slice (some ⟨b3, 0, none⟩) (l.drop 4).length c3) (by decide)).trans e10_3
          have e13_4' := ev_put_eq A3 13 (.slice (some ⟨b3, 0, none⟩) (l.drop 4).length c3) (by rw [sz3]; decide)
          generalize hA4 : A3.put (some 13) (.slice (some ⟨b3, 0, none⟩) (l.drop 4).length c3) = A4 at sz4' e7_4' e12_4' e8_4' e9_4' e10_4' e13_4' ⊢
          have sz4 := sz4'
          have e7_4 := e7_4'
          have e12_4 := e12_4'
          have e8_4 := e8_4'
          have e9_4 := e9_4'
          have e10_4 := e10_4'
          have e13_4 := e13_4'
          clear sz4' e7_4' e12_4' e8_4' e9_4' e10_4' e13_4'
          have hb4 := hb3.trans (kk.mono hb3.size)
          have r1_4 := r1_3.keep kk
          have r2_4 := r2_3.keep kk
          refine show_tail rfl rfl rfl rfl rfl rfl rfl rfl rfl rfl rfl rfl rfl rfl rfl rfl (by kernel_rfl) (by kernel_rfl) (by kernel_rfl) (by kernel_rfl) (by kernel_rfl) sz4 e8_4 e10_4 e13_4 r1_4 r2_4 r3_4 hb4 HLL.out HSO.out ?_
          intro g v W hW
          rw [← hQQ, ← hA4, ← hA3, ← hA2, ← hA1, ← hA0, hA]
          simp only [put_mk]
          go_wp2_with fail
          go_ret
          exact ⟨rfl, hW⟩
        · intro K hK
          refine mk_use (mk_conv 13 rfl (.tmp 12) rfl (l.drop 4) HDR.out e12_2) fun b3 c3 W3 r3_3 kk m3 => hK _ _ ?_
          clear hK K
          have sz3' := (sz_put A2 13 (.slice (some ⟨b3, 0, none⟩) (l.drop 4).length c3)).trans sz2
          have e7_3' := (ev_put_ne A2 13 7 (.slice (some ⟨b3, 0, none⟩) (l.drop 4).length c3) (by decide)).trans e7_2
          have e12_3' := (ev_put_ne A2 13 12 (.slice (some ⟨b3, 0, none⟩) (l.drop 4).length c3) (by decide)).trans e12_2
          have e8_3' := (ev_put_ne A2 13 8 (.slice (some ⟨b3, 0, none⟩) (l.drop 4).length c3) (by decide)).trans e8_2
          have e9_3' := (ev_put_ne A2 13 9 (.slice (some ⟨b3, 0, none⟩) (l.drop 4).length c3) (by decide)).trans e9_2
          have e13_3' := ev_put_eq A2 13 (.slice (some ⟨b3, 0, none⟩) (l.drop 4).length c3) (by rw [sz2]; decide)
          generalize hA3 : A2.put (some 13) (.slice (some ⟨b3, 0, none⟩) (l.drop 4).length c3) = A3 at sz3' e7_3' e12_3' e8_3' e9_3' e13_3' ⊢
          have sz3 := sz3'
          have e7_3 := e7_3'
          have e12_3 := e12_3'
          have e8_3 := e8_3'
          have e9_3 := e9_3'
          have e13_3 := e13_3'
          clear sz3' e7_3' e12_3' e8_3' e9_3' e13_3'
          have hb3 := hb2.trans (kk.mono hb2.size)
          have r1_3 := r1_2.keep kk
          have r2_3 := r2_2.keep kk
          have h2_3 := (kk.block b2 (Array.getElem?_eq_some_iff.1 h2_2).1).trans h2_2
          refine ready1 (i := 4) (oi := { dst := some 10, op := Op.convert 22 22 (Operand.tmp 9), type := 22, pos := "typed.go:55", after := #[{ on := 3, ground := Ground.data }], guard := none }) (by kernel_rfl) rfl rfl ?_
          intro K hK
          refine mark_use 10 rfl (.tmp 9) rfl e9_3 h2_3 fun W4 ce be => hK _ _ ?_
          clear hK K
          have sz4' := (sz_put A3 10 (.slice (some ⟨b2, 0, none⟩) 1 1)).trans sz3
          have e7_4' := (ev_put_ne A3 10 7 (.slice (some ⟨b2, 0, none⟩) 1 1) (by decide)).trans e7_3
          have e12_4' := (ev_put_ne A3 10 12 (.slice (some ⟨b2, 0, none⟩) 1 1) (by decide)).trans e12_3
          have e8_4' := (ev_put_ne A3 10 8 (.slice (some ⟨b2, 0, none⟩) 1 1) (by decide)).trans e8_3
          have e9_4' := (ev_put_ne A3 10 9 (.slice (some ⟨b2, 0, none⟩) 1 1) (by decide)).trans e9_3
          have e13_4' := (ev_put_ne A3 10 13 (.slice (some ⟨b2, 0, none⟩) 1 1) (by decide)).trans e13_3
          have e10_4' := ev_put_eq A3 10 (.slice (some ⟨b2, 0, none⟩) 1 1) (by rw [sz3]; decide)
          generalize hA4 : A3.put (some 10) (.slice (some ⟨b2, 0, none⟩) 1 1) = A4 at sz4' e7_4' e12_4' e8_4' e9_4' e13_4' e10_4' ⊢
          have sz4 := sz4'
          have e7_4 := e7_4'
          have e12_4 := e12_4'
          have e8_4 := e8_4'
          have e9_4 := e9_4'
          have e13_4 := e13_4'
          have e10_4 := e10_4'
          clear sz4' e7_4' e12_4' e8_4' e9_4' e13_4' e10_4'
          have hb4 := be _ _ hb3 g2
          have r1_4 := row_freeze r1_3 ce
          have r2_4 := row_freeze r2_3 ce
          have r3_4 := row_freeze r3_3 ce
          refine show_tail rfl rfl rfl rfl rfl rfl rfl rfl rfl rfl rfl rfl rfl rfl rfl rfl (by kernel_rfl) (by kernel_rfl) (by kernel_rfl) (by kernel_rfl) (by kernel_rfl) sz4 e8_4 e10_4 e13_4 r1_4 r2_4 r3_4 hb4 HLL.out HSO.out ?_
          intro g v W hW
          rw [← hQQ, ← hA4, ← hA3, ← hA2, ← hA1, ← hA0, hA]
          simp only [put_mk]
          go_wp2_with fail
          go_ret
          exact ⟨rfl, hW⟩
      · intro K hK
        refine mk_use (mk_conv 13 rfl (.tmp 12) rfl (l.drop 4) HDR.out e12_1) fun b3 c3 W2 r3_2 kk m3 => hK _ _ ?_
        clear hK K
        have sz2' := (sz_put A1 13 (.slice (some ⟨b3, 0, none⟩) (l.drop 4).length c3)).trans sz1
        have e7_2' := (ev_put_ne A1 13 7 (.slice (some ⟨b3, 0, none⟩) (l.drop 4).length c3) (by decide)).trans e7_1
        have e12_2' := (ev_put_ne A1 13 12 (.slice (some ⟨b3, 0, none⟩) (l.drop 4).length c3) (by decide)).trans e12_1
        have e8_2' := (ev_put_ne A1 13 8 (.slice (some ⟨b3, 0, none⟩) (l.drop 4).length c3) (by decide)).trans e8_1
        have e13_2' := ev_put_eq A1 13 (.slice (some ⟨b3, 0, none⟩) (l.drop 4).length c3) (by rw [sz1]; decide)
        generalize hA2 : A1.put (some 13) (.slice (some ⟨b3, 0, none⟩) (l.drop 4).length c3) = A2 at sz2' e7_2' e12_2' e8_2' e13_2' ⊢
        have sz2 := sz2'
        have e7_2 := e7_2'
        have e12_2 := e12_2'
        have e8_2 := e8_2'
        have e13_2 := e13_2'
        clear sz2' e7_2' e12_2' e8_2' e13_2'
        have hb2 := hb1.trans (kk.mono hb1.size)
        have r1_2 := r1_1.keep kk
        refine ready1 (i := 3) (oi := { dst := some 9, op := Op.buildSlice 22 1 #[(0, Operand.const (Value.int IntKind.u8 45))], type := 22, pos := "typed.go:55", after := #[], guard := none }) (by kernel_rfl) rfl rfl ?_
        intro K hK
        refine mk_one (n := 45) 9 rfl (by unfold execOp; simp; go_simp) fun b2 W3 r2_3 kk h2_3 g2' => hK _ _ ?_
        have g2 : w.heap.size ≤ b2 := Nat.le_trans hb2.size g2'
        clear g2'
        clear hK K
        have sz3' := (sz_put A2 9 (.slice (some ⟨b2, 0, none⟩) 1 1)).trans sz2
        have e7_3' := (ev_put_ne A2 9 7 (.slice (some ⟨b2, 0, none⟩) 1 1) (by decide)).trans e7_2
        have e12_3' := (ev_put_ne A2 9 12 (.slice (some ⟨b2, 0, none⟩) 1 1) (by decide)).trans e12_2
        have e8_3' := (ev_put_ne A2 9 8 (.slice (some ⟨b2, 0, none⟩) 1 1) (by decide)).trans e8_2
        have e13_3' := (ev_put_ne A2 9 13 (.slice (some ⟨b2, 0, none⟩) 1 1) (by decide)).trans e13_2
        have e9_3' := ev_put_eq A2 9 (.slice (some ⟨b2, 0, none⟩) 1 1) (by rw [sz2]; decide)
        generalize hA3 : A2.put (some 9) (.slice (some ⟨b2, 0, none⟩) 1 1) = A3 at sz3' e7_3' e12_3' e8_3' e13_3' e9_3' ⊢
        have sz3 := sz3'
        have e7_3 := e7_3'
        have e12_3 := e12_3'
        have e8_3 := e8_3'
        have e13_3 := e13_3'
        have e9_3 := e9_3'
        clear sz3' e7_3' e12_3' e8_3' e13_3' e9_3'
        have hb3 := hb2.trans (kk.mono hb2.size)
        have r1_3 := r1_2.keep kk
        have r3_3 := r3_2.keep kk
        refine ready1 (i := 4) (oi := { dst := some 10, op := Op.convert 22 22 (Operand.tmp 9), type := 22, pos := "typed.go:55", after := #[{ on := 3, ground := Ground.data }], guard := none }) (by kernel_rfl) rfl rfl ?_
        intro K hK
        refine mark_use 10 rfl (.tmp 9) rfl e9_3 h2_3 fun W4 ce be => hK _ _ ?_
        clear hK K
        have sz4' := (sz_put A3 10 (.slice (some ⟨b2, 0, none⟩) 1 1)).trans sz3
        have e7_4' := (ev_put_ne A3 10 7 (.slice (some ⟨b2, 0, none⟩) 1 1) (by decide)).trans e7_3
        have e12_4' := (ev_put_ne A3 10 12 (.slice (some ⟨b2, 0, none⟩) 1 1) (by decide)).trans e12_3
        have e8_4' := (ev_put_ne A3 10 8 (.slice (some ⟨b2, 0, none⟩) 1 1) (by decide)).trans e8_3
        have e13_4' := (ev_put_ne A3 10 13 (.slice (some ⟨b2, 0, none⟩) 1 1) (by decide)).trans e13_3
        have e9_4' := (ev_put_ne A3 10 9 (.slice (some ⟨b2, 0, none⟩) 1 1) (by decide)).trans e9_3
        have e10_4' := ev_put_eq A3 10 (.slice (some ⟨b2, 0, none⟩) 1 1) (by rw [sz3]; decide)
        generalize hA4 : A3.put (some 10) (.slice (some ⟨b2, 0, none⟩) 1 1) = A4 at sz4' e7_4' e12_4' e8_4' e13_4' e9_4' e10_4' ⊢
        have sz4 := sz4'
        have e7_4 := e7_4'
        have e12_4 := e12_4'
        have e8_4 := e8_4'
        have e13_4 := e13_4'
        have e9_4 := e9_4'
        have e10_4 := e10_4'
        clear sz4' e7_4' e12_4' e8_4' e13_4' e9_4' e10_4'
        have hb4 := be _ _ hb3 g2
        have r1_4 := row_freeze r1_3 ce
        have r2_4 := row_freeze r2_3 ce
        have r3_4 := row_freeze r3_3 ce
        refine show_tail rfl rfl rfl rfl rfl rfl rfl rfl rfl rfl rfl rfl rfl rfl rfl rfl (by kernel_rfl) (by kernel_rfl) (by kernel_rfl) (by kernel_rfl) (by kernel_rfl) sz4 e8_4 e10_4 e13_4 r1_4 r2_4 r3_4 hb4 HLL.out HSO.out ?_
        intro g v W hW
        rw [← hQQ, ← hA4, ← hA3, ← hA2, ← hA1, ← hA0, hA]
        simp only [put_mk]
        go_wp2_with fail
        go_ret
        exact ⟨rfl, hW⟩
    · intro K hK
      refine mk_one (n := 45) 9 rfl (by unfold execOp; simp; go_simp) fun b2 W1 r2_1 kk h2_1 g2' => hK _ _ ?_
      have g2 : w.heap.size ≤ b2 := Nat.le_trans hb0.size g2'
      clear g2'
      clear hK K
      have sz1' := (sz_put A0 9 (.slice (some ⟨b2, 0, none⟩) 1 1)).trans sz0
      have e7_1' := (ev_put_ne A0 9 7 (.slice (some ⟨b2, 0, none⟩) 1 1) (by decide)).trans e7_0
      have e12_1' := (ev_put_ne A0 9 12 (.slice (some ⟨b2, 0, none⟩) 1 1) (by decide)).trans e12_0
      have e9_1' := ev_put_eq A0 9 (.slice (some ⟨b2, 0, none⟩) 1 1) (by rw [sz0]; decide)
      generalize hA1 : A0.put (some 9) (.slice (some ⟨b2, 0, none⟩) 1 1) = A1 at sz1' e7_1' e12_1' e9_1' ⊢
      have sz1 := sz1'
      have e7_1 := e7_1'
      have e12_1 := e12_1'
      have e9_1 := e9_1'
      clear sz1' e7_1' e12_1' e9_1'
      have hb1 := hb0.trans (kk.mono hb0.size)
      refine ready3 (i := 2) (j := 4) (k := 7) (oi := { dst := some 8, op := Op.convert 9 22 (Operand.tmp 7), type := 22, pos := "typed.go:55", after := #[{ on := 1, ground := Ground.data }], guard := none }) (oj := { dst := some 10, op := Op.convert 22 22 (Operand.tmp 9), type := 22, pos := "typed.go:55", after := #[{ on := 3, ground := Ground.data }], guard := none }) (ok := { dst := some 13, op := Op.convert 9 22 (Operand.tmp 12), type := 22, pos := "typed.go:55", after := #[{ on := 6, ground := Ground.data }], guard := none }) (by kernel_rfl) rfl rfl rfl rfl rfl rfl ?_ ?_ ?_
      · intro K hK
        refine mk_use (mk_conv 8 rfl (.tmp 7) rfl (l.take 4) HTK.out e7_1) fun b1 c1 W2 r1_2 kk m1 => hK _ _ ?_
        clear hK K
        have sz2' := (sz_put A1 8 (.slice (some ⟨b1, 0, none⟩) (l.take 4).length c1)).trans sz1
        have e7_2' := (ev_put_ne A1 8 7 (.slice (some ⟨b1, 0, none⟩) (l.take 4).length c1) (by decide)).trans e7_1
        have e12_2' := (ev_put_ne A1 8 12 (.slice (some ⟨b1, 0, none⟩) (l.take 4).length c1) (by decide)).trans e12_1
        have e9_2' := (ev_put_ne A1 8 9 (.slice (some ⟨b1, 0, none⟩) (l.take 4).length c1) (by decide)).trans e9_1
        have e8_2' := ev_put_eq A1 8 (.slice (some ⟨b1, 0, none⟩) (l.take 4).length c1) (by rw [sz1]; decide)
        generalize hA2 : A1.put (some 8) (.slice (some ⟨b1, 0, none⟩) (l.take 4).length c1) = A2 at sz2' e7_2' e12_2' e9_2' e8_2' ⊢
        have sz2 := sz2'
        have e7_2 := e7_2'
        have e12_2 := e12_2'
        have e9_2 := e9_2'
        have e8_2 := e8_2'
        clear sz2' e7_2' e12_2' e9_2' e8_2'
        have hb2 := hb1.trans (kk.mono hb1.size)
        have r2_2 := r2_1.keep kk
        have h2_2 := (kk.block b2 (Array.getElem?_eq_some_iff.1 h2_1).1).trans h2_1
        refine ready2 (i := 4) (j := 7) (oi := { dst := some 10, op := Op.convert 22 22 (Operand.tmp 9), type := 22, pos := "typed.go:55", after := #[{ on := 3, ground := Ground.data }], guard := none }) (oj := { dst := some 13, op := Op.convert 9 22 (Operand.tmp 12), type := 22, pos := "typed.go:55", after := #[{ on := 6, ground := Ground.data }], guard := none }) (by kernel_rfl) rfl rfl rfl rfl ?_ ?_
        · intro K hK
          refine mark_use 10 rfl (.tmp 9) rfl e9_2 h2_2 fun W3 ce be => hK _ _ ?_
          clear hK K
          have sz3' := (sz_put A2 10 (.slice (some ⟨b2, 0, none⟩) 1 1)).trans sz2
          have e7_3' := (ev_put_ne A2 10 7 (.slice (some ⟨b2, 0, none⟩) 1 1) (by decide)).trans e7_2
          have e12_3' := (ev_put_ne A2 10 12 (.slice (some ⟨b2, 0, none⟩) 1 1) (by decide)).trans e12_2
          have e9_3' := (ev_put_ne A2 10 9 (.slice (some ⟨b2, 0, none⟩) 1 1) (by decide)).trans e9_2
          have e8_3' := (ev_put_ne A2 10 8 (.slice (some ⟨b2, 0, none⟩) 1 1) (by decide)).trans e8_2
          have e10_3' := ev_put_eq A2 10 (.slice (some ⟨b2, 0, none⟩) 1 1) (by rw [sz2]; decide)
          generalize hA3 : A2.put (some 10) (.slice (some ⟨b2, 0, none⟩) 1 1) = A3 at sz3' e7_3' e12_3' e9_3' e8_3' e10_3' ⊢
          have sz3 := sz3'
          have e7_3 := e7_3'
          have e12_3 := e12_3'
          have e9_3 := e9_3'
          have e8_3 := e8_3'
          have e10_3 := e10_3'
          clear sz3' e7_3' e12_3' e9_3' e8_3' e10_3'
          have hb3 := be _ _ hb2 g2
          have r1_3 := row_freeze r1_2 ce
          have r2_3 := row_freeze r2_2 ce
          refine ready1 (i := 7) (oi := { dst := some 13, op := Op.convert 9 22 (Operand.tmp 12), type := 22, pos := "typed.go:55", after := #[{ on := 6, ground := Ground.data }], guard := none }) (by kernel_rfl) rfl rfl ?_
          intro K hK
          refine mk_use (mk_conv 13 rfl (.tmp 12) rfl (l.drop 4) HDR.out e12_3) fun b3 c3 W4 r3_4 kk m3 => hK _ _ ?_
          clear hK K
          have sz4' := (sz_put A3 13 (.slice (some ⟨b3, 0, none⟩) (l.drop 4).length c3)).trans sz3
          have e7_4' := (ev_put_ne A3 13 7 (.slice (some ⟨b3, 0, none⟩) (l.drop 4).length c3) (by decide)).trans e7_3
          have e12_4' := (ev_put_ne A3 13 12 (.slice (some ⟨b3, 0, none⟩) (l.drop 4).length c3) (by decide)).trans e12_3
          have e9_4' := (ev_put_ne A3 13 9 (.slice (some ⟨b3, 0, none⟩) (l.drop 4).length c3) (by decide)).trans e9_3
          have e8_4' := (ev_put_ne A3 13 8 (.slice (some ⟨b3, 0, none⟩) (l.drop 4).length c3) (by decide)).trans e8_3
          have e10_4' := (ev_put_ne A3 13 10 (.slice (some ⟨b3, 0, none⟩) (l.drop 4).length c3) (by decide)).trans e10_3
          have e13_4' := ev_put_eq A3 13 (.slice (some ⟨b3, 0, none⟩) (l.drop 4).length c3) (by rw [sz3]; decide)
          generalize hA4 : A3.put (some 13) (.slice (some ⟨b3, 0, none⟩) (l.drop 4).length c3) = A4 at sz4' e7_4' e12_4' e9_4' e8_4' e10_4' e13_4' ⊢
          have sz4 := sz4'
          have e7_4 := e7_4'
          have e12_4 := e12_4'
          have e9_4 := e9_4'
          have e8_4 := e8_4'
          have e10_4 := e10_4'
          have e13_4 := e13_4'
          clear sz4' e7_4' e12_4' e9_4' e8_4' e10_4' e13_4'
          have hb4 := hb3.trans (kk.mono hb3.size)
          have r1_4 := r1_3.keep kk
          have r2_4 := r2_3.keep kk
          refine show_tail rfl rfl rfl rfl rfl rfl rfl rfl rfl rfl rfl rfl rfl rfl rfl rfl (by kernel_rfl) (by kernel_rfl) (by kernel_rfl) (by kernel_rfl) (by kernel_rfl) sz4 e8_4 e10_4 e13_4 r1_4 r2_4 r3_4 hb4 HLL.out HSO.out ?_
          intro g v W hW
          rw [← hQQ, ← hA4, ← hA3, ← hA2, ← hA1, ← hA0, hA]
          simp only [put_mk]
          go_wp2_with fail
          go_ret
          exact ⟨rfl, hW⟩
        · intro K hK
          refine mk_use (mk_conv 13 rfl (.tmp 12) rfl (l.drop 4) HDR.out e12_2) fun b3 c3 W3 r3_3 kk m3 => hK _ _ ?_
          clear hK K
          have sz3' := (sz_put A2 13 (.slice (some ⟨b3, 0, none⟩) (l.drop 4).length c3)).trans sz2
          have e7_3' := (ev_put_ne A2 13 7 (.slice (some ⟨b3, 0, none⟩) (l.drop 4).length c3) (by decide)).trans e7_2
          have e12_3' := (ev_put_ne A2 13 12 (.slice (some ⟨b3, 0, none⟩) (l.drop 4).length c3) (by decide)).trans e12_2
          have e9_3' := (ev_put_ne A2 13 9 (.slice (some ⟨b3, 0, none⟩) (l.drop 4).length c3) (by decide)).trans e9_2
          have e8_3' := (ev_put_ne A2 13 8 (.slice (some ⟨b3, 0, none⟩) (l.drop 4).length c3) (by decide)).trans e8_2
          have e13_3' := ev_put_eq A2 13 (.slice (some ⟨b3, 0, none⟩) (l.drop 4).length c3) (by rw [sz2]; decide)
          generalize hA3 : A2.put (some 13) (.slice (some ⟨b3, 0, none⟩) (l.drop 4).length c3) = A3 at sz3' e7_3' e12_3' e9_3' e8_3' e13_3' ⊢
          have sz3 := sz3'
          have e7_3 := e7_3'
          have e12_3 := e12_3'
          have e9_3 := e9_3'
          have e8_3 := e8_3'
          have e13_3 := e13_3'
          clear sz3' e7_3' e12_3' e9_3' e8_3' e13_3'
          have hb3 := hb2.trans (kk.mono hb2.size)
          have r1_3 := r1_2.keep kk
          have r2_3 := r2_2.keep kk
          have h2_3 := (kk.block b2 (Array.getElem?_eq_some_iff.1 h2_2).1).trans h2_2
          refine ready1 (i := 4) (oi := { dst := some 10, op := Op.convert 22 22 (Operand.tmp 9), type := 22, pos := "typed.go:55", after := #[{ on := 3, ground := Ground.data }], guard := none }) (by kernel_rfl) rfl rfl ?_
          intro K hK
          refine mark_use 10 rfl (.tmp 9) rfl e9_3 h2_3 fun W4 ce be => hK _ _ ?_
          clear hK K
          have sz4' := (sz_put A3 10 (.slice (some ⟨b2, 0, none⟩) 1 1)).trans sz3
          have e7_4' := (ev_put_ne A3 10 7 (.slice (some ⟨b2, 0, none⟩) 1 1) (by decide)).trans e7_3
          have e12_4' := (ev_put_ne A3 10 12 (.slice (some ⟨b2, 0, none⟩) 1 1) (by decide)).trans e12_3
          have e9_4' := (ev_put_ne A3 10 9 (.slice (some ⟨b2, 0, none⟩) 1 1) (by decide)).trans e9_3
          have e8_4' := (ev_put_ne A3 10 8 (.slice (some ⟨b2, 0, none⟩) 1 1) (by decide)).trans e8_3
          have e13_4' := (ev_put_ne A3 10 13 (.slice (some ⟨b2, 0, none⟩) 1 1) (by decide)).trans e13_3
          have e10_4' := ev_put_eq A3 10 (.slice (some ⟨b2, 0, none⟩) 1 1) (by rw [sz3]; decide)
          generalize hA4 : A3.put (some 10) (.slice (some ⟨b2, 0, none⟩) 1 1) = A4 at sz4' e7_4' e12_4' e9_4' e8_4' e13_4' e10_4' ⊢
          have sz4 := sz4'
          have e7_4 := e7_4'
          have e12_4 := e12_4'
          have e9_4 := e9_4'
          have e8_4 := e8_4'
          have e13_4 := e13_4'
          have e10_4 := e10_4'
          clear sz4' e7_4' e12_4' e9_4' e8_4' e13_4' e10_4'
          have hb4 := be _ _ hb3 g2
          have r1_4 := row_freeze r1_3 ce
          have r2_4 := row_freeze r2_3 ce
          have r3_4 := row_freeze r3_3 ce
          refine show_tail rfl rfl rfl rfl rfl rfl rfl rfl rfl rfl rfl rfl rfl rfl rfl rfl (by kernel_rfl) (by kernel_rfl) (by kernel_rfl) (by kernel_rfl) (by kernel_rfl) sz4 e8_4 e10_4 e13_4 r1_4 r2_4 r3_4 hb4 HLL.out HSO.out ?_
          intro g v W hW
          rw [← hQQ, ← hA4, ← hA3, ← hA2, ← hA1, ← hA0, hA]
          simp only [put_mk]
          go_wp2_with fail
          go_ret
          exact ⟨rfl, hW⟩
      · intro K hK
        refine mark_use 10 rfl (.tmp 9) rfl e9_1 h2_1 fun W2 ce be => hK _ _ ?_
        clear hK K
        have sz2' := (sz_put A1 10 (.slice (some ⟨b2, 0, none⟩) 1 1)).trans sz1
        have e7_2' := (ev_put_ne A1 10 7 (.slice (some ⟨b2, 0, none⟩) 1 1) (by decide)).trans e7_1
        have e12_2' := (ev_put_ne A1 10 12 (.slice (some ⟨b2, 0, none⟩) 1 1) (by decide)).trans e12_1
        have e9_2' := (ev_put_ne A1 10 9 (.slice (some ⟨b2, 0, none⟩) 1 1) (by decide)).trans e9_1
        have e10_2' := ev_put_eq A1 10 (.slice (some ⟨b2, 0, none⟩) 1 1) (by rw [sz1]; decide)
        generalize hA2 : A1.put (some 10) (.slice (some ⟨b2, 0, none⟩) 1 1) = A2 at sz2' e7_2' e12_2' e9_2' e10_2' ⊢
        have sz2 := sz2'
        have e7_2 := e7_2'
        have e12_2 := e12_2'
        have e9_2 := e9_2'
        have e10_2 := e10_2'
        clear sz2' e7_2' e12_2' e9_2' e10_2'
        have hb2 := be _ _ hb1 g2
        have r2_2 := row_freeze r2_1 ce
        refine ready2 (i := 2) (j := 7) (oi := { dst := some 8, op := Op.convert 9 22 (Operand.tmp 7), type := 22, pos := "typed.go:55", after := #[{ on := 1, ground := Ground.data }], guard := none }) (oj := { dst := some 13, op := Op.convert 9 22 (Operand.tmp 12), type := 22, pos := "typed.go:55", after := #[{ on := 6, ground := Ground.data }], guard := none }) (by kernel_rfl) rfl rfl rfl rfl ?_ ?_
        · intro K hK
          refine mk_use (mk_conv 8 rfl (.tmp 7) rfl (l.take 4) HTK.out e7_2) fun b1 c1 W3 r1_3 kk m1 => hK _ _ ?_
          clear hK K
          have sz3' := (sz_put A2 8 (.slice (some ⟨b1, 0, none⟩) (l.take 4).length c1)).trans sz2
          have e7_3' := (ev_put_ne A2 8 7 (.slice (some ⟨b1, 0, none⟩) (l.take 4).length c1) (by decide)).trans e7_2
          have e12_3' := (ev_put_ne A2 8 12 (.slice (some ⟨b1, 0, none⟩) (l.take 4).length c1) (by decide)).trans e12_2
          have e9_3' := (ev_put_ne A2 8 9 (.slice (some ⟨b1, 0, none⟩) (l.take 4).length c1) (by decide)).trans e9_2
          have e10_3' := (ev_put_ne A2 8 10 (.slice (some ⟨b1, 0, none⟩) (l.take 4).length c1) (by decide)).trans e10_2
          have e8_3' := ev_put_eq A2 8 (.slice (some ⟨b1, 0, none⟩) (l.take 4).length c1) (by rw [sz2]; decide)
          generalize hA3 : A2.put (some 8) (.slice (some ⟨b1, 0, none⟩) (l.take 4).length c1) = A3 at sz3' e7_3' e12_3' e9_3' e10_3' e8_3' ⊢
          have sz3 := sz3'
          have e7_3 := e7_3'
          have e12_3 := e12_3'
          have e9_3 := e9_3'
          have e10_3 := e10_3'
          have e8_3 := e8_3'
          clear sz3' e7_3' e12_3' e9_3' e10_3' e8_3'
          have hb3 := hb2.trans (kk.mono hb2.size)
          have r2_3 := r2_2.keep kk
          refine ready1 (i := 7) (oi := { dst := some 13, op := Op.convert 9 22 (Operand.tmp 12), type := 22, pos := "typed.go:55", after := #[{ on := 6, ground := Ground.data }], guard := none }) (by kernel_rfl) rfl rfl ?_
          intro K hK
          refine mk_use (mk_conv 13 rfl (.tmp 12) rfl (l.drop 4) HDR.out e12_3) fun b3 c3 W4 r3_4 kk m3 => hK _ _ ?_
          clear hK K
          have sz4' := (sz_put A3 13 (.slice (some ⟨b3, 0, none⟩) (l.drop 4).length c3)).trans sz3
          have e7_4' := (ev_put_ne A3 13 7 (.slice (some ⟨b3, 0, none⟩) (l.drop 4).length c3) (by decide)).trans e7_3
          have e12_4' := (ev_put_ne A3 13 12 (.slice (some ⟨b3, 0, none⟩) (l.drop 4).length c3) (by decide)).trans e12_3
          have e9_4' := (ev_put_ne A3 13 9 (.slice (some ⟨b3, 0, none⟩) (l.drop 4).length c3) (by decide)).trans e9_3
          have e10_4' := (ev_put_ne A3 13 10 (.slice (some ⟨b3, 0, none⟩) (l.drop 4).length c3) (by decide)).trans e10_3
          have e8_4' := (ev_put_ne A3 13 8 (.slice (some ⟨b3, 0, none⟩) (l.drop 4).length c3) (by decide)).trans e8_3
          have e13_4' := ev_put_eq A3 13 (.slice (some ⟨b3, 0, none⟩) (l.drop 4).length c3) (by rw [sz3]; decide)
          generalize hA4 : A3.put (some 13) (.slice (some ⟨b3, 0, none⟩) (l.drop 4).length c3) = A4 at sz4' e7_4' e12_4' e9_4' e10_4' e8_4' e13_4' ⊢
          have sz4 := sz4'
          have e7_4 := e7_4'
          have e12_4 := e12_4'
          have e9_4 := e9_4'
          have e10_4 := e10_4'
          have e8_4 := e8_4'
          have e13_4 := e13_4'
          clear sz4' e7_4' e12_4' e9_4' e10_4' e8_4' e13_4'
          have hb4 := hb3.trans (kk.mono hb3.size)
          have r1_4 := r1_3.keep kk
          have r2_4 := r2_3.keep kk
          refine show_tail rfl rfl rfl rfl rfl rfl rfl rfl rfl rfl rfl rfl rfl rfl rfl rfl (by kernel_rfl) (by kernel_rfl) (by kernel_rfl) (by kernel_rfl) (by kernel_rfl) sz4 e8_4 e10_4 e13_4 r1_4 r2_4 r3_4 hb4 HLL.out HSO.out ?_
          intro g v W hW
          rw [← hQQ, ← hA4, ← hA3, ← hA2, ← hA1, ← hA0, hA]
          simp only [put_mk]
          go_wp2_with fail
          go_ret
          exact ⟨rfl, hW⟩
        · intro K hK
          refine mk_use (mk_conv 13 rfl (.tmp 12) rfl (l.drop 4) HDR.out e12_2) fun b3 c3 W3 r3_3 kk m3 => hK _ _ ?_
          clear hK K
          have sz3' := (sz_put A2 13 (.slice (some ⟨b3, 0, none⟩) (l.drop 4).length c3)).trans sz2
          have e7_3' := (ev_put_ne A2 13 7 (.slice (some ⟨b3, 0, none⟩) (l.drop 4).length c3) (by decide)).trans e7_2
          have e12_3' := (ev_put_ne A2 13 12 (.slice (some ⟨b3, 0, none⟩) (l.drop 4).length c3) (by decide)).trans e12_2
          have e9_3' := (ev_put_ne A2 13 9 (.slice (some ⟨b3, 0, none⟩) (l.drop 4).length c3) (by decide)).trans e9_2
          have e10_3' := (ev_put_ne A2 13 10 (.slice (some ⟨b3, 0, none⟩) (l.drop 4).length c3) (by decide)).trans e10_2
          have e13_3' := ev_put_eq A2 13 (.slice (some ⟨b3, 0, none⟩) (l.drop 4).length c3) (by rw [sz2]; decide)
          generalize hA3 : A2.put (some 13) (.slice (some ⟨b3, 0, none⟩) (l.drop 4).length c3) = A3 at sz3' e7_3' e12_3' e9_3' e10_3' e13_3' ⊢
          have sz3 := sz3'
          have e7_3 := e7_3'
          have e12_3 := e12_3'
          have e9_3 := e9_3'
          have e10_3 := e10_3'
          have e13_3 := e13_3'
          clear sz3' e7_3' e12_3' e9_3' e10_3' e13_3'
          have hb3 := hb2.trans (kk.mono hb2.size)
          have r2_3 := r2_2.keep kk
          refine ready1 (i := 2) (oi := { dst := some 8, op := Op.convert 9 22 (Operand.tmp 7), type := 22, pos := "typed.go:55", after := #[{ on := 1, ground := Ground.data }], guard := none }) (by kernel_rfl) rfl rfl ?_
          intro K hK
          refine mk_use (mk_conv 8 rfl (.tmp 7) rfl (l.take 4) HTK.out e7_3) fun b1 c1 W4 r1_4 kk m1 => hK _ _ ?_
          clear hK K
          have sz4' := (sz_put A3 8 (.slice (some ⟨b1, 0, none⟩) (l.take 4).length c1)).trans sz3
          have e7_4' := (ev_put_ne A3 8 7 (.slice (some ⟨b1, 0, none⟩) (l.take 4).length c1) (by decide)).trans e7_3
          have e12_4' := (ev_put_ne A3 8 12 (.slice (some ⟨b1, 0, none⟩) (l.take 4).length c1) (by decide)).trans e12_3
          have e9_4' := (ev_put_ne A3 8 9 (.slice (some ⟨b1, 0, none⟩) (l.take 4).length c1) (by decide)).trans e9_3
          have e10_4' := (ev_put_ne A3 8 10 (.slice (some ⟨b1, 0, none⟩) (l.take 4).length c1) (by decide)).trans e10_3
          have e13_4' := (ev_put_ne A3 8 13 (.slice (some ⟨b1, 0, none⟩) (l.take 4).length c1) (by decide)).trans e13_3
          have e8_4' := ev_put_eq A3 8 (.slice (some ⟨b1, 0, none⟩) (l.take 4).length c1) (by rw [sz3]; decide)
          generalize hA4 : A3.put (some 8) (.slice (some ⟨b1, 0, none⟩) (l.take 4).length c1) = A4 at sz4' e7_4' e12_4' e9_4' e10_4' e13_4' e8_4' ⊢
          have sz4 := sz4'
          have e7_4 := e7_4'
          have e12_4 := e12_4'
          have e9_4 := e9_4'
          have e10_4 := e10_4'
          have e13_4 := e13_4'
          have e8_4 := e8_4'
          clear sz4' e7_4' e12_4' e9_4' e10_4' e13_4' e8_4'
          have hb4 := hb3.trans (kk.mono hb3.size)
          have r2_4 := r2_3.keep kk
          have r3_4 := r3_3.keep kk
          refine show_tail rfl rfl rfl rfl rfl rfl rfl rfl rfl rfl rfl rfl rfl rfl rfl rfl (by kernel_rfl) (by kernel_rfl) (by kernel_rfl) (by kernel_rfl) (by kernel_rfl) sz4 e8_4 e10_4 e13_4 r1_4 r2_4 r3_4 hb4 HLL.out HSO.out ?_
          intro g v W hW
          rw [← hQQ, ← hA4, ← hA3, ← hA2, ← hA1, ← hA0, hA]
          simp only [put_mk]
          go_wp2_with fail
          go_ret
          exact ⟨rfl, hW⟩
      · intro K hK
        refine mk_use (mk_conv 13 rfl (.tmp 12) rfl (l.drop 4) HDR.out e12_1) fun b3 c3 W2 r3_2 kk m3 => hK _ _ ?_
        clear hK K
        have sz2' := (sz_put A1 13 (.slice (some ⟨b3, 0, none⟩) (l.drop 4).length c3)).trans sz1
        have e7_2' := (ev_put_ne A1 13 7 (.slice (some ⟨b3, 0, none⟩) (l.drop 4).length c3) (by decide)).trans e7_1
        have e12_2' := (ev_put_ne A1 13 12 (.slice (some ⟨b3, 0, none⟩) (l.drop 4).length c3) (by decide)).trans e12_1
        have e9_2' := (ev_put_ne A1 13 9 (.slice (some ⟨b3, 0, none⟩) (l.drop 4).length c3) (by decide)).trans e9_1
        have e13_2' := ev_put_eq A1 13 (.slice (some ⟨b3, 0, none⟩) (l.drop 4).length c3) (by rw [sz1]; decide)
        generalize hA2 : A1.put (some 13) (.slice (some ⟨b3, 0, none⟩) (l.drop 4).length c3) = A2 at sz2' e7_2' e12_2' e9_2' e13_2' ⊢
        have sz2 := sz2'
        have e7_2 := e7_2'
        have e12_2 := e12_2'
        have e9_2 := e9_2'
        have e13_2 := e13_2'
        clear sz2' e7_2' e12_2' e9_2' e13_2'
        have hb2 := hb1.trans (kk.mono hb1.size)
        have r2_2 := r2_1.keep kk
        have h2_2 := (kk.block b2 (Array.getElem?_eq_some_iff.1 h2_1).1).trans h2_1
        refine ready2 (i := 2) (j := 4) (oi := { dst := some 8, op := Op.convert 9 22 (Operand.tmp 7), type := 22, pos := "typed.go:55", after := #[{ on := 1, ground := Ground.data }], guard := none }) (oj := { dst := some 10, op := Op.convert 22 22 (Operand.tmp 9), type := 22, pos := "typed.go:55", after := #[{ on := 3, ground := Ground.data }], guard := none }) (by kernel_rfl) rfl rfl rfl rfl ?_ ?_
        · intro K hK
          refine mk_use (mk_conv 8 rfl (.tmp 7) rfl (l.take 4) HTK.out e7_2) fun b1 c1 W3 r1_3 kk m1 => hK _ _ ?_
          clear hK K
          have sz3' := (sz_put A2 8 (.slice (some ⟨b1, 0, none⟩) (l.take 4).length c1)).trans sz2
          have e7_3' := (ev_put_ne A2 8 7 (.slice (some ⟨b1, 0, none⟩) (l.take 4).length c1) (by decide)).trans e7_2
          have e12_3' := (ev_put_ne A2 8 12 (.slice (some ⟨b1, 0, none⟩) (l.take 4).length c1) (by decide)).trans e12_2
          have e9_3' := (ev_put_ne A2 8 9 (.slice (some ⟨b1, 0, none⟩) (l.take 4).length c1) (by decide)).trans e9_2
          have e13_3' := (ev_put_ne A2 8 13 (.slice (some ⟨b1, 0, none⟩) (l.take 4).length c1) (by decide)).trans e13_2
          have e8_3' := ev_put_eq A2 8 (.slice (some ⟨b1, 0, none⟩) (l.take 4).length c1) (by rw [sz2]; decide)
          generalize hA3 : A2.put (some 8) (.slice (some ⟨b1, 0, none⟩) (l.take 4).length c1) = A3 at sz3' e7_3' e12_3' e9_3' e13_3' e8_3' ⊢
          have sz3 := sz3'
          have e7_3 := e7_3'
          have e12_3 := e12_3'
          have e9_3 := e9_3'
          have e13_3 := e13_3'
          have e8_3 := e8_3'
          clear sz3' e7_3' e12_3' e9_3' e13_3' e8_3'
          have hb3 := hb2.trans (kk.mono hb2.size)
          have r2_3 := r2_2.keep kk
          have r3_3 := r3_2.keep kk
          have h2_3 := (kk.block b2 (Array.getElem?_eq_some_iff.1 h2_2).1).trans h2_2
          refine ready1 (i := 4) (oi := { dst := some 10, op := Op.convert 22 22 (Operand.tmp 9), type := 22, pos := "typed.go:55", after := #[{ on := 3, ground := Ground.data }], guard := none }) (by kernel_rfl) rfl rfl ?_
          intro K hK
          refine mark_use 10 rfl (.tmp 9) rfl e9_3 h2_3 fun W4 ce be => hK _ _ ?_
          clear hK K
          have sz4' := (sz_put A3 10 (.slice (some ⟨b2, 0, none⟩) 1 1)).trans sz3
          have e7_4' := (ev_put_ne A3 10 7 (.slice (some ⟨b2, 0, none⟩) 1 1) (by decide)).trans e7_3
          have e12_4' := (ev_put_ne A3 10 12 (.slice (some ⟨b2, 0, none⟩) 1 1) (by decide)).trans e12_3
          have e9_4' := (ev_put_ne A3 10 9 (.slice (some ⟨b2, 0, none⟩) 1 1) (by decide)).trans e9_3
          have e13_4' := (ev_put_ne A3 10 13 (.slice (some ⟨b2, 0, none⟩) 1 1) (by decide)).trans e13_3
          have e8_4' := (ev_put_ne A3 10 8 (.slice (some ⟨b2, 0, none⟩) 1 1) (by decide)).trans e8_3
          have e10_4' := ev_put_eq A3 10 (.slice (some ⟨b2, 0, none⟩) 1 1) (by rw [sz3]; decide)
          generalize hA4 : A3.put (some 10) (.slice (some ⟨b2, 0, none⟩) 1 1) = A4 at sz4' e7_4' e12_4' e9_4' e13_4' e8_4' e10_4' ⊢
          have sz4 := sz4'
          have e7_4 := e7_4'
          have e12_4 := e12_4'
          have e9_4 := e9_4'
          have e13_4 := e13_4'
          have e8_4 := e8_4'
          have e10_4 := e10_4'
          clear sz4' e7_4' e12_4' e9_4' e13_4' e8_4' e10_4'
          have hb4 := be _ _ hb3 g2
          have r1_4 := row_freeze r1_3 ce
          have r2_4 := row_freeze r2_3 ce
          have r3_4 := row_freeze r3_3 ce
          refine show_tail rfl rfl rfl rfl rfl rfl rfl rfl rfl rfl rfl rfl rfl rfl rfl rfl (by kernel_rfl) (by kernel_rfl) (by kernel_rfl) (by kernel_rfl) (by kernel_rfl) sz4 e8_4 e10_4 e13_4 r1_4 r2_4 r3_4 hb4 HLL.out HSO.out ?_
          intro g v W hW
          rw [← hQQ, ← hA4, ← hA3, ← hA2, ← hA1, ← hA0, hA]
          simp only [put_mk]
          go_wp2_with fail
          go_ret
          exact ⟨rfl, hW⟩
        · intro K hK
          refine mark_use 10 rfl (.tmp 9) rfl e9_2 h2_2 fun W3 ce be => hK _ _ ?_
          clear hK K
          have sz3' := (sz_put A2 10 (.slice (some ⟨b2, 0, none⟩) 1 1)).trans sz2
          have e7_3' := (ev_put_ne A2 10 7 (.slice (some ⟨b2, 0, none⟩) 1 1) (by decide)).trans e7_2
          have e12_3' := (ev_put_ne A2 10 12 (.slice (some ⟨b2, 0, none⟩) 1 1) (by decide)).trans e12_2
          have e9_3' := (ev_put_ne A2 10 9 (.slice (some ⟨b2, 0, none⟩) 1 1) (by decide)).trans e9_2
          have e13_3' := (ev_put_ne A2 10 13 (.slice (some ⟨b2, 0, none⟩) 1 1) (by decide)).trans e13_2
          have e10_3' := ev_put_eq A2 10 (.slice (some ⟨b2, 0, none⟩) 1 1) (by rw [sz2]; decide)
          generalize hA3 : A2.put (some 10) (.slice (some ⟨b2, 0, none⟩) 1 1) = A3 at sz3' e7_3' e12_3' e9_3' e13_3' e10_3' ⊢
          have sz3 := sz3'
          have e7_3 := e7_3'
          have e12_3 := e12_3'
          have e9_3 := e9_3'
          have e13_3 := e13_3'
          have e10_3 := e10_3'
          clear sz3' e7_3' e12_3' e9_3' e13_3' e10_3'
          have hb3 := be _ _ hb2 g2
          have r2_3 := row_freeze r2_2 ce
          have r3_3 := row_freeze r3_2 ce
          refine ready1 (i := 2) (oi := { dst := some 8, op := Op.convert 9 22 (Operand.tmp 7), type := 22, pos := "typed.go:55", after := #[{ on := 1, ground := Ground.data }], guard := none }) (by kernel_rfl) rfl rfl ?_
          intro K hK
          refine mk_use (mk_conv 8 rfl (.tmp 7) rfl (l.take 4) HTK.out e7_3) fun b1 c1 W4 r1_4 kk m1 => hK _ _ ?_
          clear hK K
          have sz4' := (sz_put A3 8 (.slice (some ⟨b1, 0, none⟩) (l.take 4).length c1)).trans sz3
          have e7_4' := (ev_put_ne A3 8 7 (.slice (some ⟨b1, 0, none⟩) (l.take 4).length c1) (by decide)).trans e7_3
          have e12_4' := (ev_put_ne A3 8 12 (.slice (some ⟨b1, 0, none⟩) (l.take 4).length c1) (by decide)).trans e12_3
          have e9_4' := (ev_put_ne A3 8 9 (.slice (some ⟨b1, 0, none⟩) (l.take 4).length c1) (by decide)).trans e9_3
          have e13_4' := (ev_put_ne A3 8 13 (.slice (some ⟨b1, 0, none⟩) (l.take 4).length c1) (by decide)).trans e13_3
          have e10_4' := (ev_put_ne A3 8 10 (.slice (some ⟨b1, 0, none⟩) (l.take 4).length c1) (by decide)).trans e10_3
          have e8_4' := ev_put_eq A3 8 (.slice (some ⟨b1, 0, none⟩) (l.take 4).length c1) (by rw [sz3]; decide)
          generalize hA4 : A3.put (some 8) (.slice (some ⟨b1, 0, none⟩) (l.take 4).length c1) = A4 at sz4' e7_4' e12_4' e9_4' e13_4' e10_4' e8_4' ⊢
          have sz4 := sz4'
          have e7_4 := e7_4'
          have e12_4 := e12_4'
          have e9_4 := e9_4'
          have e13_4 := e13_4'
          have e10_4 := e10_4'
          have e8_4 := e8_4'
          clear sz4' e7_4' e12_4' e9_4' e13_4' e10_4' e8_4'
          have hb4 := hb3.trans (kk.mono hb3.size)
          have r2_4 := r2_3.keep kk
          have r3_4 := r3_3.keep kk
          refine show_tail rfl rfl rfl rfl rfl rfl rfl rfl rfl rfl rfl rfl rfl rfl rfl rfl (by kernel_rfl) (by kernel_rfl) (by kernel_rfl) (by kernel_rfl) (by kernel_rfl) sz4 e8_4 e10_4 e13_4 r1_4 r2_4 r3_4 hb4 HLL.out HSO.out ?_
          intro g v W hW
          rw [← hQQ, ← hA4, ← hA3, ← hA2, ← hA1, ← hA0, hA]
          simp only [put_mk]
          go_wp2_with fail
          go_ret
          exact ⟨rfl, hW⟩
    · intro K hK
      refine mk_use (mk_conv 13 rfl (.tmp 12) rfl (l.drop 4) HDR.out e12_0) fun b3 c3 W1 r3_1 kk m3 => hK _ _ ?_
      clear hK K
      have sz1' := (sz_put A0 13 (.slice (some ⟨b3, 0, none⟩) (l.drop 4).length c3)).trans sz0
      have e7_1' := (ev_put_ne A0 13 7 (.slice (some ⟨b3, 0, none⟩) (l.drop 4).length c3) (by decide)).trans e7_0
      have e12_1' := (ev_put_ne A0 13 12 (.slice (some ⟨b3, 0, none⟩) (l.drop 4).length c3) (by decide)).trans e12_0
      have e13_1' := ev_put_eq A0 13 (.slice (some ⟨b3, 0, none⟩) (l.drop 4).length c3) (by rw [sz0]; decide)
      generalize hA1 : A0.put (some 13) (.slice (some ⟨b3, 0, none⟩) (l.drop 4).length c3) = A1 at sz1' e7_1' e12_1' e13_1' ⊢
      have sz1 := sz1'
      have e7_1 := e7_1'
      have e12_1 := e12_1'
      have e13_1 := e13_1'
      clear sz1' e7_1' e12_1' e13_1'
      have hb1 := hb0.trans (kk.mono hb0.size)
      refine ready2 (i := 2) (j := 3) (oi := { dst := some 8, op := Op.convert 9 22 (Operand.tmp 7), type := 22, pos := "typed.go:55", after := #[{ on := 1, ground := Ground.data }], guard := none }) (oj := { dst := some 9, op := Op.buildSlice 22 1 #[(0, Operand.const (Value.int IntKind.u8 45))], type := 22, pos := "typed.go:55", after := #[], guard := none }) (by kernel_rfl) rfl rfl rfl rfl ?_ ?_
      · intro K hK
        refine mk_use (mk_conv 8 rfl (.tmp 7) rfl (l.take 4) HTK.out e7_1) fun b1 c1 W2 r1_2 kk m1 => hK _ _ ?_
        clear hK K
        have sz2' := (sz_put A1 8 (.slice (some ⟨b1, 0, none⟩) (l.take 4).length c1)).trans sz1
        have e7_2' := (ev_put_ne A1 8 7 (.slice (some ⟨b1, 0, none⟩) (l.take 4).length c1) (by decide)).trans e7_1
        have e12_2' := (ev_put_ne A1 8 12 (.slice (some ⟨b1, 0, none⟩) (l.take 4).length c1) (by decide)).trans e12_1
        have e13_2' := (ev_put_ne A1 8 13 (.slice (some ⟨b1, 0, none⟩) (l.take 4).length c1) (by decide)).trans e13_1
        have e8_2' := ev_put_eq A1 8 (.slice (some ⟨b1, 0, none⟩) (l.take 4).length c1) (by rw [sz1]; decide)
        generalize hA2 : A1.put (some 8) (.slice (some ⟨b1, 0, none⟩) (l.take 4).length c1) = A2 at sz2' e7_2' e12_2' e13_2' e8_2' ⊢
        have sz2 := sz2'
        have e7_2 := e7_2'
        have e12_2 := e12_2'
        have e13_2 := e13_2'
        have e8_2 := e8_2'
        clear sz2' e7_2' e12_2' e13_2' e8_2'
        have hb2 := hb1.trans (kk.mono hb1.size)
        have r3_2 := r3_1.keep kk
        refine ready1 (i := 3) (oi := { dst := some 9, op := Op.buildSlice 22 1 #[(0, Operand.const (Value.int IntKind.u8 45))], type := 22, pos := "typed.go:55", after := #[], guard := none }) (by kernel_rfl) rfl rfl ?_
        intro K hK
        refine mk_one (n := 45) 9 rfl (by unfold execOp; simp; go_simp) fun b2 W3 r2_3 kk h2_3 g2' => hK _ _ ?_
        have g2 : w.heap.size ≤ b2 := Nat.le_trans hb2.size g2'
        clear g2'
        clear hK K
        have sz3' := (sz_put A2 9 (.slice (some ⟨b2, 0, none⟩) 1 1)).trans sz2
        have e7_3' := (ev_put_ne A2 9 7 (.slice (some ⟨b2, 0, none⟩) 1 1) (by decide)).trans e7_2
        have e12_3' := (ev_put_ne A2 9 12 (.slice (some ⟨b2, 0, none⟩) 1 1) (by decide)).trans e12_2
        have e13_3' := (ev_put_ne A2 9 13 (.slice (some ⟨b2, 0, none⟩) 1 1) (by decide)).trans e13_2
        have e8_3' := (ev_put_ne A2 9 8 (.slice (some ⟨b2, 0, none⟩) 1 1) (by decide)).trans e8_2
        have e9_3' := ev_put_eq A2 9 (.slice (some ⟨b2, 0, none⟩) 1 1) (by rw [sz2]; decide)
        generalize hA3 : A2.put (some 9) (.slice (some ⟨b2, 0, none⟩) 1 1) = A3 at sz3' e7_3' e12_3' e13_3' e8_3' e9_3' ⊢
        have sz3 := sz3'
        have e7_3 := e7_3'
        have e12_3 := e12_3'
        have e13_3 := e13_3'
        have e8_3 := e8_3'
        have e9_3 := e9_3'
        clear sz3' e7_3' e12_3' e13_3' e8_3' e9_3'
        have hb3 := hb2.trans (kk.mono hb2.size)
        have r1_3 := r1_2.keep kk
        have r3_3 := r3_2.keep kk
        refine ready1 (i := 4) (oi := { dst := some 10, op := Op.convert 22 22 (Operand.tmp 9), type := 22, pos := "typed.go:55", after := #[{ on := 3, ground := Ground.data }], guard := none }) (by kernel_rfl) rfl rfl ?_
        intro K hK
        refine mark_use 10 rfl (.tmp 9) rfl e9_3 h2_3 fun W4 ce be => hK _ _ ?_
        clear hK K
        have sz4' := (sz_put A3 10 (.slice (some ⟨b2, 0, none⟩) 1 1)).trans sz3
        have e7_4' := (ev_put_ne A3 10 7 (.slice (some ⟨b2, 0, none⟩) 1 1) (by decide)).trans e7_3
        have e12_4' := (ev_put_ne A3 10 12 (.slice (some ⟨b2, 0, none⟩) 1 1) (by decide)).trans e12_3
        have e13_4' := (ev_put_ne A3 10 13 (.slice (some ⟨b2, 0, none⟩) 1 1) (by decide)).trans e13_3
        have e8_4' := (ev_put_ne A3 10 8 (.slice (some ⟨b2, 0, none⟩) 1 1) (by decide)).trans e8_3
        have e9_4' := (ev_put_ne A3 10 9 (.slice (some ⟨b2, 0, none⟩) 1 1) (by decide)).trans e9_3
        have e10_4' := ev_put_eq A3 10 (.slice (some ⟨b2, 0, none⟩) 1 1) (by rw [sz3]; decide)
        generalize hA4 : A3.put (some 10) (.slice (some ⟨b2, 0, none⟩) 1 1) = A4 at sz4' e7_4' e12_4' e13_4' e8_4' e9_4' e10_4' ⊢
        have sz4 := sz4'
        have e7_4 := e7_4'
        have e12_4 := e12_4'
        have e13_4 := e13_4'
        have e8_4 := e8_4'
        have e9_4 := e9_4'
        have e10_4 := e10_4'
        clear sz4' e7_4' e12_4' e13_4' e8_4' e9_4' e10_4'
        have hb4 := be _ _ hb3 g2
        have r1_4 := row_freeze r1_3 ce
        have r2_4 := row_freeze r2_3 ce
        have r3_4 := row_freeze r3_3 ce
        refine show_tail rfl rfl rfl rfl rfl rfl rfl rfl rfl rfl rfl rfl rfl rfl rfl rfl (by kernel_rfl) (by kernel_rfl) (by kernel_rfl) (by kernel_rfl) (by kernel_rfl) sz4 e8_4 e10_4 e13_4 r1_4 r2_4 r3_4 hb4 HLL.out HSO.out ?_
        intro g v W hW
        rw [← hQQ, ← hA4, ← hA3, ← hA2, ← hA1, ← hA0, hA]
        simp only [put_mk]
        go_wp2_with fail
        go_ret
        exact ⟨rfl, hW⟩
      · intro K hK
        refine mk_one (n := 45) 9 rfl (by unfold execOp; simp; go_simp) fun b2 W2 r2_2 kk h2_2 g2' => hK _ _ ?_
        have g2 : w.heap.size ≤ b2 := Nat.le_trans hb1.size g2'
        clear g2'
        clear hK K
        have sz2' := (sz_put A1 9 (.slice (some ⟨b2, 0, none⟩) 1 1)).trans sz1
        have e7_2' := (ev_put_ne A1 9 7 (.slice (some ⟨b2, 0, none⟩) 1 1) (by decide)).trans e7_1
        have e12_2' := (ev_put_ne A1 9 12 (.slice (some ⟨b2, 0, none⟩) 1 1) (by decide)).trans e12_1
        have e13_2' := (ev_put_ne A1 9 13 (.slice (some ⟨b2, 0, none⟩) 1 1) (by decide)).trans e13_1
        have e9_2' := ev_put_eq A1 9 (.slice (some ⟨b2, 0, none⟩) 1 1) (by rw [sz1]; decide)
        generalize hA2 : A1.put (some 9) (.slice (some ⟨b2, 0, none⟩) 1 1) = A2 at sz2' e7_2' e12_2' e13_2' e9_2' ⊢
        have sz2 := sz2'
        have e7_2 := e7_2'
        have e12_2 := e12_2'
        have e13_2 := e13_2'
        have e9_2 := e9_2'
        clear sz2' e7_2' e12_2' e13_2' e9_2'
        have hb2 := hb1.trans (kk.mono hb1.size)
        have r3_2 := r3_1.keep kk
        refine ready2 (i := 2) (j := 4) (oi := { dst := some 8, op := Op.convert 9 22 (Operand.tmp 7), type := 22, pos := "typed.go:55", after := #[{ on := 1, ground := Ground.data }], guard := none }) (oj := { dst := some 10, op := Op.convert 22 22 (Operand.tmp 9), type := 22, pos := "typed.go:55", after := #[{ on := 3, ground := Ground.data }], guard := none }) (by kernel_rfl) rfl rfl rfl rfl ?_ ?_
        · intro K hK
          refine mk_use (mk_conv 8 rfl (.tmp 7) rfl (l.take 4) HTK.out e7_2) fun b1 c1 W3 r1_3 kk m1 => hK _ _ ?_
          clear hK K
          have sz3' := (sz_put A2 8 (.slice (some ⟨b1, 0, none⟩) (l.take 4).length c1)).trans sz2
          have e7_3' := (ev_put_ne A2 8 7 (.slice (some ⟨b1, 0, none⟩) (l.take 4).length c1) (by decide)).trans e7_2
          have e12_3' := (ev_put_ne A2 8 12 (.slice (some ⟨b1, 0, none⟩) (l.take 4).length c1) (by decide)).trans e12_2
          have e13_3' := (ev_put_ne A2 8 13 (.slice (some ⟨b1, 0, none⟩) (l.take 4).length c1) (by decide)).trans e13_2
          have e9_3' := (ev_put_ne A2 8 9 (.slice (some ⟨b1, 0, none⟩) (l.take 4).length c1) (by decide)).trans e9_2
          have e8_3' := ev_put_eq A2 8 (.slice (some ⟨b1, 0, none⟩) (l.take 4).length c1) (by rw [sz2]; decide)
          generalize hA3 : A2.put (some 8) (.slice (some ⟨b1, 0, none⟩) (l.take 4).length c1) = A3 at sz3' e7_3' e12_3' e13_3' e9_3' e8_3' ⊢
          have sz3 := sz3'
          have e7_3 := e7_3'
          have e12_3 := e12_3'
          have e13_3 := e13_3'
          have e9_3 := e9_3'
          have e8_3 := e8_3'
          clear sz3' e7_3' e12_3' e13_3' e9_3' e8_3'
          have hb3 := hb2.trans (kk.mono hb2.size)
          have r2_3 := r2_2.keep kk
          have r3_3 := r3_2.keep kk
          have h2_3 := (kk.block b2 (Array.getElem?_eq_some_iff.1 h2_2).1).trans h2_2
          refine ready1 (i := 4) (oi := { dst := some 10, op := Op.convert 22 22 (Operand.tmp 9), type := 22, pos := "typed.go:55", after := #[{ on := 3, ground := Ground.data }], guard := none }) (by kernel_rfl) rfl rfl ?_
          intro K hK
          refine mark_use 10 rfl (.tmp 9) rfl e9_3 h2_3 fun W4 ce be => hK _ _ ?_
          clear hK K
          have sz4' := (sz_put A3 10 (.slice (some ⟨b2, 0, none⟩) 1 1)).trans sz3
          have e7_4' := (ev_put_ne A3 10 7 (.slice (some ⟨b2, 0, none⟩) 1 1) (by decide)).trans e7_3
          have e12_4' := (ev_put_ne A3 10 12 (.slice (some ⟨b2, 0, none⟩) 1 1) (by decide)).trans e12_3
          have e13_4' := (ev_put_ne A3 10 13 (.slice (some ⟨b2, 0, none⟩) 1 1) (by decide)).trans e13_3
          have e9_4' := (ev_put_ne A3 10 9 (.slice (some ⟨b2, 0, none⟩) 1 1) (by decide)).trans e9_3
          have e8_4' := (ev_put_ne A3 10 8 (.slice (some ⟨b2, 0, none⟩) 1 1) (by decide)).trans e8_3
          have e10_4' := ev_put_eq A3 10 (.slice (some ⟨b2, 0, none⟩) 1 1) (by rw [sz3]; decide)
          generalize hA4 : A3.put (some 10) (.slice (some ⟨b2, 0, none⟩) 1 1) = A4 at sz4' e7_4' e12_4' e13_4' e9_4' e8_4' e10_4' ⊢
          have sz4 := sz4'
          have e7_4 := e7_4'
          have e12_4 := e12_4'
          have e13_4 := e13_4'
          have e9_4 := e9_4'
          have e8_4 := e8_4'
          have e10_4 := e10_4'
          clear sz4' e7_4' e12_4' e13_4' e9_4' e8_4' e10_4'
          have hb4 := be _ _ hb3 g2
          have r1_4 := row_freeze r1_3 ce
          have r2_4 := row_freeze r2_3 ce
          have r3_4 := row_freeze r3_3 ce
          refine show_tail rfl rfl rfl rfl rfl rfl rfl rfl rfl rfl rfl rfl rfl rfl rfl rfl (by kernel_rfl) (by kernel_rfl) (by kernel_rfl) (by kernel_rfl) (by kernel_rfl) sz4 e8_4 e10_4 e13_4 r1_4 r2_4 r3_4 hb4 HLL.out HSO.out ?_
          intro g v W hW
          rw [← hQQ, ← hA4, ← hA3, ← hA2, ← hA1, ← hA0, hA]
          simp only [put_mk]
          go_wp2_with fail
          go_ret
          exact ⟨rfl, hW⟩
        · intro K hK
          refine mark_use 10 rfl (.tmp 9) rfl e9_2 h2_2 fun W3 ce be => hK _ _ ?_
          clear hK K
          have sz3' := (sz_put A2 10 (.slice (some ⟨b2, 0, none⟩) 1 1)).trans sz2
          have e7_3' := (ev_put_ne A2 10 7 (.slice (some ⟨b2, 0, none⟩) 1 1) (by decide)).trans e7_2
          have e12_3' := (ev_put_ne A2 10 12 (.slice (some ⟨b2, 0, none⟩) 1 1) (by decide)).trans e12_2
          have e13_3' := (ev_put_ne A2 10 13 (.slice (some ⟨b2, 0, none⟩) 1 1) (by decide)).trans e13_2
          have e9_3' := (ev_put_ne A2 10 9 (.slice (some ⟨b2, 0, none⟩) 1 1) (by decide)).trans e9_2
          have e10_3' := ev_put_eq A2 10 (.slice (some ⟨b2, 0, none⟩) 1 1) (by rw [sz2]; decide)
          generalize hA3 : A2.put (some 10) (.slice (some ⟨b2, 0, none⟩) 1 1) = A3 at sz3' e7_3' e12_3' e13_3' e9_3' e10_3' ⊢
          have sz3 := sz3'
          have e7_3 := e7_3'
          have e12_3 := e12_3'
          have e13_3 := e13_3'
          have e9_3 := e9_3'
          have e10_3 := e10_3'
          clear sz3' e7_3' e12_3' e13_3' e9_3' e10_3'
          have hb3 := be _ _ hb2 g2
          have r2_3 := row_freeze r2_2 ce
          have r3_3 := row_freeze r3_2 ce
          refine ready1 (i := 2) (oi := { dst := some 8, op := Op.convert 9 22 (Operand.tmp 7), type := 22, pos := "typed.go:55", after := #[{ on := 1, ground := Ground.data }], guard := none }) (by kernel_rfl) rfl rfl ?_
          intro K hK
          refine mk_use (mk_conv 8 rfl (.tmp 7) rfl (l.take 4) HTK.out e7_3) fun b1 c1 W4 r1_4 kk m1 => hK _ _ ?_
          clear hK K
          have sz4' := (sz_put A3 8 (.slice (some ⟨b1, 0, none⟩) (l.take 4).length c1)).trans sz3
          have e7_4' := (ev_put_ne A3 8 7 (.slice (some ⟨b1, 0, none⟩) (l.take 4).length c1) (by decide)).trans e7_3
          have e12_4' := (ev_put_ne A3 8 12 (.slice (some ⟨b1, 0, none⟩) (l.take 4).length c1) (by decide)).trans e12_3
          have e13_4' := (ev_put_ne A3 8 13 (.slice (some ⟨b1, 0, none⟩) (l.take 4).length c1) (by decide)).trans e13_3
          have e9_4' := (ev_put_ne A3 8 9 (.slice (some ⟨b1, 0, none⟩) (l.take 4).length c1) (by decide)).trans e9_3
          have e10_4' := (ev_put_ne A3 8 10 (.slice (some ⟨b1, 0, none⟩) (l.take 4).length c1) (by decide)).trans e10_3
          have e8_4' := ev_put_eq A3 8 (.slice (some ⟨b1, 0, none⟩) (l.take 4).length c1) (by rw [sz3]; decide)
          generalize hA4 : A3.put (some 8) (.slice (some ⟨b1, 0, none⟩) (l.take 4).length c1) = A4 at sz4' e7_4' e12_4' e13_4' e9_4' e10_4' e8_4' ⊢
          have sz4 := sz4'
          have e7_4 := e7_4'
          have e12_4 := e12_4'
          have e13_4 := e13_4'
          have e9_4 := e9_4'
          have e10_4 := e10_4'
          have e8_4 := e8_4'
          clear sz4' e7_4' e12_4' e13_4' e9_4' e10_4' e8_4'
          have hb4 := hb3.trans (kk.mono hb3.size)
          have r2_4 := r2_3.keep kk
          have r3_4 := r3_3.keep kk
          refine show_tail rfl rfl rfl rfl rfl rfl rfl rfl rfl rfl rfl rfl rfl rfl rfl rfl (by kernel_rfl) (by kernel_rfl) (by kernel_rfl) (by kernel_rfl) (by kernel_rfl) sz4 e8_4 e10_4 e13_4 r1_4 r2_4 r3_4 hb4 HLL.out HSO.out ?_
          intro g v W hW
          rw [← hQQ, ← hA4, ← hA3, ← hA2, ← hA1, ← hA0, hA]
          simp only [put_mk]
          go_wp2_with fail
          go_ret
          exact ⟨rfl, hW⟩
end Go.Proofs.YtonnnolnkjahgabDoor
