/- The contract of the reader's word: null, true, false. Jsons in memory: a value of four fields; rows of them; trees that own their memory; trees that can be read. append(items, item): as the translation has it: a zero Json is laid behind, then written over. The contract of the reader's fourDigits. -/
import Derived.Test.YtlebockgdonceaaGreatDoorJBase
import Derived.Test.YtlebockgdonceaaGreatDoorKBase
import Derived.Test.YtlebockgdonceaaGreatDoorKSteps
import Derived.Maps.AppendAt
import Derived.Deep.RegionLaw
namespace Go.Proofs.YtlebockgdonceaaGreatDoor
open Go.RowKit

/-- What a call of the reader answers that reads something: what was read (as vok says) and true, or whatever and false; the reader stands behind it, or has the fault. -/
def Rd {α : Type} (R : Nat) (s : ByteArray) (e q : Nat) (w : World) (shape : Value → Prop) (vok : α → Value → World → Prop) : Out α → Ending → World → Prop
  | .ok a p', ε, w' => (∃ v, ε = .returned (.tuple #[v, .bool true]) ∧ shape v ∧ vok a v w') ∧ RB w' R s p' e q ∧ But R w w'
  | .error e' q', ε, w' => (∃ v p', ε = .returned (.tuple #[v, .bool false]) ∧ shape v ∧ RB w' R s p' e' q') ∧ But R w w'
def jv (k : Int) (t : ByteArray) (n i : Value) : Value := .agg #[.int .i64 k, .string t, n, i]
/-- A Json as a value: four fields of a cell each. -/
def isJ (v : Value) : Prop := ∃ k t an ln cn ai li ci, v = jv k t (.slice an ln cn) (.slice ai li ci)
theorem isJ_zero : isJ (.agg #[.int .i64 0, .string ⟨#[]⟩, .slice none 0 0, .slice none 0 0]) := ⟨_, _, _, _, _, _, _, _, rfl⟩
theorem But.new {R g : Nat} {w w1 w2 : World} (h : But R w w1) (hg : w.heap.size ≤ g) (h2 : But g w1 w2) : But R w w2 :=
  ⟨h2.os.trans h.os, h2.tape.trans h.tape, h2.output.trans h.output, Nat.le_trans h.size h2.size, fun k hk hn => (h2.block k (Nat.lt_of_lt_of_le hk h.size) (by omega)).trans (h.block k hk hn)⟩
/-- A Json in a block of its own. -/
def Jb (w : World) (b : Nat) (k : Int) (t : ByteArray) (n i : Value) : Prop := Bl w b [.int .i64 k, .string t, n, i] 25
theorem Jb.c0 {w : World} {b : Nat} {k : Int} {t : ByteArray} {n i : Value} (h : Jb w b k t n i) : w.cell? ⟨b, 0, none⟩ = some (.int .i64 k) := by rw [Bl.cell h]; rfl
theorem Jb.c1 {w : World} {b : Nat} {k : Int} {t : ByteArray} {n i : Value} (h : Jb w b k t n i) : w.cell? ⟨b, 1, none⟩ = some (.string t) := by rw [Bl.cell h]; rfl
theorem Jb.c2 {w : World} {b : Nat} {k : Int} {t : ByteArray} {n i : Value} (h : Jb w b k t n i) : w.cell? ⟨b, 2, none⟩ = some n := by rw [Bl.cell h]; rfl
theorem Jb.c3 {w : World} {b : Nat} {k : Int} {t : ByteArray} {n i : Value} (h : Jb w b k t n i) : w.cell? ⟨b, 3, none⟩ = some i := by rw [Bl.cell h]; rfl
theorem Jb.fz {w : World} {b : Nat} {k : Int} {t : ByteArray} {n i : Value} (h : Jb w b k t n i) (j : Nat) : w.frozen? ⟨b, j, none⟩ = false := Bl.frozen h j
theorem Jb.new (w : World) (k : Int) (t : ByteArray) (n i : Value) : Jb (w.alloc (.cells #[.int .i64 k, .string t, n, i] 25)) w.heap.size k t n i := Bl.new w _ _
theorem Jb.but {w w' : World} {g b : Nat} {k : Int} {t : ByteArray} {n i : Value} (h : Jb w b k t n i) (hb : But g w w') (hn : b ≠ g) : Jb w' b k t n i := Bl.but h hb hn
theorem Jb.keep {w w' : World} {b : Nat} {k : Int} {t : ByteArray} {n i : Value} (h : Jb w b k t n i) (hb : Below w.heap.size w w') : Jb w' b k t n i := Bl.keep h hb
theorem But.put4 (b : Nat) (w : World) (v0 v1 v2 v3 : Value) : But b w ((((w.setCell ⟨b, 0, none⟩ v0).setCell ⟨b, 1, none⟩ v1).setCell ⟨b, 2, none⟩ v2).setCell ⟨b, 3, none⟩ v3) :=
  (((But.setCell _ _ _ _).trans (But.setCell _ _ _ _)).trans (But.setCell _ _ _ _)).trans (But.setCell _ _ _ _)
theorem Jb.put4 {w : World} {b : Nat} {k : Int} {t : ByteArray} {n i : Value} (h : Jb w b k t n i) (k' : Int) (t' : ByteArray) (n' i' : Value) :
    Jb ((((w.setCell ⟨b, 0, none⟩ (.int .i64 k')).setCell ⟨b, 1, none⟩ (.string t')).setCell ⟨b, 2, none⟩ n').setCell ⟨b, 3, none⟩ i') b k' t' n' i' :=
  Bl.set (Bl.set (Bl.set (Bl.set h 0 _) 1 _) 2 _) 3 _
theorem has_one (c d : Nat) (hd : d < 256) : hasB (sbytes (bstr [d])) c = decide (c = d) := by
  rw [sbytes_bstr (by simpa using hd)]
  rw [Bool.eq_iff_iff]
  simp [hasB]
theorem one_at (L : ByteArray) (k : Nat) (hk : k < L.size) : bstr (((sbytes L).take (k + 1)).drop k) = bstr [bt (sbytes L) k] := by
  rw [take_getD (by rw [sbytes_length]; exact hk), List.drop_append]
  have : ((sbytes L).take k).length = k := by rw [List.length_take, sbytes_length]; omega
  rw [this, Nat.sub_self, List.drop_of_length_le (by omega)]
  rfl
set_option maxHeartbeats 1000000 in
set_option maxRecDepth 100000 in
theorem word_any (R : Nat) (s L : ByteArray) (K : Int) (p e q : Nat) (w : World) (h : RB w R s p e q) (hp : p ≤ s.size) (hs : s.size ≤ 16384) (hL : L.size ≤ 8) :
    Calls Tryz.prog 24 #[.pointer (some ⟨R, 0, none⟩), .string L, .int .i64 K] w fun ε w' => Rd R s e q w isJ (fun (_ : Unit) v _ => v = jv K ⟨#[]⟩ (.slice none 0 0) (.slice none 0 0)) (wordAt (sbytes s) p (sbytes L)) ε w' := by
  have HL := hide (sbytes_length s)
  have HLL := hide (sbytes_length L)
  have HR0 := hide h
  have hR0 := h.lt
  clear h
  go_enter Tryz.func24, Tryz.ntmps24
  go_wp2_with fail
  go_loopw [13] (fun i wr => ∃ k : Nat, k ≤ L.size ∧ p + k ≤ s.size ∧ i = .int .i64 k ∧ Hid (RB wr R s (p + k) e q) ∧ Hid (But R (w.alloc (.cells #[.int .i64 0, .string ⟨#[]⟩, .slice none 0 0, .slice none 0 0] 25)) wr) ∧ Hid (wordAt (sbytes s) (p + k) ((sbytes L).drop k) = wordAt (sbytes s) p (sbytes L))) (fun i _ => L.size - (intOf i).toNat)
  case atStart => exact ⟨0, by omega, by omega, rfl, HR0.out.keep (below_new _ _), But.refl _ _, rfl⟩
  case round =>
    obtain ⟨k, hk, hpk, rfl, HR, HB, HW⟩ := hrel
    by_cases hlt : k < L.size
    · have HD : Hid ((sbytes L).drop k = bt (sbytes L) k :: (sbytes L).drop (k + 1)) := drop_bt (by rw [HLL.out]; exact hlt)
      have hsl := fun w => str_mid L k (k + 1) (k : Int) ((k : Int) + 1) rfl (by omega) (by omega) (by omega) w
      rw [one_at L k hlt] at hsl
      have hc := byte_lt L k
      by_cases hps : p + k < s.size
      · by_cases hin : bt (sbytes s) (p + k) = bt (sbytes L) k
        · go_wp2_with fail
          refine (take_in R s _ (p + k) e q _ HR.out hps hs (by rw [has_one _ _ hc]; simpa using hin)).mono ?_
          rintro ε w1 ⟨rfl, h1, hb1⟩
          have H1 := hide h1
          have HB1 := hide hb1
          clear h1 hb1
          go_wp2_with fail
          go_roundw
          case rel =>
            refine ⟨k + 1, by omega, by omega, by go_num, by show RB _ _ _ _ _ _; rw [← Nat.add_assoc]; exact H1.out, HB.out.trans HB1.out, ?_⟩
            show _ = _
            rw [← HW.out, HD.out, wordAt, if_pos (by rw [HL.out]; exact hps), if_pos hin, Nat.add_assoc]
          case measure => simp [intOf]; omega
        · go_wp2_with fail
          refine (take_out R s _ (p + k) e q _ HR.out hps (by rw [has_one _ _ hc]; simpa using hin)).mono ?_
          rintro ε w1 ⟨rfl, h1, hb1⟩
          have H1 := hide h1
          have HB1 := hide hb1
          have hJ := hide (((Jb.new w 0 ⟨#[]⟩ (.slice none 0 0) (.slice none 0 0)).but HB.out (by omega)).but hb1 (by omega))
          clear h1 hb1
          have j0 := hJ.out.c0
          have j1 := hJ.out.c1
          have j2 := hJ.out.c2
          have j3 := hJ.out.c3
          have g0 := hJ.out.fz 0
          have g1 := hJ.out.fz 1
          have g2 := hJ.out.fz 2
          have g3 := hJ.out.fz 3
          have HO : Hid (wordAt (sbytes s) p (sbytes L) = .error 40 (p + k)) := by
            show _ = _
            rw [← HW.out, HD.out, wordAt, if_pos (by rw [HL.out]; exact hps), if_neg hin]
          go_wp2_with fail
          refine bodyPost_ret (v := .tuple #[.agg #[.int .i64 0, .string ⟨#[]⟩, .slice none 0 0, .slice none 0 0], .bool false]) (by simp [results, Tryz.results24, go_sem, j0, j1, j2, j3]) rfl ?_
          rw [HO.out]
          exact ⟨⟨_, _, rfl, isJ_zero, Bl.but H1.out (But.put4 _ _ _ _ _ _) (by omega)⟩, (((But.alloc _ _ _).trans HB.out).trans HB1.out).new (Nat.le_refl _) (But.put4 _ _ _ _ _ _)⟩
      · have HO : Hid (wordAt (sbytes s) p (sbytes L) = .error 3 s.size) := by
          show _ = _
          rw [← HW.out, HD.out, wordAt, if_neg (by rw [HL.out]; exact hps), HL.out]
        have hpe : p + k = s.size := by omega
        go_wp2_with fail
        refine (take_end R s _ (p + k) e q _ HR.out hpe).mono ?_
        rintro ε w1 ⟨rfl, h1, hb1⟩
        have H1 := hide h1
        have HB1 := hide hb1
        have hJ := hide (((Jb.new w 0 ⟨#[]⟩ (.slice none 0 0) (.slice none 0 0)).but HB.out (by omega)).but hb1 (by omega))
        clear h1 hb1
        have j0 := hJ.out.c0
        have j1 := hJ.out.c1
        have j2 := hJ.out.c2
        have j3 := hJ.out.c3
        have g0 := hJ.out.fz 0
        have g1 := hJ.out.fz 1
        have g2 := hJ.out.fz 2
        have g3 := hJ.out.fz 3
        have HPE := hide hpe
        clear hpe
        go_wp2_with fail
        refine bodyPost_ret (v := .tuple #[.agg #[.int .i64 0, .string ⟨#[]⟩, .slice none 0 0, .slice none 0 0], .bool false]) (by simp [results, Tryz.results24, go_sem, j0, j1, j2, j3]) rfl ?_
        rw [HO.out, ← HPE.out]
        exact ⟨⟨_, _, rfl, isJ_zero, Bl.but H1.out (But.put4 _ _ _ _ _ _) (by omega)⟩, (((But.alloc _ _ _).trans HB.out).trans HB1.out).new (Nat.le_refl _) (But.put4 _ _ _ _ _ _)⟩
    · have HO : Hid (wordAt (sbytes s) p (sbytes L) = .ok () (p + k)) := by
        show _ = _
        rw [← HW.out, List.drop_of_length_le (by rw [HLL.out]; omega)]
        rfl
      have hJ := hide ((Jb.new w 0 ⟨#[]⟩ (.slice none 0 0) (.slice none 0 0)).but HB.out (by omega))
      have j0 := hJ.out.c0
      have j1 := hJ.out.c1
      have j2 := hJ.out.c2
      have j3 := hJ.out.c3
      have g0 := hJ.out.fz 0
      have g1 := hJ.out.fz 1
      have g2 := hJ.out.fz 2
      have g3 := hJ.out.fz 3
      go_wp2_with fail
      refine bodyPost_ret (v := .tuple #[.agg #[.int .i64 K, .string ⟨#[]⟩, .slice none 0 0, .slice none 0 0], .bool true]) (by simp [results, Tryz.results24, go_sem, j0, j1, j2, j3]) rfl ?_
      rw [HO.out]
      exact ⟨⟨_, rfl, ⟨_, _, _, _, _, _, _, _, rfl⟩, rfl⟩, Bl.but HR.out (But.put4 _ _ _ _ _ _) (by omega), ((But.alloc _ _ _).trans HB.out).new (Nat.le_refl _) (But.put4 _ _ _ _ _ _)⟩
end Go.Proofs.YtlebockgdonceaaGreatDoor
namespace Go.Proofs.YtlebockgdonceaaGreatDoor
open Go.RowKit

/-- A Json as it lies: its kind, its text, where its names and its items lie. -/
structure JV where
  k : Int
  t : ByteArray
  an : Option Addr
  ln : Nat
  cn : Nat
  ai : Option Addr
  li : Nat
  ci : Nat
def JV.nv (v : JV) : Value := .slice v.an v.ln v.cn
def JV.iv (v : JV) : Value := .slice v.ai v.li v.ci
def JV.cells (v : JV) : List Value := [.int .i64 v.k, .string v.t, .slice v.an v.ln v.cn, .slice v.ai v.li v.ci]
def JV.val (v : JV) : Value := .agg #[.int .i64 v.k, .string v.t, .slice v.an v.ln v.cn, .slice v.ai v.li v.ci]
def JV.zero : JV := ⟨0, ⟨#[]⟩, none, 0, 0, none, 0, 0⟩
theorem isJ_val (v : JV) : isJ v.val := ⟨_, _, _, _, _, _, _, _, rfl⟩
theorem isJ_out {v : Value} (h : isJ v) : ∃ x : JV, v = x.val := by
  obtain ⟨k, t, an, ln, cn, ai, li, ci, rfl⟩ := h
  exact ⟨⟨k, t, an, ln, cn, ai, li, ci⟩, rfl⟩
def flat4 (l : List JV) : List Value := l.flatMap JV.cells
theorem flat4_len (l : List JV) : (flat4 l).length = 4 * l.length := by
  induction l with
  | nil => rfl
  | cons q l ih => simp only [flat4, List.flatMap_cons, List.length_append, List.length_cons, JV.cells, List.length_nil] at ih ⊢; omega
theorem flat4_snoc (l : List JV) (q : JV) : flat4 (l ++ [q]) = flat4 l ++ q.cells := by simp [flat4]
theorem flat4_one (l : List JV) : ∀ u ∈ flat4 l, u.oneCell' = true := by
  intro u hu
  obtain ⟨q, _, hu⟩ := List.mem_flatMap.1 hu
  simp only [JV.cells, List.mem_cons, List.not_mem_nil, or_false] at hu
  rcases hu with rfl | rfl | rfl | rfl <;> rfl
theorem flat4_get : ∀ (l : List JV) (i : Nat) (q : JV), l[i]? = some q → ∀ j u, q.cells[j]? = some u → (flat4 l)[4 * i + j]? = some u
  | [], i, q, h, _, _, _ => by simp at h
  | p :: l, 0, q, h, j, u, hu => by
    simp only [List.getElem?_cons_zero, Option.some.injEq] at h
    subst h
    have hj : j < 4 := (List.getElem?_eq_some_iff.1 hu).1
    simp only [flat4, List.flatMap_cons, Nat.mul_zero, Nat.zero_add]
    rw [List.getElem?_append_left (by exact hj)]
    exact hu
  | p :: l, i + 1, q, h, j, u, hu => by
    simp only [List.getElem?_cons_succ] at h
    have := flat4_get l i q h j u hu
    simp only [flat4, List.flatMap_cons]
    rw [List.getElem?_append_right (by show 4 ≤ _; omega)]
    rw [show 4 * (i + 1) + j - (JV.cells p).length = 4 * i + j by show _ - 4 = _; omega]
    exact this

theorem infoJson : (Tryz.prog.info? 25).map (fun i => (i.zero, i.size, i.bytes)) = some (some (.agg #[.int .i64 0, .string { data := #[] }, .slice none 0 0, .slice none 0 0]), 4, 72) := by kernel_rfl
theorem infoText : (Tryz.prog.info? 9).map (fun i => (i.zero, i.size, i.bytes)) = some (some (.string { data := #[] }), 1, 16) := by kernel_rfl
/-- A slice of Jsons that is the call's own. -/
def JOwn (w : World) (B : Nat) (v : Value) (l : List JV) : Prop := w.ownsRow B 25 4 v l.length (flat4 l)
/-- A slice of texts that is the call's own. -/
def tv (t : By) : Value := .string (bstr t)
def NOwn (w : World) (B : Nat) (v : Value) (l : List By) : Prop := w.ownsRow B 9 1 v l.length (l.map tv)
theorem jown_nil (w : World) (B : Nat) : JOwn w B (.slice none 0 0) [] := World.ownsRow_nil _ _ _ _
theorem nown_nil (w : World) (B : Nat) : NOwn w B (.slice none 0 0) [] := World.ownsRow_nil _ _ _ _
theorem ownsRow_lower {w : World} {B B' n z : Nat} {e : TypeId} {v : Value} {xs : List Value} (h : w.ownsRow B e z v n xs) (hB : B' ≤ B) : w.ownsRow B' e z v n xs := by
  refine ⟨h.1, ?_⟩
  rcases h.2 with h2 | ⟨g, cap, cur, e, hg, r⟩
  · exact .inl h2
  · exact .inr ⟨g, cap, cur, e, Nat.le_trans hB hg, r⟩
/-- A row that is owned stays, if its block does. -/
theorem ownsRow_stay {w w' : World} {B n z : Nat} {e : TypeId} {v : Value} {xs : List Value} (h : w.ownsRow B e z v n xs) (hb : ∀ g, v.ownBlock = some g → w'.heap[g]? = w.heap[g]?) : w'.ownsRow B e z v n xs := by
  refine ⟨h.1, ?_⟩
  rcases h.2 with h2 | ⟨g, cap, cur, rfl, hg, hh, r⟩
  · exact .inl h2
  · exact .inr ⟨g, cap, cur, rfl, hg, (hb g rfl).trans hh, r⟩
theorem ownsRow_own {w : World} {B n z : Nat} {e : TypeId} {v : Value} {xs : List Value} (h : w.ownsRow B e z v n xs) {g : Nat} (hg : v.ownBlock = some g) : B ≤ g ∧ g < w.heap.size := World.ownsRow.lt h g hg
theorem ownsRow_slice {w : World} {B n z : Nat} {e : TypeId} {v : Value} {xs : List Value} (h : w.ownsRow B e z v n xs) : ∃ ao cap, v = .slice ao n cap := by
  rcases h.2 with ⟨hv, h0⟩ | ⟨g, cap, cur, hv, _⟩
  · exact ⟨none, 0, by rw [hv, h0]⟩
  · exact ⟨_, _, hv⟩

/-- What a Json's own part says, by what is said of its items. -/
def repJ (w : World) (k : Int) (t : By) (ns : List By) (_ : List J) (reps : List JV → (Nat → Prop) → Prop) (v : JV) (F : Nat → Prop) : Prop := v.k = k ∧ v.t = bstr t ∧ (∀ x ∈ t, x < 256) ∧ (∀ n ∈ ns, ∀ x ∈ n, x < 256) ∧
    ∃ (vs : List JV) (G : Nat → Prop), NOwn w 0 (.slice v.an v.ln v.cn) ns ∧ JOwn w 0 (.slice v.ai v.li v.ci) vs ∧ reps vs G ∧
      (∀ b, G b → F b) ∧ (∀ b, Value.ownBlock (.slice v.an v.ln v.cn) = some b → F b ∧ ¬ G b) ∧ (∀ b, Value.ownBlock (.slice v.ai v.li v.ci) = some b → F b ∧ ¬ G b) ∧
      (∀ b, Value.ownBlock (.slice v.an v.ln v.cn) = some b → Value.ownBlock (.slice v.ai v.li v.ci) = some b → False)
def repN (vs : List JV) (_ : Nat → Prop) : Prop := vs = []
def repC (_ : J) (_ : List J) (rep : JV → (Nat → Prop) → Prop) (reps : List JV → (Nat → Prop) → Prop) (vs : List JV) (F : Nat → Prop) : Prop := ∃ (v : JV) (vs' : List JV) (F1 F2 : Nat → Prop), vs = v :: vs' ∧ rep v F1 ∧ reps vs' F2 ∧ (∀ b, F1 b → F b) ∧ (∀ b, F2 b → F b) ∧ (∀ b, F1 b → F2 b → False)
/-- A tree that owns its memory: all of it lies in blocks of F, no block twice. -/
def JRep (w : World) (j : J) : JV → (Nat → Prop) → Prop := @J.rec (motive_1 := fun _ => JV → (Nat → Prop) → Prop) (motive_2 := fun _ => List JV → (Nat → Prop) → Prop) (repJ w) repN repC j
def JReps (w : World) (js : List J) : List JV → (Nat → Prop) → Prop := @J.rec_1 (motive_1 := fun _ => JV → (Nat → Prop) → Prop) (motive_2 := fun _ => List JV → (Nat → Prop) → Prop) (repJ w) repN repC js
theorem JRep_mk (w : World) (k : Int) (t : By) (ns : List By) (is : List J) (v : JV) (F : Nat → Prop) : JRep w (.mk k t ns is) v F = (v.k = k ∧ v.t = bstr t ∧ (∀ x ∈ t, x < 256) ∧ (∀ n ∈ ns, ∀ x ∈ n, x < 256) ∧
    ∃ (vs : List JV) (G : Nat → Prop), NOwn w 0 (.slice v.an v.ln v.cn) ns ∧ JOwn w 0 (.slice v.ai v.li v.ci) vs ∧ JReps w is vs G ∧
      (∀ b, G b → F b) ∧ (∀ b, Value.ownBlock (.slice v.an v.ln v.cn) = some b → F b ∧ ¬ G b) ∧ (∀ b, Value.ownBlock (.slice v.ai v.li v.ci) = some b → F b ∧ ¬ G b) ∧
      (∀ b, Value.ownBlock (.slice v.an v.ln v.cn) = some b → Value.ownBlock (.slice v.ai v.li v.ci) = some b → False)) := rfl
theorem JReps_nil (w : World) (vs : List JV) (F : Nat → Prop) : JReps w [] vs F = (vs = []) := rfl
theorem JReps_cons (w : World) (j : J) (js : List J) (vs : List JV) (F : Nat → Prop) : JReps w (j :: js) vs F = ∃ (v : JV) (vs' : List JV) (F1 F2 : Nat → Prop), vs = v :: vs' ∧ JRep w j v F1 ∧ JReps w js vs' F2 ∧ (∀ b, F1 b → F b) ∧ (∀ b, F2 b → F b) ∧ (∀ b, F1 b → F2 b → False) := rfl
theorem jrep_stay {w w' : World} : (∀ (j : J) (v : JV) (F : Nat → Prop), JRep w j v F → (∀ b, F b → w'.heap[b]? = w.heap[b]?) → JRep w' j v F) ∧ (∀ (js : List J) (vs : List JV) (F : Nat → Prop), JReps w js vs F → (∀ b, F b → w'.heap[b]? = w.heap[b]?) → JReps w' js vs F) := by
  refine J.both ?_ ?_ ?_
  · intro k t ns is ih v F h hb
    rw [JRep_mk] at h ⊢
    obtain ⟨h1, h2, h3, h3', vs, G, h4, h5, h6, h7, h8, h9, h10⟩ := h
    exact ⟨h1, h2, h3, h3', vs, G, ownsRow_stay h4 (fun g hg => hb g (h8 g hg).1), ownsRow_stay h5 (fun g hg => hb g (h9 g hg).1), ih vs G h6 (fun b hG => hb b (h7 b hG)), h7, h8, h9, h10⟩
  · intro vs F h _
    rw [JReps_nil] at h ⊢
    exact h
  · intro j js i1 i2 vs F h hb
    rw [JReps_cons] at h ⊢
    obtain ⟨v, vs', F1, F2, rfl, h1, h2, h3, h4, h5⟩ := h
    exact ⟨v, vs', F1, F2, rfl, i1 v F1 h1 (fun b hF => hb b (h3 b hF)), i2 vs' F2 h2 (fun b hF => hb b (h4 b hF)), h3, h4, h5⟩
theorem JRep.stay {w w' : World} (j : J) (v : JV) (F : Nat → Prop) (h : JRep w j v F) (hb : ∀ b, F b → w'.heap[b]? = w.heap[b]?) : JRep w' j v F := jrep_stay.1 j v F h hb
theorem JReps.stay {w w' : World} (js : List J) (vs : List JV) (F : Nat → Prop) (h : JReps w js vs F) (hb : ∀ b, F b → w'.heap[b]? = w.heap[b]?) : JReps w' js vs F := jrep_stay.2 js vs F h hb
theorem JRep.wide {w : World} {j : J} {v : JV} {F G : Nat → Prop} (h : JRep w j v F) (hG : ∀ b, F b → G b) : JRep w j v G := by
  cases j with
  | mk k t ns is =>
    rw [JRep_mk] at h ⊢
    obtain ⟨h1, h2, h3, h3', vs, G', h4, h5, h6, h7, h8, h9, h10⟩ := h
    exact ⟨h1, h2, h3, h3', vs, G', h4, h5, h6, fun b hb => hG b (h7 b hb), fun b hb => ⟨hG b (h8 b hb).1, (h8 b hb).2⟩, fun b hb => ⟨hG b (h9 b hb).1, (h9 b hb).2⟩, h10⟩
theorem JReps.wide {w : World} {js : List J} {vs : List JV} {F G : Nat → Prop} (h : JReps w js vs F) (hG : ∀ b, F b → G b) : JReps w js vs G := by
  cases js with
  | nil => rw [JReps_nil] at h ⊢; exact h
  | cons j js =>
    rw [JReps_cons] at h ⊢
    obtain ⟨v, vs', F1, F2, rfl, h1, h2, h3, h4, h5⟩ := h
    exact ⟨v, vs', F1, F2, rfl, h1, h2, fun b hb => hG b (h3 b hb), fun b hb => hG b (h4 b hb), h5⟩
theorem JReps.len {w : World} : ∀ {js : List J} {vs : List JV} {F : Nat → Prop}, JReps w js vs F → vs.length = js.length
  | [], vs, F, h => by rw [JReps_nil] at h; rw [h]; rfl
  | j :: js, vs, F, h => by
    rw [JReps_cons] at h
    obtain ⟨v, vs', F1, F2, rfl, h1, h2, h3, h4, h5⟩ := h
    simp [JReps.len h2]
/-- One more behind. -/
theorem JReps.snoc {w : World} : ∀ {js : List J} {vs : List JV} {F : Nat → Prop} {j : J} {v : JV} {F1 : Nat → Prop}, JReps w js vs F → JRep w j v F1 → (∀ b, F b → F1 b → False) → JReps w (js ++ [j]) (vs ++ [v]) (fun b => F b ∨ F1 b)
  | [], vs, F, j, v, F1, h, h1, hd => by
    rw [JReps_nil] at h
    subst h
    show JReps w [j] [v] _
    rw [JReps_cons]
    exact ⟨v, [], F1, fun _ => False, rfl, h1, by rw [JReps_nil], fun b hb => .inr hb, fun b hb => hb.elim, fun b _ hb => hb.elim⟩
  | j0 :: js, vs, F, j, v, F1, h, h1, hd => by
    rw [JReps_cons] at h
    obtain ⟨v0, vs', G1, G2, rfl, g1, g2, g3, g4, g5⟩ := h
    have := JReps.snoc g2 h1 (fun b hb hb2 => hd b (g4 b hb) hb2)
    show JReps w (j0 :: (js ++ [j])) (v0 :: (vs' ++ [v])) _
    rw [JReps_cons]
    refine ⟨v0, vs' ++ [v], G1, fun b => G2 b ∨ F1 b, rfl, g1, this, fun b hb => .inl (g3 b hb), fun b hb => hb.elim (fun x => .inl (g4 b x)) .inr, fun b hb hb2 => ?_⟩
    rcases hb2 with hb2 | hb2
    · exact g5 b hb hb2
    · exact hd b (g3 b hb) hb2
theorem jrep_leaf (w : World) (k : Int) (t : By) (F : Nat → Prop) (ht : ∀ x ∈ t, x < 256) : JRep w (.mk k t [] []) ⟨k, bstr t, none, 0, 0, none, 0, 0⟩ F := by
  rw [JRep_mk]
  refine ⟨rfl, rfl, ht, (fun n hn => by cases hn), [], fun _ => False, nown_nil _ _, jown_nil _ _, by rw [JReps_nil], fun b hb => hb.elim, fun b hb => (by cases hb), fun b hb => (by cases hb), fun b hb => (by cases hb)⟩
end Go.Proofs.YtlebockgdonceaaGreatDoor
namespace Go.Proofs.YtlebockgdonceaaGreatDoor
open Go.RowKit

def zero4 : List Value := [.int .i64 0, .string ⟨#[]⟩, .slice none 0 0, .slice none 0 0]
/-- The row behind the append, with its last element still zero. -/
structure Fresh (w : World) (B g n cap : Nat) (l : List JV) : Prop where
  hn : n = l.length
  own : w.ownsRow B 25 4 (.slice (some ⟨g, 0, none⟩) (n + 1) cap) (n + 1) (flat4 l ++ zero4)
theorem Fresh.block {w : World} {B g n cap : Nat} {l : List JV} (h : Fresh w B g n cap l) : ∃ cur, w.heap[g]? = some (.cells cur 25 (0, 0)) ∧ n + 1 ≤ cap ∧ cap ≤ maxLen ∧ cur.size = cap * 4 ∧ cur.toList.take ((n + 1) * 4) = flat4 l ++ zero4 ∧ B ≤ g := by
  rcases h.own.2 with ⟨h1, h2⟩ | ⟨g', cap', cur, e, hB, hh, h1, h2, h3, h4⟩
  · omega
  · injection e with e1 e2 e3
    injection e1 with e1
    injection e1 with e1
    subst e1; subst e3
    exact ⟨cur, hh, h1, h2, h3, h4, hB⟩
theorem Fresh.frozen {w : World} {B g n cap : Nat} {l : List JV} (h : Fresh w B g n cap l) (i : Nat) : w.frozen? ⟨g, i, none⟩ = false := by
  obtain ⟨cur, hh, _⟩ := h.block
  exact frozen_of_row w g i _ _ hh
theorem Fresh.cell {w : World} {B g n cap : Nat} {l : List JV} (h : Fresh w B g n cap l) (i : Nat) (hi : i < 4) : w.cell? ⟨g, n * 4 + i, none⟩ = zero4[i]? := by
  obtain ⟨cur, hh, h1, h2, h3, h4, _⟩ := h.block
  rw [cell_of_row w g _ _ _ (0, 0) hh]
  have : cur.toList[n * 4 + i]? = (cur.toList.take ((n + 1) * 4))[n * 4 + i]? := by rw [List.getElem?_take, if_pos (by omega)]
  rw [← Array.getElem?_toList, this, h4, List.getElem?_append_right (by rw [flat4_len, ← h.hn]; omega), flat4_len, ← h.hn, show n * 4 + i - 4 * n = i by omega]
theorem heap_set {w : World} {g : Nat} {cur : Array Value} {t : TypeId} (h : w.heap[g]? = some (.cells cur t (0, 0))) (i : Nat) (v : Value) : (w.setCell ⟨g, i, none⟩ v).heap[g]? = some (.cells (cur.setIfInBounds i v) t (0, 0)) := heap_setCell_same w g i _ t v h
theorem set4 (xs : List Value) (a b c d a' b' c' d' : Value) (r : List Value) (n : Nat) (hn : n = xs.length) : ((((xs ++ [a, b, c, d] ++ r).set n a').set (n + 1) b').set (n + 2) c').set (n + 3) d' = xs ++ [a', b', c', d'] ++ r := by
  subst hn
  simp
/-- The last element written over: from the world's row on. -/
theorem Fresh.put {w : World} {B g n cap : Nat} {l : List JV} (h : Fresh w B g n cap l) (x : JV) :
    JOwn ((((w.setCell ⟨g, n * 4, none⟩ (.int .i64 x.k)).setCell ⟨g, n * 4 + 1, none⟩ (.string x.t)).setCell ⟨g, n * 4 + 2, none⟩ (.slice x.an x.ln x.cn)).setCell ⟨g, n * 4 + 3, none⟩ (.slice x.ai x.li x.ci)) B (.slice (some ⟨g, 0, none⟩) (n + 1) cap) (l ++ [x]) := by
  obtain ⟨cur, hh, h1, h2, h3, h4, hB⟩ := h.block
  have e := heap_set (heap_set (heap_set (heap_set hh (n * 4) (.int .i64 x.k)) (n * 4 + 1) (.string x.t)) (n * 4 + 2) (.slice x.an x.ln x.cn)) (n * 4 + 3) (.slice x.ai x.li x.ci)
  refine ⟨by rw [flat4_len]; omega, .inr ⟨g, cap, _, by rw [List.length_append, h.hn]; rfl, hB, e, ?_, h2, by simpa using h3, ?_⟩⟩
  · rw [List.length_append, ← h.hn]; exact h1
  · rw [flat4_snoc, List.length_append, ← h.hn]
    have hc : cur.toList = flat4 l ++ [.int .i64 0, .string ⟨#[]⟩, .slice none 0 0, .slice none 0 0] ++ cur.toList.drop ((n + 1) * 4) := by
      rw [show flat4 l ++ [.int .i64 0, .string ⟨#[]⟩, .slice none 0 0, .slice none 0 0] = cur.toList.take ((n + 1) * 4) from h4.symm, List.take_append_drop]
    have hl : n * 4 = (flat4 l).length := by rw [flat4_len, h.hn]; omega
    simp only [Array.toList_setIfInBounds]
    rw [hc, set4 _ _ _ _ _ _ _ _ _ _ _ hl, List.take_append_of_le_length (by simp [flat4_len, ← h.hn]; omega), List.take_of_length_le (by simp [flat4_len, ← h.hn]; omega)]
    rfl
/-- append of a zero Json, as a step of a region that draws. -/
theorem law_appJ {w : World} {ops : Array Oper} {o : Oper} {a : Act} {K : Act → World → Prop} {Q : Exit → Act → World → Prop} {E : Prop} (hgd : o.guard = none) (s x : Operand)
    (ho : o.op = .call { callee := .builtin .append, args := #[s, x], argTypes := #[23, 23] }) (B : Nat) (v : Value) (l : List JV) (hs : a.eval s = v) (hown : JOwn w B v l)
    (b : Nat) (hx : a.eval x = .slice (some ⟨b, 0, none⟩) 1 1) (hy : Bl w b zero4 25) (hsz : l.length ≤ 1000000) (hB : B ≤ w.heap.size)
    (h : ∀ g cap w', Fresh w' B g l.length cap l → w.grownBy w' v.ownBlock → (v.ownBlock = some g ∨ g = w.heap.size) → K (a.put o.dst (.slice (some ⟨g, 0, none⟩) (l.length + 1) cap)) w') : if Region.wanted o (yielded ops a.tmps) = true then Oper.wp Tryz.prog o a w K Q else E := by
  obtain ⟨i0, hi, hz0, hz1, hz2⟩ := info_parts infoJson
  rw [if_pos (by simp [Region.wanted, hgd])]
  obtain ⟨v', w', hrun, h1, h2, h3, h4⟩ := run_append_own_at (P := Tryz.prog) w B 23 o.type 25 i0 _ 4 72 Tryz.underlying23 hi hz0 hz1 hz2 rfl (by decide) v l.length (flat4 l) hown ⟨b, 0, none⟩ 1 1 zero4 rfl (fun j u hu => by rw [add_none, Nat.zero_add, hy.cell]; exact hu) (by intro u hu; simp only [zero4, List.mem_cons, List.not_mem_nil, or_false] at hu; rcases hu with rfl | rfl | rfl | rfl <;> rfl) (by unfold maxLen; omega) (by omega) hB
  unfold Oper.wp
  simp [execOp, ho, resolve, invoke, builtin, hs, hx, hrun, Result.andThen]
  rcases h1.2 with ⟨e, e2⟩ | ⟨g, cap, cur, rfl, r⟩
  · omega
  · refine h g cap w' ⟨rfl, h1⟩ h2 ?_
    rcases h4 with h4 | h4
    · exact .inl h4.symm
    · right
      injection h4
/-- The world behind the two stores, in either order. -/
def put4 (w : World) (g o : Nat) (x : JV) : World := (((w.setCell ⟨g, o, none⟩ (.int .i64 x.k)).setCell ⟨g, o + 1, none⟩ (.string x.t)).setCell ⟨g, o + 2, none⟩ (.slice x.an x.ln x.cn)).setCell ⟨g, o + 3, none⟩ (.slice x.ai x.li x.ci)
theorem put4_but (w : World) (g o : Nat) (x : JV) : But g w (put4 w g o x) := (((But.setCell _ _ _ _).trans (But.setCell _ _ _ _)).trans (But.setCell _ _ _ _)).trans (But.setCell _ _ _ _)
theorem put4_size (w : World) (g o : Nat) (x : JV) : (put4 w g o x).heap.size = w.heap.size := by simp [put4, World.setCell]
theorem Fresh.stay {w w' : World} {B g n cap : Nat} {l : List JV} (h : Fresh w B g n cap l) (hb : w'.heap[g]? = w.heap[g]?) : Fresh w' B g n cap l := ⟨h.hn, ownsRow_stay h.own (fun k hk => by cases hk; exact hb)⟩
theorem app_done {w W : World} {B g n cap V : Nat} {l : List JV} {x : JV} {k : Int} {t : ByteArray} {nv iv : Value} (h : Fresh w B g n cap l) (hV : Jb w V k t nv iv) (hg : g ≠ V)
    (hW : W = (put4 w g (n * 4) x).setCell ⟨V, 3, none⟩ (.slice (some ⟨g, 0, none⟩) (n + 1) cap) ∨ W = put4 (w.setCell ⟨V, 3, none⟩ (.slice (some ⟨g, 0, none⟩) (n + 1) cap)) g (n * 4) x) :
    JOwn W B (.slice (some ⟨g, 0, none⟩) (n + 1) cap) (l ++ [x]) ∧ Jb W V k t nv (.slice (some ⟨g, 0, none⟩) (n + 1) cap) ∧ (∀ b, b ≠ g → b ≠ V → W.heap[b]? = w.heap[b]?) ∧ W.heap.size = w.heap.size ∧ W.os = w.os ∧ W.tape = w.tape ∧ W.output = w.output := by
  have hVl := Bl.lt hV
  have hgl : g < w.heap.size := by obtain ⟨cur, hh, _⟩ := h.block; exact (Array.getElem?_eq_some_iff.1 hh).1
  rcases hW with rfl | rfl
  · refine ⟨ownsRow_stay (h.put x) (fun k hk => ?_), Bl.set (Bl.but hV (put4_but w g _ x) (Ne.symm hg)) 3 _, fun b h1 h2 => ?_, ?_, ?_⟩
    · cases hk; exact heap_setCell_other _ ⟨V, 3, none⟩ g _ hg
    · by_cases hb : b < w.heap.size
      · rw [heap_setCell_other _ ⟨V, 3, none⟩ b _ h2, (put4_but w g _ x).block b hb h1]
      · rw [Array.getElem?_eq_none (by simp [World.setCell, put4_size]; omega), Array.getElem?_eq_none (by omega)]
    · simp [World.setCell, put4_size]
    · have := put4_but w g (n * 4) x
      exact ⟨this.os, this.tape, this.output⟩
  · have hf : Fresh (w.setCell ⟨V, 3, none⟩ (.slice (some ⟨g, 0, none⟩) (n + 1) cap)) B g n cap l := h.stay (heap_setCell_other w ⟨V, 3, none⟩ g _ hg)
    have hz : (w.setCell ⟨V, 3, none⟩ (.slice (some ⟨g, 0, none⟩) (n + 1) cap)).heap.size = w.heap.size := by simp [World.setCell]
    refine ⟨hf.put x, Bl.but (Bl.set hV 3 _) (put4_but _ g _ x) (Ne.symm hg), fun b h1 h2 => ?_, by rw [put4_size, hz], ?_⟩
    · by_cases hb : b < w.heap.size
      · rw [(put4_but _ g _ x).block b (by omega) h1, heap_setCell_other w ⟨V, 3, none⟩ b _ h2]
      · rw [Array.getElem?_eq_none (by rw [put4_size, hz]; omega), Array.getElem?_eq_none (by omega)]
    · have := put4_but (w.setCell ⟨V, 3, none⟩ (.slice (some ⟨g, 0, none⟩) (n + 1) cap)) g (n * 4) x
      exact ⟨this.os, this.tape, this.output⟩
end Go.Proofs.YtlebockgdonceaaGreatDoor
namespace Go.Proofs.YtlebockgdonceaaGreatDoor
open Go.RowKit

def hexBytes : List UInt8 := [48, 49, 50, 51, 52, 53, 54, 55, 56, 57, 97, 98, 99, 100, 101, 102, 48, 49, 50, 51, 52, 53, 54, 55, 56, 57, 65, 66, 67, 68, 69, 70]
def hexOk (c : Nat) : Bool := match hexv c with
  | some d => decide (d < 16) && decide (0 ≤ Lib.indexByte hexBytes (UInt8.ofNat c)) && decide (Lib.indexByte hexBytes (UInt8.ofNat c) < 32) && decide (Lib.indexByte hexBytes (UInt8.ofNat c) % 16 = (d : Int))
  | none => decide (Lib.indexByte hexBytes (UInt8.ofNat c) = -1)
theorem hex_all : (List.range 256).all hexOk = true := by decide +kernel
theorem hex_some {c d : Nat} (hc : c < 256) (h : hexv c = some d) : d < 16 ∧ ∃ i : Nat, Lib.indexByte hexBytes (UInt8.ofNat c) = (i : Int) ∧ i < 32 ∧ i % 16 = d := by
  have := List.all_eq_true.1 hex_all c (List.mem_range.2 hc)
  simp only [hexOk, h, Bool.and_eq_true, decide_eq_true_eq] at this
  obtain ⟨⟨⟨h0, h1⟩, h2⟩, h3⟩ := this
  obtain ⟨i, hi⟩ := Int.eq_ofNat_of_zero_le h1
  rw [hi] at h2 h3 ⊢
  exact ⟨h0, i, rfl, by omega, by omega⟩
theorem hex_none {c : Nat} (hc : c < 256) (h : hexv c = none) : Lib.indexByte hexBytes (UInt8.ofNat c) = -1 := by
  have := List.all_eq_true.1 hex_all c (List.mem_range.2 hc)
  simpa only [hexOk, h, decide_eq_true_eq] using this
def isRune (v : Value) : Prop := ∃ r : Nat, r < 2000000 ∧ v = .int .i32 (r : Int)
def isR4 (v : Value) : Prop := ∃ r : Nat, r < 65536 ∧ v = .int .i32 (r : Int)
set_option maxHeartbeats 2000000 in
set_option maxRecDepth 100000 in
theorem four_any (R : Nat) (s : ByteArray) (p e q : Nat) (w : World) (h : RB w R s p e q) (hp : p ≤ s.size) (hs : s.size ≤ 16384) :
    Calls Tryz.prog 78 #[.pointer (some ⟨R, 0, none⟩)] w fun ε w' => Rd R s e q w isR4 (fun (n : Nat) v _ => n < 65536 ∧ v = .int .i32 (n : Int)) (fourAt (sbytes s) 4 p 0) ε w' := by
  have HL := hide (sbytes_length s)
  have H := hide h
  clear h
  go_enter Tryz.func78, Tryz.ntmps78
  go_wp2_with fail
  go_loopw [4, 8] (fun n i wr => ∃ k m : Nat, k ≤ 4 ∧ p + k ≤ s.size ∧ i = .int .i64 (k : Int) ∧ n = .int .i32 (m : Int) ∧ m < 16 ^ k ∧ Hid (RB wr R s (p + k) e q) ∧ Hid (But R w wr) ∧ Hid (fourAt (sbytes s) (4 - k) (p + k) m = fourAt (sbytes s) 4 p 0)) (fun _ i _ => 4 - (intOf i).toNat)
  case atStart => exact ⟨0, 0, by omega, by omega, rfl, rfl, by omega, H.out, But.refl _ _, rfl⟩
  case round =>
    obtain ⟨k, m, hk, hpk, rfl, rfl, hm, HR, HB, HF⟩ := hrel
    by_cases hlt : k < 4
    · have hm2 : m < 4096 := Nat.lt_of_lt_of_le hm (Nat.pow_le_pow_right (by omega) (show k ≤ 3 by omega))
      have HE : Hid (4 - k = (3 - k) + 1) := by show _ = _; omega
      have HM := hide hm
      clear hm
      by_cases hps : p + k < s.size
      · have hc := byte_lt s (p + k)
        cases hx : hexv (bt (sbytes s) (p + k)) with
        | some d =>
          obtain ⟨hd, i, hi, hi2, him⟩ := hex_some hc hx
          have HX := hide hx
          have HIM := hide him
          have HI := hide hi
          clear hx him hi
          go_wp2_with fail
          refine (look_some R s (p + k) e q _ HR.out hps).mono ?_
          rintro ε w1 ⟨rfl, h1, hb1⟩
          have H1 := hide h1
          have HB1 := hide hb1
          have d1 := h1.c1
          have f1 := h1.fz 1
          clear h1 hb1
          go_wp2_with fail
          refine (Any.strings_IndexByte lays137 _ _ _).mono ?_
          rintro ε w2 ⟨rfl, rfl⟩
          rw [show (bt (sbytes s) (p + k) : Int).toNat.toUInt8 = UInt8.ofNat (bt (sbytes s) (p + k)) from rfl, show (#[48, 49, 50, 51, 52, 53, 54, 55, 56, 57, 97, 98, 99, 100, 101, 102, 48, 49, 50, 51, 52, 53, 54, 55, 56, 57, 65, 66, 67, 68, 69, 70] : Array UInt8).toList = hexBytes from rfl, HI.out]
          go_wp2_with fail
          have H3 : Hid (RB (w2.setCell ⟨R, 1, none⟩ (.int .i64 ((p : Int) + (k : Int) + 1))) R s (p + (k + 1)) e q) := by
            show RB _ _ _ _ _ _
            have := H1.out.move (p + (k + 1))
            simpa [Int.add_assoc] using this
          refine ⟨⟨k + 1, 16 * m + d, by omega, by omega, by go_num, ?_, ?_, H3, HB.out.trans (HB1.out.trans (But.setCell _ _ _ _)), ?_⟩, by simp [intOf]; omega⟩
          · have := HIM.out
            congr 1
            omega
          · have := HM.out
            rw [Nat.pow_succ]
            omega
          · show _ = _
            rw [← HF.out, HE.out]
            rw [show 3 - k + 1 = (3 - k) + 1 from rfl, fourAt, if_pos (by rw [HL.out]; exact hps), HX.out]
            rw [show 4 - (k + 1) = 3 - k by omega, Nat.add_assoc]
        | none =>
          have HI := hide (hex_none hc hx)
          have HO : Hid (fourAt (sbytes s) 4 p 0 = .error 42 (p + k)) := by
            show _ = _
            rw [← HF.out, HE.out, fourAt, if_pos (by rw [HL.out]; exact hps), hx]
          clear hx
          go_wp2_with fail
          refine (look_some R s (p + k) e q _ HR.out hps).mono ?_
          rintro ε w1 ⟨rfl, h1, hb1⟩
          have H1 := hide h1
          have HB1 := hide hb1
          have d1 := h1.c1
          clear h1 hb1
          go_wp2_with fail
          refine (Any.strings_IndexByte lays137 _ _ _).mono ?_
          rintro ε w2 ⟨rfl, rfl⟩
          rw [show (bt (sbytes s) (p + k) : Int).toNat.toUInt8 = UInt8.ofNat (bt (sbytes s) (p + k)) from rfl, show (#[48, 49, 50, 51, 52, 53, 54, 55, 56, 57, 97, 98, 99, 100, 101, 102, 48, 49, 50, 51, 52, 53, 54, 55, 56, 57, 65, 66, 67, 68, 69, 70] : Array UInt8).toList = hexBytes from rfl, HI.out]
          go_wp2_with fail
          refine (fail_any R s (p + k) e q 42 (p + k) _ H1.out).mono ?_
          rintro ε w3 ⟨rfl, h3, hb3⟩
          go_wp2_with fail
          go_ret2
          rw [HO.out]
          exact ⟨⟨_, _, rfl, ⟨0, by omega, rfl⟩, h3⟩, HB.out.trans (HB1.out.trans hb3)⟩
      · have HO : Hid (fourAt (sbytes s) 4 p 0 = .error 3 s.size) := by
          show _ = _
          rw [← HF.out, HE.out, fourAt, if_neg (by rw [HL.out]; exact hps), HL.out]
        have hpe : p + k = s.size := by omega
        have HPE := hide hpe
        clear hpe
        go_wp2_with fail
        refine (look_none R s (p + k) e q _ HR.out HPE.out).mono ?_
        rintro ε w1 ⟨rfl, h1, hb1⟩
        go_wp2_with fail
        go_ret2
        rw [HO.out, ← HPE.out]
        exact ⟨⟨_, _, rfl, ⟨0, by omega, rfl⟩, h1⟩, HB.out.trans hb1⟩
    · have hk4 : k = 4 := by omega
      subst hk4
      go_wp2_with fail
      go_ret2
      rw [← HF.out]
      exact ⟨⟨_, rfl, ⟨m, by omega, rfl⟩, by omega, rfl⟩, HR.out, HB.out⟩
end Go.Proofs.YtlebockgdonceaaGreatDoor
