/- What is written of a Json; the contract of the closure that writes a list's element. The shape's error and what is written, side by side. The contract of the closure that writes a list's element. The contracts of the closures that write an object's member. -/
import Derived.Test.YtlebockgdonceaaGreatDoorKPName
import Derived.Test.YtlebockgdonceaaGreatDoorKShape
import Derived.Deep.RegionHeld
namespace Go.Proofs.YtlebockgdonceaaGreatDoor
open Go.RowKit

/-- The order in which members are written (as they stand). -/
def memW (f : J → By → Pr) (ns : List By) (is : List J) (i : Nat) (xs : By) : Pr := (wNameAt (ns.take i) (ns.getD i []) xs).then (f (is.getD i J.zero))
/-- A Json written behind a text; sub writes what stands one deeper. -/
def pStep (sub : Option (J → By → Pr)) (j : J) (xs : By) : Pr :=
  if sub.isNone = true ∧ (j.kind = 5 ∨ j.kind = 6) then .error 46
  else if (j.text ≠ [] ∧ ¬ (j.kind = 3 ∨ j.kind = 4)) ∨ (j.names ≠ [] ∧ j.kind ≠ 6) ∨ (j.items ≠ [] ∧ ¬ (j.kind = 5 ∨ j.kind = 6)) then .error 47
  else if j.kind = 0 then putAt xs [110, 117, 108, 108]
  else if j.kind = 1 then putAt xs [102, 97, 108, 115, 101]
  else if j.kind = 2 then putAt xs [116, 114, 117, 101]
  else if j.kind = 3 then if isLit j.text = true then putAt xs j.text else .error 47
  else if j.kind = 4 then if clean j.text = true then quoteAt j.text xs else .error 47
  else if j.kind = 5 then match sub with
    | none => .error 46
    | some f => betwAt [91] [93] j.items.length (fun i ys => f (j.items.getD i J.zero) ys) xs
  else if j.kind = 6 then match sub with
    | none => .error 46
    | some f => if j.names.length = j.items.length then betwAt [123] [125] j.items.length (memW f j.names j.items) xs else .error 47
  else .error 47
def pAt : Nat → J → By → Pr
  | 0 => pStep none
  | d + 1 => pStep (some (pAt d))
def subP : Nat → Option (J → By → Pr)
  | 0 => none
  | d + 1 => some (pAt d)
theorem pAt_cases (d : Nat) (j : J) (xs : By) : pAt d j xs = pStep (subP d) j xs := by cases d <;> rfl
theorem subP_none (d : Nat) : (subP d).isNone = true ↔ d = 0 := by cases d <;> simp [subP]
def fitJ (_ : Int) (t : By) (ns : List By) (is : List J) (fits : Prop) : Prop := t.length ≤ 4611686018427387904 ∧ (∀ n ∈ ns, n.length ≤ 4611686018427387904) ∧ ns.length ≤ 4611686018427387904 ∧ is.length ≤ 4611686018427387904 ∧ fits
def fitC (_ : J) (_ : List J) (a b : Prop) : Prop := a ∧ b
/-- Texts and rows have a length that a machine's number holds. -/
def JFit (j : J) : Prop := @J.rec (motive_1 := fun _ => Prop) (motive_2 := fun _ => Prop) fitJ True fitC j
def JFits (js : List J) : Prop := @J.rec_1 (motive_1 := fun _ => Prop) (motive_2 := fun _ => Prop) fitJ True fitC js
theorem JFit_mk (k : Int) (t : By) (ns : List By) (is : List J) : JFit (.mk k t ns is) = (t.length ≤ 4611686018427387904 ∧ (∀ n ∈ ns, n.length ≤ 4611686018427387904) ∧ ns.length ≤ 4611686018427387904 ∧ is.length ≤ 4611686018427387904 ∧ JFits is) := rfl
theorem JFits_nil : JFits [] = True := rfl
theorem JFits_cons (j : J) (js : List J) : JFits (j :: js) = (JFit j ∧ JFits js) := rfl
theorem JFits.get : ∀ (js : List J), JFits js → ∀ (i : Nat) (j : J), js[i]? = some j → JFit j
  | [], _, i, j, hi => by simp at hi
  | j :: js, h, i, j', hi => by
    rw [JFits_cons] at h
    cases i with
    | zero =>
      simp only [List.getElem?_cons_zero, Option.some.injEq] at hi
      subst hi
      exact h.1
    | succ i => exact JFits.get js h.2 i j' hi
/-- The contract of the writer's value, unsorted, at a depth. -/
def ValueW (d : Nat) : Prop := ∀ (b B : Nat) (j : J) (x : JV) (xs : By) (w : World), WB b false xs w → xs.length ≤ 16384 → JSee w B j x → JFit j → B ≤ b → 6 ≤ b → Tabs w → ZT w →
  Calls Tryz.prog 36 #[.pointer (some ⟨b, 0, none⟩), x.val, .int .i64 (32 - (d : Int))] w fun ε w' => Wr b false w (pAt d j xs) ε w'

theorem WB.drew {b : Nat} {so : Bool} {xs : By} {w : World} (h : WB b so xs w) : WB b so xs w.drew := ⟨h.ok⟩
theorem WK.undrew {b : Nat} {w w' : World} (h : WK b w.drew w') : WK b w w' := ⟨h.os, h.tape, h.output, h.size, h.low, h.oth⟩
theorem Wr.undrew {b : Nat} {so : Bool} {w w' : World} {r : Pr} {ε : Ending} (h : Wr b so w.drew r ε w') : Wr b so w r ε w' := by
  cases r with
  | ok xs => exact ⟨h.1, h.2.1, h.2.2.1.undrew, h.2.2.2⟩
  | error e => exact ⟨h.1, h.2.1.undrew, h.2.2⟩
theorem Wr.wk {b : Nat} {so : Bool} {w w' : World} {r : Pr} {ε : Ending} (h : Wr b so w r ε w') : WK b w w' ∧ ∃ e : Nat, ε = .returned (.int .i64 (e : Int)) := by
  cases r with
  | ok xs => exact ⟨h.2.2.1, 0, h.1⟩
  | error e => exact ⟨h.2.1, e, h.1⟩
theorem WK.cell {b : Nat} {w w' : World} {a : Addr} {v : Value} (h : WK b w w') (ha : w.cell? a = some v) (hb : a.block < b) : w'.cell? a = some v := by
  rw [World.cell?_of_block (h.low a.block hb)]; exact ha

end Go.Proofs.YtlebockgdonceaaGreatDoor
namespace Go.Proofs.YtlebockgdonceaaGreatDoor
open Go.RowKit

/-- What is written of a Json whose shape is sound. -/
def pBody (sub : Option (J → By → Pr)) (j : J) (xs : By) : Pr :=
  if j.kind = 0 then putAt xs [110, 117, 108, 108]
  else if j.kind = 1 then putAt xs [102, 97, 108, 115, 101]
  else if j.kind = 2 then putAt xs [116, 114, 117, 101]
  else if j.kind = 3 then putAt xs j.text
  else if j.kind = 4 then quoteAt j.text xs
  else match sub with
    | none => .error 46
    | some f => if j.kind = 5 then betwAt [91] [93] j.items.length (fun i ys => f (j.items.getD i J.zero) ys) xs else betwAt [123] [125] j.items.length (memW f j.names j.items) xs
theorem toList_isEmpty (s : ByteArray) : s.toList.isEmpty = decide (sbytes s = []) := by
  have h : s.toList.length = s.size := by rw [ByteArray.toList_eq, Array.length_toList]; rfl
  have h2 := sbytes_length s
  by_cases h0 : sbytes s = []
  · rw [h0] at h2
    simp only [h0, decide_true]
    have : s.toList.length = 0 := by rw [h, ← h2]; rfl
    rw [List.length_eq_zero_iff.1 this]
    rfl
  · have : s.toList ≠ [] := fun e => h0 (List.length_eq_zero_iff.1 (by rw [h2, ← h, e]; rfl))
    rw [decide_eq_false h0]
    cases hl : s.toList with
    | nil => exact absurd hl this
    | cons a l => rfl
set_option linter.unusedSimpArgs false in
theorem pStep_sh (sub : Option (J → By → Pr)) (d : Nat) (hd : sub.isNone = true ↔ d = 0) (h32 : d ≤ 32) (j : J) (x : JV) (xs : By) (hk : x.k = j.kind) (ht : sbytes x.t = j.text) (hn : x.ln = j.names.length) (hi : x.li = j.items.length) :
    (shErr (32 - (d : Int)) x ≠ 0 → pStep sub j xs = .error (shErr (32 - (d : Int)) x)) ∧
    (shErr (32 - (d : Int)) x = 0 → pStep sub j xs = pBody sub j xs ∧ (0 ≤ x.k ∧ x.k ≤ 6) ∧ (x.k = 4 → clean j.text = true) ∧ (x.k = 6 → j.names.length = j.items.length) ∧ ((x.k = 5 ∨ x.k = 6) → sub.isNone = false)) := by
  have hnn : (0 < (x.ln : Int)) ↔ j.names ≠ [] := by rw [hn]; cases j.names <;> simp
  have hii : (0 < (x.li : Int)) ↔ j.items ≠ [] := by rw [hi]; cases j.items <;> simp
  have hdp : deepB (32 - (d : Int)) x.k = true ↔ (sub.isNone = true ∧ (j.kind = 5 ∨ j.kind = 6)) := by
    unfold deepB
    rw [hd, ← hk, Bool.and_eq_true, decide_eq_true_iff, decide_eq_true_iff]
    constructor
    · intro h; exact ⟨by omega, h.2⟩
    · intro h; exact ⟨by omega, h.2⟩
  have hfd : fieldsB x = true ↔ ((j.text ≠ [] ∧ ¬ (j.kind = 3 ∨ j.kind = 4)) ∨ (j.names ≠ [] ∧ j.kind ≠ 6) ∨ (j.items ≠ [] ∧ ¬ (j.kind = 5 ∨ j.kind = 6))) := by
    unfold fieldsB
    rw [← hnn, ← hii, ← hk, toList_isEmpty, ht]
    simp only [Bool.or_eq_true, Bool.and_eq_true, Bool.not_eq_true', decide_eq_false_iff_not, decide_eq_true_iff, bne_iff_ne, or_assoc]
  unfold shErr pStep
  by_cases h1 : deepB (32 - (d : Int)) x.k = true
  · rw [if_pos h1, if_pos (hdp.1 h1)]
    exact ⟨fun _ => rfl, fun h => absurd h (by decide)⟩
  · have h1' := fun h => h1 (hdp.2 h)
    rw [if_neg h1, if_neg h1']
    by_cases h2 : fieldsB x = true
    · rw [if_pos h2, if_pos (hfd.1 h2)]
      exact ⟨fun _ => rfl, fun h => absurd h (by decide)⟩
    · rw [if_neg h2, if_neg (fun h => h2 (hfd.2 h))]
      unfold soundB pBody
      rw [ht, hn, hi, hk]
      by_cases k0 : j.kind = 0
      · simp [k0]
      by_cases k1 : j.kind = 1
      · simp [k1]
      by_cases k2 : j.kind = 2
      · simp [k2]
      by_cases k3 : j.kind = 3
      · cases hl : isLit j.text <;> simp [k3, hl]
      by_cases k4 : j.kind = 4
      · cases hl : clean j.text <;> simp [k4, hl]
      by_cases k5 : j.kind = 5
      · have : sub.isNone = false := by
          cases hs : sub.isNone with
          | false => rfl
          | true => exact absurd ⟨hs, .inl k5⟩ h1'
        cases sub with
        | none => cases this
        | some f => simp [k5]
      by_cases k6 : j.kind = 6
      · have : sub.isNone = false := by
          cases hs : sub.isNone with
          | false => rfl
          | true => exact absurd ⟨hs, .inr k6⟩ h1'
        cases sub with
        | none => cases this
        | some f => by_cases hl : j.names.length = j.items.length <;> simp [k6, hl]
      simp [k0, k1, k2, k3, k4, k5, k6]
end Go.Proofs.YtlebockgdonceaaGreatDoor
namespace Go.Proofs.YtlebockgdonceaaGreatDoor
open Go.RowKit

set_option maxHeartbeats 4000000 in
set_option maxRecDepth 100000 in
theorem wlist1_any (d : Nat) (hV : ValueW d) (b B C1 C2 C3 g off i li ci : Nat) (j : J) (v : JV) (xs : By) (w : World) (h : WB b false xs w) (hx : xs.length ≤ 16384) (hB : B ≤ b) (hb7 : 6 ≤ b) (hT : Tabs w) (hZ : ZT w) (hd : d < 32)
    (h1 : Bl w C1 [.pointer (some ⟨b, 0, none⟩)] 67) (h2 : Bl w C2 [.slice (some ⟨g, off, none⟩) li ci] 100) (h3 : Bl w C3 [.int .i64 (31 - (d : Int))] 3)
    (hb1 : C1 ≠ b) (hb2 : C2 ≠ b) (hb3 : C3 ≠ b) (hg : g < B) (hi : i < li) (hc : ∀ k u, v.cells[k]? = some u → w.cell? ⟨g, off + (4 * i + k), none⟩ = some u) (hj : JSee w B j v) (hf : JFit j) :
    Calls Tryz.prog 55 (#[.int .i64 (i : Int)] ++ #[.pointer (some ⟨C1, 0, none⟩), .pointer (some ⟨C2, 0, none⟩), .pointer (some ⟨C3, 0, none⟩)]) w fun ε w' => Wr b false w (pAt d j xs) ε w' := by
  have HC := hide (hV b B j v xs w.drew h.drew hx (JSee.stay j v hj (fun _ _ => rfl)) hf hB hb7 hT hZ)
  generalize pAt d j xs = P at HC ⊢
  have H1 := hide h1
  have H2 := hide h2
  have H3 := hide h3
  have r1 : w.cell? ⟨C1, 0, none⟩ = some (.pointer (some ⟨b, 0, none⟩)) := h1.cell 0
  have r2 : w.cell? ⟨C2, 0, none⟩ = some (.slice (some ⟨g, off, none⟩) li ci) := h2.cell 0
  have r3 : w.cell? ⟨C3, 0, none⟩ = some (.int .i64 (31 - (d : Int))) := h3.cell 0
  have c0 : w.cell? ⟨g, off + i * 4, none⟩ = some (.int .i64 v.k) := by have := hc 0 _ rfl; rw [show off + (4 * i + 0) = off + i * 4 by omega] at this; exact this
  have c1 : w.cell? ⟨g, off + i * 4 + 1, none⟩ = some (.string v.t) := by have := hc 1 _ rfl; rw [show off + (4 * i + 1) = off + i * 4 + 1 by omega] at this; exact this
  have c2 : w.cell? ⟨g, off + i * 4 + 2, none⟩ = some (.slice v.an v.ln v.cn) := by have := hc 2 _ rfl; rw [show off + (4 * i + 2) = off + i * 4 + 2 by omega] at this; exact this
  have c3 : w.cell? ⟨g, off + i * 4 + 3, none⟩ = some (.slice v.ai v.li v.ci) := by have := hc 3 _ rfl; rw [show off + (4 * i + 3) = off + i * 4 + 3 by omega] at this; exact this
  have hdep : (31 - (d : Int)) + 1 = 32 - (d : Int) := by omega
  have hwr : IntKind.i64.wrap (32 - (d : Int)) = 32 - (d : Int) := by rw [IntKind.wrap_i64]; omega
  have hil : (i : Int) < (li : Int) := by omega
  have hgb : g < b := by omega
  clear h h1 h2 h3 hc hj hV hT hZ
  suffices HSU : ∀ PP : Ending → World → Prop, (∀ ε w', Wr b false w P ε w' → PP ε w') → Calls Tryz.prog 55 (#[.int .i64 (i : Int)] ++ #[.pointer (some ⟨C1, 0, none⟩), .pointer (some ⟨C2, 0, none⟩), .pointer (some ⟨C3, 0, none⟩)]) w fun ε w' => True ∧ PP ε w' from (HSU _ (fun _ _ h => h)).mono fun _ _ h => h.2
  intro PP hPP
  have HPP := hide hPP
  clear hPP
  go_enter Tryz.func55, Tryz.ntmps55
  go_wp2_with fail
  go_region_held (fun W => W.cell? ⟨C1, 0, none⟩ = some (.pointer (some ⟨b, 0, none⟩)) ∧ W.cell? ⟨C2, 0, none⟩ = some (.slice (some ⟨g, off, none⟩) li ci) ∧ W.cell? ⟨C3, 0, none⟩ = some (.int .i64 (31 - (d : Int))) ∧ W.cell? ⟨g, off + i * 4, none⟩ = some (.int .i64 v.k) ∧ W.cell? ⟨g, off + i * 4 + 1, none⟩ = some (.string v.t) ∧ W.cell? ⟨g, off + i * 4 + 2, none⟩ = some (.slice v.an v.ln v.cn) ∧ W.cell? ⟨g, off + i * 4 + 3, none⟩ = some (.slice v.ai v.li v.ci)) (go_keep) (first | (go_at_call 36; refine HC.out.mono ?_; intro ε w2 h5; have HW := hide (HPP.out _ _ h5.undrew); obtain ⟨hk, e5, rfl⟩ := h5.undrew.wk; have s1 : w2.cell? ⟨C1, 0, none⟩ = some (.pointer (some ⟨b, 0, none⟩)) := (hk.bl H1.out hb1 (by decide)).cell 0; have s2 : w2.cell? ⟨C2, 0, none⟩ = some (.slice (some ⟨g, off, none⟩) li ci) := (hk.bl H2.out hb2 (by decide)).cell 0; have s3 : w2.cell? ⟨C3, 0, none⟩ = some (.int .i64 (31 - (d : Int))) := (hk.bl H3.out hb3 (by decide)).cell 0; have t0 := hk.cell c0 hgb; have t1 := hk.cell c1 hgb; have t2 := hk.cell c2 hgb; have t3 := hk.cell c3 hgb; clear h5 hk))
  go_wp2_with fail
  go_ret
  exact ⟨trivial, HW.out⟩
end Go.Proofs.YtlebockgdonceaaGreatDoor
namespace Go.Proofs.YtlebockgdonceaaGreatDoor
open Go.RowKit Go.Maps

set_option maxRecDepth 100000 in
theorem wmem1_any (i : Int) (w : World) : Calls Tryz.prog 72 (#[.int .i64 i] ++ #[]) w fun ε w' => ε = .returned (.int .i64 i) ∧ w' = w := by
  go_enter Tryz.func72, Tryz.ntmps72
  go_wp2_with fail
  go_ret
  exact ⟨rfl, rfl⟩
theorem WM.bl {b M k : Nat} {w w' : World} {xs : List Value} {t : TypeId} (h : WM b M w w') (hx : Bl w k xs t) (hk : k ≠ b) (hM : k ≠ M) (ht : t ≠ 5) : Bl w' k xs t :=
  h.oth k _ hx hk hM (fun c fz e => ht (by injection e))
theorem WM.cell {b M : Nat} {w w' : World} {a : Addr} {v : Value} (h : WM b M w w') (ha : w.cell? a = some v) (hb : a.block < b) : w'.cell? a = some v := by
  rw [World.cell?_of_block (h.low a.block hb)]; exact ha
theorem WM.undrew {b M : Nat} {w w' : World} (h : WM b M w.drew w') : WM b M w w' := ⟨h.os, h.tape, h.output, h.size, h.low, h.oth⟩
theorem HadIs.drew {M : Nat} {w : World} {ns : List By} (h : HadIs w M ns) : HadIs w.drew M ns := h
theorem Tabs.low {w w' : World} (h : Tabs w) (hb : ∀ k, k < 2 → w'.heap[k]? = w.heap[k]?) : Tabs w' := by
  have key : ∀ a v, w.cell? a = some v → a.block < 2 → w'.cell? a = some v := fun a v ha h2 => by
    rw [World.cell?_of_block (hb a.block h2)]; exact ha
  exact ⟨fun c hc => key _ _ (h.1 c hc) (by show (0 : Nat) < 2; omega), fun i hi => ⟨key _ _ (h.2 i hi).1 (by show (1 : Nat) < 2; omega), key _ _ (h.2 i hi).2 (by show (1 : Nat) < 2; omega)⟩⟩
theorem Tabs.wm {b M : Nat} {w w' : World} (h : Tabs w) (hk : WM b M w w') (hb : 6 ≤ b) : Tabs w' := h.low (fun k hk2 => hk.low k (by omega))
theorem wa_wm {b : Nat} {so : Bool} {F G : World → Prop} {r : Pr} {ε : Ending} {w' : World} (h : WA b so F G r ε w') (hFG : ∀ w, F w → G w) : G w' := by
  cases r with
  | ok ys => exact hFG _ h.2.2.2
  | error e => exact h.2.2

set_option maxHeartbeats 4000000 in
set_option maxRecDepth 100000 in
theorem wmem3_any (hv : ValidOk) (d : Nat) (hV : ValueW d) (b B M C0 C1 C2 C3 C4 i m : Nat) (fn : FuncId) (cap : Array Value) (gn on ln cn gi oi li ci : Nat) (nm : By) (j : J) (v : JV) (L : List By) (xs : By) (w : World)
    (hent : ∀ args w, (callFunc fn args).run Tryz.prog w = .ok (.enter fn args) w)
    (hturn : Calls Tryz.prog fn (#[.int .i64 (i : Int)] ++ cap) w fun ε w' => ε = .returned (.int .i64 (m : Int)) ∧ w' = w)
    (h : WB b false xs w) (hx : xs.length ≤ 16384) (hB : B ≤ b) (hb7 : 6 ≤ b) (hT : Tabs w) (hZ : ZT w) (hd : d < 32)
    (h0 : Bl w C0 [.func (.func fn) #[] cap] 118) (h1 : Bl w C1 [.pointer (some ⟨b, 0, none⟩)] 67)
    (h2 : Bl w C2 [.slice (some ⟨gn, on, none⟩) ln cn, .slice (some ⟨gi, oi, none⟩) li ci] 104) (h3 : Bl w C3 [.map (some M)] 87) (h4 : Bl w C4 [.int .i64 (31 - (d : Int))] 3)
    (b1 : C1 ≠ b) (b2 : C2 ≠ b) (b3 : C3 ≠ b) (b4 : C4 ≠ b) (m1 : C1 ≠ M) (m2 : C2 ≠ M) (m3 : C3 ≠ M) (m4 : C4 ≠ M) (hgn : gn < B) (hgi : gi < B) (hmn : m < ln) (hmi : m < li)
    (hcn : w.cell? ⟨gn, on + m, none⟩ = some (.string (bstr nm))) (hc : ∀ k u, v.cells[k]? = some u → w.cell? ⟨gi, oi + (4 * m + k), none⟩ = some u) (hj : JSee w B j v) (hf : JFit j)
    (hM : HadIs w M L) (hbM : b < M) (hL : ∀ x ∈ L, ∀ c ∈ x, c < 256) (hnm : ∀ c ∈ nm, c < 256) (hnz : nm.length ≤ 4611686018427387904) (hl : L.length ≤ 4611686018427387904) :
    Calls Tryz.prog 75 (#[.int .i64 (i : Int)] ++ #[.pointer (some ⟨C0, 0, none⟩), .pointer (some ⟨C1, 0, none⟩), .pointer (some ⟨C2, 0, none⟩), .pointer (some ⟨C3, 0, none⟩), .pointer (some ⟨C4, 0, none⟩)]) w fun ε w' =>
      WA b false (fun w' => WM b M w w' ∧ HadIs w' M (L ++ [nm])) (fun w' => WM b M w w') ((wNameAt L nm xs).then (pAt d j)) ε w' := by
  have HN := hide (wname_any hv b M false xs nm L w.drew h.drew hx hT hZ hb7 hM.drew hbM hL hnm hnz hl)
  have HC : Hid (∀ ys w', WB b false ys w' → ys.length ≤ 16384 → WM b M w w' → Calls Tryz.prog 36 #[.pointer (some ⟨b, 0, none⟩), v.val, .int .i64 (32 - (d : Int))] w' fun ε w'' => Wr b false w' (pAt d j ys) ε w'') :=
    fun ys w' hw hy hk => hV b B j v ys w' hw hy (JSee.stay j v hj (fun k hk2 => hk.low k (by omega))) hf hB hb7 (hT.wm hk hb7) (hZ.wm hk hb7)
  generalize pAt d j = PF at HC ⊢
  generalize wNameAt L nm xs = PN at HN ⊢
  have HTU := hide hturn
  have H0 := hide h0
  have H1 := hide h1
  have H2 := hide h2
  have H3 := hide h3
  have H4 := hide h4
  have r0 : w.cell? ⟨C0, 0, none⟩ = some (.func (.func fn) #[] cap) := h0.cell 0
  have r1 : w.cell? ⟨C1, 0, none⟩ = some (.pointer (some ⟨b, 0, none⟩)) := h1.cell 0
  have r2 : w.cell? ⟨C2, 0, none⟩ = some (.slice (some ⟨gn, on, none⟩) ln cn) := h2.cell 0
  have r2b : w.cell? ⟨C2, 1, none⟩ = some (.slice (some ⟨gi, oi, none⟩) li ci) := h2.cell 1
  have r3 : w.cell? ⟨C3, 0, none⟩ = some (.map (some M)) := h3.cell 0
  have r4 : w.cell? ⟨C4, 0, none⟩ = some (.int .i64 (31 - (d : Int))) := h4.cell 0
  have c0 : w.cell? ⟨gi, oi + m * 4, none⟩ = some (.int .i64 v.k) := by have := hc 0 _ rfl; rw [show oi + (4 * m + 0) = oi + m * 4 by omega] at this; exact this
  have c1 : w.cell? ⟨gi, oi + m * 4 + 1, none⟩ = some (.string v.t) := by have := hc 1 _ rfl; rw [show oi + (4 * m + 1) = oi + m * 4 + 1 by omega] at this; exact this
  have c2 : w.cell? ⟨gi, oi + m * 4 + 2, none⟩ = some (.slice v.an v.ln v.cn) := by have := hc 2 _ rfl; rw [show oi + (4 * m + 2) = oi + m * 4 + 2 by omega] at this; exact this
  have c3 : w.cell? ⟨gi, oi + m * 4 + 3, none⟩ = some (.slice v.ai v.li v.ci) := by have := hc 3 _ rfl; rw [show oi + (4 * m + 3) = oi + m * 4 + 3 by omega] at this; exact this
  have hdep : (31 - (d : Int)) + 1 = 32 - (d : Int) := by omega
  have hwr : IntKind.i64.wrap (32 - (d : Int)) = 32 - (d : Int) := by rw [IntKind.wrap_i64]; omega
  have hmn2 : (m : Int) < (ln : Int) := by omega
  have hmi2 : (m : Int) < (li : Int) := by omega
  have hgnb : gn < b := by omega
  have hMb : M ≠ b := by omega
  have hgib : gi < b := by omega
  clear h h0 h1 h2 h3 h4 hc hj hV hT hZ hv hf hM hL hnm hturn
  suffices HSU : ∀ PP : Ending → World → Prop, (∀ ε w', WA b false (fun w' => WM b M w w' ∧ HadIs w' M (L ++ [nm])) (fun w' => WM b M w w') (PN.then PF) ε w' → PP ε w') → Calls Tryz.prog 75 (#[.int .i64 (i : Int)] ++ #[.pointer (some ⟨C0, 0, none⟩), .pointer (some ⟨C1, 0, none⟩), .pointer (some ⟨C2, 0, none⟩), .pointer (some ⟨C3, 0, none⟩), .pointer (some ⟨C4, 0, none⟩)]) w fun ε w' => True ∧ PP ε w' from (HSU _ (fun _ _ h => h)).mono fun _ _ h => h.2
  intro PP hPP
  have HPP := hide hPP
  clear hPP
  go_enter Tryz.func75, Tryz.ntmps75
  go_wp2_with fail
  refine HTU.out.mono ?_
  rintro ε w1 ⟨rfl, rfl⟩
  go_upto_region 2 with fail
  go_region_held (fun W => W.cell? ⟨C1, 0, none⟩ = some (.pointer (some ⟨b, 0, none⟩)) ∧ W.cell? ⟨C2, 0, none⟩ = some (.slice (some ⟨gn, on, none⟩) ln cn) ∧ W.cell? ⟨C3, 0, none⟩ = some (.map (some M)) ∧ W.cell? ⟨gn, on + m, none⟩ = some (.string (bstr nm))) (go_keep) (first | (go_at_call 76; refine HN.out.mono ?_; intro ε w2 h5; obtain ⟨e5, rfl, hsi⟩ := wa_si h5; have HSI := hide hsi; have hk : WM b M w1 w2 := (wa_wm h5 (fun _ x => x.1)).undrew; have HK := hide hk; have s0 : w2.cell? ⟨C1, 0, none⟩ = some (.pointer (some ⟨b, 0, none⟩)) := (hk.bl H1.out b1 m1 (by decide)).cell 0; have s1 : w2.cell? ⟨C2, 0, none⟩ = some (.slice (some ⟨gn, on, none⟩) ln cn) := (hk.bl H2.out b2 m2 (by decide)).cell 0; have s2 : w2.cell? ⟨C3, 0, none⟩ = some (.map (some M)) := (hk.bl H3.out b3 m3 (by decide)).cell 0; have s3 := hk.cell hcn hgnb; clear h5 hk hsi))
  cases PN with
  | error e =>
    obtain ⟨he, hne, _⟩ := HSI.out
    have HE := hide (HPP.out (.returned (.int .i64 (e5 : Int))) w2 ⟨by rw [he], hne, HK.out⟩)
    have hne0 : ((e5 : Int) != 0) = true := by simp; omega
    clear HSI HPP he hne
    go_wp2_with fail
    go_ret
    exact ⟨trivial, HE.out⟩
  | ok ys =>
    obtain ⟨he, hwb, hyl, _, hhad⟩ := HSI.out
    subst he
    have HCA := hide (HC.out ys w2.drew hwb.drew hyl ⟨HK.out.os, HK.out.tape, HK.out.output, HK.out.size, HK.out.low, HK.out.oth⟩)
    have HHAD := hide hhad
    have t1 : w2.cell? ⟨C2, 1, none⟩ = some (.slice (some ⟨gi, oi, none⟩) li ci) := (HK.out.bl H2.out b2 m2 (by decide)).cell 1
    have t2 : w2.cell? ⟨C4, 0, none⟩ = some (.int .i64 (31 - (d : Int))) := (HK.out.bl H4.out b4 m4 (by decide)).cell 0
    have u0 := HK.out.cell c0 hgib
    have u1 := HK.out.cell c1 hgib
    have u2 := HK.out.cell c2 hgib
    have u3 := HK.out.cell c3 hgib
    have HB1 := hide (HK.out.bl H1.out b1 m1 (by decide))
    have HB2 := hide (HK.out.bl H2.out b2 m2 (by decide))
    have HB4 := hide (HK.out.bl H4.out b4 m4 (by decide))
    clear HSI hwb hyl hhad HC r0 r1 r2 r2b r3 r4 c0 c1 c2 c3 hcn s1 s2 s3 HN HTU
    go_upto_region 5 with fail
    go_region_held (fun W => W.cell? ⟨C1, 0, none⟩ = some (.pointer (some ⟨b, 0, none⟩)) ∧ W.cell? ⟨C2, 1, none⟩ = some (.slice (some ⟨gi, oi, none⟩) li ci) ∧ W.cell? ⟨C4, 0, none⟩ = some (.int .i64 (31 - (d : Int))) ∧ W.cell? ⟨gi, oi + m * 4, none⟩ = some (.int .i64 v.k) ∧ W.cell? ⟨gi, oi + m * 4 + 1, none⟩ = some (.string v.t) ∧ W.cell? ⟨gi, oi + m * 4 + 2, none⟩ = some (.slice v.an v.ln v.cn) ∧ W.cell? ⟨gi, oi + m * 4 + 3, none⟩ = some (.slice v.ai v.li v.ci)) (go_keep) (first | (go_at_call 36; refine HCA.out.mono ?_; intro ε w3 h6; have HW := hide (HPP.out _ _ (wr_wa h6.undrew (fun hk => ⟨HK.out.trans (WM.of hk), HHAD.out.wk hk hMb⟩) (fun hk => HK.out.trans (WM.of hk)))); obtain ⟨hk, e6, rfl⟩ := h6.undrew.wk; have s1 : w3.cell? ⟨C1, 0, none⟩ = some (.pointer (some ⟨b, 0, none⟩)) := (hk.bl HB1.out b1 (by decide)).cell 0; have s2 : w3.cell? ⟨C2, 1, none⟩ = some (.slice (some ⟨gi, oi, none⟩) li ci) := (hk.bl HB2.out b2 (by decide)).cell 1; have s3 : w3.cell? ⟨C4, 0, none⟩ = some (.int .i64 (31 - (d : Int))) := (hk.bl HB4.out b4 (by decide)).cell 0; have q0 := hk.cell u0 hgib; have q1 := hk.cell u1 hgib; have q2 := hk.cell u2 hgib; have q3 := hk.cell u3 hgib; clear h6 hk))
    go_wp2_with fail
    go_ret
    exact ⟨trivial, HW.out⟩
end Go.Proofs.YtlebockgdonceaaGreatDoor
