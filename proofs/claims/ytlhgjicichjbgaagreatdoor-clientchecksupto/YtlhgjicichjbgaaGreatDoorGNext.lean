/- The program's placeOf; rows of clients that are a call's own. -/
import Derived.Test.YtlhgjicichjbgaaGreatDoorLRow
import Derived.Laws.AppendOwnNone
import Derived.Test.YtlhgjicichjbgaaGreatDoorLLine
import Derived.Test.YtlhgjicichjbgaaGreatDoorScopesFn
import Derived.Test.YtlhgjicichjbgaaGreatDoorGRead
namespace Go.Proofs.YtlhgjicichjbgaaGreatDoor
open Go.RowKit

theorem posOf_none {l : List Cl} {id : ByteArray} (h : ∀ c ∈ l, c.id ≠ id) : posOf l id = none := by
  unfold posOf
  rw [List.findIdx?_eq_none_iff]
  intro c hc
  exact decide_eq_false (h c hc)
theorem posOf_at {l : List Cl} {id : ByteArray} {k : Nat} {c : Cl} (h : ∀ c ∈ l.take k, c.id ≠ id) (hk : l[k]? = some c) (hc : c.id = id) : posOf l id = some k := by
  unfold posOf
  rw [List.findIdx?_eq_some_iff_getElem]
  obtain ⟨hlt, he⟩ := List.getElem?_eq_some_iff.1 hk
  refine ⟨hlt, by rw [he]; exact decide_eq_true hc, fun j hj => ?_⟩
  have := h l[j] (List.mem_take_iff_getElem.2 ⟨j, by omega, rfl⟩)
  simpa using this
set_option maxHeartbeats 1000000 in
set_option maxRecDepth 100000 in
theorem indexFunc_any (n c N : Nat) (ao : Option Addr) (l : List Cl) (x : ByteArray) (w : World) (hn : n = l.length) (hl : n ≤ 4398046511104) (hr : CRow w ao l) (hx : w.cell? ⟨N, 0, none⟩ = some (.string x)) :
    Calls Tryz.prog 91 #[.slice ao n c, .func (.func 92) #[] #[.pointer (some ⟨N, 0, none⟩)]] w fun e w' => e = .returned (.int .i64 (posI (posOf l x))) ∧ Below w.heap.size w w' := by
  have HN : Hid (n = l.length) := hn
  have HR : Hid (CRow w ao l) := hr
  have HX : Hid (w.cell? ⟨N, 0, none⟩ = some (.string x)) := hx
  obtain ⟨P, HP⟩ : ∃ P, Hid (P = posI (posOf l x)) := ⟨_, hide rfl⟩
  rw [← HP.out]
  clear hn hr hx
  go_enter Tryz.func91, Tryz.ntmps91
  go_wp2
  go_loopw [8] (fun i wr => ∃ k : Nat, k ≤ n ∧ i = .int .i64 (k : Int) ∧ Hid (∀ c ∈ l.take k, c.id ≠ x) ∧ Hid (Below w.heap.size w wr)) (fun i _ => n - (intOf i).toNat)
  case atStart => exact ⟨0, Nat.zero_le _, rfl, by intro c hc; simp at hc, Below.refl _ _⟩
  case round =>
    obtain ⟨k, hk, rfl, HA, HB⟩ := hrel
    have hsz := HB.out.size
    by_cases hlt : k < n
    · obtain ⟨b, off, rfl⟩ := HR.out.form (by rw [← HN.out]; omega)
      obtain ⟨q, hq⟩ : ∃ q, l[k]? = some q := ⟨_, List.getElem?_eq_getElem (by rw [← HN.out]; exact hlt)⟩
      obtain ⟨so, m, cp, c0, c1, c2, c3, c4, c5, -⟩ := (HR.out.keep HB.out).cell hq
      have HQ := hide hq
      have hc := isThat_any q.id q.secret q.url x q.grants q.ping so m cp N wr (cell_kept HX.out HB.out)
      clear hq
      by_cases he : q.id = x
      · have HPK : Hid (P = (k : Int)) := by show _ = _; rw [HP.out, posOf_at HA.out HQ.out he]; rfl
        rw [decide_eq_true he] at hc
        clear he
        go_wp2_with (first | (go_at_call 92; refine hc.mono ?_))
        rintro e w2 ⟨rfl, hb2⟩
        have HB2 := hide (HB.out.trans (hb2.mono hsz))
        clear hb2
        go_wp2
        go_ret
        exact ⟨by rw [HPK.out]; rfl, HB2.out⟩
      · have HA2 : Hid (∀ c ∈ l.take (k + 1), c.id ≠ x) := by
          intro c hc
          rw [List.take_add_one, HQ.out] at hc
          rcases List.mem_append.1 hc with hc | hc
          · exact HA.out c hc
          · simp at hc; subst hc; exact he
        rw [decide_eq_false he] at hc
        clear he
        go_wp2_with (first | (go_at_call 92; refine hc.mono ?_))
        rintro e w2 ⟨rfl, hb2⟩
        have HB2 := hide (HB.out.trans (hb2.mono hsz))
        clear hb2
        go_wp2
        go_roundw
        case rel => exact ⟨k + 1, by omega, by go_num, HA2, HB2⟩
        case measure => simp [intOf]; omega
    · have HPN : Hid (P = -1) := by
        show _ = _
        have := HA.out
        rw [List.take_of_length_le (by rw [← HN.out]; omega)] at this
        rw [HP.out, posOf_none this]; rfl
      go_wp2
      go_ret
      exact ⟨by rw [HPN.out]; rfl, HB.out⟩
set_option maxHeartbeats 400000 in
set_option maxRecDepth 100000 in
theorem placeOf_any (n c : Nat) (ao : Option Addr) (l : List Cl) (x : ByteArray) (w : World) (hn : n = l.length) (hl : n ≤ 4398046511104) (hr : CRow w ao l) :
    Calls Tryz.prog 51 #[.slice ao n c, .string x] w fun e w' => e = .returned (.int .i64 (posI (posOf l x))) ∧ Below w.heap.size w w' := by
  have HI := indexFunc_any n c w.heap.size ao l x (w.alloc (.cells #[.string x] 9)) hn hl (hr.keep (below_new w _)) (by simp)
  obtain ⟨P, HP⟩ : ∃ P, Hid (P = posI (posOf l x)) := ⟨_, hide rfl⟩
  rw [← HP.out] at HI ⊢
  clear hn hr HP
  go_enter Tryz.func51, Tryz.ntmps51
  go_wp2_with (first | (go_at_call 91; refine HI.mono ?_))
  rintro e w2 ⟨rfl, hb2⟩
  have HB2 : Hid (Below w.heap.size w w2) := (below_new w _).trans (hb2.mono (by simp))
  clear hb2
  go_wp2
  go_ret
  exact ⟨rfl, HB2.out⟩

/-- The cells of a row of clients. -/
def Flat (w : World) (cs : List Value) (l : List Cl) : Prop := cs.length = l.length * 6 ∧ (∀ i c, l[i]? = some c → ∃ so n cp, (∀ j v, (clCells c so n cp)[j]? = some v → cs[i * 6 + j]? = some v) ∧ SAt w so n cp c.scopes) ∧ ∀ u ∈ cs, u.oneCell' = true
def COwn (w : World) (B : Nat) (v : Value) (l : List Cl) : Prop := ∃ cs, w.ownsRow B 27 6 v l.length cs ∧ Flat w cs l
theorem flat_nil (w : World) : Flat w [] [] := ⟨rfl, fun i c h => by simp at h, by simp⟩
theorem cown_nil (w : World) (B : Nat) : COwn w B (.slice none 0 0) [] := ⟨[], World.ownsRow_nil _ _ _ _, flat_nil w⟩
theorem Flat.sats {w w' : World} {cs : List Value} {l : List Cl} (h : Flat w cs l) (hk : ∀ so n cp s, SAt w so n cp s → SAt w' so n cp s) : Flat w' cs l := by
  refine ⟨h.1, fun i c hi => ?_, h.2.2⟩
  obtain ⟨so, n, cp, h1, h2⟩ := h.2.1 i c hi
  exact ⟨so, n, cp, h1, hk _ _ _ _ h2⟩
theorem COwn.keep {w w' : World} {B : Nat} {v : Value} {l : List Cl} (h : COwn w B v l) (hb : Below w.heap.size w w') : COwn w' B v l := by
  obtain ⟨cs, ho, hf⟩ := h
  refine ⟨cs, ⟨ho.1, ?_⟩, hf.sats fun _ _ _ _ h => h.keep hb⟩
  rcases ho.2 with h2 | ⟨g, cap, cur, e, hg, hh, r⟩
  · exact .inl h2
  · exact .inr ⟨g, cap, cur, e, hg, (hb.block g (Array.getElem?_eq_some_iff.1 hh).1).trans hh, r⟩
theorem COwn.shape {w : World} {B : Nat} {v : Value} {l : List Cl} (h : COwn w B v l) : ∃ ao cap, v = .slice ao l.length cap ∧ l.length ≤ cap ∧ CRow w ao l ∧ (∀ a, ao = some a → B ≤ a.block) := by
  obtain ⟨cs, ho, hf⟩ := h
  rcases ho.2 with ⟨rfl, hn⟩ | ⟨g, cap, cur, rfl, hb, hg, hle, _, _, ht⟩
  · exact ⟨none, 0, by rw [hn], by omega, .inl (List.length_eq_zero_iff.1 hn), fun a ha => by cases ha⟩
  · refine ⟨_, cap, rfl, hle, .inr ⟨g, 0, rfl, fun i c hi => ?_⟩, fun a ha => by cases ha; exact hb⟩
    obtain ⟨so, n, cp, h1, h2⟩ := hf.2.1 i c hi
    have hc : ∀ j v, (clCells c so n cp)[j]? = some v → w.cell? ⟨g, 0 + i * 6 + j, none⟩ = some v := by
      intro j v hj
      have := World.ownsRow.cells ho (g := g) rfl (i * 6 + j) v (h1 j v hj)
      rw [add_none, ← Nat.add_assoc] at this
      exact this
    exact ⟨so, n, cp, hc 0 _ rfl, hc 1 _ rfl, hc 2 _ rfl, hc 3 _ rfl, hc 4 _ rfl, hc 5 _ rfl, h2⟩
theorem Flat.snoc {w : World} {cs : List Value} {l : List Cl} (h : Flat w cs l) {c : Cl} {so : Option Addr} {n cp : Nat} (hs : SAt w so n cp c.scopes) : Flat w (cs ++ clCells c so n cp) (l ++ [c]) := by
  refine ⟨by simp [h.1, clCells]; omega, fun i d hi => ?_, ?_⟩
  · by_cases hlt : i < l.length
    · rw [List.getElem?_append_left hlt] at hi
      obtain ⟨so', n', cp', h1, h2⟩ := h.2.1 i d hi
      refine ⟨so', n', cp', fun j v hj => ?_, h2⟩
      have h3 := h1 j v hj
      rw [List.getElem?_append_left (List.getElem?_eq_some_iff.1 h3).1]
      exact h3
    · have hi2 : i = l.length := by
        have := (List.getElem?_eq_some_iff.1 hi).1
        simp at this; omega
      subst hi2
      rw [List.getElem?_append_right (Nat.le_refl _)] at hi
      simp at hi
      subst hi
      refine ⟨so, n, cp, fun j v hj => ?_, hs⟩
      rw [List.getElem?_append_right (by rw [h.1]; omega), h.1, Nat.add_sub_cancel_left]
      exact hj
  · intro u hu
    rcases List.mem_append.1 hu with hu | hu
    · exact h.2.2 u hu
    · simp only [clCells, List.mem_cons, List.not_mem_nil, or_false] at hu
      rcases hu with rfl | rfl | rfl | rfl | rfl | rfl <;> rfl
/-- A list of texts stays as it is while a row of clients grows. -/
theorem SAt.off {w w' : World} {B m : Nat} {v : Value} {cs : List Value} {so : Option Addr} {n cp : Nat} {l : List U} (h : SAt w so n cp l) (ho : w.ownsRow B 27 6 v m cs) (hg : w.grownBy w' v.ownBlock) : SAt w' so n cp l := by
  have hne : ∀ a, so = some a → l ≠ [] → some a.block ≠ v.ownBlock := by
    intro a ha h0 e
    rcases h.2.2.2 with h2 | h2
    · exact h0 h2
    · obtain ⟨xs, fz, hx⟩ := h2 a ha
      rcases ho.2 with ⟨rfl, _⟩ | ⟨g, cap, cur, rfl, _, hh, _⟩
      · simp [Value.ownBlock] at e
      · simp only [Value.ownBlock, Option.some.injEq] at e
        rw [e, hh] at hx
        simp at hx
  exact ⟨h.1, h.2.1, h.2.2.1.grownR hg hne, h.2.2.2.grown hg hne⟩
theorem wpList_append_client {w : World} {ops : Array Oper} {rest : List Oper} {o : Oper} {a : Act} {Q : Exit → Act → World → Prop} {i0 : TypeInfo} (hgd : o.guard = none) (s x : Operand)
    (ho : o.op = .call { callee := .builtin .append, args := #[s, x], argTypes := #[34, 34] }) (hi : Tryz.prog.info? 27 = some i0) (hz0 : i0.zero = some (.agg #[.string { data := #[] }, .string { data := #[] }, .int .i64 0, .bool false, .string { data := #[] }, .slice none 0 0])) (hz1 : i0.size = 6) (hz2 : i0.bytes = 88)
    (B : Nat) (v : Value) (l : List Cl) (c : Cl) (so : Option Addr) (n cp : Nat) (hs : a.eval s = v) (hown : COwn w B v l)
    (N : Nat) (hx : a.eval x = .slice (some ⟨N, 0, none⟩) 1 1) (hr : C6 w N (.string c.id) (.string c.secret) (.int .i64 c.grants) (.bool c.ping) (.string c.url) (.slice so n cp)) (hsat : SAt w so n cp c.scopes)
    (hsz : (l.length + 1) * 88 ≤ 140737488355328) (hB : B ≤ w.heap.size)
    (h : ∀ v' w', COwn w' B v' (l ++ [c]) → w.grownBy w' v.ownBlock → wpList Tryz.prog ops Q rest (a.put o.dst v') w') : wpList Tryz.prog ops Q (o :: rest) a w := by
  refine wpList_plain hgd fun K hK => ?_
  obtain ⟨cs, ho1, hf⟩ := hown
  obtain ⟨v', w', hrun, h1, h2, _⟩ := run_append_own (P := Tryz.prog) w B 34 o.type 27 i0 (.agg #[.string { data := #[] }, .string { data := #[] }, .int .i64 0, .bool false, .string { data := #[] }, .slice none 0 0]) 6 88 Tryz.underlying34 hi hz0 hz1 hz2 rfl (by decide) v l.length cs ho1 ⟨N, 0, none⟩ 1 1 (clCells c so n cp) (by simp [clCells])
    (by
      intro j u hj
      rw [add_none, Nat.zero_add, cell_of_row w N j _ 27 (0, 0) hr, ← Array.getElem?_toList]
      exact hj)
    (by
      intro u hu
      simp only [clCells, List.mem_cons, List.not_mem_nil, or_false] at hu
      rcases hu with rfl | rfl | rfl | rfl | rfl | rfl <;> rfl) (by unfold maxLen; omega) (by omega) hB
  unfold Oper.wp
  simp [execOp, ho, resolve, invoke, builtin, hs, hx, hrun, Result.andThen]
  refine hK _ _ (h v' w' ⟨_, by rw [List.length_append]; exact h1, (hf.snoc hsat).sats fun _ _ _ _ hq => hq.off ho1 h2⟩ h2)
end Go.Proofs.YtlhgjicichjbgaaGreatDoor
/- The program's nextClient: what a line says behind a list of clients. -/
namespace Go.Proofs.YtlhgjicichjbgaaGreatDoor
open Go.RowKit

def nextE (l : List Cl) (R : Option Cl) : Nat := match R with | none => 110 | some c => if (posOf l c.id).isSome = true then 8 else if l.length = 256 then 32 else 0
def nextErr (l : List Cl) (s : ByteArray) : Nat := nextE l (lineR (sbytes s))
def NxEnd (w : World) (l : List Cl) (s : ByteArray) (e : Ending) (w' : World) : Prop := ∃ (c : Cl) (so : Option Addr) (n cp : Nat), e = .returned (.tuple #[.agg #[.string c.id, .string c.secret, .int .i64 c.grants, .bool c.ping, .string c.url, .slice so n cp], .int .i64 (nextErr l s : Int)]) ∧ (nextErr l s = 0 → lineR (sbytes s) = some c) ∧ SAt w' so n cp c.scopes ∧ Below w.heap.size w w'
theorem nxEnd_bad {w w' : World} {l : List Cl} {s : ByteArray} {k : Nat} (hk : nextErr l s = k) (h0 : k ≠ 0) (hb : Below w.heap.size w w') : NxEnd w l s (.returned (.tuple #[.agg #[.string { data := #[] }, .string { data := #[] }, .int .i64 0, .bool false, .string { data := #[] }, .slice none 0 0], .int .i64 (k : Int)])) w' := by
  subst hk
  exact ⟨zeroCl, none, 0, 0, rfl, fun h => absurd h h0, sat_nil w', hb⟩
set_option maxHeartbeats 2000000 in
set_option maxRecDepth 100000 in
theorem nextClient_any (n c gm : Nat) (ao : Option Addr) (l : List Cl) (s : ByteArray) (w : World) (hn : n = l.length) (hl : n ≤ 256) (hr : CRow w ao l) (hK : Known w gm) (hM : MaxL w) (hs : s.size ≤ 9223372036854775807) :
    Calls Tryz.prog 42 #[.slice ao n c, .string s, .map (some gm)] w fun e w' => True ∧ NxEnd w l s e w' := by
  have HN : Hid (n = l.length) := hn
  have HR : Hid (CRow w ao l) := hr
  have HK : Hid (Known w gm) := hK
  have HM : Hid (MaxL w) := hM
  have HBA : Hid (Below w.heap.size w (w.alloc (.cells #[.string { data := #[] }, .string { data := #[] }, .int .i64 0, .bool false, .string { data := #[] }, .slice none 0 0] 27))) := below_new w _
  have HC0 := hide (C6.new w)
  have HRL := readLine_any s gm (w.alloc (.cells #[.string { data := #[] }, .string { data := #[] }, .int .i64 0, .bool false, .string { data := #[] }, .slice none 0 0] 27)) (HK.out.keep HBA.out HK.out.lt) (HM.out.keep HBA.out) hs
  obtain ⟨R, HRR⟩ : ∃ R, Hid (R = lineR (sbytes s)) := ⟨_, hide rfl⟩
  rw [← HRR.out] at HRL
  have HE : Hid (nextErr l s = nextE l R) := by show _ = _; rw [HRR.out]; rfl
  clear hn hr hK hM
  go_enter Tryz.func42, Tryz.ntmps42
  go_wp2_with (first | (go_at_call 82; refine HRL.mono ?_))
  rintro e w1 ⟨-, q, so, m, cp, rfl, hq, hsat, hfar, hb1⟩
  have HFAR : Hid (∀ a, so = some a → w.heap.size < a.block) := fun a ha => by have := hfar a ha; simp at this; omega
  have HSAT := hide hsat
  have HQ := hide hq
  have HB1 : Hid (Below w.heap.size w w1) := HBA.out.trans (hb1.mono HBA.out.size)
  have HC1 := hide (HC0.out.keep hb1 (by simp))
  have hs1 : w.heap.size < w1.heap.size := HC1.out.lt
  clear hq hsat hfar hb1 HRL HC0 HBA
  have HB2 : Hid (Below w1.heap.size w1 (w1.alloc (.cells #[.string q.id, .string q.secret, .int .i64 q.grants, .bool q.ping, .string q.url, .slice so m cp] 27))) := below_new w1 _
  have HC2 := hide (HC1.out.keep HB2.out hs1)
  have HC8 : Hid (C6 (w1.alloc (.cells #[.string q.id, .string q.secret, .int .i64 q.grants, .bool q.ping, .string q.url, .slice so m cp] 27)) w1.heap.size (.string q.id) (.string q.secret) (.int .i64 q.grants) (.bool q.ping) (.string q.url) (.slice so m cp)) := heap_alloc_new w1 _
  have hs2 := HB2.out.size
  go_upto_region 2 with fail
  generalize (w1.alloc (.cells #[.string q.id, .string q.secret, .int .i64 q.grants, .bool q.ping, .string q.url, .slice so m cp] 27)) = w2 at *
  obtain ⟨d0, d1, d2, d3, d4, d5⟩ := HC2.out.cells
  obtain ⟨f0, f1, f2, f3, f4, f5⟩ := HC2.out.thaw
  obtain ⟨i0, i1, i2, i3, i4, i5⟩ := HC8.out.cells
  cases R with
  | none =>
    have HF : Hid (nextErr l s = 110) := HE
    rw [show (none : Option Cl).isSome = false from rfl]
    go_wp2
    refine bodyPost_ret (c6_results2 rfl rfl rfl (HC2.out.put _ _ _ _ _ _)) rfl ?_
    exact ⟨trivial, nxEnd_bad HF.out (by decide) ((HB1.out.trans (HB2.out.mono (by omega))).trans (below_of_grown (putC_grown _ _ _ _ _ _ _ _) (Nat.le_refl _) (by omega)))⟩
  | some q2 =>
    have hq2 := HQ.out q2 rfl
    subst hq2
    have HE2 : Hid (nextErr l s = if (posOf l q.id).isSome = true then 8 else if l.length = 256 then 32 else 0) := HE
    have HPL := placeOf_any n c ao l q.id w2 HN.out (by omega) ((HR.out.keep HB1.out).keep HB2.out)
    obtain ⟨P, HP⟩ : ∃ P, Hid (P = posOf l q.id) := ⟨_, hide rfl⟩
    rw [← HP.out] at HPL HE2
    clear HE HQ
    have HB3 : ∀ w3, Below w2.heap.size w2 w3 → Below w.heap.size w w3 := fun w3 h => (HB1.out.trans (HB2.out.mono (by omega))).trans (h.mono (by omega))
    cases P with
    | some i =>
      have HF : Hid (nextErr l s = 8) := by show _ = _; rw [HE2.out]; rfl
      have hpi : posI (some i) = (i : Int) := rfl
      rw [hpi] at HPL
      have hi0 : (0 : Int) ≤ (i : Int) := by omega
      go_wp2_with (first | (go_at_call 51; refine HPL.mono ?_))
      rintro e w3 ⟨rfl, hb3⟩
      have HBB := hide (HB3 w3 hb3)
      have HC3 := hide (HC2.out.keep hb3 (by omega))
      obtain ⟨e0, e1, e2, e3, e4, e5⟩ := HC3.out.cells
      obtain ⟨g0, g1, g2, g3, g4, g5⟩ := HC3.out.thaw
      have hs3 := HBB.out.size
      clear hb3 HB3
      go_wp2
      refine bodyPost_ret (c6_results2 rfl rfl rfl (HC3.out.put _ _ _ _ _ _)) rfl ?_
      exact ⟨trivial, nxEnd_bad HF.out (by decide) (HBB.out.trans (below_of_grown (putC_grown _ _ _ _ _ _ _ _) (Nat.le_refl _) (by omega)))⟩
    | none =>
      have hpi : posI none = -1 := rfl
      rw [hpi] at HPL
      have HE3 : Hid (nextErr l s = if l.length = 256 then 32 else 0) := by show _ = _; rw [HE2.out]; rfl
      go_wp2_with (first | (go_at_call 51; refine HPL.mono ?_))
      rintro e w3 ⟨rfl, hb3⟩
      have HBB := hide (HB3 w3 hb3)
      have HC3 := hide (HC2.out.keep hb3 (by omega))
      have HS3 : Hid (SAt w3 so m cp q.scopes) := (HSAT.out.keep HB2.out).keep hb3
      have HC9 := hide (HC8.out.keep hb3 (HC8.out.lt))
      obtain ⟨e0, e1, e2, e3, e4, e5⟩ := HC3.out.cells
      obtain ⟨g0, g1, g2, g3, g4, g5⟩ := HC3.out.thaw
      obtain ⟨k0, k1, k2, k3, k4, k5⟩ := HC9.out.cells
      have hs3 := HBB.out.size
      clear hb3 HB3
      by_cases h256 : n = 256
      · have HF : Hid (nextErr l s = 32) := by show _ = _; rw [HE3.out, if_pos (by rw [← HN.out]; exact h256)]
        have h256b : ((n : Int) == 256) = true := by simp [h256]
        clear h256
        go_wp2
        refine bodyPost_ret (c6_results2 rfl rfl rfl (HC3.out.put _ _ _ _ _ _)) rfl ?_
        exact ⟨trivial, nxEnd_bad HF.out (by decide) (HBB.out.trans (below_of_grown (putC_grown _ _ _ _ _ _ _ _) (Nat.le_refl _) (by omega)))⟩
      · have HF : Hid (nextErr l s = 0) := by show _ = _; rw [HE3.out, if_neg (by rw [← HN.out]; exact h256)]
        have h256b : ((n : Int) == 256) = false := by simp; omega
        clear h256
        go_wp2
        refine bodyPost_ret (c6_results2 rfl rfl rfl (HC3.out.put _ _ _ _ _ _)) rfl ?_
        refine ⟨trivial, q, so, m, cp, by rw [HF.out]; rfl, fun _ => HRR.out.symm, ?_, HBB.out.trans (below_of_grown (putC_grown _ _ _ _ _ _ _ _) (Nat.le_refl _) (by omega))⟩
        exact HS3.out.grown (putC_grown _ _ _ _ _ _ _ _) HFAR.out
end Go.Proofs.YtlhgjicichjbgaaGreatDoor
/- A text cut into lines, by strings.Split. -/
namespace Go.Proofs.YtlhgjicichjbgaaGreatDoor
open Go.RowKit

/-- A text cut into lines. -/
def cutLn : U → List U
  | [] => [[]]
  | c :: l => if c = 10 then [] :: cutLn l else match cutLn l with
    | [] => [[c]]
    | h :: t => (c :: h) :: t
theorem cutLn_ne : ∀ l : U, ∃ h t, cutLn l = h :: t
  | [] => ⟨[], [], rfl⟩
  | c :: l => by
    obtain ⟨h, t, e⟩ := cutLn_ne l
    by_cases hc : c = 10
    · exact ⟨[], cutLn l, by rw [cutLn, if_pos hc]⟩
    · exact ⟨c :: h, t, by rw [cutLn, if_neg hc, e]⟩
theorem cutLn_blank (l : U) : cutLn (10 :: l) = [] :: cutLn l := by rw [cutLn, if_pos rfl]
theorem cutLn_cons {c : UInt8} {l h : U} {t : List U} (hc : c ≠ 10) (e : cutLn l = h :: t) : cutLn (c :: l) = (c :: h) :: t := by rw [cutLn, if_neg hc, e]

theorem splitLn_cons {c : UInt8} {l : U} (hc : c ≠ 10) : ∀ k, Lib.splitK [10] 0 k (c :: l) = match Lib.splitK [10] 0 k l with
    | [] => [[c]]
    | h :: t => (c :: h) :: t
  | 0 => rfl
  | k + 1 => by
    have hb : (c == 10) = false := by simpa using hc
    have e1 : Lib.index (c :: l) [10] = if Lib.index l [10] == -1 then -1 else Lib.index l [10] + 1 := by
      rw [Lib.index_one, Lib.index_one, Lib.indexByte, hb]; rfl
    unfold Lib.splitK
    rw [e1]
    have hge := Lib.index_ge l [10]
    by_cases h : Lib.index l [10] = -1
    · rw [h]; rfl
    · have hb2 : (Lib.index l [10] == -1) = false := by simpa using h
      have hb3 : (Lib.index l [10] + 1 == -1) = false := by simp; omega
      rw [hb2]
      simp only [Bool.false_eq_true, if_false]
      rw [hb3]
      simp only [Bool.false_eq_true, if_false]
      obtain ⟨i, hi⟩ : ∃ i : Nat, Lib.index l [10] = i := ⟨(Lib.index l [10]).toNat, by omega⟩
      rw [hi, show ((i : Int) + 1).toNat = i + 1 by omega, show ((i : Int)).toNat = i by omega]
      simp only [Nat.add_zero, List.take_succ_cons, List.length_cons, List.length_nil]
      rw [show i + 1 + (0 + 1) = (i + (0 + 1)) + 1 by omega, List.drop_succ_cons]
theorem splitLn_cut : ∀ l : U, Lib.splitK [10] 0 (l.count 10) l = cutLn l
  | [] => rfl
  | c :: l => by
    by_cases hc : c = 10
    · subst hc
      rw [List.count_cons_self, cutLn_blank, ← splitLn_cut l]
      have e1 : Lib.index (10 :: l) [10] = 0 := by rw [Lib.index_one, Lib.indexByte]; rfl
      rw [Lib.splitK, e1]
      rfl
    · rw [List.count_cons_of_ne hc, splitLn_cons hc, splitLn_cut l]
      obtain ⟨h, t, e⟩ := cutLn_ne l
      rw [cutLn_cons hc e, e]

theorem lines_any (s : ByteArray) (w : World) (hs : s.size ≤ 65536) (hM : MaxL w) :
    Calls Tryz.prog 40 #[.string s, .string { data := #[10] }] w fun e w' => e = .returned (.slice (some ⟨w.heap.size, 0, none⟩) (cutLn s.data.toList).length (cutLn s.data.toList).length) ∧ w' = w.alloc (.cells ((cutLn s.data.toList).map encStr).toArray 9) := by
  obtain ⟨m, hm⟩ := hM
  have hcnt : Lib.countB s { data := #[10] } = s.data.toList.count 10 := Lib.count_one 10 s.data.toList
  have hsp : (Lib.splitB { data := #[10] } 0 (Lib.countB s { data := #[10] }) s).map (·.data.toList) = cutLn s.data.toList := by
    rw [Lib.splitB_data, hcnt]; exact splitLn_cut _
  have hlen : Lib.countB s { data := #[10] } + 1 = (cutLn s.data.toList).length := by
    rw [← hsp, List.length_map, Lib.splitB_all _ (by decide) 0 _ s rfl]
  have hcells : (Lib.splitB { data := #[10] } 0 (Lib.countB s { data := #[10] }) s).map Value.string = (cutLn s.data.toList).map encStr := by
    rw [← hsp, List.map_map]
    apply List.map_congr_left
    intro b _
    exact str_u b
  refine Calls.mono (Any.strings_Split lays146 (by kernel_rfl) s { data := #[10] } m w (by omega) hm (by decide)) ?_
  rintro e w' ⟨rfl, rfl⟩
  rw [hlen, hcells]
  exact ⟨rfl, rfl⟩
end Go.Proofs.YtlhgjicichjbgaaGreatDoor
/- The program's Parse: every registry's text. -/
namespace Go.Proofs.YtlhgjicichjbgaaGreatDoor
open Go.RowKit

def clOf (s : ByteArray) : Cl := (lineR (sbytes s)).getD zeroCl
/-- What the lines from the k-th on say, behind a list of clients: the clients, the error, its line. -/
def pRun : List U → Nat → List Cl → List Cl × Nat × Nat
  | [], _, a => (a, 0, 0)
  | u :: r, k, a => if nothingB ⟨u.toArray⟩ = true then pRun r (k + 1) a else if nextErr a ⟨u.toArray⟩ = 0 then pRun r (k + 1) (a ++ [clOf ⟨u.toArray⟩]) else ([], nextErr a ⟨u.toArray⟩, k + 1)
def parR (t : U) : List Cl × Nat × Nat := if 65536 < t.length then ([], 1, 0) else pRun (cutLn t) 0 []
theorem cutLn_len : ∀ t : U, (cutLn t).length ≤ t.length + 1
  | [] => by simp [cutLn]
  | c :: t => by
    have ih := cutLn_len t
    obtain ⟨a, r, e⟩ := cutLn_ne t
    by_cases hc : c = 10
    · rw [cutLn, if_pos hc]; simp; omega
    · rw [cutLn_cons hc e]; rw [e] at ih; simp at ih ⊢; omega
theorem cutLn_small : ∀ (t u : U), u ∈ cutLn t → u.length ≤ t.length
  | [], u, h => by simp [cutLn] at h; simp [h]
  | c :: t, u, h => by
    obtain ⟨a, r, e⟩ := cutLn_ne t
    have ih := cutLn_small t
    by_cases hc : c = 10
    · rw [cutLn, if_pos hc] at h
      rcases List.mem_cons.1 h with rfl | h
      · simp
      · have := ih u h; simp; omega
    · rw [cutLn_cons hc e] at h
      rcases List.mem_cons.1 h with rfl | h
      · have := ih a (by rw [e]; simp); simp; omega
      · have := ih u (by rw [e]; simp [h]); simp; omega
theorem nextErr_zero {l : List Cl} {s : ByteArray} (h : nextErr l s = 0) : l.length ≠ 256 := by
  unfold nextErr nextE at h
  split at h
  · simp at h
  · split at h
    · simp at h
    · split at h
      · simp at h
      · assumption
def PrEnd (w : World) (R : List Cl × Nat × Nat) (e : Ending) (w' : World) : Prop := ∃ v, e = .returned (.tuple #[v, .int .i64 (R.2.1 : Int), .int .i64 (R.2.2 : Int)]) ∧ COwn w' w.heap.size v R.1 ∧ Below w.heap.size w w'
set_option maxHeartbeats 2000000 in
set_option maxRecDepth 100000 in
theorem clParse_any (s : ByteArray) (w : World) (hM : MaxL w) :
    Calls Tryz.prog 15 #[.string s] w fun e w' => True ∧ PrEnd w (parR s.data.toList) e w' := by
  have HM : Hid (MaxL w) := hM
  obtain ⟨i0, hi, hz0, hz1, hz2⟩ := info_parts infoClient
  obtain ⟨R, HR⟩ : ∃ R, Hid (R = parR s.data.toList) := ⟨_, hide rfl⟩
  rw [← HR.out]
  clear hM
  by_cases hsz : s.size ≤ 65536
  · have hszi : (s.size : Int) ≤ 65536 := by omega
    have hszn : ¬ (65536 : Int) < (s.size : Int) := by omega
    obtain ⟨ls, HLS⟩ : ∃ ls, Hid (ls = cutLn s.data.toList) := ⟨_, hide rfl⟩
    obtain ⟨m, hm⟩ : ∃ m, m = ls.length := ⟨_, rfl⟩
    have HML : Hid (m = ls.length) := hm
    have hml : m ≤ 65537 := by have := cutLn_len s.data.toList; rw [hm, HLS.out]; simp at this ⊢; omega
    have HSM : Hid (∀ u ∈ ls, u.length ≤ 65536) := by
      intro u hu; rw [HLS.out] at hu; have := cutLn_small _ _ hu; simp at this; omega
    have HRE : Hid (R = pRun ls 0 []) := by show _ = _; rw [HR.out]; unfold parR; rw [if_neg (by simp; omega), HLS.out]
    have HFD := fields_any w
    have HK1 : Hid (Known (w.alloc (.map knownEs 6)) w.heap.size) := heap_alloc_new w _
    have HSP := lines_any s (w.alloc (.map knownEs 6)) hsz (HM.out.keep (below_new w _))
    rw [← HLS.out, ← hm] at HSP
    clear hm
    go_enter Tryz.func15, Tryz.ntmps15
    go_wp2_with (first | (go_at_call 39; refine HFD.mono ?_; rintro e wf ⟨rfl, rfl⟩) | (go_at_call 40; refine HSP.mono ?_))
    rintro e w1 ⟨rfl, hw1⟩
    have HB1 : Hid (Below w.heap.size w w1) := by rw [hw1]; exact (below_new w _).trans ((below_new _ _).mono (by simp))
    have HKN : Hid (Known w1 w.heap.size) := by rw [hw1]; exact HK1.out.keep (below_new _ _) (by simp)
    have HSL : Hid (SBlk w1 (w.heap.size + 1) ls) := by
      rw [hw1]
      have h := heap_alloc_new (w.alloc (.map knownEs 6)) (.cells (ls.map encStr).toArray 9)
      rw [show (w.alloc (.map knownEs 6)).heap.size = w.heap.size + 1 by simp] at h
      exact h
    have hsz0 : (w.alloc (.map knownEs 6)).heap.size = w.heap.size + 1 := by simp
    rw [hsz0]
    have hs1 : w.heap.size + 1 < w1.heap.size := HSL.out.lt
    clear hw1 HSP HFD HK1
    go_wp2
    go_loopw [6, 18] (fun v i wr => ∃ (k : Nat) (a : List Cl) (ao : Option Addr) (n cap : Nat), (k ≤ m ∧ n ≤ 256) ∧ v = .slice ao n cap ∧ i = .int .i64 (k : Int) ∧ Hid (n = a.length) ∧ Hid (R = pRun (ls.drop k) k a) ∧ Hid (COwn wr w1.heap.size (.slice ao n cap) a) ∧ Hid (Below w1.heap.size w1 wr)) (fun _ i _ => m - (intOf i).toNat)
    case atStart => exact ⟨0, [], none, 0, 0, ⟨Nat.zero_le _, by omega⟩, rfl, rfl, rfl, HRE, cown_nil _ _, Below.refl _ _⟩
    case round =>
      obtain ⟨k, a, ao, n, cap, ⟨hk, hn⟩, rfl, rfl, HNA, HRK, HOW, HBW⟩ := hrel
      have hsr := HBW.out.size
      by_cases hlt : k < m
      · obtain ⟨u, hu⟩ : ∃ u, ls[k]? = some u := ⟨_, List.getElem?_eq_getElem (by rw [← HML.out]; exact hlt)⟩
        have c0 : wr.cell? ⟨w.heap.size + 1, k, none⟩ = some (.string ⟨u.toArray⟩) := (HSL.out.below HBW.out hs1).cell hu
        have HDR : Hid (ls.drop k = u :: ls.drop (k + 1)) := by
          show _ = _
          rw [List.drop_eq_getElem_cons (by rw [← HML.out]; exact hlt)]
          congr 1
          exact (List.getElem?_eq_some_iff.1 hu).2
        have hul : (⟨u.toArray⟩ : ByteArray).size ≤ 9223372036854775807 := by
          have := HSM.out u (List.mem_of_getElem? hu); rw [u_size]; omega
        obtain ⟨sb, HSB⟩ : ∃ sb : ByteArray, Hid (sb = ⟨u.toArray⟩) := ⟨_, hide rfl⟩
        have HRS : Hid (R = if nothingB sb = true then pRun (ls.drop (k + 1)) (k + 1) a else if nextErr a sb = 0 then pRun (ls.drop (k + 1)) (k + 1) (a ++ [clOf sb]) else ([], nextErr a sb, k + 1)) := by
          show _ = _
          rw [HRK.out, HDR.out, HSB.out]; rfl
        rw [← HSB.out] at c0 hul
        have hoff : w.heap.size + 1 = w.heap.size + 1 := rfl
        have HSN := saysNothing_any sb wr hul
        clear hu HRK HDR HSB hoff
        by_cases hno : nothingB sb = true
        · rw [hno] at HSN
          have HR2 : Hid (R = pRun (ls.drop (k + 1)) (k + 1) a) := by show _ = _; rw [HRS.out, if_pos hno]
          clear hno HRS
          go_wp2_with (first | (go_at_call 41; refine HSN.mono ?_; rintro e wx ⟨rfl, rfl⟩))
          go_roundw
          case rel => exact ⟨k + 1, a, ao, n, cap, ⟨by omega, hn⟩, rfl, by go_num, HNA, HR2, HOW, HBW⟩
          case measure => simp [intOf]; omega
        · have hnof : nothingB sb = false := by simpa using hno
          rw [hnof] at HSN
          have HNX := nextClient_any n cap w.heap.size ao a sb wr HNA.out hn (by
            obtain ⟨x, y, e, _, h, _⟩ := HOW.out.shape
            cases e; exact h) (HKN.out.keep HBW.out (by omega)) ((HM.out.keep HB1.out).keep HBW.out) hul
          by_cases he : nextErr a sb = 0
          · have HR2 : Hid (R = pRun (ls.drop (k + 1)) (k + 1) (a ++ [clOf sb])) := by show _ = _; rw [HRS.out, if_neg hno, if_pos he]
            have h256 := nextErr_zero he
            have hn2 : n + 1 ≤ 256 := by rw [HNA.out] at hn ⊢; omega
            have HHE := hide he
            clear hno hnof HRS he h256
            go_wp2_with (first | (go_at_call 41; refine HSN.mono ?_; rintro e wx ⟨rfl, rfl⟩) | (go_at_call 42; refine HNX.mono ?_))
            rintro e w4 ⟨-, q, so, j, cp, rfl, hq, hsat, hb4⟩
            have HQ : Hid (clOf sb = q) := by show _ = _; unfold clOf; rw [hq HHE.out]; rfl
            rw [HHE.out]
            have HSAT := hide hsat
            have HB4 := hide hb4
            have HO4 := hide (HOW.out.keep hb4)
            clear hq hsat hb4 HNX HSN
            rw [show ((0 : Nat) : Int) = 0 from rfl]
            have hs4 := HB4.out.size
            have HBX : Hid (Below w4.heap.size w4 ((w4.alloc (.cells #[.string q.id, .string q.secret, .int .i64 q.grants, .bool q.ping, .string q.url, .slice so j cp] 27)).alloc (.cells #[.string q.id, .string q.secret, .int .i64 q.grants, .bool q.ping, .string q.url, .slice so j cp] 27))) := (below_new w4 _).trans ((below_new _ _).mono (by simp))
            have HC6 : Hid (C6 ((w4.alloc (.cells #[.string q.id, .string q.secret, .int .i64 q.grants, .bool q.ping, .string q.url, .slice so j cp] 27)).alloc (.cells #[.string q.id, .string q.secret, .int .i64 q.grants, .bool q.ping, .string q.url, .slice so j cp] 27)) (w4.heap.size + 1) (.string q.id) (.string q.secret) (.int .i64 q.grants) (.bool q.ping) (.string q.url) (.slice so j cp)) := by
              have h := heap_alloc_new (w4.alloc (.cells #[.string q.id, .string q.secret, .int .i64 q.grants, .bool q.ping, .string q.url, .slice so j cp] 27)) (.cells #[.string q.id, .string q.secret, .int .i64 q.grants, .bool q.ping, .string q.url, .slice so j cp] 27)
              rw [show (w4.alloc (.cells #[.string q.id, .string q.secret, .int .i64 q.grants, .bool q.ping, .string q.url, .slice so j cp] 27)).heap.size = w4.heap.size + 1 by simp] at h
              exact h
            go_wp2_with (first | (at_builtin; refine wpList_append_client (i0 := i0) rfl (.tmp 37) (.tmp 39) rfl hi hz0 hz1 hz2 w1.heap.size _ a q so j cp rfl (HO4.out.keep HBX.out) (w4.heap.size + 1) rfl HC6.out (HSAT.out.keep HBX.out) (by rw [← HNA.out]; omega) (by have := HBX.out.size; omega) ?_))
            intro v' w5 hown5 hgr5
            obtain ⟨ao', cap', hv', _, _, _⟩ := hown5.shape
            have hlen : (a ++ [q]).length = n + 1 := by rw [List.length_append, ← HNA.out]; rfl
            rw [hlen] at hv'
            subst hv'
            have HO5 := hide hown5
            have HB5 : Hid (Below w1.heap.size w1 w5) := (HBW.out.trans ((HB4.out.trans (HBX.out.mono (by omega))).mono (by omega))).grown hgr5 (by have := HBX.out.size; omega) (fun x hx => by
              obtain ⟨_, ho, _⟩ := HO4.out
              exact (World.ownsRow.lt ho x hx).1)
            clear hown5 hgr5
            go_wp2
            go_roundw
            case rel => exact ⟨k + 1, a ++ [q], ao', n + 1, cap', ⟨by omega, hn2⟩, rfl, by go_num, hlen.symm, by rw [← HQ.out]; exact HR2.out, HO5, HB5⟩
            case measure => simp [intOf]; omega
          · have HR2 : Hid (R = ([], nextErr a sb, k + 1)) := by show _ = _; rw [HRS.out, if_neg hno, if_neg he]
            obtain ⟨er, her⟩ : ∃ er, er = nextErr a sb := ⟨_, rfl⟩
            unfold NxEnd at HNX
            rw [← her] at HNX HR2 he
            have hei : ((er : Int) != 0) = true := by simp; omega
            have hei2 : ((er : Int) == 0) = false := by simp; omega
            clear hno hnof HRS her
            go_wp2_with (first | (go_at_call 41; refine HSN.mono ?_; rintro e wx ⟨rfl, rfl⟩) | (go_at_call 42; refine HNX.mono ?_))
            rintro e w4 ⟨-, q, so, j, cp, rfl, -, -, hb4⟩
            have HB4 : Hid (Below w.heap.size w (w4.alloc (.cells #[.string q.id, .string q.secret, .int .i64 q.grants, .bool q.ping, .string q.url, .slice so j cp] 27))) := ((HB1.out.trans (HBW.out.mono (by omega))).trans (hb4.mono (by omega))).trans ((below_new w4 _).mono (by have := hb4.size; omega))
            clear hb4 HNX HSN
            go_wp2
            go_ret3
            refine (fun h => by first | exact ⟨trivial, h⟩ | exact h) (?_ : PrEnd w R _ _)
            rw [HR2.out]
            exact ⟨.slice none 0 0, by go_num, cown_nil _ _, HB4.out⟩
      · have HR2 : Hid (R = (a, 0, 0)) := by
          show _ = _
          rw [HRK.out, List.drop_eq_nil_of_le (by rw [← HML.out]; omega)]; rfl
        go_wp2
        go_ret3
        refine (fun h => by first | exact ⟨trivial, h⟩ | exact h) (?_ : PrEnd w R _ _)
        rw [HR2.out]
        refine ⟨.slice ao n cap, rfl, ?_, HB1.out.trans (HBW.out.mono (by omega))⟩
        obtain ⟨cs, ho, hf⟩ := HOW.out
        refine ⟨cs, ⟨ho.1, ?_⟩, hf⟩
        rcases ho.2 with h2 | ⟨g, cap, cur, e, hg, r⟩
        · exact .inl h2
        · exact .inr ⟨g, cap, cur, e, by show w.heap.size ≤ g; omega, r⟩
  · have hszi : (65536 : Int) < (s.size : Int) := by omega
    have HR2 : Hid (R = ([], 1, 0)) := by show _ = _; rw [HR.out]; unfold parR; rw [if_pos (by simp; omega)]
    go_enter Tryz.func15, Tryz.ntmps15
    go_wp2
    go_ret3
    refine (fun h => by first | exact ⟨trivial, h⟩ | exact h) (?_ : PrEnd w R _ _)
    rw [HR2.out]
    exact ⟨.slice none 0 0, rfl, cown_nil _ _, Below.refl _ _⟩
end Go.Proofs.YtlhgjicichjbgaaGreatDoor
