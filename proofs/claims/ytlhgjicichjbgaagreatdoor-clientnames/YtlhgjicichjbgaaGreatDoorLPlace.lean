/- The program's placeOf; rows of clients that are a call's own. -/
import Derived.Test.YtlhgjicichjbgaaGreatDoorLRow
import Derived.Laws.AppendOwnNone
namespace Go.Proofs.YtlhgjicichjbgaaGreatDoor
open Go.RowKit

theorem posOf_none {l : List Cl} {id : ByteArray} (h : ∀ c ∈ l, c.id ≠ id) : posOf l id = none := by
  unfold posOf
  rw [List.findIdx?_eq_none_iff]
  intro c hc
  exact decide_eq_false (h c hc)
theorem posOf_at {l : List Cl} {id : ByteArray} {k : Nat} {c : Cl} (h : ∀ c ∈ l.take k, c.id ≠ id) (hk : l[k]? = some c) (hc : c.id = id) : posOf l id = some k := by
  unfold posOf
  rw [List.findIdx?_eq_some_iff_getElem]
  obtain ⟨hlt, he⟩ := List.getElem?_eq_some_iff.1 hk
  refine ⟨hlt, by rw [he]; exact decide_eq_true hc, fun j hj => ?_⟩
  have := h l[j] (List.mem_take_iff_getElem.2 ⟨j, by omega, rfl⟩)
  simpa using this
set_option maxHeartbeats 1000000 in
set_option maxRecDepth 100000 in
theorem indexFunc_any (n c N : Nat) (ao : Option Addr) (l : List Cl) (x : ByteArray) (w : World) (hn : n = l.length) (hl : n ≤ 4398046511104) (hr : CRow w ao l) (hx : w.cell? ⟨N, 0, none⟩ = some (.string x)) :
    Calls Tryz.prog 91 #[.slice ao n c, .func (.func 92) #[] #[.pointer (some ⟨N, 0, none⟩)]] w fun e w' => e = .returned (.int .i64 (posI (posOf l x))) ∧ Below w.heap.size w w' := by
  have HN : Hid (n = l.length) := hn
  have HR : Hid (CRow w ao l) := hr
  have HX : Hid (w.cell? ⟨N, 0, none⟩ = some (.string x)) := hx
  obtain ⟨P, HP⟩ : ∃ P, Hid (P = posI (posOf l x)) := ⟨_, hide rfl⟩
  rw [← HP.out]
  clear hn hr hx
  go_enter Tryz.func91, Tryz.ntmps91
  go_wp2
  go_loopw [8] (fun i wr => ∃ k : Nat, k ≤ n ∧ i = .int .i64 (k : Int) ∧ Hid (∀ c ∈ l.take k, c.id ≠ x) ∧ Hid (Below w.heap.size w wr)) (fun i _ => n - (intOf i).toNat)
  case atStart => exact ⟨0, Nat.zero_le _, rfl, by intro c hc; simp at hc, Below.refl _ _⟩
  case round =>
    obtain ⟨k, hk, rfl, HA, HB⟩ := hrel
    have hsz := HB.out.size
    by_cases hlt : k < n
    · obtain ⟨b, off, rfl⟩ := HR.out.form (by rw [← HN.out]; omega)
      obtain ⟨q, hq⟩ : ∃ q, l[k]? = some q := ⟨_, List.getElem?_eq_getElem (by rw [← HN.out]; exact hlt)⟩
      obtain ⟨so, m, cp, c0, c1, c2, c3, c4, c5, -⟩ := (HR.out.keep HB.out).cell hq
      have HQ := hide hq
      have hc := isThat_any q.id q.secret q.url x q.grants q.ping so m cp N wr (cell_kept HX.out HB.out)
      clear hq
      by_cases he : q.id = x
      · have HPK : Hid (P = (k : Int)) := by show _ = _; rw [HP.out, posOf_at HA.out HQ.out he]; rfl
        rw [decide_eq_true he] at hc
        clear he
        go_wp2_with (first | (go_at_call 92; refine hc.mono ?_))
        rintro e w2 ⟨rfl, hb2⟩
        have HB2 := hide (HB.out.trans (hb2.mono hsz))
        clear hb2
        go_wp2
        go_ret
        exact ⟨by rw [HPK.out]; rfl, HB2.out⟩
      · have HA2 : Hid (∀ c ∈ l.take (k + 1), c.id ≠ x) := by
          intro c hc
          rw [List.take_add_one, HQ.out] at hc
          rcases List.mem_append.1 hc with hc | hc
          · exact HA.out c hc
          · simp at hc; subst hc; exact he
        rw [decide_eq_false he] at hc
        clear he
        go_wp2_with (first | (go_at_call 92; refine hc.mono ?_))
        rintro e w2 ⟨rfl, hb2⟩
        have HB2 := hide (HB.out.trans (hb2.mono hsz))
        clear hb2
        go_wp2
        go_roundw
        case rel => exact ⟨k + 1, by omega, by go_num, HA2, HB2⟩
        case measure => simp [intOf]; omega
    · have HPN : Hid (P = -1) := by
        show _ = _
        have := HA.out
        rw [List.take_of_length_le (by rw [← HN.out]; omega)] at this
        rw [HP.out, posOf_none this]; rfl
      go_wp2
      go_ret
      exact ⟨by rw [HPN.out]; rfl, HB.out⟩
set_option maxHeartbeats 400000 in
set_option maxRecDepth 100000 in
theorem placeOf_any (n c : Nat) (ao : Option Addr) (l : List Cl) (x : ByteArray) (w : World) (hn : n = l.length) (hl : n ≤ 4398046511104) (hr : CRow w ao l) :
    Calls Tryz.prog 51 #[.slice ao n c, .string x] w fun e w' => e = .returned (.int .i64 (posI (posOf l x))) ∧ Below w.heap.size w w' := by
  have HI := indexFunc_any n c w.heap.size ao l x (w.alloc (.cells #[.string x] 9)) hn hl (hr.keep (below_new w _)) (by simp)
  obtain ⟨P, HP⟩ : ∃ P, Hid (P = posI (posOf l x)) := ⟨_, hide rfl⟩
  rw [← HP.out] at HI ⊢
  clear hn hr HP
  go_enter Tryz.func51, Tryz.ntmps51
  go_wp2_with (first | (go_at_call 91; refine HI.mono ?_))
  rintro e w2 ⟨rfl, hb2⟩
  have HB2 : Hid (Below w.heap.size w w2) := (below_new w _).trans (hb2.mono (by simp))
  clear hb2
  go_wp2
  go_ret
  exact ⟨rfl, HB2.out⟩

/-- The cells of a row of clients. -/
def Flat (w : World) (cs : List Value) (l : List Cl) : Prop := cs.length = l.length * 6 ∧ (∀ i c, l[i]? = some c → ∃ so n cp, (∀ j v, (clCells c so n cp)[j]? = some v → cs[i * 6 + j]? = some v) ∧ SAt w so n cp c.scopes) ∧ ∀ u ∈ cs, u.oneCell' = true
def COwn (w : World) (B : Nat) (v : Value) (l : List Cl) : Prop := ∃ cs, w.ownsRow B 27 6 v l.length cs ∧ Flat w cs l
theorem flat_nil (w : World) : Flat w [] [] := ⟨rfl, fun i c h => by simp at h, by simp⟩
theorem cown_nil (w : World) (B : Nat) : COwn w B (.slice none 0 0) [] := ⟨[], World.ownsRow_nil _ _ _ _, flat_nil w⟩
theorem Flat.sats {w w' : World} {cs : List Value} {l : List Cl} (h : Flat w cs l) (hk : ∀ so n cp s, SAt w so n cp s → SAt w' so n cp s) : Flat w' cs l := by
  refine ⟨h.1, fun i c hi => ?_, h.2.2⟩
  obtain ⟨so, n, cp, h1, h2⟩ := h.2.1 i c hi
  exact ⟨so, n, cp, h1, hk _ _ _ _ h2⟩
theorem COwn.keep {w w' : World} {B : Nat} {v : Value} {l : List Cl} (h : COwn w B v l) (hb : Below w.heap.size w w') : COwn w' B v l := by
  obtain ⟨cs, ho, hf⟩ := h
  refine ⟨cs, ⟨ho.1, ?_⟩, hf.sats fun _ _ _ _ h => h.keep hb⟩
  rcases ho.2 with h2 | ⟨g, cap, cur, e, hg, hh, r⟩
  · exact .inl h2
  · exact .inr ⟨g, cap, cur, e, hg, (hb.block g (Array.getElem?_eq_some_iff.1 hh).1).trans hh, r⟩
theorem COwn.shape {w : World} {B : Nat} {v : Value} {l : List Cl} (h : COwn w B v l) : ∃ ao cap, v = .slice ao l.length cap ∧ l.length ≤ cap ∧ CRow w ao l ∧ (∀ a, ao = some a → B ≤ a.block) := by
  obtain ⟨cs, ho, hf⟩ := h
  rcases ho.2 with ⟨rfl, hn⟩ | ⟨g, cap, cur, rfl, hb, hg, hle, _, _, ht⟩
  · exact ⟨none, 0, by rw [hn], by omega, .inl (List.length_eq_zero_iff.1 hn), fun a ha => by cases ha⟩
  · refine ⟨_, cap, rfl, hle, .inr ⟨g, 0, rfl, fun i c hi => ?_⟩, fun a ha => by cases ha; exact hb⟩
    obtain ⟨so, n, cp, h1, h2⟩ := hf.2.1 i c hi
    have hc : ∀ j v, (clCells c so n cp)[j]? = some v → w.cell? ⟨g, 0 + i * 6 + j, none⟩ = some v := by
      intro j v hj
      have := World.ownsRow.cells ho (g := g) rfl (i * 6 + j) v (h1 j v hj)
      rw [add_none, ← Nat.add_assoc] at this
      exact this
    exact ⟨so, n, cp, hc 0 _ rfl, hc 1 _ rfl, hc 2 _ rfl, hc 3 _ rfl, hc 4 _ rfl, hc 5 _ rfl, h2⟩
theorem Flat.snoc {w : World} {cs : List Value} {l : List Cl} (h : Flat w cs l) {c : Cl} {so : Option Addr} {n cp : Nat} (hs : SAt w so n cp c.scopes) : Flat w (cs ++ clCells c so n cp) (l ++ [c]) := by
  refine ⟨by simp [h.1, clCells]; omega, fun i d hi => ?_, ?_⟩
  · by_cases hlt : i < l.length
    · rw [List.getElem?_append_left hlt] at hi
      obtain ⟨so', n', cp', h1, h2⟩ := h.2.1 i d hi
      refine ⟨so', n', cp', fun j v hj => ?_, h2⟩
      have h3 := h1 j v hj
      rw [List.getElem?_append_left (List.getElem?_eq_some_iff.1 h3).1]
      exact h3
    · have hi2 : i = l.length := by
        have := (List.getElem?_eq_some_iff.1 hi).1
        simp at this; omega
      subst hi2
      rw [List.getElem?_append_right (Nat.le_refl _)] at hi
      simp at hi
      subst hi
      refine ⟨so, n, cp, fun j v hj => ?_, hs⟩
      rw [List.getElem?_append_right (by rw [h.1]; omega), h.1, Nat.add_sub_cancel_left]
      exact hj
  · intro u hu
    rcases List.mem_append.1 hu with hu | hu
    · exact h.2.2 u hu
    · simp only [clCells, List.mem_cons, List.not_mem_nil, or_false] at hu
      rcases hu with rfl | rfl | rfl | rfl | rfl | rfl <;> rfl
/-- A list of texts stays as it is while a row of clients grows. -/
theorem SAt.off {w w' : World} {B m : Nat} {v : Value} {cs : List Value} {so : Option Addr} {n cp : Nat} {l : List U} (h : SAt w so n cp l) (ho : w.ownsRow B 27 6 v m cs) (hg : w.grownBy w' v.ownBlock) : SAt w' so n cp l := by
  have hne : ∀ a, so = some a → l ≠ [] → some a.block ≠ v.ownBlock := by
    intro a ha h0 e
    rcases h.2.2.2 with h2 | h2
    · exact h0 h2
    · obtain ⟨xs, fz, hx⟩ := h2 a ha
      rcases ho.2 with ⟨rfl, _⟩ | ⟨g, cap, cur, rfl, _, hh, _⟩
      · simp [Value.ownBlock] at e
      · simp only [Value.ownBlock, Option.some.injEq] at e
        rw [e, hh] at hx
        simp at hx
  exact ⟨h.1, h.2.1, h.2.2.1.grownR hg hne, h.2.2.2.grown hg hne⟩
theorem wpList_append_client {w : World} {ops : Array Oper} {rest : List Oper} {o : Oper} {a : Act} {Q : Exit → Act → World → Prop} {i0 : TypeInfo} (hgd : o.guard = none) (s x : Operand)
    (ho : o.op = .call { callee := .builtin .append, args := #[s, x], argTypes := #[34, 34] }) (hi : Tryz.prog.info? 27 = some i0) (hz0 : i0.zero = some (.agg #[.string { data := #[] }, .string { data := #[] }, .int .i64 0, .bool false, .string { data := #[] }, .slice none 0 0])) (hz1 : i0.size = 6) (hz2 : i0.bytes = 88)
    (B : Nat) (v : Value) (l : List Cl) (c : Cl) (so : Option Addr) (n cp : Nat) (hs : a.eval s = v) (hown : COwn w B v l)
    (N : Nat) (hx : a.eval x = .slice (some ⟨N, 0, none⟩) 1 1) (hr : C6 w N (.string c.id) (.string c.secret) (.int .i64 c.grants) (.bool c.ping) (.string c.url) (.slice so n cp)) (hsat : SAt w so n cp c.scopes)
    (hsz : (l.length + 1) * 88 ≤ 140737488355328) (hB : B ≤ w.heap.size)
    (h : ∀ v' w', COwn w' B v' (l ++ [c]) → w.grownBy w' v.ownBlock → wpList Tryz.prog ops Q rest (a.put o.dst v') w') : wpList Tryz.prog ops Q (o :: rest) a w := by
  refine wpList_plain hgd fun K hK => ?_
  obtain ⟨cs, ho1, hf⟩ := hown
  obtain ⟨v', w', hrun, h1, h2, _⟩ := run_append_own (P := Tryz.prog) w B 34 o.type 27 i0 (.agg #[.string { data := #[] }, .string { data := #[] }, .int .i64 0, .bool false, .string { data := #[] }, .slice none 0 0]) 6 88 Tryz.underlying34 hi hz0 hz1 hz2 rfl (by decide) v l.length cs ho1 ⟨N, 0, none⟩ 1 1 (clCells c so n cp) (by simp [clCells])
    (by
      intro j u hj
      rw [add_none, Nat.zero_add, cell_of_row w N j _ 27 (0, 0) hr, ← Array.getElem?_toList]
      exact hj)
    (by
      intro u hu
      simp only [clCells, List.mem_cons, List.not_mem_nil, or_false] at hu
      rcases hu with rfl | rfl | rfl | rfl | rfl | rfl <;> rfl) (by unfold maxLen; omega) (by omega) hB
  unfold Oper.wp
  simp [execOp, ho, resolve, invoke, builtin, hs, hx, hrun, Result.andThen]
  refine hK _ _ (h v' w' ⟨_, by rw [List.length_append]; exact h1, (hf.snoc hsat).sats fun _ _ _ _ hq => hq.off ho1 h2⟩ h2)
end Go.Proofs.YtlhgjicichjbgaaGreatDoor
