/- How a wheel lies in memory; the frame of a call that turns it. -/
import Derived.Test.YtmngmkbiibhmkaaVBase
import Derived.Test.YtmngmkbiibhmkaaVRing
namespace Go.Proofs.Ytmngmkbiibhmkaa
open Go.RowKit Go.Maps

def pw (b : Nat) : Value := .pointer (some ⟨b, 0, none⟩)
/-- How a time in the map reads. -/
def ru : Value → Option (DataW Unit × List MemPlace)
  | .int .u64 n => some (.lit (.int .u64 n), [])
  | _ => none
theorem ru_inv {v : Value} {n : Int} {ps : List MemPlace} (h : ru v = some (.lit (.int .u64 n), ps)) : v = .int .u64 n := by
  unfold ru at h
  split at h
  · injection h with h; injection h with h _; injection h with h; injection h with _ h; rw [h]
  · cases h
theorem law : Keyed Try.prog 22 := int_keyed Try.underlying22
theorem zeroU (w : World) : (zeroValue 22).run Try.prog w = .ok (.int .u64 0) w := by kernel_rfl
def MapAt (w : World) (mp : Nat) (L : List Tm) : Prop := w.ownsMap Try.prog 22 ru mp L.length (DT L)
theorem key_u {id : Nat} (h : id < 18446744073709551616) : keyOf Try.prog 22 (.int .u64 (id : Int)) = some (.int .u64 (id : Int)) := by
  rw [keyOf_int Try.underlying22]
  unfold mapKey
  rw [Try.underlying22]
  exact if_pos ⟨rfl, by simp [Lit.wf, IntKind.min, IntKind.max, IntKind.signed, IntKind.bits]; omega⟩
theorem MapAt.lt {w : World} {mp : Nat} {L : List Tm} (h : MapAt w mp L) : mp < w.heap.size := World.ownsMap.lt h
theorem MapAt.same {w w' : World} {mp : Nat} {L : List Tm} (h : MapAt w mp L) (hb : w'.heap[mp]? = w.heap[mp]?) : MapAt w' mp L := by
  obtain ⟨es, clock, h1, r⟩ := h
  exact ⟨es, clock, hb.trans h1, r⟩
theorem map_exact {w : World} {mp n : Nat} {L : List Tm} (h : w.ownsMap Try.prog 22 ru mp n (DT L)) : MapAt w mp L := by
  obtain ⟨es, clock, h1, F, hs, hD⟩ := h
  refine ⟨es, clock, h1, F, ?_, hD⟩
  have e := congrArg Maps.size hD
  rw [dt_size] at e
  rw [e]
  simp [Maps.size, length_sorted]
theorem MapAt.look {w : World} {mp : Nat} {L : List Tm} (h : MapAt w mp L) {id : Nat} (hl : id < 18446744073709551616) : (Instr.lookup 64 (.map (some mp)) (.int .u64 (id : Int)) false).run Try.prog w = .ok (.int .u64 (((tget id L).getD 0 : Nat) : Int)) w := by
  obtain ⟨v, ps, hrun, hv⟩ := World.ownsMap.lookup (t := 64) (e := 22) h law Try.underlying64 (zeroU w) (zd := .lit (.int .u64 0)) (zp := []) rfl (key_u hl)
  rw [dt_at] at hv
  rw [hrun, ru_inv hv]
theorem MapAt.look2 {w : World} {mp : Nat} {L : List Tm} (h : MapAt w mp L) {id : Nat} (hl : id < 18446744073709551616) : (Instr.lookup 64 (.map (some mp)) (.int .u64 (id : Int)) true).run Try.prog w = .ok (.tuple #[.int .u64 (((tget id L).getD 0 : Nat) : Int), .bool (tget id L).isSome]) w := by
  obtain ⟨v, ps, hrun, hv⟩ := World.ownsMap.look_ok (t := 64) (e := 22) h law Try.underlying64 (zeroU w) (zd := .lit (.int .u64 0)) (zp := []) rfl (key_u hl)
  rw [dt_at] at hv
  rw [hrun, ru_inv hv, dt_has]
theorem MapAt.len {w : World} {mp : Nat} {L : List Tm} (h : MapAt w mp L) (ty : TypeId) : (Builtin.len_ #[64] ty #[.map (some mp)]).run Try.prog w = .ok (.int .i64 (L.length : Int)) w := by
  have := World.ownsMap.len (t := 64) (e := 22) h Try.underlying64 ty
  rwa [dt_size] at this
section
variable {w : World} {ops : Array Oper} {rest : List Oper} {o : Oper} {a : Act} {Q : Exit → Act → World → Prop}
theorem wpList_map_put (hg : o.guard = none) (m x v : Operand) (hop : o.op = Op.mapUpdate 64 m x v) (mp : Nat) (L : List Tm) (id t : Nat)
    (hm : a.eval m = .map (some mp)) (h : MapAt w mp L) (hx : a.eval x = .int .u64 (id : Int)) (hv : a.eval v = .int .u64 (t : Int)) (hl : id < 18446744073709551616) (hd : L.length < maxLen)
    (hK : ∀ w', MapAt w' mp (tput (id, t) L) → Fr [mp] w w' → wpList Try.prog ops Q rest (a.put o.dst undef) w') : wpList Try.prog ops Q (o :: rest) a w := by
  refine wpList_mapUpdate_own w hg m x v 64 hop 22 22 law Try.underlying64 ru mp L.length (DT L) hm h hd _ _ _ hx hv (key_u hl) _ _ rfl ?_
  intro w' h1 h2
  rw [dt_put (id, t) L] at h1
  exact hK w' (map_exact h1) (Fr.grown h2 (fun j e => by cases e; simp))
theorem wpList_map_del (hg : o.guard = none) (m x : Operand) (hop : o.op = Op.call { callee := Callee.builtin Builtin.delete, args := #[m, x], argTypes := #[64, 22] }) (mp : Nat) (L : List Tm) (id : Nat)
    (hm : a.eval m = .map (some mp)) (h : MapAt w mp L) (hx : a.eval x = .int .u64 (id : Int)) (hl : id < 18446744073709551616)
    (hK : ∀ w', MapAt w' mp (tdel id L) → Fr [mp] w w' → wpList Try.prog ops Q rest (a.put o.dst (.tuple #[])) w') : wpList Try.prog ops Q (o :: rest) a w := by
  refine wpList_plain hg fun K' hK' => ?_
  obtain ⟨w', hrun, r1, r2⟩ := World.ownsMap.drop (t := 64) (e := 22) h law Try.underlying64 (key_u hl) o.type
  rw [dt_del] at r1
  unfold Oper.wp
  simp [execOp, hop, resolve, invoke, builtin, hm, hx, hrun, Result.andThen]
  exact hK' _ _ (hK w' (map_exact r1) (Fr.grown r2.grown (fun j e => by cases e; simp)))
end
/-- Where a wheel lies: its map's block, its slots. -/
structure Lay where
  mp : Nat
  vs : List Value
def Lay.blocks (Y : Lay) (wp : Nat) : List Nat := wp :: Y.mp :: Y.vs.flatMap vb
theorem Lay.mem (Y : Lay) (wp b : Nat) : b ∈ Y.blocks wp ↔ b = wp ∨ b = Y.mp ∨ ∃ (k : Nat) (v : Value), Y.vs[k]? = some v ∧ v.ownBlock = some b := by
  simp only [Lay.blocks, List.mem_cons, List.mem_flatMap, mem_vb]
  constructor
  · rintro (h | h | ⟨v, hv, h⟩)
    · exact .inl h
    · exact .inr (.inl h)
    · obtain ⟨k, hk⟩ := List.getElem?_of_mem hv
      exact .inr (.inr ⟨k, v, hk, h⟩)
  · rintro (h | h | ⟨k, v, hv, h⟩)
    · exact .inl h
    · exact .inr (.inl h)
    · exact .inr (.inr ⟨v, List.mem_of_getElem? hv, h⟩)
def wcells (now : Nat) (Y : Lay) : List Value := .int .u64 (now : Int) :: .map (some Y.mp) :: Y.vs
/-- A wheel in memory: its time, its timers by the map, its slots' ids. -/
structure Rep (w : World) (wp now : Nat) (L : List Tm) (S : List (List Nat)) (Y : Lay) : Prop where
  box : Bl w wp (wcells now Y) 70
  map : MapAt w Y.mp L
  vlen : Y.vs.length = 257
  slen : S.length = 257
  slot : ∀ (k : Nat) (v : Value) (xs : List Nat), Y.vs[k]? = some v → S[k]? = some xs → Own w 0 v xs
  mne : Y.mp ≠ wp
  vne : ∀ (k : Nat) (v : Value) (g : Nat), Y.vs[k]? = some v → v.ownBlock = some g → g ≠ wp ∧ g ≠ Y.mp
  apart : ∀ (i j : Nat) (v u : Value) (g : Nat), Y.vs[i]? = some v → Y.vs[j]? = some u → i ≠ j → v.ownBlock = some g → u.ownBlock ≠ some g
theorem Rep.get {w : World} {wp now : Nat} {L : List Tm} {S : List (List Nat)} {Y : Lay} (h : Rep w wp now L S Y) {k : Nat} (hk : k < 257) : ∃ v xs, Y.vs[k]? = some v ∧ S[k]? = some xs ∧ Own w 0 v xs ∧ w.cell? ⟨wp, 2 + k, none⟩ = some v ∧ w.frozen? ⟨wp, 2 + k, none⟩ = false := by
  obtain ⟨v, hv⟩ : ∃ v, Y.vs[k]? = some v := ⟨_, List.getElem?_eq_getElem (by rw [h.vlen]; exact hk)⟩
  obtain ⟨xs, hx⟩ : ∃ v, S[k]? = some v := ⟨_, List.getElem?_eq_getElem (by rw [h.slen]; exact hk)⟩
  refine ⟨v, xs, hv, hx, h.slot k v xs hv hx, ?_, h.box.frozen _⟩
  rw [h.box.cell, wcells, Nat.add_comm 2 k]
  exact hv
theorem Rep.lt {w : World} {wp now : Nat} {L : List Tm} {S : List (List Nat)} {Y : Lay} (h : Rep w wp now L S Y) : ∀ b ∈ Y.blocks wp, b < w.heap.size := by
  intro b hb
  rcases (Y.mem wp b).1 hb with rfl | rfl | ⟨k, v, hv, hg⟩
  · exact h.box.lt
  · exact h.map.lt
  · have hk : k < 257 := by
      rw [← h.vlen]
      exact (List.getElem?_eq_some_iff.1 hv).1
    obtain ⟨v', xs, h1, _, h3, _⟩ := h.get hk
    rw [hv] at h1
    cases h1
    exact (h3.lt b hg).2
theorem Rep.keep {w w' : World} {wp now : Nat} {L : List Tm} {S : List (List Nat)} {Y : Lay} (h : Rep w wp now L S Y) (hb : ∀ b ∈ Y.blocks wp, w'.heap[b]? = w.heap[b]?) : Rep w' wp now L S Y where
  box := (hb wp ((Y.mem wp wp).2 (.inl rfl))).trans h.box
  map := h.map.same (hb _ ((Y.mem wp _).2 (.inr (.inl rfl))))
  vlen := h.vlen
  slen := h.slen
  slot := fun k v xs h1 h2 => (h.slot k v xs h1 h2).same fun g hg => hb g ((Y.mem wp g).2 (.inr (.inr ⟨k, v, h1, hg⟩)))
  mne := h.mne
  vne := h.vne
  apart := h.apart
theorem Rep.below {w w' : World} {wp now : Nat} {L : List Tm} {S : List (List Nat)} {Y : Lay} (h : Rep w wp now L S Y) (hb : Below w.heap.size w w') : Rep w' wp now L S Y := h.keep fun b hm => hb.block b (h.lt b hm)
theorem Rep.drewN {w : World} {wp now : Nat} {L : List Tm} {S : List (List Nat)} {Y : Lay} (h : Rep w wp now L S Y) (n : Nat) : Rep (w.drewN n) wp now L S Y := h.keep fun _ _ => rfl
theorem Rep.apartFr {w w' : World} {wp now : Nat} {L : List Tm} {S : List (List Nat)} {Y : Lay} {fp : List Nat} (h : Rep w wp now L S Y) (hf : Fr fp w w') (ha : ∀ b ∈ Y.blocks wp, b ∉ fp) : Rep w' wp now L S Y := h.keep fun b hm => hf.block b (h.lt b hm) (ha b hm)
/-- What a call leaves of a wheel: its blocks turned, and new ones. -/
structure Aft (wp : Nat) (Y Y' : Lay) (w w' : World) : Prop where
  fr : Fr (Y.blocks wp) w w'
  new : ∀ b ∈ Y'.blocks wp, b ∈ Y.blocks wp ∨ w.heap.size ≤ b
theorem Aft.refl (wp : Nat) (Y : Lay) (w : World) : Aft wp Y Y w w := ⟨Fr.refl _ _, fun _ h => .inl h⟩
theorem Aft.of {wp : Nat} {Y : Lay} {w w' : World} (h : Below w.heap.size w w') : Aft wp Y Y w w' := ⟨Fr.of h, fun _ h => .inl h⟩
theorem Aft.trans {wp : Nat} {Y Y1 Y2 : Lay} {w w1 w2 : World} (h : Aft wp Y Y1 w w1) (k : Aft wp Y1 Y2 w1 w2) : Aft wp Y Y2 w w2 :=
  ⟨h.fr.trans k.fr h.new, fun b hb => by
    rcases k.new b hb with h1 | h1
    · exact h.new b h1
    · exact .inr (Nat.le_trans h.fr.size h1)⟩
/-- One slot anew: a row that was grown elsewhere or on its own block, laid into the slot. -/
theorem Rep.put {w w1 : World} {wp now : Nat} {L : List Tm} {S : List (List Nat)} {Y : Lay} (h : Rep w wp now L S Y) {k : Nat} {v v' : Value} {xs' : List Nat} (hv : Y.vs[k]? = some v) (hg : Fr (vb v) w w1) (hown : Own w1 0 v' xs') (hn : ∀ g, v'.ownBlock = some g → v.ownBlock = some g ∨ w.heap.size ≤ g) :
    Rep (w1.setCell ⟨wp, 2 + k, none⟩ v') wp now L (S.set k xs') { Y with vs := Y.vs.set k v' } ∧ Aft wp Y { Y with vs := Y.vs.set k v' } w (w1.setCell ⟨wp, 2 + k, none⟩ v') := by
  have hk : k < Y.vs.length := (List.getElem?_eq_some_iff.1 hv).1
  have hwp : wp ∉ vb v := fun e => (h.vne k v wp hv (mem_vb.1 e)).1 rfl
  have hmp : Y.mp ∉ vb v := fun e => (h.vne k v _ hv (mem_vb.1 e)).2 rfl
  have hold : ∀ g, v'.ownBlock = some g → g ≠ wp ∧ g ≠ Y.mp := fun g e => by
    rcases hn g e with h1 | h1
    · exact h.vne k v g hv h1
    · have a := h.box.lt
      have b := h.map.lt
      exact ⟨by omega, by omega⟩
  have hoth : ∀ (i : Nat) (u : Value) (g : Nat), Y.vs[i]? = some u → i ≠ k → u.ownBlock = some g → v'.ownBlock ≠ some g := fun i u g h1 h2 h3 e => by
    rcases hn g e with h4 | h4
    · exact h.apart k i v u g hv h1 (Ne.symm h2) h4 h3
    · have := h.lt g ((Y.mem wp g).2 (.inr (.inr ⟨i, u, h1, h3⟩)))
      omega
  have hset : ∀ (i : Nat) (u : Value), (Y.vs.set k v')[i]? = some u → (i = k ∧ u = v') ∨ (i ≠ k ∧ Y.vs[i]? = some u) := fun i u e => by
    rw [List.getElem?_set] at e
    by_cases hik : k = i
    · subst hik
      rw [if_pos rfl, if_pos hk] at e
      exact .inl ⟨rfl, (Option.some.inj e).symm⟩
    · rw [if_neg hik] at e
      exact .inr ⟨Ne.symm hik, e⟩
  refine ⟨⟨?_, ?_, by simp [h.vlen], by simp [h.slen], ?_, h.mne, ?_, ?_⟩, ?_, ?_⟩
  · have := (Fr.bl h.box hg hwp).set (2 + k) v'
    rw [show (wcells now Y).set (2 + k) v' = wcells now { Y with vs := Y.vs.set k v' } by rw [Nat.add_comm]; rfl] at this
    exact this
  · exact h.map.same ((heap_setCell_other w1 _ Y.mp v' h.mne).trans (hg.block _ h.map.lt hmp))
  · intro i u xs e1 e2
    rcases hset i u e1 with ⟨rfl, rfl⟩ | ⟨hik, e1⟩
    · rw [List.getElem?_set_self (by rw [h.slen, ← h.vlen]; exact hk)] at e2
      cases e2
      exact hown.same fun g e => heap_setCell_other w1 _ g u (hold g e).1
    · rw [List.getElem?_set_ne (Ne.symm hik)] at e2
      refine (h.slot i u xs e1 e2).same fun g e => (heap_setCell_other w1 _ g v' (h.vne i u g e1 e).1).trans (hg.block g ((h.slot i u xs e1 e2).lt g e).2 fun hm => ?_)
      exact h.apart i k u v g e1 hv hik e (mem_vb.1 hm)
  · intro i u g e1 e
    rcases hset i u e1 with ⟨rfl, rfl⟩ | ⟨hik, e1⟩
    · exact hold g e
    · exact h.vne i u g e1 e
  · intro i j u u' g e1 e2 hij e
    rcases hset i u e1 with ⟨d1, d2⟩ | ⟨hik, d1⟩ <;> rcases hset j u' e2 with ⟨d3, d4⟩ | ⟨hjk, d3⟩
    · exact absurd (d1.trans d3.symm) hij
    · intro e3; rw [d2] at e; exact hoth j u' g d3 hjk e3 e
    · rw [d4]; exact hoth i u g d1 hik e
    · exact h.apart i j u u' g d1 d3 hij e
  · refine (hg.mono (fq := Y.blocks wp) fun x hx => .inl ((Y.mem wp x).2 (.inr (.inr ⟨k, v, hv, mem_vb.1 hx⟩)))).trans (fq := Y.blocks wp) (Fr.setCell _ _ _ _ _ ((Y.mem wp wp).2 (.inl rfl))) fun x hx => .inl hx
  · intro b hb
    rcases (Lay.mem _ wp b).1 hb with rfl | rfl | ⟨i, u, e1, e⟩
    · exact .inl ((Y.mem b b).2 (.inl rfl))
    · exact .inl ((Y.mem wp _).2 (.inr (.inl rfl)))
    · rcases hset i u e1 with ⟨rfl, rfl⟩ | ⟨hik, e1⟩
      · rcases hn b e with h1 | h1
        · exact .inl ((Y.mem wp b).2 (.inr (.inr ⟨_, v, hv, h1⟩)))
        · exact .inr h1
      · exact .inl ((Y.mem wp b).2 (.inr (.inr ⟨i, u, e1, e⟩)))
/-- The map turned. -/
theorem Rep.map' {w w1 : World} {wp now : Nat} {L L' : List Tm} {S : List (List Nat)} {Y : Lay} (h : Rep w wp now L S Y) (hm : MapAt w1 Y.mp L') (hf : Fr [Y.mp] w w1) : Rep w1 wp now L' S Y ∧ Aft wp Y Y w w1 :=
  ⟨⟨Fr.bl h.box hf (by simpa using h.mne.symm), hm, h.vlen, h.slen, fun k v xs h1 h2 => (h.slot k v xs h1 h2).same fun g e => hf.block g ((h.slot k v xs h1 h2).lt g e).2 (by simpa using (h.vne k v g h1 e).2), h.mne, h.vne, h.apart⟩,
   hf.mono (fun x hx => .inl ((Y.mem wp x).2 (.inr (.inl (by simpa using hx))))), fun _ hb => .inl hb⟩
/-- The time turned. -/
theorem Rep.now' {w : World} {wp now now' : Nat} {L : List Tm} {S : List (List Nat)} {Y : Lay} (h : Rep w wp now L S Y) : Rep (w.setCell ⟨wp, 0, none⟩ (.int .u64 (now' : Int))) wp now' L S Y ∧ Aft wp Y Y w (w.setCell ⟨wp, 0, none⟩ (.int .u64 (now' : Int))) :=
  ⟨⟨h.box.set 0 _, h.map.same (heap_setCell_other w _ Y.mp _ h.mne), h.vlen, h.slen, fun k v xs h1 h2 => (h.slot k v xs h1 h2).same fun g e => heap_setCell_other w _ g _ (h.vne k v g h1 e).1, h.mne, h.vne, h.apart⟩,
   Fr.setCell _ _ _ _ _ ((Y.mem wp wp).2 (.inl rfl)), fun _ hb => .inl hb⟩
end Go.Proofs.Ytmngmkbiibhmkaa
