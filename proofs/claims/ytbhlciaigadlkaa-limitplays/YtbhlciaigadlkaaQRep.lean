/- How a limit lies in memory; the frame of a call that turns it. -/
import Derived.Test.YtbhlciaigadlkaaVBase
import Derived.Test.YtbhlciaigadlkaaQMath
namespace Go.Proofs.Ytbhlciaigadlkaa
open Go.RowKit Go.Maps

def str (nm : Nm) : ByteArray := ⟨nm.toArray⟩
def nmOf (s : ByteArray) : Nm := s.data.toList
theorem str_nmOf (s : ByteArray) : str (nmOf s) = s := by cases s; simp [str, nmOf]
theorem nmOf_str (nm : Nm) : nmOf (str nm) = nm := by simp [str, nmOf]
theorem str_size (nm : Nm) : (str nm).size = nm.length := by simp [str, ByteArray.size]
theorem nmOf_length (s : ByteArray) : (nmOf s).length = s.size := by simp [nmOf]
theorem str_inj {a b : Nm} (h : str a = str b) : a = b := by have := congrArg nmOf h; rwa [nmOf_str, nmOf_str] at this
theorem encStr_str (nm : Nm) : encStr nm = .string (str nm) := rfl

/-- How a pointer reads: by its block. -/
def rp : Value → Option (DataW Unit × List MemPlace)
  | .pointer none => some (.nil, [])
  | .pointer (some ⟨b, 0, none⟩) => some (.lit (.int .i64 (b : Int)), [])
  | _ => none
def pf (b : Nat) : Value := .pointer (some ⟨b, 0, none⟩)
theorem rp_pf (b : Nat) : rp (pf b) = some (.lit (.int .i64 (b : Int)), []) := rfl
theorem rp_inv {v : Value} {y : DataW Unit × List MemPlace} (h : rp v = some y) : (v = .pointer none ∧ y = (.nil, [])) ∨ ∃ b : Nat, v = pf b ∧ y = (.lit (.int .i64 (b : Int)), []) := by
  unfold rp at h
  split at h
  · left; exact ⟨rfl, by injection h with h; exact h.symm⟩
  · right; exact ⟨_, rfl, by injection h with h; exact h.symm⟩
  · cases h
theorem law : Keyed Try.prog 9 := string_keyed Try.underlying9
theorem zeroP (w : World) : (zeroValue 67).run Try.prog w = .ok (.pointer none) w := by kernel_rfl
/-- A map that holds the windows' blocks. -/
def TabAt (w : World) (mp : Nat) (bl : Nm → Nat) (d : Tab) : Prop := w.ownsMap Try.prog 9 rp mp d.length (DL bl d)
def ptrOf (bl : Nm → Nat) (nm : Nm) (o : Option (Nat × Nat)) : Value := if o.isSome then pf (bl nm) else .pointer none
theorem key_str {nm : Nm} (h : nm.length ≤ maxLen) : keyOf Try.prog 9 (.string (str nm)) = some (.string nm) := by
  have := WideMaps.keyOf_string_mk Try.underlying9 (s := str nm) (by rw [str_size]; exact h)
  rw [this]; rfl
theorem key_inv {key : Value} {kl : Lit} (h : keyOf Try.prog 9 key = some kl) : ∃ nm : Nm, key = .string (str nm) ∧ kl = .string nm := by
  have hu := Try.underlying9
  cases key <;> simp [keyOf, hu, mapKey] at h
  rename_i s
  obtain ⟨_, rfl⟩ := h
  exact ⟨nmOf s, by rw [str_nmOf], rfl⟩
theorem TabAt.lt {w : World} {mp : Nat} {bl : Nm → Nat} {d : Tab} (h : TabAt w mp bl d) : mp < w.heap.size := World.ownsMap.lt h
theorem TabAt.same {w w' : World} {mp : Nat} {bl : Nm → Nat} {d : Tab} (h : TabAt w mp bl d) (hb : w'.heap[mp]? = w.heap[mp]?) : TabAt w' mp bl d := by
  obtain ⟨es, clock, h1, r⟩ := h
  exact ⟨es, clock, hb.trans h1, r⟩
theorem own_exact {w : World} {mp n : Nat} {bl : Nm → Nat} {d : Tab} (h : w.ownsMap Try.prog 9 rp mp n (DL bl d)) : TabAt w mp bl d := by
  obtain ⟨es, clock, h1, F, hs, hD⟩ := h
  refine ⟨es, clock, h1, F, ?_, hD⟩
  have e := congrArg Maps.size hD
  rw [dl_size] at e
  rw [e]
  simp [Maps.size, length_sorted]
theorem TabAt.look {w : World} {mp : Nat} {bl : Nm → Nat} {d : Tab} (h : TabAt w mp bl d) {nm : Nm} (hl : nm.length ≤ maxLen) : (Instr.lookup 52 (.map (some mp)) (.string (str nm)) false).run Try.prog w = .ok (ptrOf bl nm (tget nm d)) w := by
  obtain ⟨v, ps, hrun, hv⟩ := World.ownsMap.lookup (t := 52) (e := 67) h law Try.underlying52 (zeroP w) (zd := .nil) (zp := []) rfl (key_str hl)
  rw [dl_at] at hv
  suffices e : v = ptrOf bl nm (tget nm d) by rw [hrun, e]
  clear hrun
  unfold ptrOf
  rcases rp_inv hv with ⟨rfl, e⟩ | ⟨b, rfl, e⟩
  · split at e
    · simp at e
    · rename_i h; rw [if_neg h]
  · split at e
    · rename_i h; rw [if_pos h]; simp at e; rw [show b = bl nm by omega]
    · simp at e
theorem TabAt.look2 {w : World} {mp : Nat} {bl : Nm → Nat} {d : Tab} (h : TabAt w mp bl d) {nm : Nm} (hl : nm.length ≤ maxLen) : (Instr.lookup 52 (.map (some mp)) (.string (str nm)) true).run Try.prog w = .ok (.tuple #[ptrOf bl nm (tget nm d), .bool (tget nm d).isSome]) w := by
  obtain ⟨v, ps, hrun, hv⟩ := World.ownsMap.look_ok (t := 52) (e := 67) h law Try.underlying52 (zeroP w) (zd := .nil) (zp := []) rfl (key_str hl)
  rw [dl_at] at hv
  suffices e : v = ptrOf bl nm (tget nm d) by rw [hrun, e, dl_has]
  clear hrun
  unfold ptrOf
  rcases rp_inv hv with ⟨rfl, e⟩ | ⟨b, rfl, e⟩
  · split at e
    · simp at e
    · rename_i h; rw [if_neg h]
  · split at e
    · rename_i h; rw [if_pos h]; simp at e; rw [show b = bl nm by omega]
    · simp at e
theorem TabAt.len {w : World} {mp : Nat} {bl : Nm → Nat} {d : Tab} (h : TabAt w mp bl d) (ty : TypeId) : (Builtin.len_ #[52] ty #[.map (some mp)]).run Try.prog w = .ok (.int .i64 (d.length : Int)) w := by
  have := World.ownsMap.len (t := 52) (e := 67) h Try.underlying52 ty
  rwa [dl_size] at this
section
variable {w : World} {ops : Array Oper} {rest : List Oper} {o : Oper} {a : Act} {Q : Exit → Act → World → Prop}
theorem wpList_tab_put (hg : o.guard = none) (m x v : Operand) (hop : o.op = Op.mapUpdate 52 m x v) (mp : Nat) (bl : Nm → Nat) (d : Tab) (nm : Nm) (c : Nat × Nat) (b : Nat)
    (hm : a.eval m = .map (some mp)) (h : TabAt w mp bl d) (hx : a.eval x = .string (str nm)) (hv : a.eval v = pf b) (hb : bl nm = b) (hn : tget nm d = none) (hl : nm.length ≤ maxLen) (hd : d.length < maxLen)
    (hK : ∀ w', TabAt w' mp bl (tins (nm, c) d) → Fr [mp] w w' → wpList Try.prog ops Q rest (a.put o.dst undef) w') : wpList Try.prog ops Q (o :: rest) a w := by
  refine wpList_mapUpdate_own w hg m x v 52 hop 9 67 law Try.underlying52 rp mp d.length (DL bl d) hm h hd _ _ _ hx hv (key_str hl) _ _ (rp_pf b) ?_
  intro w' h1 h2
  rw [dl_put bl nm b c d hb hn] at h1
  exact hK w' (own_exact h1) (Fr.grown h2 (fun j e => by cases e; simp))
theorem wpList_tab_del (hg : o.guard = none) (m x : Operand) (hop : o.op = Op.call { callee := Callee.builtin Builtin.delete, args := #[m, x], argTypes := #[52, 9] }) (mp : Nat) (bl : Nm → Nat) (d : Tab) (nm : Nm)
    (hm : a.eval m = .map (some mp)) (h : TabAt w mp bl d) (hx : a.eval x = .string (str nm)) (hl : nm.length ≤ maxLen)
    (hK : ∀ w', TabAt w' mp bl (tdel nm d) → Fr [mp] w w' → wpList Try.prog ops Q rest (a.put o.dst (.tuple #[])) w') : wpList Try.prog ops Q (o :: rest) a w := by
  refine wpList_plain hg fun K' hK' => ?_
  obtain ⟨w', hrun, r1, r2⟩ := World.ownsMap.drop (t := 52) (e := 67) h law Try.underlying52 (key_str hl) o.type
  rw [dl_del] at r1
  unfold Oper.wp
  simp [execOp, hop, resolve, invoke, builtin, hm, hx, hrun, Result.andThen]
  exact hK' _ _ (hK w' (own_exact r1) (Fr.grown r2.grown (fun j e => by cases e; simp)))
end
def lcells (S : LS) (mp : Nat) : List Value := [.int .i64 (S.tries : Int), .int .u64 (S.win : Int), .int .i64 (S.subs : Int), .int .u64 (S.clock : Int), .map (some mp)]
def acells (v : Nat × Nat) : List Value := [.int .u64 (v.1 : Int), .int .i64 (v.2 : Int)]
/-- Where a limit lies: its map's block, the blocks of the windows. -/
structure Lay where
  mp : Nat
  bl : Nm → Nat
def Lay.blocks (Y : Lay) (lp : Nat) (d : Tab) : List Nat := lp :: Y.mp :: d.map fun p => Y.bl p.1
theorem Lay.mem (Y : Lay) (lp : Nat) (d : Tab) (b : Nat) : b ∈ Y.blocks lp d ↔ b = lp ∨ b = Y.mp ∨ ∃ p ∈ d, Y.bl p.1 = b := by simp [Lay.blocks]
/-- A limit in memory. -/
structure Rep (w : World) (lp : Nat) (S : LS) (Y : Lay) : Prop where
  box : Bl w lp (lcells S Y.mp) 54
  map : TabAt w Y.mp Y.bl S.tab
  att : ∀ p ∈ S.tab, Bl w (Y.bl p.1) (acells p.2) 66
  mne : Y.mp ≠ lp
  vne : ∀ p ∈ S.tab, Y.bl p.1 ≠ lp ∧ Y.bl p.1 ≠ Y.mp
  inj : ∀ p ∈ S.tab, ∀ q ∈ S.tab, Y.bl p.1 = Y.bl q.1 → p.1 = q.1
  ok : Ok S
theorem Rep.lt {w : World} {lp : Nat} {S : LS} {Y : Lay} (h : Rep w lp S Y) : ∀ b ∈ Y.blocks lp S.tab, b < w.heap.size := by
  intro b hb
  rcases (Y.mem lp _ b).1 hb with rfl | rfl | ⟨p, hp, rfl⟩
  · exact h.box.lt
  · exact h.map.lt
  · exact (h.att p hp).lt
theorem Rep.keep {w w' : World} {lp : Nat} {S : LS} {Y : Lay} (h : Rep w lp S Y) (hb : ∀ b ∈ Y.blocks lp S.tab, w'.heap[b]? = w.heap[b]?) : Rep w' lp S Y where
  box := (hb lp ((Y.mem lp _ lp).2 (.inl rfl))).trans h.box
  map := h.map.same (hb _ ((Y.mem lp _ _).2 (.inr (.inl rfl))))
  att := fun p hp => (hb _ ((Y.mem lp _ _).2 (.inr (.inr ⟨p, hp, rfl⟩)))).trans (h.att p hp)
  mne := h.mne
  vne := h.vne
  inj := h.inj
  ok := h.ok
theorem Rep.below {w w' : World} {lp : Nat} {S : LS} {Y : Lay} (h : Rep w lp S Y) (hb : Below w.heap.size w w') : Rep w' lp S Y := h.keep fun b hm => hb.block b (h.lt b hm)
theorem Rep.drewN {w : World} {lp : Nat} {S : LS} {Y : Lay} (h : Rep w lp S Y) (n : Nat) : Rep (w.drewN n) lp S Y := h.keep fun _ _ => rfl
theorem Rep.apart {w w' : World} {lp : Nat} {S : LS} {Y : Lay} {fp : List Nat} (h : Rep w lp S Y) (hf : Fr fp w w') (ha : ∀ b ∈ Y.blocks lp S.tab, b ∉ fp) : Rep w' lp S Y := h.keep fun b hm => hf.block b (h.lt b hm) (ha b hm)
/-- What a call leaves of a limit: its blocks turned, and new ones. -/
structure Aft (lp : Nat) (S S' : LS) (Y Y' : Lay) (w w' : World) : Prop where
  fr : Fr (Y.blocks lp S.tab) w w'
  new : ∀ b ∈ Y'.blocks lp S'.tab, b ∈ Y.blocks lp S.tab ∨ w.heap.size ≤ b
theorem Aft.refl (lp : Nat) (S : LS) (Y : Lay) (w : World) : Aft lp S S Y Y w w := ⟨Fr.refl _ _, fun _ h => .inl h⟩
theorem Aft.of {lp : Nat} {S : LS} {Y : Lay} {w w' : World} (h : Below w.heap.size w w') : Aft lp S S Y Y w w' := ⟨Fr.of h, fun _ h => .inl h⟩
theorem Aft.trans {lp : Nat} {S S1 S2 : LS} {Y Y1 Y2 : Lay} {w w1 w2 : World} (h : Aft lp S S1 Y Y1 w w1) (k : Aft lp S1 S2 Y1 Y2 w1 w2) : Aft lp S S2 Y Y2 w w2 :=
  ⟨h.fr.trans k.fr h.new, fun b hb => by
    rcases k.new b hb with h1 | h1
    · exact h.new b h1
    · exact .inr (Nat.le_trans h.fr.size h1)⟩
theorem Rep.c0 {w : World} {lp : Nat} {S : LS} {Y : Lay} (h : Rep w lp S Y) : w.cell? ⟨lp, 0, none⟩ = some (.int .i64 (S.tries : Int)) := h.box.cell 0
theorem Rep.c1 {w : World} {lp : Nat} {S : LS} {Y : Lay} (h : Rep w lp S Y) : w.cell? ⟨lp, 1, none⟩ = some (.int .u64 (S.win : Int)) := h.box.cell 1
theorem Rep.c2 {w : World} {lp : Nat} {S : LS} {Y : Lay} (h : Rep w lp S Y) : w.cell? ⟨lp, 2, none⟩ = some (.int .i64 (S.subs : Int)) := h.box.cell 2
theorem Rep.c3 {w : World} {lp : Nat} {S : LS} {Y : Lay} (h : Rep w lp S Y) : w.cell? ⟨lp, 3, none⟩ = some (.int .u64 (S.clock : Int)) := h.box.cell 3
theorem Rep.c4 {w : World} {lp : Nat} {S : LS} {Y : Lay} (h : Rep w lp S Y) : w.cell? ⟨lp, 4, none⟩ = some (.map (some Y.mp)) := h.box.cell 4
end Go.Proofs.Ytbhlciaigadlkaa
