/- A source of bytes in memory; the contracts of Left, Byte, Feed, NewSource. -/
import Derived.Test.YtonnnolnkjahgabDoorCLef
import Derived.Test.YtonnnolnkjahgabDoorSteps2
namespace Go.Proofs.YtonnnolnkjahgabDoor
open Go.RowKit

/-- A source in memory: a block of its own that holds the bytes that are left; the blocks that it writes. -/
structure Src (T : TypeId) (w : World) (sp : Nat) (xs : List Nat) (bs : List Nat) : Prop where
  ex : ∃ v, Bl w sp [v] T ∧ Lef w v xs ∧ v.ownBlock ≠ some sp ∧ bs = sp :: v.ownBlock.toList
  byte : ∀ x ∈ xs, x < 256
  lts : ∀ b ∈ bs, b < w.heap.size
/-- What a call on it leaves: nothing old has turned but its blocks, and what it has now it had, or it is new. -/
structure Aft (bs bs' : List Nat) (w w' : World) : Prop where
  fr : Fr bs w w'
  new : ∀ b ∈ bs', b ∈ bs ∨ w.heap.size ≤ b
theorem Aft.refl (bs : List Nat) (w : World) : Aft bs bs w w := ⟨Fr.refl _ _, fun _ h => .inl h⟩
theorem Aft.trans {bs cs ds : List Nat} {a b c : World} (h : Aft bs cs a b) (k : Aft cs ds b c) : Aft bs ds a c :=
  ⟨h.fr.trans k.fr h.new, fun x hx => (k.new x hx).elim (h.new x) fun e => .inr (Nat.le_trans h.fr.size e)⟩
theorem Aft.undrew {bs cs : List Nat} {w w' : World} (h : Aft bs cs w.drew w') : Aft bs cs w w' := ⟨h.fr.undrew, h.new⟩
theorem Src.apart {T : TypeId} {fp : List Nat} {w w' : World} {sp : Nat} {xs bs : List Nat} (h : Src T w sp xs bs) (hf : Fr fp w w') (hn : ∀ b ∈ bs, b ∉ fp) : Src T w' sp xs bs := by
  obtain ⟨v, hb, hl, hne, rfl⟩ := h.ex
  exact ⟨⟨v, Fr.bl hb hf (hn _ (by simp)), hl.apart hf (fun g hg => hn g (by simp [hg])), hne, rfl⟩, h.byte, fun b hb => Nat.lt_of_lt_of_le (h.lts b hb) hf.size⟩
theorem Src.keep {T : TypeId} {w w' : World} {sp : Nat} {xs bs : List Nat} (h : Src T w sp xs bs) (hb : Below w.heap.size w w') : Src T w' sp xs bs := h.apart (fp := []) (Fr.of hb) (fun _ _ e => by cases e)
theorem Src.drew {T : TypeId} {w : World} {sp : Nat} {xs bs : List Nat} (h : Src T w sp xs bs) : Src T w.drew sp xs bs := by
  obtain ⟨v, hb, hl, e⟩ := h.ex
  exact ⟨⟨v, hb, hl, e⟩, h.byte, h.lts⟩
theorem Src.lt {T : TypeId} {w : World} {sp : Nat} {xs bs : List Nat} (h : Src T w sp xs bs) : sp < w.heap.size := by
  obtain ⟨v, hb, _⟩ := h.ex
  exact hb.lt
theorem Src.head {T : TypeId} {w : World} {sp : Nat} {xs bs : List Nat} (h : Src T w sp xs bs) : sp ∈ bs := by
  obtain ⟨v, _, _, _, rfl⟩ := h.ex
  simp
def pf (b : Nat) : Value := .pointer (some ⟨b, 0, none⟩)
theorem cut_from (g off n cap m c lo : Nat) (i : Int) (hi : i = (lo : Int)) (hlo : lo ≤ n) (hm : m = n - lo) (hc : c = cap - lo) :
    ∃ o', (∀ w, (Instr.slice 22 (.slice (some ⟨g, off, none⟩) n cap) (some (.int .i64 i)) none none).run Tryd.prog w = .ok (.slice (some ⟨g, o', none⟩) m c) w) ∧ (lo < cap → o' = off + lo) := by
  subst hi; subst hm; subst hc
  refine ⟨if cap = lo then off else off + lo, fun w => ?_, fun h => by rw [if_neg (by omega)]⟩
  rw [run_slice_l w 22 (some ⟨g, off, none⟩) n cap underBytes .i64 (lo : Int) (by omega) (by omega), sizeRun]
  by_cases h : cap = lo <;> simp [Result.andThen, sliced, add_none, h]
theorem cut_to (ao : Option Addr) (n cap m : Nat) (hm : m ≤ cap) : ∀ w, (Instr.slice 22 (.slice ao n cap) none (some (.int .i64 (m : Int))) none).run Tryd.prog w = .ok (.slice ao m cap) w := fun w => by
  rw [run_slice_h w 22 ao n cap underBytes .i64 (m : Int) (by omega) (by omega), sizeRun]
  cases ao <;> simp [Result.andThen, sliced, Addr.add]
theorem left_any (sp : Nat) (xs bs : List Nat) (w : World) (h : Src 49 w sp xs bs) : Calls Tryd.prog 11 #[pf sp] w fun e w' => e = .returned (.int .i64 (xs.length : Int)) ∧ w' = w := by
  obtain ⟨v, hb, hl, -, -⟩ := h.ex
  obtain ⟨ao, cap, rfl, hle, hr⟩ := hl.read
  have c0 : w.cell? ⟨sp, 0, none⟩ = some (.slice ao xs.length cap) := hb.cell 0
  clear h hb hl hr hle
  generalize xs.length = n at *
  unfold pf
  go_enter Tryd.func11, Tryd.ntmps11
  go_wp2
  go_ret
  exact ⟨rfl, rfl⟩
theorem leftNil_any (w : World) : Calls Tryd.prog 11 #[.pointer none] w fun e w' => e = .returned (.int .i64 0) ∧ w' = w := by
  go_enter Tryd.func11, Tryd.ntmps11
  go_wp2
  go_ret
  exact ⟨rfl, rfl⟩
theorem byteNil_any (w : World) : Calls Tryd.prog 16 #[.pointer none] w fun e w' => e = .returned (.tuple #[.int .u8 0, .int .i64 90]) ∧ w' = w := by
  go_enter Tryd.func16, Tryd.ntmps16
  go_wp2_with (go_at_call 11; refine (leftNil_any _).mono ?_; rintro e wx ⟨rfl, hwx⟩; have hwy := hwx.symm; subst hwy; clear hwx)
  go_ret2
  exact ⟨rfl, rfl⟩
theorem feedNil_any (v : Value) (w : World) : Calls Tryd.prog 8 #[.pointer none, v] w fun e w' => e = .returned (.tuple #[]) ∧ w' = w := by
  go_enter Tryd.func8, Tryd.ntmps8
  go_wp2
  exact bodyPost_ret (results_none rfl _ _ _) rfl ⟨rfl, rfl⟩
theorem byteDry_any (sp : Nat) (bs : List Nat) (w : World) (h : Src 49 w sp [] bs) : Calls Tryd.prog 16 #[pf sp] w fun e w' => e = .returned (.tuple #[.int .u8 0, .int .i64 90]) ∧ w' = w := by
  have HL := hide (left_any sp [] bs w h)
  clear h
  unfold pf at *
  go_enter Tryd.func16, Tryd.ntmps16
  go_wp2_with (go_at_call 11; refine HL.out.mono ?_; rintro e wx ⟨rfl, hwx⟩; have hwy := hwx.symm; subst hwy; clear hwx)
  go_ret2
  exact ⟨rfl, rfl⟩
set_option maxRecDepth 100000 in
theorem byte_any (sp x : Nat) (xs bs : List Nat) (w : World) (h : Src 49 w sp (x :: xs) bs) : Calls Tryd.prog 16 #[pf sp] w fun e w' => e = .returned (.tuple #[.int .u8 (x : Int), .int .i64 0]) ∧ Src 49 w' sp xs bs ∧ Aft bs bs w w' := by
  have HL := hide (left_any sp (x :: xs) bs w h)
  obtain ⟨v, hb, hl, hne, hbs⟩ := h.ex
  have HNE := hide hne
  have hby := h.byte
  obtain ⟨g, off, cap, rfl, hle, hm, hcell, hcut⟩ := hl.one
  obtain ⟨o', hsl, ho'⟩ := cut_from g off (xs.length + 1) cap xs.length (cap - 1) 1 1 rfl (by omega) rfl rfl
  have HLE := hcut (some ⟨g, o', none⟩) (cap - 1) (fun h0 => by rw [ho' (by omega)]) (by omega)
  have c0 : w.cell? ⟨sp, 0, none⟩ = some (.slice (some ⟨g, off, none⟩) (xs.length + 1) cap) := hb.cell 0
  have cf := hb.frozen 0
  have HS := hide (hb.set 0 (.slice (some ⟨g, o', none⟩) xs.length (cap - 1)))
  have HE := hide (HLE.set hb (by decide) 0 (.slice (some ⟨g, o', none⟩) xs.length (cap - 1)))
  have HBY := hide hby
  have HLT := hide h.lts
  have HBS := hide hbs
  rw [List.length_cons] at HL
  have hn0 : (((xs.length + 1 : Nat) : Int) == 0) = false := by simp; omega
  have hn1 : (0 : Int) < ((xs.length + 1 : Nat) : Int) := by omega
  clear h hb hl hne hby hbs hcut hle hm HLE ho'
  generalize xs.length + 1 = n at *
  generalize hm : xs.length = m at *
  clear hm
  generalize hc1 : cap - 1 = c1 at *
  clear hc1
  unfold pf at *
  go_enter Tryd.func16, Tryd.ntmps16
  go_wp2_with (go_at_call 11; refine HL.out.mono ?_; rintro e wx ⟨rfl, hwx⟩; have hwy := hwx.symm; subst hwy; clear hwx)
  go_ret2
  refine ⟨rfl, ⟨⟨_, HS.out, HE.out, HNE.out, HBS.out⟩, fun y hy => HBY.out y (by simp [hy]), fun b hb => by have := HLT.out b hb; simpa [World.setCell] using this⟩, ⟨Fr.setCell _ _ _ _ _ (by rw [HBS.out]; simp), fun b hb => .inl hb⟩⟩
/-- append to bytes that one owns, as a step of a region that draws. -/
theorem law_append_lef {w : World} {ops : Array Oper} {o : Oper} {a : Act} {K : Act → World → Prop} {Q : Exit → Act → World → Prop} {E : Prop} (hgd : o.guard = none) (s x : Operand)
    (ho : o.op = .call { callee := .builtin .append, args := #[s, x], argTypes := #[22, 22] }) (v : Value) (xs : List Nat) (hs : a.eval s = v) (hown : Lef w v xs)
    (ao : Option Addr) (n c : Nat) (ys : List Nat) (hn : n = ys.length) (hx : a.eval x = .slice ao n c) (hy : Row w ao ys) (hsz : xs.length + ys.length ≤ 140737488355328)
    (h : ∀ v' w', Lef w' v' (xs ++ ys) → w.grownBy w' v.ownBlock → (v'.ownBlock = v.ownBlock ∨ (v'.ownBlock = some w.heap.size ∧ w.heap.size < w'.heap.size)) → K (a.put o.dst v') w') : if Region.wanted o (yielded ops a.tmps) = true then Oper.wp Tryd.prog o a w K Q else E := by
  rw [if_pos (by simp [Region.wanted, hgd])]
  obtain ⟨v', w', hrun, h1, h2, h3⟩ := run_append_lef hown ao c hy hsz o.type
  subst hn
  unfold Oper.wp
  simp [execOp, ho, resolve, invoke, builtin, hs, hx, hrun, Result.andThen]
  exact h v' w' h1 h2 h3
theorem grown_undrew {w w' : World} {row : Option Nat} (h : w.drew.grownBy w' row) : w.grownBy w' row := ⟨h.os, h.tape, h.output, h.size, h.block⟩
theorem Bl.grown {w w' : World} {g : Nat} {cs : List Value} {t : TypeId} {row : Option Nat} (h : Bl w g cs t) (hg : w.grownBy w' row) (hn : row ≠ some g) : Bl w' g cs t := (hg.block g h.lt (fun e => hn e.symm)).trans h
end Go.Proofs.YtonnnolnkjahgabDoor
