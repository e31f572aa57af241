/- The program's table of fields: what it is in memory, and what a name finds there. -/
import Derived.Test.YtlhgjicichjbgaaGreatDoorBaseS
import Derived.Test.YtlhgjicichjbgaaGreatDoorScopeMath
import Derived.Maps.OwnSet
import Derived.Deep.WholeRow
namespace Go.Proofs.YtlhgjicichjbgaaGreatDoor
open Go.RowKit

theorem und_map : Tryz.prog.underlying 73 = some (.map 9 113) := by kernel_rfl
theorem und_str : Tryz.prog.underlying 9 = some .string := by kernel_rfl
theorem key_check (w : World) (c : Bool) (k : ByteArray) (hk : k.size ≤ maxLen) : (Instr.checkKey c 10000 9 (.string k)).run Tryz.prog w = .ok () w := (Maps.string_keyed und_str).check w c (WideMaps.keyOf_string_mk und_str hk)
theorem key_find (w : World) (k : ByteArray) (es : List MapEntry) {r : Option (Nat × Value)} (hf : Instr.findNow .string (.string k) es 0 = some r) : (Instr.findKey 9 (.string k) es).run Tryz.prog w = .ok r w := by
  simp [Instr.findKey, run_underlying und_str, Result.andThen, hf]
theorem insert_new (w : World) (es : Array MapEntry) (clock : Nat) (k : ByteArray) (v : Value) (hk : k.size ≤ maxLen) (hf : Instr.findNow .string (.string k) es.toList 0 = some none) :
    (Instr.mapUpdate 73 (.map (some w.heap.size)) (.string k) v).run Tryz.prog (w.alloc (.map es clock)) = .ok () (w.alloc (.map (es.push { key := .string k, val := v, born := clock }) (clock + 1))) := by
  have hb : (w.alloc (.map es clock)).heap[w.heap.size]? = some (.map es clock) := (MapKept.heap_alloc w _).1
  simp [Instr.mapUpdate, run_underlying und_map, MapKept.run_getObj_map hb, key_check _ _ _ hk, key_find _ _ _ hf, MapKept.run_setObj_map _ hb, Result.andThen]
  unfold World.alloc
  simp only [World.mk.injEq, and_true]
  apply Array.ext_getElem?
  intro i
  rw [Array.getElem?_setIfInBounds, Array.getElem?_push, Array.getElem?_push]
  by_cases h : i = w.heap.size
  · subst h; simp
  · rw [if_neg (fun e => h e.symm), if_neg h, if_neg h]
theorem look_in (w : World) (g : Nat) (es : Array MapEntry) (clock : Nat) (k : ByteArray) (i : Nat) (v : Value) (hk : k.size ≤ maxLen) (hb : w.heap[g]? = some (.map es clock)) (hf : Instr.findNow .string (.string k) es.toList 0 = some (some (i, v))) :
    (Instr.lookup 73 (.map (some g)) (.string k) true).run Tryz.prog w = .ok (.tuple #[v, .bool true]) w := by
  simp [Instr.lookup, run_underlying und_map, MapKept.run_getObj_map hb, key_check _ _ _ hk, key_find _ _ _ hf, Result.andThen]
theorem zero_field (w : World) : (zeroValue 113).run Tryz.prog w = .ok (.agg #[.nilFunc, .nilFunc]) w := (zero_of_info (n := 2) (by kernel_rfl)).1 w
theorem look_out (w : World) (g : Nat) (es : Array MapEntry) (clock : Nat) (k : ByteArray) (hk : k.size ≤ maxLen) (hb : w.heap[g]? = some (.map es clock)) (hf : Instr.findNow .string (.string k) es.toList 0 = some none) :
    (Instr.lookup 73 (.map (some g)) (.string k) true).run Tryz.prog w = .ok (.tuple #[.agg #[.nilFunc, .nilFunc], .bool false]) w := by
  simp [Instr.lookup, run_underlying und_map, MapKept.run_getObj_map hb, key_check _ _ _ hk, key_find _ _ _ hf, Result.andThen]


def sId : ByteArray := ⟨#[105, 100]⟩
def sSecret : ByteArray := ⟨#[115, 101, 99, 114, 101, 116]⟩
def sGrants : ByteArray := ⟨#[103, 114, 97, 110, 116, 115]⟩
def sPing : ByteArray := ⟨#[112, 105, 110, 103]⟩
def sUrl : ByteArray := ⟨#[117, 114, 108]⟩
def sScope : ByteArray := ⟨#[115, 99, 111, 112, 101]⟩
def twoF (a b : Nat) : Value := .agg #[.func (.func a) #[] #[], .func (.func b) #[] #[]]
def knownEs : Array MapEntry := #[⟨.string sId, twoF 69 70, 0⟩, ⟨.string sSecret, twoF 71 72, 1⟩, ⟨.string sGrants, twoF 73 74, 2⟩, ⟨.string sPing, twoF 75 76, 3⟩, ⟨.string sUrl, twoF 77 78, 4⟩, ⟨.string sScope, twoF 79 80, 5⟩]
/-- The table of fields lies in block g. -/
def Known (w : World) (g : Nat) : Prop := w.heap[g]? = some (.map knownEs 6)
theorem Known.keep {w w' : World} {g B : Nat} (h : Known w g) (hb : Below B w w') (hg : g < B) : Known w' g := (hb.block g hg).trans h
theorem Known.lt {w : World} {g : Nat} (h : Known w g) : g < w.heap.size := (Array.getElem?_eq_some_iff.1 h).1
set_option maxHeartbeats 400000 in
set_option maxRecDepth 100000 in
theorem fields_any (w : World) :
    Calls Tryz.prog 39 #[] w fun e w' => e = .returned (.map (some w.heap.size)) ∧ w' = w.alloc (.map knownEs 6) := by
  have hmm := @run_makeMap Tryz.prog
  obtain ⟨es1, E1⟩ : ∃ es : Array MapEntry, Hid (es = #[⟨.string sId, twoF 69 70, 0⟩]) := ⟨_, hide rfl⟩
  have h0 : (Instr.mapUpdate 73 (.map (some w.heap.size)) (.string { data := #[105, 100] }) (.agg #[.func (.func 69) #[] #[], .func (.func 70) #[] #[]])).run Tryz.prog (w.alloc (.map #[] 0)) = .ok () (w.alloc (.map es1 1)) := by
    rw [E1.out]; exact insert_new w _ 0 sId _ (by decide) (by rfl)
  obtain ⟨es2, E2⟩ : ∃ es : Array MapEntry, Hid (es = #[⟨.string sId, twoF 69 70, 0⟩, ⟨.string sSecret, twoF 71 72, 1⟩]) := ⟨_, hide rfl⟩
  have h1 : (Instr.mapUpdate 73 (.map (some w.heap.size)) (.string { data := #[115, 101, 99, 114, 101, 116] }) (.agg #[.func (.func 71) #[] #[], .func (.func 72) #[] #[]])).run Tryz.prog (w.alloc (.map es1 1)) = .ok () (w.alloc (.map es2 2)) := by
    rw [E2.out, E1.out]; exact insert_new w _ 1 sSecret _ (by decide) (by rfl)
  obtain ⟨es3, E3⟩ : ∃ es : Array MapEntry, Hid (es = #[⟨.string sId, twoF 69 70, 0⟩, ⟨.string sSecret, twoF 71 72, 1⟩, ⟨.string sGrants, twoF 73 74, 2⟩]) := ⟨_, hide rfl⟩
  have h2 : (Instr.mapUpdate 73 (.map (some w.heap.size)) (.string { data := #[103, 114, 97, 110, 116, 115] }) (.agg #[.func (.func 73) #[] #[], .func (.func 74) #[] #[]])).run Tryz.prog (w.alloc (.map es2 2)) = .ok () (w.alloc (.map es3 3)) := by
    rw [E3.out, E2.out]; exact insert_new w _ 2 sGrants _ (by decide) (by rfl)
  obtain ⟨es4, E4⟩ : ∃ es : Array MapEntry, Hid (es = #[⟨.string sId, twoF 69 70, 0⟩, ⟨.string sSecret, twoF 71 72, 1⟩, ⟨.string sGrants, twoF 73 74, 2⟩, ⟨.string sPing, twoF 75 76, 3⟩]) := ⟨_, hide rfl⟩
  have h3 : (Instr.mapUpdate 73 (.map (some w.heap.size)) (.string { data := #[112, 105, 110, 103] }) (.agg #[.func (.func 75) #[] #[], .func (.func 76) #[] #[]])).run Tryz.prog (w.alloc (.map es3 3)) = .ok () (w.alloc (.map es4 4)) := by
    rw [E4.out, E3.out]; exact insert_new w _ 3 sPing _ (by decide) (by rfl)
  obtain ⟨es5, E5⟩ : ∃ es : Array MapEntry, Hid (es = #[⟨.string sId, twoF 69 70, 0⟩, ⟨.string sSecret, twoF 71 72, 1⟩, ⟨.string sGrants, twoF 73 74, 2⟩, ⟨.string sPing, twoF 75 76, 3⟩, ⟨.string sUrl, twoF 77 78, 4⟩]) := ⟨_, hide rfl⟩
  have h4 : (Instr.mapUpdate 73 (.map (some w.heap.size)) (.string { data := #[117, 114, 108] }) (.agg #[.func (.func 77) #[] #[], .func (.func 78) #[] #[]])).run Tryz.prog (w.alloc (.map es4 4)) = .ok () (w.alloc (.map es5 5)) := by
    rw [E5.out, E4.out]; exact insert_new w _ 4 sUrl _ (by decide) (by rfl)
  obtain ⟨es6, E6⟩ : ∃ es : Array MapEntry, Hid (es = #[⟨.string sId, twoF 69 70, 0⟩, ⟨.string sSecret, twoF 71 72, 1⟩, ⟨.string sGrants, twoF 73 74, 2⟩, ⟨.string sPing, twoF 75 76, 3⟩, ⟨.string sUrl, twoF 77 78, 4⟩, ⟨.string sScope, twoF 79 80, 5⟩]) := ⟨_, hide rfl⟩
  have h5 : (Instr.mapUpdate 73 (.map (some w.heap.size)) (.string { data := #[115, 99, 111, 112, 101] }) (.agg #[.func (.func 79) #[] #[], .func (.func 80) #[] #[]])).run Tryz.prog (w.alloc (.map es5 5)) = .ok () (w.alloc (.map es6 6)) := by
    rw [E6.out, E5.out]; exact insert_new w _ 5 sScope _ (by decide) (by rfl)
  have HE : Hid (es6 = knownEs) := E6
  clear E1 E2 E3 E4 E5 E6
  go_enter Tryz.func39, Tryz.ntmps39
  go_wp2
  go_ret
  exact ⟨rfl, by rw [HE.out]⟩
theorem out_none (k : ByteArray) (h0 : k ≠ sId) (h1 : k ≠ sSecret) (h2 : k ≠ sGrants) (h3 : k ≠ sPing) (h4 : k ≠ sUrl) (h5 : k ≠ sScope) : Instr.findNow .string (.string k) knownEs.toList 0 = some none := by
  have e : ∀ b : ByteArray, k ≠ b → (k == b) = false := fun b h => by
    show (k.data == b.data) = false
    rw [beq_eq_false_iff_ne]
    intro e; apply h; cases k; cases b; simp_all
  simp [knownEs, Instr.findNow, Instr.sameNow, e _ h0, e _ h1, e _ h2, e _ h3, e _ h4, e _ h5]
end Go.Proofs.YtlhgjicichjbgaaGreatDoor
