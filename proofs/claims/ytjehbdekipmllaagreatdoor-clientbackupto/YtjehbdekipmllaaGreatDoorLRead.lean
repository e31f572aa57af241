/- The program's table of fields: what it is in memory, and what a name finds there. What the table's functions read into a client: Id, Secret, Url, Ping. What the table's functions read into a client: Grants, Scopes. What a line says, as the program reads it. What is read into a client, whatever the name; a client laid into a block of six cells. -/
import Derived.Test.YtjehbdekipmllaaGreatDoorXBase
import Derived.Test.YtjehbdekipmllaaGreatDoorXMath
import Derived.Test.YtjehbdekipmllaaGreatDoorLCl
import Derived.Test.YtjehbdekipmllaaGreatDoorXStr
import Derived.Test.YtjehbdekipmllaaGreatDoorLCheck
import Derived.Test.YtjehbdekipmllaaGreatDoorXCut
import Derived.Maps.OwnSet
import Derived.Deep.WholeRow
namespace Go.Proofs.YtjehbdekipmllaaGreatDoor
open Go.RowKit

theorem und_map : Tryz.prog.underlying 42 = some (.map 9 82) := by kernel_rfl
theorem und_str : Tryz.prog.underlying 9 = some .string := by kernel_rfl
theorem key_check (w : World) (c : Bool) (k : ByteArray) (hk : k.size ≤ maxLen) : (Instr.checkKey c 10000 9 (.string k)).run Tryz.prog w = .ok () w := (Maps.string_keyed und_str).check w c (WideMaps.keyOf_string_mk und_str hk)
theorem key_find (w : World) (k : ByteArray) (es : List MapEntry) {r : Option (Nat × Value)} (hf : Instr.findNow .string (.string k) es 0 = some r) : (Instr.findKey 9 (.string k) es).run Tryz.prog w = .ok r w := by
  simp [Instr.findKey, run_underlying und_str, Result.andThen, hf]
theorem insert_new (w : World) (es : Array MapEntry) (clock : Nat) (k : ByteArray) (v : Value) (hk : k.size ≤ maxLen) (hf : Instr.findNow .string (.string k) es.toList 0 = some none) :
    (Instr.mapUpdate 42 (.map (some w.heap.size)) (.string k) v).run Tryz.prog (w.alloc (.map es clock)) = .ok () (w.alloc (.map (es.push { key := .string k, val := v, born := clock }) (clock + 1))) := by
  have hb : (w.alloc (.map es clock)).heap[w.heap.size]? = some (.map es clock) := (MapKept.heap_alloc w _).1
  simp [Instr.mapUpdate, run_underlying und_map, MapKept.run_getObj_map hb, key_check _ _ _ hk, key_find _ _ _ hf, MapKept.run_setObj_map _ hb, Result.andThen]
  unfold World.alloc
  simp only [World.mk.injEq, and_true]
  apply Array.ext_getElem?
  intro i
  rw [Array.getElem?_setIfInBounds, Array.getElem?_push, Array.getElem?_push]
  by_cases h : i = w.heap.size
  · subst h; simp
  · rw [if_neg (fun e => h e.symm), if_neg h, if_neg h]
theorem look_in (w : World) (g : Nat) (es : Array MapEntry) (clock : Nat) (k : ByteArray) (i : Nat) (v : Value) (hk : k.size ≤ maxLen) (hb : w.heap[g]? = some (.map es clock)) (hf : Instr.findNow .string (.string k) es.toList 0 = some (some (i, v))) :
    (Instr.lookup 42 (.map (some g)) (.string k) true).run Tryz.prog w = .ok (.tuple #[v, .bool true]) w := by
  simp [Instr.lookup, run_underlying und_map, MapKept.run_getObj_map hb, key_check _ _ _ hk, key_find _ _ _ hf, Result.andThen]
theorem zero_field (w : World) : (zeroValue 82).run Tryz.prog w = .ok (.agg #[.nilFunc, .nilFunc]) w := (zero_of_info (n := 2) (by kernel_rfl)).1 w
theorem look_out (w : World) (g : Nat) (es : Array MapEntry) (clock : Nat) (k : ByteArray) (hk : k.size ≤ maxLen) (hb : w.heap[g]? = some (.map es clock)) (hf : Instr.findNow .string (.string k) es.toList 0 = some none) :
    (Instr.lookup 42 (.map (some g)) (.string k) true).run Tryz.prog w = .ok (.tuple #[.agg #[.nilFunc, .nilFunc], .bool false]) w := by
  simp [Instr.lookup, run_underlying und_map, MapKept.run_getObj_map hb, key_check _ _ _ hk, key_find _ _ _ hf, Result.andThen]


def sId : ByteArray := ⟨#[105, 100]⟩
def sSecret : ByteArray := ⟨#[115, 101, 99, 114, 101, 116]⟩
def sGrants : ByteArray := ⟨#[103, 114, 97, 110, 116, 115]⟩
def sPing : ByteArray := ⟨#[112, 105, 110, 103]⟩
def sUrl : ByteArray := ⟨#[117, 114, 108]⟩
def sScope : ByteArray := ⟨#[115, 99, 111, 112, 101]⟩
def twoF (a b : Nat) : Value := .agg #[.func (.func a) #[] #[], .func (.func b) #[] #[]]
def knownEs : Array MapEntry := #[⟨.string sId, twoF 35 36, 0⟩, ⟨.string sSecret, twoF 37 38, 1⟩, ⟨.string sGrants, twoF 39 40, 2⟩, ⟨.string sPing, twoF 41 42, 3⟩, ⟨.string sUrl, twoF 43 44, 4⟩, ⟨.string sScope, twoF 45 46, 5⟩]
/-- The table of fields lies in block g. -/
def Known (w : World) (g : Nat) : Prop := w.heap[g]? = some (.map knownEs 6)
theorem Known.keep {w w' : World} {g B : Nat} (h : Known w g) (hb : Below B w w') (hg : g < B) : Known w' g := (hb.block g hg).trans h
theorem Known.lt {w : World} {g : Nat} (h : Known w g) : g < w.heap.size := (Array.getElem?_eq_some_iff.1 h).1
set_option maxHeartbeats 400000 in
set_option maxRecDepth 100000 in
theorem fields_any (w : World) :
    Calls Tryz.prog 16 #[] w fun e w' => e = .returned (.map (some w.heap.size)) ∧ w' = w.alloc (.map knownEs 6) := by
  have hmm := @run_makeMap Tryz.prog
  obtain ⟨es1, E1⟩ : ∃ es : Array MapEntry, Hid (es = #[⟨.string sId, twoF 35 36, 0⟩]) := ⟨_, hide rfl⟩
  have h0 : (Instr.mapUpdate 42 (.map (some w.heap.size)) (.string { data := #[105, 100] }) (.agg #[.func (.func 35) #[] #[], .func (.func 36) #[] #[]])).run Tryz.prog (w.alloc (.map #[] 0)) = .ok () (w.alloc (.map es1 1)) := by
    rw [E1.out]; exact insert_new w _ 0 sId _ (by decide) (by rfl)
  obtain ⟨es2, E2⟩ : ∃ es : Array MapEntry, Hid (es = #[⟨.string sId, twoF 35 36, 0⟩, ⟨.string sSecret, twoF 37 38, 1⟩]) := ⟨_, hide rfl⟩
  have h1 : (Instr.mapUpdate 42 (.map (some w.heap.size)) (.string { data := #[115, 101, 99, 114, 101, 116] }) (.agg #[.func (.func 37) #[] #[], .func (.func 38) #[] #[]])).run Tryz.prog (w.alloc (.map es1 1)) = .ok () (w.alloc (.map es2 2)) := by
    rw [E2.out, E1.out]; exact insert_new w _ 1 sSecret _ (by decide) (by rfl)
  obtain ⟨es3, E3⟩ : ∃ es : Array MapEntry, Hid (es = #[⟨.string sId, twoF 35 36, 0⟩, ⟨.string sSecret, twoF 37 38, 1⟩, ⟨.string sGrants, twoF 39 40, 2⟩]) := ⟨_, hide rfl⟩
  have h2 : (Instr.mapUpdate 42 (.map (some w.heap.size)) (.string { data := #[103, 114, 97, 110, 116, 115] }) (.agg #[.func (.func 39) #[] #[], .func (.func 40) #[] #[]])).run Tryz.prog (w.alloc (.map es2 2)) = .ok () (w.alloc (.map es3 3)) := by
    rw [E3.out, E2.out]; exact insert_new w _ 2 sGrants _ (by decide) (by rfl)
  obtain ⟨es4, E4⟩ : ∃ es : Array MapEntry, Hid (es = #[⟨.string sId, twoF 35 36, 0⟩, ⟨.string sSecret, twoF 37 38, 1⟩, ⟨.string sGrants, twoF 39 40, 2⟩, ⟨.string sPing, twoF 41 42, 3⟩]) := ⟨_, hide rfl⟩
  have h3 : (Instr.mapUpdate 42 (.map (some w.heap.size)) (.string { data := #[112, 105, 110, 103] }) (.agg #[.func (.func 41) #[] #[], .func (.func 42) #[] #[]])).run Tryz.prog (w.alloc (.map es3 3)) = .ok () (w.alloc (.map es4 4)) := by
    rw [E4.out, E3.out]; exact insert_new w _ 3 sPing _ (by decide) (by rfl)
  obtain ⟨es5, E5⟩ : ∃ es : Array MapEntry, Hid (es = #[⟨.string sId, twoF 35 36, 0⟩, ⟨.string sSecret, twoF 37 38, 1⟩, ⟨.string sGrants, twoF 39 40, 2⟩, ⟨.string sPing, twoF 41 42, 3⟩, ⟨.string sUrl, twoF 43 44, 4⟩]) := ⟨_, hide rfl⟩
  have h4 : (Instr.mapUpdate 42 (.map (some w.heap.size)) (.string { data := #[117, 114, 108] }) (.agg #[.func (.func 43) #[] #[], .func (.func 44) #[] #[]])).run Tryz.prog (w.alloc (.map es4 4)) = .ok () (w.alloc (.map es5 5)) := by
    rw [E5.out, E4.out]; exact insert_new w _ 4 sUrl _ (by decide) (by rfl)
  obtain ⟨es6, E6⟩ : ∃ es : Array MapEntry, Hid (es = #[⟨.string sId, twoF 35 36, 0⟩, ⟨.string sSecret, twoF 37 38, 1⟩, ⟨.string sGrants, twoF 39 40, 2⟩, ⟨.string sPing, twoF 41 42, 3⟩, ⟨.string sUrl, twoF 43 44, 4⟩, ⟨.string sScope, twoF 45 46, 5⟩]) := ⟨_, hide rfl⟩
  have h5 : (Instr.mapUpdate 42 (.map (some w.heap.size)) (.string { data := #[115, 99, 111, 112, 101] }) (.agg #[.func (.func 45) #[] #[], .func (.func 46) #[] #[]])).run Tryz.prog (w.alloc (.map es5 5)) = .ok () (w.alloc (.map es6 6)) := by
    rw [E6.out, E5.out]; exact insert_new w _ 5 sScope _ (by decide) (by rfl)
  have HE : Hid (es6 = knownEs) := E6
  clear E1 E2 E3 E4 E5 E6
  go_enter Tryz.func16, Tryz.ntmps16
  go_wp2
  go_ret
  exact ⟨rfl, by rw [HE.out]⟩
theorem out_none (k : ByteArray) (h0 : k ≠ sId) (h1 : k ≠ sSecret) (h2 : k ≠ sGrants) (h3 : k ≠ sPing) (h4 : k ≠ sUrl) (h5 : k ≠ sScope) : Instr.findNow .string (.string k) knownEs.toList 0 = some none := by
  have e : ∀ b : ByteArray, k ≠ b → (k == b) = false := fun b h => by
    show (k.data == b.data) = false
    rw [beq_eq_false_iff_ne]
    intro e; apply h; cases k; cases b; simp_all
  simp [knownEs, Instr.findNow, Instr.sameNow, e _ h0, e _ h1, e _ h2, e _ h3, e _ h4, e _ h5]
end Go.Proofs.YtjehbdekipmllaaGreatDoor
namespace Go.Proofs.YtjehbdekipmllaaGreatDoor
open Go.RowKit

def sYes : ByteArray := ⟨#[121, 101, 115]⟩
theorem str_eq (a b : ByteArray) : (a.toList == b.toList) = decide (a = b) := by
  rw [Bool.eq_iff_iff, Lib.toList_data, Lib.toList_data]
  simp only [beq_iff_eq, decide_eq_true_eq]
  constructor
  · intro h; cases a; cases b; simp_all
  · intro h; rw [h]
set_option maxHeartbeats 400000 in
set_option maxRecDepth 100000 in
theorem readId_any (g : Nat) (c : Cl) (so : Option Addr) (n cp : Nat) (v : ByteArray) (w : World) (h : CB w g c so n cp) :
    Calls Tryz.prog 35 #[.pointer (some ⟨g, 0, none⟩), .string v] w fun e w' => e = .returned (.bool true) ∧ w' = w.setCell ⟨g, 0, none⟩ (.string v) := by
  have hg := h.lt
  have hc := h.six.1
  have hf := h.frozen 0
  go_enter Tryz.func35, Tryz.ntmps35
  go_wp2
  go_ret
  exact ⟨rfl, rfl⟩
set_option maxHeartbeats 400000 in
set_option maxRecDepth 100000 in
theorem readSecret_any (g : Nat) (c : Cl) (so : Option Addr) (n cp : Nat) (v : ByteArray) (w : World) (h : CB w g c so n cp) :
    Calls Tryz.prog 37 #[.pointer (some ⟨g, 0, none⟩), .string v] w fun e w' => e = .returned (.bool true) ∧ w' = w.setCell ⟨g, 1, none⟩ (.string v) := by
  have hg := h.lt
  have hc := h.six.2.1
  have hf := h.frozen 1
  go_enter Tryz.func37, Tryz.ntmps37
  go_wp2
  go_ret
  exact ⟨rfl, rfl⟩
set_option maxHeartbeats 400000 in
set_option maxRecDepth 100000 in
theorem readUrl_any (g : Nat) (c : Cl) (so : Option Addr) (n cp : Nat) (v : ByteArray) (w : World) (h : CB w g c so n cp) :
    Calls Tryz.prog 43 #[.pointer (some ⟨g, 0, none⟩), .string v] w fun e w' => e = .returned (.bool true) ∧ w' = w.setCell ⟨g, 4, none⟩ (.string v) := by
  have hg := h.lt
  have hc := h.six.2.2.2.2.1
  have hf := h.frozen 4
  go_enter Tryz.func43, Tryz.ntmps43
  go_wp2
  go_ret
  exact ⟨rfl, rfl⟩
set_option maxHeartbeats 400000 in
set_option maxRecDepth 100000 in
theorem readPing_any (g : Nat) (c : Cl) (so : Option Addr) (n cp : Nat) (v : ByteArray) (w : World) (h : CB w g c so n cp) :
    Calls Tryz.prog 41 #[.pointer (some ⟨g, 0, none⟩), .string v] w fun e w' => e = .returned (.bool (decide (v = sYes))) ∧ w' = w.setCell ⟨g, 3, none⟩ (.bool (decide (v = sYes))) := by
  have hg := h.lt
  have hc := h.six.2.2.2.1
  have hf := h.frozen 3
  obtain ⟨b, HB⟩ : ∃ b, Hid (b = decide (v = sYes)) := ⟨_, hide rfl⟩
  have hb : (v.toList == [121, 101, 115]) = b := by rw [HB.out, ← str_eq v sYes, Lib.toList_data sYes]; rfl
  rw [← HB.out]
  clear HB
  go_enter Tryz.func41, Tryz.ntmps41
  go_wp2
  go_ret
  exact ⟨rfl, rfl⟩
end Go.Proofs.YtjehbdekipmllaaGreatDoor
namespace Go.Proofs.YtjehbdekipmllaaGreatDoor
open Go.RowKit

def uDevice : U := [100, 101, 118, 105, 99, 101]
def uCiba : U := [99, 105, 98, 97]
def grStep (u : U) (k : Nat) : Option Nat := if u = uDevice then some (k ||| 1) else if u = uCiba then some (k ||| 2) else none
def grFold (l : List U) (k : Nat) : Option Nat := l.foldl (fun a u => a.bind (grStep u)) (some k)
theorem grFold_snoc (l : List U) (u : U) (k : Nat) : grFold (l ++ [u]) k = (grFold l k).bind (grStep u) := by simp [grFold]
theorem grFold_bad {l : List U} {k j : Nat} (h : grFold (l.take j) k = none) : grFold l k = none := by
  have hn : ∀ r : List U, r.foldl (fun a u => a.bind (grStep u)) none = none := by
    intro r; induction r with
    | nil => rfl
    | cons u r ih => simpa using ih
  unfold grFold at *
  rw [← List.take_append_drop j l, List.foldl_append, h]
  exact hn _
def grantsR (v : U) (k : Nat) : Option Nat := match grFold (scoOut v).1 k with | some j => if (scoOut v).2 = 0 then some j else none | none => none
theorem SRow.grownR {w w' : World} {ao : Option Addr} {l : List U} {row : Option Nat} (h : SRow w ao l) (hg : w.grownBy w' row) (hne : ∀ a, ao = some a → l ≠ [] → some a.block ≠ row) : SRow w' ao l := by
  rcases h with h | ⟨b, off, rfl, hc⟩
  · exact .inl h
  · by_cases h0 : l = []
    · exact .inl h0
    · exact .inr ⟨b, off, rfl, fun i u hi => hg.cell (hc i u hi) (hne ⟨b, off, none⟩ rfl h0)⟩
theorem SRow.grown {w w' : World} {ao : Option Addr} {l : List U} {g : Nat} (h : SRow w ao l) (hg : w.grownBy w' (some g)) (hne : ∀ a, ao = some a → a.block ≠ g) : SRow w' ao l := by
  rcases h with h | ⟨b, off, rfl, hc⟩
  · exact .inl h
  · exact .inr ⟨b, off, rfl, fun i u hi => hg.cell (hc i u hi) (fun e => hne _ rfl (by simpa using e))⟩
theorem u_eq (u : U) (l : List UInt8) : ((⟨u.toArray⟩ : ByteArray).toList == l) = decide (u = l) := by
  rw [Lib.toList_data, Bool.eq_iff_iff]; simp
def withG (c : Cl) (k : Nat) : Cl := { c with grants := (k : Int) }
theorem take_u {l : List U} {k : Nat} {u : U} (h : l[k]? = some u) : l.take (k + 1) = l.take k ++ [u] := by rw [List.take_add_one, h]; rfl
/-- What readGrants leaves. -/
def GrPost (w w' : World) (g : Nat) (c : Cl) (so : Option Addr) (n cp : Nat) (R : Option Nat) (b : Bool) : Prop := ∃ k, k ≤ 3 ∧ b = R.isSome ∧ (∀ j, R = some j → k = j) ∧ CB w' g (withG c k) so n cp ∧ w.grownBy w' (some g)
def GrEnd (w : World) (g : Nat) (c : Cl) (so : Option Addr) (n cp : Nat) (R : Option Nat) (e : Ending) (w' : World) : Prop := ∃ b, e = .returned (.bool b) ∧ GrPost w w' g c so n cp R b
set_option maxHeartbeats 1000000 in
set_option maxRecDepth 100000 in
theorem readGrants_any (g : Nat) (c : Cl) (so : Option Addr) (n cp k0 : Nat) (v : ByteArray) (w : World) (h : CB w g (withG c k0) so n cp) (hk0 : k0 ≤ 3) (hM : MaxL w) (hv : v.size ≤ 9223372036854775807) :
    Calls Tryz.prog 39 #[.pointer (some ⟨g, 0, none⟩), .string v] w fun e w' => True ∧ GrEnd w g c so n cp (grantsR v.data.toList k0) e w' := by
  have HC : Hid (CB w g (withG c k0) so n cp) := h
  have hg := h.lt
  obtain ⟨l, er, hO⟩ : ∃ l er, scoOut v.data.toList = (l, er) := ⟨_, _, rfl⟩
  have HR : Hid (∀ j, grantsR v.data.toList j = match grFold l j with | some j => if er = 0 then some j else none | none => none) := by
    intro j; unfold grantsR; rw [hO]
  obtain ⟨R, HRR⟩ : ∃ R, Hid (R = grantsR v.data.toList k0) := ⟨_, hide rfl⟩
  rw [← HRR.out]
  obtain ⟨m, hm⟩ : ∃ m, m = l.length := ⟨_, rfl⟩
  have HL : Hid (m = l.length) := hm
  have hm32 : m ≤ 32 := by have h32 : (scoOut v.data.toList).1.length ≤ 32 := scoOut_len _; rw [hO] at h32; rw [hm]; exact h32
  have HS := scopes_m v l er m w hO hm hv hM
  clear hm hO h
  go_enter Tryz.func39, Tryz.ntmps39
  go_wp2_with (go_at_call 59; refine HS.mono ?_)
  rintro e w1 ⟨fo, fc, rfl, HO⟩
  have HG1 : Hid (w.grownBy w1 (some g)) := ⟨HO.out.2.os, HO.out.2.tape, HO.out.2.output, HO.out.2.size, fun k hk _ => HO.out.2.block k hk⟩
  have HC1 : Hid (CB w1 g (withG c k0) so n cp) := HC.out.keep HO.out.2 hg
  have HRW : Hid (SRow w1 fo l) := HO.out.1.row
  have HNE : Hid (∀ a, fo = some a → a.block ≠ g) := by
    intro a ha
    obtain ⟨a', c', e, _, _, hb⟩ := HO.out.1.shape
    cases e
    have := hb a ha
    omega
  clear HO HS
  go_wp2
  go_loopw [16] (fun i wr => ∃ k j : Nat, k ≤ m ∧ j ≤ 3 ∧ i = .int .i64 (k : Int) ∧ Hid (grFold (l.take k) k0 = some j) ∧ Hid (CB wr g (withG c j) so n cp) ∧ Hid (w1.grownBy wr (some g))) (fun i _ => m - (intOf i).toNat)
  case atStart => exact ⟨0, k0, Nat.zero_le _, hk0, rfl, rfl, HC1, World.grownBy.refl _ _⟩
  case round =>
    obtain ⟨k, j, hk, hj, rfl, HF, HCB, HGR⟩ := hrel
    by_cases hlt : k < m
    · obtain ⟨b, off, rfl⟩ := HRW.out.form (by rw [← HL.out]; omega)
      obtain ⟨u, hu⟩ : ∃ u, l[k]? = some u := ⟨_, List.getElem?_eq_getElem (by rw [← HL.out]; exact hlt)⟩
      have c0 : wr.cell? ⟨b, off + k, none⟩ = some (.string ⟨u.toArray⟩) := (HRW.out.grown HGR.out HNE.out).cell hu
      have HST : Hid (grFold (l.take (k + 1)) k0 = grStep u j) := by show _ = _; rw [take_u hu, grFold_snoc, HF.out]; rfl
      have hgr : wr.cell? ⟨g, 2, none⟩ = some (.int .i64 (j : Int)) := HCB.out.six.2.2.1
      have hfz := HCB.out.frozen 2
      have hgl := HCB.out.lt
      clear hu HF
      by_cases h1 : u = uDevice
      · have hb1 : ((⟨u.toArray⟩ : ByteArray).toList == [100, 101, 118, 105, 99, 101]) = true := by rw [u_eq, h1]; rfl
        have HS2 : Hid (grFold (l.take (k + 1)) k0 = some (j ||| 1)) := by show _ = _; rw [HST.out]; unfold grStep; rw [if_pos h1]
        clear h1 HST
        have HCN : ∀ v : Int, v = ((j ||| 1 : Nat) : Int) → CB (wr.setCell ⟨g, 2, none⟩ (.int .i64 v)) g (withG c (j ||| 1)) so n cp := fun v hv => HCB.out.put 2 _ (by rw [hv]; rfl)
        have HCN' : Hid (∀ v : Int, v = ((j ||| 1 : Nat) : Int) → CB (wr.setCell ⟨g, 2, none⟩ (.int .i64 v)) g (withG c (j ||| 1)) so n cp) := HCN
        clear HCN
        generalize (⟨u.toArray⟩ : ByteArray) = uu at *
        obtain rfl | rfl | rfl | rfl : j = 0 ∨ j = 1 ∨ j = 2 ∨ j = 3 := by omega
        all_goals
          go_wp2
          go_roundw
          case rel => exact ⟨k + 1, _, by omega, by decide, by go_num, HS2, HCN'.out _ rfl, HGR.out.trans (grown_set _ _ _ _)⟩
          case measure => simp [intOf]; omega
      · have hb1 : ((⟨u.toArray⟩ : ByteArray).toList == [100, 101, 118, 105, 99, 101]) = false := by rw [u_eq, decide_eq_false]; exact h1
        by_cases h2 : u = uCiba
        · have hb2 : ((⟨u.toArray⟩ : ByteArray).toList == [99, 105, 98, 97]) = true := by rw [u_eq, h2]; rfl
          have HS2 : Hid (grFold (l.take (k + 1)) k0 = some (j ||| 2)) := by show _ = _; rw [HST.out]; unfold grStep; rw [if_neg h1, if_pos h2]
          clear h1 h2 HST
          have HCN : ∀ v : Int, v = ((j ||| 2 : Nat) : Int) → CB (wr.setCell ⟨g, 2, none⟩ (.int .i64 v)) g (withG c (j ||| 2)) so n cp := fun v hv => HCB.out.put 2 _ (by rw [hv]; rfl)
          have HCN' : Hid (∀ v : Int, v = ((j ||| 2 : Nat) : Int) → CB (wr.setCell ⟨g, 2, none⟩ (.int .i64 v)) g (withG c (j ||| 2)) so n cp) := HCN
          clear HCN
          generalize (⟨u.toArray⟩ : ByteArray) = uu at *
          obtain rfl | rfl | rfl | rfl : j = 0 ∨ j = 1 ∨ j = 2 ∨ j = 3 := by omega
          all_goals
            go_wp2
            go_roundw
            case rel => exact ⟨k + 1, _, by omega, by decide, by go_num, HS2, HCN'.out _ rfl, HGR.out.trans (grown_set _ _ _ _)⟩
            case measure => simp [intOf]; omega
        · have hb2 : ((⟨u.toArray⟩ : ByteArray).toList == [99, 105, 98, 97]) = false := by rw [u_eq, decide_eq_false]; exact h2
          have HN : Hid (R = none) := by
            show _ = _
            rw [HRR.out, HR.out, grFold_bad (j := k + 1) (by rw [HST.out]; unfold grStep; rw [if_neg h1, if_neg h2])]
          clear h1 h2 HST
          generalize (⟨u.toArray⟩ : ByteArray) = uu at *
          go_wp2
          go_ret
          refine (fun h => by first | exact ⟨trivial, h⟩ | exact h) (?_ : GrEnd w g c so n cp R _ _)
          exact ⟨_, rfl, j, hj, by rw [HN.out]; rfl, by rw [HN.out]; intro _ h; exact absurd h (by simp), HCB.out, HG1.out.trans HGR.out⟩
    · have HE : Hid (R = if er = 0 then some j else none) := by
        show _ = _
        have := HF.out
        rw [List.take_of_length_le (by rw [← HL.out]; omega)] at this
        rw [HRR.out, HR.out, this]
      clear HF
      by_cases h0 : er = 0
      · subst h0
        have HE2 : Hid (R = some j) := HE
        clear HE
        go_wp2
        go_ret
        refine (fun h => by first | exact ⟨trivial, h⟩ | exact h) (?_ : GrEnd w g c so n cp R _ _)
        exact ⟨_, rfl, j, hj, by rw [HE2.out]; rfl, by rw [HE2.out]; intro _ h; exact Option.some.inj h, HCB.out, HG1.out.trans HGR.out⟩
      · have HE2 : Hid (R = none) := by show _ = _; rw [HE.out, if_neg h0]
        have h0i : ((er : Int) == 0) = false := by simp; omega
        clear HE
        go_wp2
        go_ret
        refine (fun h => by first | exact ⟨trivial, h⟩ | exact h) (?_ : GrEnd w g c so n cp R _ _)
        exact ⟨_, rfl, j, hj, by rw [HE2.out]; rfl, by rw [HE2.out]; intro _ h; exact absurd h (by simp), HCB.out, HG1.out.trans HGR.out⟩
def withS (c : Cl) (l : List U) : Cl := { c with scopes := l }
/-- A row of texts of one's own stays as it is while an older block is written. -/
theorem SOwn.grownA {w w' : World} {B N : Nat} {v : Value} {l : List U} (h : SOwn w B v l) (hg : w.grownBy w' (some N)) (hN : N < B) : SOwn w' B v l := by
  refine ⟨h.1, ?_⟩
  rcases h.2 with h2 | ⟨g, cap, cur, e, hb, hh, r⟩
  · exact .inl h2
  · exact .inr ⟨g, cap, cur, e, hb, (hg.block g (Array.getElem?_eq_some_iff.1 hh).1 (fun e => by simp only [Option.some.injEq] at e; omega)).trans hh, r⟩
def ScEnd (w : World) (g : Nat) (c : Cl) (l : List U) (er : Nat) (e : Ending) (w' : World) : Prop := ∃ so' n' cp', e = .returned (.bool (decide (er = 0))) ∧ CB w' g (withS c l) so' n' cp' ∧ SAt w' so' n' cp' l ∧ (∀ a, so' = some a → w.heap.size ≤ a.block) ∧ SOwn w' w.heap.size (.slice so' n' cp') l ∧ w.grownBy w' (some g)
set_option maxHeartbeats 1000000 in
set_option maxRecDepth 100000 in
theorem readScopes_any (g : Nat) (c : Cl) (so : Option Addr) (n cp : Nat) (v : ByteArray) (w : World) (h : CB w g c so n cp) (hM : MaxL w) (hv : v.size ≤ 9223372036854775807) :
    Calls Tryz.prog 45 #[.pointer (some ⟨g, 0, none⟩), .string v] w fun e w' => True ∧ ScEnd w g c (scoOut v.data.toList).1 (scoOut v.data.toList).2 e w' := by
  have HC : Hid (CB w g c so n cp) := h
  have hg := h.lt
  obtain ⟨l, er, hO⟩ : ∃ l er, scoOut v.data.toList = (l, er) := ⟨_, _, rfl⟩
  obtain ⟨m, hm⟩ : ∃ m, m = l.length := ⟨_, rfl⟩
  have HL : Hid (m = l.length) := hm
  have HS := scopes_m v l er m w hO hm hv hM
  rw [hO]
  clear hm hO h
  go_enter Tryz.func45, Tryz.ntmps45
  go_wp2_with (go_at_call 59; refine HS.mono ?_)
  rintro e w1 ⟨fo, fc, rfl, HO⟩
  have HG1 : Hid (w.grownBy w1 (some g)) := ⟨HO.out.2.os, HO.out.2.tape, HO.out.2.output, HO.out.2.size, fun k hk _ => HO.out.2.block k hk⟩
  have HC1 : Hid (CB w1 g c so n cp) := HC.out.keep HO.out.2 hg
  have HRW : Hid (SRow w1 fo l) := HO.out.1.row
  have HTY : Hid (STy w1 fo l) := HO.out.1.ty
  have HOW : Hid (SOwn w1 w.heap.size (.slice fo m fc) l) := HO.out.1
  have HNE : Hid ((∀ a, fo = some a → w.heap.size ≤ a.block) ∧ m ≤ fc) := by
    obtain ⟨a', c', e, hle, _, hb⟩ := HO.out.1.shape
    cases e
    exact ⟨hb, hle⟩
  clear HO HS
  have hgl := HC1.out.lt
  have hcc := HC1.out.six.2.2.2.2.2
  have hfz := HC1.out.frozen 5
  have HX : Hid (CB (w1.setCell ⟨g, 5, none⟩ (.slice fo m fc)) g (withS c l) fo m fc ∧ SAt (w1.setCell ⟨g, 5, none⟩ (.slice fo m fc)) fo m fc l ∧ w.grownBy (w1.setCell ⟨g, 5, none⟩ (.slice fo m fc)) (some g) ∧ SOwn (w1.setCell ⟨g, 5, none⟩ (.slice fo m fc)) w.heap.size (.slice fo m fc) l) := by
    have hne : ∀ a, fo = some a → a.block ≠ g := fun a ha => by have := HNE.out.1 a ha; omega
    exact ⟨HC1.out.put 5 _ rfl, ⟨HL.out, HNE.out.2, HRW.out.grown (grown_set _ _ _ _) hne, HTY.out.grown (grown_set _ _ _ _) (fun a ha _ e => hne a ha (by simpa using e))⟩, HG1.out.trans (grown_set _ _ _ _), HOW.out.grownA (grown_set _ _ _ _) hg⟩
  by_cases h0 : er = 0
  · subst h0
    go_wp2
    go_ret
    exact ⟨trivial, fo, m, fc, rfl, HX.out.1, HX.out.2.1, HNE.out.1, HX.out.2.2.2, HX.out.2.2.1⟩
  · have h0i : ((er : Int) == 0) = false := by simp; omega
    go_wp2
    go_ret
    exact ⟨trivial, fo, m, fc, by rw [decide_eq_false h0]; rfl, HX.out.1, HX.out.2.1, HNE.out.1, HX.out.2.2.2, HX.out.2.2.1⟩
end Go.Proofs.YtjehbdekipmllaaGreatDoor
namespace Go.Proofs.YtjehbdekipmllaaGreatDoor
open Go.RowKit

theorem cutAll_small : ∀ (t u : U), u ∈ cutAll t → u.length ≤ t.length
  | [], u, h => by simp [cutAll] at h; simp [h]
  | c :: t, u, h => by
    obtain ⟨a, r, e⟩ := cutAll_ne t
    have ih := cutAll_small t
    by_cases hc : c = 32
    · rw [cutAll, if_pos hc] at h
      rcases List.mem_cons.1 h with rfl | h
      · simp
      · have := ih u h; simp; omega
    · rw [cutAll_cons hc e] at h
      rcases List.mem_cons.1 h with rfl | h
      · have := ih a (by rw [e]; simp); simp; omega
      · have := ih u (by rw [e]; simp [h]); simp; omega
/-- Few scopes, and short ones. -/
def ScSmall (l : List U) : Prop := l.length ≤ 32 ∧ ∀ u ∈ l, u.length ≤ 256
theorem scSmall_nil : ScSmall [] := ⟨by simp, by simp⟩
theorem scSmall_out (t : U) : ScSmall (scoOut t).1 := by
  refine ⟨scoOut_len t, ?_⟩
  unfold scoOut
  split
  · simp
  · split
    · simp
    · split
      · split
        · simp
        · intro u hu
          have := (insAll_mem _ _ _).1 hu
          simp at this
          have := cutAll_small _ _ this
          omega
      · simp
theorem lens_small : ∀ (l : List U), (∀ u ∈ l, u.length ≤ 256) → Lib.lens l ≤ 256 * l.length
  | [], _ => by simp [Lib.lens]
  | u :: r, h => by
    have h1 := h u (by simp)
    have h2 := lens_small r (fun v hv => h v (by simp [hv]))
    simp only [Lib.lens, List.length_cons] at h2 ⊢
    simp at h2 ⊢
    omega
theorem join_small {l : List U} (h : ScSmall l) : (joinS l).length ≤ 140737488355328 := by
  unfold joinS
  cases l with
  | nil => simp [Lib.join_nil]
  | cons u r =>
    rw [Lib.join_length]
    have h1 := lens_small _ h.2
    have h2 := h.1
    simp only [List.length_cons, List.length_nil] at h1 h2 ⊢
    omega

def isName (nm : ByteArray) : Bool := decide (nm = sId ∨ nm = sSecret ∨ nm = sGrants ∨ nm = sPing ∨ nm = sUrl ∨ nm = sScope)
def fieldR (nm : ByteArray) (c : Cl) (v : ByteArray) : Option Cl :=
  if nm = sId then some { c with id := v } else if nm = sSecret then some { c with secret := v }
  else if nm = sGrants then (grantsR v.data.toList c.grants.toNat).map (withG c)
  else if nm = sPing then (if v = sYes then some { c with ping := true } else none)
  else if nm = sUrl then some { c with url := v }
  else if nm = sScope then (if (scoOut v.data.toList).2 = 0 then some (withS c (scoOut v.data.toList).1) else none) else none
def lnStep (l : List Two) (c : Cl) (q : Two) : Option Cl :=
  if isName (bstr q.1) = true then (if 1 < (ones q.1 l).2 then none else if (ones q.1 l).1 = [] then some c else fieldR (bstr q.1) c (bstr (ones q.1 l).1)) else none
def lnFold (l r : List Two) : Option Cl := r.foldl (fun a q => a.bind fun c => lnStep l c q) (some zeroCl)
theorem lnFold_snoc (l r : List Two) (q : Two) : lnFold l (r ++ [q]) = (lnFold l r).bind fun c => lnStep l c q := by simp [lnFold]
theorem lnFold_bad {l r : List Two} {j : Nat} (h : lnFold l (r.take j) = none) : lnFold l r = none := by
  have hn : ∀ r : List Two, r.foldl (fun a q => a.bind fun c => lnStep l c q) none = none := by
    intro r; induction r with
    | nil => rfl
    | cons u r ih => simpa using ih
  unfold lnFold at *
  rw [← List.take_append_drop j r, List.foldl_append, h]
  exact hn _
def lineR (xs : List Nat) : Option Cl := if (parOut xs).2.1 = 0 then (lnFold (parOut xs).1 (parOut xs).1).bind fun c => if checkB c = true then some c else none else none
theorem parOut_small2 (xs : List Nat) : ∀ q ∈ (parOut xs).1, q.1.length + q.2.length ≤ 16384 := by
  unfold parOut
  split
  · simp
  · cases h : parse xs 0 [] with
    | ok l => exact parse_small _ _ _ _ _ (Nat.le_refl _) (by omega) (by simp) h
    | error e => obtain ⟨a, b⟩ := e; simp [outOf]
theorem ones_from (name : List Nat) (l : List Two) : (ones name l).1 = [] ∨ ∃ q ∈ l, (ones name l).1 = q.2 := by
  have : ∀ (l r : List Two) (a : List Nat × Nat), (a.1 = [] ∨ ∃ q ∈ r, a.1 = q.2) → ((l.foldl (oneStep name) a).1 = [] ∨ ∃ q ∈ r ++ l, (l.foldl (oneStep name) a).1 = q.2) := by
    intro l
    induction l with
    | nil => intro r a h; simpa using h
    | cons q l ih =>
      intro r a h
      have := ih (r ++ [q]) (oneStep name a q) (by
        unfold oneStep
        split
        · exact .inr ⟨q, by simp, rfl⟩
        · rcases h with h | ⟨p, hp, h⟩
          · exact .inl h
          · exact .inr ⟨p, by simp [hp], h⟩)
      simpa using this
  simpa [ones] using this l [] ([], 0) (.inl rfl)
end Go.Proofs.YtjehbdekipmllaaGreatDoor
namespace Go.Proofs.YtjehbdekipmllaaGreatDoor
open Go.RowKit

/-- A client in block g, with all that is known of one that is being read. -/
structure ClAt (w : World) (g : Nat) (c : Cl) (so : Option Addr) (n cp : Nat) : Prop where
  cb : CB w g c so n cp
  sat : SAt w so n cp c.scopes
  own : SOwn w (g + 1) (.slice so n cp) c.scopes
  far : ∀ a, so = some a → g < a.block
  gr : ∃ k : Nat, k ≤ 3 ∧ c.grants = (k : Int)
  small : ScSmall c.scopes
  sizes : c.id.size ≤ 9223372036854775807 ∧ c.secret.size ≤ 9223372036854775807 ∧ c.url.size ≤ 9223372036854775807
theorem ClAt.keep {w w' : World} {g : Nat} {c : Cl} {so : Option Addr} {n cp : Nat} (h : ClAt w g c so n cp) (hb : Below w.heap.size w w') : ClAt w' g c so n cp := ⟨h.cb.keep hb h.cb.lt, h.sat.keep hb, h.own.keep hb, h.far, h.gr, h.small, h.sizes⟩
def readFn (nm : ByteArray) : Nat := if nm = sId then 35 else if nm = sSecret then 37 else if nm = sGrants then 39 else if nm = sPing then 41 else if nm = sUrl then 43 else 45
def writeFn (nm : ByteArray) : Nat := if nm = sId then 36 else if nm = sSecret then 38 else if nm = sGrants then 40 else if nm = sPing then 42 else if nm = sUrl then 44 else 46
def RdEnd (w : World) (g : Nat) (R : Option Cl) (e : Ending) (w' : World) : Prop := ∃ c' so' n' cp', e = .returned (.bool R.isSome) ∧ (∀ c2, R = some c2 → c' = c2) ∧ ClAt w' g c' so' n' cp' ∧ w.grownBy w' (some g)
theorem SAt.grown {w w' : World} {so : Option Addr} {n cp g : Nat} {l : List U} (h : SAt w so n cp l) (hg : w.grownBy w' (some g)) (hne : ∀ a, so = some a → g < a.block) : SAt w' so n cp l := ⟨h.1, h.2.1, h.2.2.1.grown hg (fun a ha => by have := hne a ha; omega), h.2.2.2.grown hg (fun a ha _ e => by have := hne a ha; simp only [Option.some.injEq] at e; omega)⟩
theorem six_names {nm : ByteArray} (h : isName nm = true) : nm = sId ∨ nm = sSecret ∨ nm = sGrants ∨ nm = sPing ∨ nm = sUrl ∨ nm = sScope := by simpa [isName] using h
theorem read_any (nm : ByteArray) (hnm : isName nm = true) (g : Nat) (c : Cl) (so : Option Addr) (n cp : Nat) (v : ByteArray) (w : World) (h : ClAt w g c so n cp) (hM : MaxL w) (hv : v.size ≤ 9223372036854775807) :
    Calls Tryz.prog (readFn nm) #[.pointer (some ⟨g, 0, none⟩), .string v] w fun e w' => True ∧ RdEnd w g (fieldR nm c v) e w' := by
  rcases six_names hnm with rfl | rfl | rfl | rfl | rfl | rfl
  · refine (readId_any g c so n cp v w h.cb).mono ?_
    rintro e w' ⟨rfl, rfl⟩
    exact ⟨trivial, { c with id := v }, so, n, cp, rfl, fun c2 h2 => by cases h2; rfl, ⟨h.cb.put 0 _ rfl, h.sat.grown (grown_set _ _ _ _) h.far, h.own.grownA (grown_set _ _ _ _) (Nat.lt_succ_self _), h.far, h.gr, h.small, hv, h.sizes.2⟩, grown_set _ _ _ _⟩
  · refine (readSecret_any g c so n cp v w h.cb).mono ?_
    rintro e w' ⟨rfl, rfl⟩
    exact ⟨trivial, { c with secret := v }, so, n, cp, rfl, fun c2 h2 => by cases h2; rfl, ⟨h.cb.put 1 _ rfl, h.sat.grown (grown_set _ _ _ _) h.far, h.own.grownA (grown_set _ _ _ _) (Nat.lt_succ_self _), h.far, h.gr, h.small, h.sizes.1, hv, h.sizes.2.2⟩, grown_set _ _ _ _⟩
  · obtain ⟨k, hk, hgr⟩ := h.gr
    have hcc : c = withG c k := by unfold withG; rw [← hgr]
    have hcb : CB w g (withG c k) so n cp := by rw [← hcc]; exact h.cb
    have e0 : fieldR sGrants c v = (grantsR v.data.toList k).map (withG c) := by
      have : c.grants.toNat = k := by rw [hgr]; rfl
      show (grantsR v.data.toList c.grants.toNat).map (withG c) = _
      rw [this]
    rw [e0]
    refine (readGrants_any g c so n cp k v w hcb hk hM hv).mono ?_
    rintro e w' ⟨_, b, rfl, j, hj, rfl, hR, hc', hg⟩
    refine ⟨trivial, withG c j, so, n, cp, by rw [Option.isSome_map], ?_, ⟨hc', h.sat.grown hg h.far, h.own.grownA hg (Nat.lt_succ_self _), h.far, ⟨j, hj, rfl⟩, h.small, h.sizes⟩, hg⟩
    intro c2 h2
    obtain ⟨j2, hj2, rfl⟩ := Option.map_eq_some_iff.1 h2
    rw [hR j2 hj2]
  · refine (readPing_any g c so n cp v w h.cb).mono ?_
    rintro e w' ⟨rfl, rfl⟩
    by_cases hy : v = sYes
    · have e0 : fieldR sPing c v = some { c with ping := true } := by
        show (if v = sYes then _ else _) = _
        rw [if_pos hy]
      rw [e0, decide_eq_true hy]
      exact ⟨trivial, { c with ping := true }, so, n, cp, rfl, fun c2 h2 => by cases h2; rfl, ⟨h.cb.put 3 _ rfl, h.sat.grown (grown_set _ _ _ _) h.far, h.own.grownA (grown_set _ _ _ _) (Nat.lt_succ_self _), h.far, h.gr, h.small, h.sizes⟩, grown_set _ _ _ _⟩
    · have e0 : fieldR sPing c v = none := by
        show (if v = sYes then _ else _) = _
        rw [if_neg hy]
      rw [e0, decide_eq_false hy]
      exact ⟨trivial, { c with ping := false }, so, n, cp, rfl, fun c2 h2 => (by cases h2), ⟨h.cb.put 3 _ rfl, h.sat.grown (grown_set _ _ _ _) h.far, h.own.grownA (grown_set _ _ _ _) (Nat.lt_succ_self _), h.far, h.gr, h.small, h.sizes⟩, grown_set _ _ _ _⟩
  · refine (readUrl_any g c so n cp v w h.cb).mono ?_
    rintro e w' ⟨rfl, rfl⟩
    exact ⟨trivial, { c with url := v }, so, n, cp, rfl, fun c2 h2 => by cases h2; rfl, ⟨h.cb.put 4 _ rfl, h.sat.grown (grown_set _ _ _ _) h.far, h.own.grownA (grown_set _ _ _ _) (Nat.lt_succ_self _), h.far, h.gr, h.small, h.sizes.1, h.sizes.2.1, hv⟩, grown_set _ _ _ _⟩
  · refine (readScopes_any g c so n cp v w h.cb hM hv).mono ?_
    rintro e w' ⟨_, so', n', cp', rfl, hc', hs', hf, ho', hg⟩
    have hl := h.cb.lt
    have hat : ClAt w' g (withS c (scoOut v.data.toList).1) so' n' cp' := ⟨hc', hs', ho'.lower (by omega), fun a ha => by have := hf a ha; omega, h.gr, scSmall_out _, h.sizes⟩
    by_cases h0 : (scoOut v.data.toList).2 = 0
    · have e0 : fieldR sScope c v = some (withS c (scoOut v.data.toList).1) := by
        show (if (scoOut v.data.toList).2 = 0 then _ else _) = _
        rw [if_pos h0]
      rw [e0]
      exact ⟨trivial, _, so', n', cp', by rw [decide_eq_true h0]; rfl, fun c2 h2 => by cases h2; rfl, hat, hg⟩
    · have e0 : fieldR sScope c v = none := by
        show (if (scoOut v.data.toList).2 = 0 then _ else _) = _
        rw [if_neg h0]
      rw [e0]
      exact ⟨trivial, _, so', n', cp', by rw [decide_eq_false h0]; rfl, fun c2 h2 => (by cases h2), hat, hg⟩
theorem known_look (w : World) (gm : Nat) (nm : ByteArray) (hK : Known w gm) (hnm : isName nm = true) (hs : nm.size ≤ maxLen) :
    (Instr.lookup 42 (.map (some gm)) (.string nm) true).run Tryz.prog w = .ok (.tuple #[.agg #[.func (.func (readFn nm)) #[] #[], .func (.func (writeFn nm)) #[] #[]], .bool true]) w := by
  rcases six_names hnm with rfl | rfl | rfl | rfl | rfl | rfl
  · exact look_in w gm knownEs 6 sId 0 _ hs hK rfl
  · exact look_in w gm knownEs 6 sSecret 1 _ hs hK rfl
  · exact look_in w gm knownEs 6 sGrants 2 _ hs hK rfl
  · exact look_in w gm knownEs 6 sPing 3 _ hs hK rfl
  · exact look_in w gm knownEs 6 sUrl 4 _ hs hK rfl
  · exact look_in w gm knownEs 6 sScope 5 _ hs hK rfl
theorem known_out (w : World) (gm : Nat) (nm : ByteArray) (hK : Known w gm) (hnm : isName nm = false) (hs : nm.size ≤ maxLen) :
    (Instr.lookup 42 (.map (some gm)) (.string nm) true).run Tryz.prog w = .ok (.tuple #[.agg #[.nilFunc, .nilFunc], .bool false]) w := by
  have h : ¬ (nm = sId ∨ nm = sSecret ∨ nm = sGrants ∨ nm = sPing ∨ nm = sUrl ∨ nm = sScope) := by
    intro h; unfold isName at hnm; rw [decide_eq_true h] at hnm; cases hnm
  exact look_out w gm knownEs 6 nm hs hK (out_none nm (fun e => h (.inl e)) (fun e => h (.inr (.inl e))) (fun e => h (.inr (.inr (.inl e)))) (fun e => h (.inr (.inr (.inr (.inl e))))) (fun e => h (.inr (.inr (.inr (.inr (.inl e)))))) (fun e => h (.inr (.inr (.inr (.inr (.inr e)))))))

/-- Six cells in a block. -/
def C6 (w : World) (N : Nat) (v0 v1 v2 v3 v4 v5 : Value) : Prop := w.heap[N]? = some (.cells #[v0, v1, v2, v3, v4, v5] 47 (0, 0))
def putC (w : World) (N : Nat) (v0 v1 v2 v3 v4 v5 : Value) : World := (((((w.setCell ⟨N, 0, none⟩ v0).setCell ⟨N, 1, none⟩ v1).setCell ⟨N, 2, none⟩ v2).setCell ⟨N, 3, none⟩ v3).setCell ⟨N, 4, none⟩ v4).setCell ⟨N, 5, none⟩ v5
theorem C6.new (w : World) : C6 (w.alloc (.cells #[.string { data := #[] }, .string { data := #[] }, .int .i64 0, .bool false, .string { data := #[] }, .slice none 0 0] 47)) w.heap.size (.string { data := #[] }) (.string { data := #[] }) (.int .i64 0) (.bool false) (.string { data := #[] }) (.slice none 0 0) := heap_alloc_new w _
theorem C6.lt {w : World} {N : Nat} {v0 v1 v2 v3 v4 v5 : Value} (h : C6 w N v0 v1 v2 v3 v4 v5) : N < w.heap.size := (Array.getElem?_eq_some_iff.1 h).1
theorem C6.keep {w w' : World} {N B : Nat} {v0 v1 v2 v3 v4 v5 : Value} (h : C6 w N v0 v1 v2 v3 v4 v5) (hb : Below B w w') (hB : N < B) : C6 w' N v0 v1 v2 v3 v4 v5 := (hb.block N hB).trans h
theorem C6.cells {w : World} {N : Nat} {v0 v1 v2 v3 v4 v5 : Value} (h : C6 w N v0 v1 v2 v3 v4 v5) : w.cell? ⟨N, 0, none⟩ = some v0 ∧ w.cell? ⟨N, 1, none⟩ = some v1 ∧ w.cell? ⟨N, 2, none⟩ = some v2 ∧ w.cell? ⟨N, 3, none⟩ = some v3 ∧ w.cell? ⟨N, 4, none⟩ = some v4 ∧ w.cell? ⟨N, 5, none⟩ = some v5 := by
  refine ⟨?_, ?_, ?_, ?_, ?_, ?_⟩ <;> (rw [cell_of_row w N _ _ 47 (0, 0) h]; rfl)
theorem C6.frozen {w : World} {N : Nat} {v0 v1 v2 v3 v4 v5 : Value} (h : C6 w N v0 v1 v2 v3 v4 v5) (i : Nat) : w.frozen? ⟨N, i, none⟩ = false := by
  simp only [World.frozen?, show w.heap[N]? = _ from h]
  simp
theorem C6.thaw {w : World} {N : Nat} {v0 v1 v2 v3 v4 v5 : Value} (h : C6 w N v0 v1 v2 v3 v4 v5) : w.frozen? ⟨N, 0, none⟩ = false ∧ w.frozen? ⟨N, 1, none⟩ = false ∧ w.frozen? ⟨N, 2, none⟩ = false ∧ w.frozen? ⟨N, 3, none⟩ = false ∧ w.frozen? ⟨N, 4, none⟩ = false ∧ w.frozen? ⟨N, 5, none⟩ = false := ⟨h.frozen 0, h.frozen 1, h.frozen 2, h.frozen 3, h.frozen 4, h.frozen 5⟩
theorem C6.set {w : World} {N : Nat} {v0 v1 v2 v3 v4 v5 : Value} {u0 u1 u2 u3 u4 u5 : Value} (h : C6 w N v0 v1 v2 v3 v4 v5) (i : Nat) (v : Value) (he : ([v0, v1, v2, v3, v4, v5] : List Value).set i v = [u0, u1, u2, u3, u4, u5]) : C6 (w.setCell ⟨N, i, none⟩ v) N u0 u1 u2 u3 u4 u5 := by
  show _ = _
  rw [setCell_eq_setRow w N i _ _ _ _ h, setRow_heap w N _ _ _ _ h]
  congr 2
  apply Array.ext'
  simp only [Array.toList_setIfInBounds]
  exact he
theorem C6.put {w : World} {N : Nat} {v0 v1 v2 v3 v4 v5 : Value} (h : C6 w N v0 v1 v2 v3 v4 v5) (u0 u1 u2 u3 u4 u5 : Value) : C6 (putC w N u0 u1 u2 u3 u4 u5) N u0 u1 u2 u3 u4 u5 :=
  (((((h.set 0 u0 rfl).set 1 u1 rfl).set 2 u2 rfl).set 3 u3 rfl).set 4 u4 rfl).set 5 u5 rfl
theorem putC_grown (w : World) (N : Nat) (u0 u1 u2 u3 u4 u5 : Value) : w.grownBy (putC w N u0 u1 u2 u3 u4 u5) (some N) :=
  (((((grown_set w N 0 u0).trans (grown_set _ N 1 u1)).trans (grown_set _ N 2 u2)).trans (grown_set _ N 3 u3)).trans (grown_set _ N 4 u4)).trans (grown_set _ N 5 u5)
theorem below_of_grown {w w' : World} {N B : Nat} (h : w.grownBy w' (some N)) (hB : B ≤ N) (hs : B ≤ w.heap.size) : Below B w w' := (Below.refl B w).grown h hs (fun k hk => by cases hk; exact hB)
theorem c6_results2 {fn : Func} {slot s2 N : Nat} (h : fn.results = #[.cell slot 47, .tmp s2]) {tmps : Array Value} (hs : tmps.getD slot undef = .pointer (some ⟨N, 0, none⟩)) {x : Value} (hx : tmps.getD s2 undef = x) {w : World} {v0 v1 v2 v3 v4 v5 : Value} (hb : C6 w N v0 v1 v2 v3 v4 v5) : (results fn tmps).run Tryz.prog w = .ok (.tuple #[.agg #[v0, v1, v2, v3, v4, v5], x]) w := by
  obtain ⟨j0, j1, j2, j3, j4, j5⟩ := hb.cells
  have hs' : tmps[slot]?.getD undef = .pointer (some ⟨N, 0, none⟩) := by simpa using hs
  have hx' : tmps[s2]?.getD undef = x := by simpa using hx
  simp [results, h, go_sem, hs', hx', j0, j1, j2, j3, j4, j5]
end Go.Proofs.YtjehbdekipmllaaGreatDoor
