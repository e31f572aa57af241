/- The program's table of fields: what it is in memory, and what a name finds there. -/
import Derived.Test.YtlhgjicichjbgaaGreatDoorBaseS
import Derived.Test.YtlhgjicichjbgaaGreatDoorScopeMath
import Derived.Maps.OwnSet
import Derived.Deep.WholeRow
import Derived.Test.YtlhgjicichjbgaaGreatDoorLCl
import Derived.Test.YtlhgjicichjbgaaGreatDoorScopesM
namespace Go.Proofs.YtlhgjicichjbgaaGreatDoor
open Go.RowKit

theorem und_map : Tryz.prog.underlying 73 = some (.map 9 113) := by kernel_rfl
theorem und_str : Tryz.prog.underlying 9 = some .string := by kernel_rfl
theorem key_check (w : World) (c : Bool) (k : ByteArray) (hk : k.size ≤ maxLen) : (Instr.checkKey c 10000 9 (.string k)).run Tryz.prog w = .ok () w := (Maps.string_keyed und_str).check w c (WideMaps.keyOf_string_mk und_str hk)
theorem key_find (w : World) (k : ByteArray) (es : List MapEntry) {r : Option (Nat × Value)} (hf : Instr.findNow .string (.string k) es 0 = some r) : (Instr.findKey 9 (.string k) es).run Tryz.prog w = .ok r w := by
  simp [Instr.findKey, run_underlying und_str, Result.andThen, hf]
theorem insert_new (w : World) (es : Array MapEntry) (clock : Nat) (k : ByteArray) (v : Value) (hk : k.size ≤ maxLen) (hf : Instr.findNow .string (.string k) es.toList 0 = some none) :
    (Instr.mapUpdate 73 (.map (some w.heap.size)) (.string k) v).run Tryz.prog (w.alloc (.map es clock)) = .ok () (w.alloc (.map (es.push { key := .string k, val := v, born := clock }) (clock + 1))) := by
  have hb : (w.alloc (.map es clock)).heap[w.heap.size]? = some (.map es clock) := (MapKept.heap_alloc w _).1
  simp [Instr.mapUpdate, run_underlying und_map, MapKept.run_getObj_map hb, key_check _ _ _ hk, key_find _ _ _ hf, MapKept.run_setObj_map _ hb, Result.andThen]
  unfold World.alloc
  simp only [World.mk.injEq, and_true]
  apply Array.ext_getElem?
  intro i
  rw [Array.getElem?_setIfInBounds, Array.getElem?_push, Array.getElem?_push]
  by_cases h : i = w.heap.size
  · subst h; simp
  · rw [if_neg (fun e => h e.symm), if_neg h, if_neg h]
theorem look_in (w : World) (g : Nat) (es : Array MapEntry) (clock : Nat) (k : ByteArray) (i : Nat) (v : Value) (hk : k.size ≤ maxLen) (hb : w.heap[g]? = some (.map es clock)) (hf : Instr.findNow .string (.string k) es.toList 0 = some (some (i, v))) :
    (Instr.lookup 73 (.map (some g)) (.string k) true).run Tryz.prog w = .ok (.tuple #[v, .bool true]) w := by
  simp [Instr.lookup, run_underlying und_map, MapKept.run_getObj_map hb, key_check _ _ _ hk, key_find _ _ _ hf, Result.andThen]
theorem zero_field (w : World) : (zeroValue 113).run Tryz.prog w = .ok (.agg #[.nilFunc, .nilFunc]) w := (zero_of_info (n := 2) (by kernel_rfl)).1 w
theorem look_out (w : World) (g : Nat) (es : Array MapEntry) (clock : Nat) (k : ByteArray) (hk : k.size ≤ maxLen) (hb : w.heap[g]? = some (.map es clock)) (hf : Instr.findNow .string (.string k) es.toList 0 = some none) :
    (Instr.lookup 73 (.map (some g)) (.string k) true).run Tryz.prog w = .ok (.tuple #[.agg #[.nilFunc, .nilFunc], .bool false]) w := by
  simp [Instr.lookup, run_underlying und_map, MapKept.run_getObj_map hb, key_check _ _ _ hk, key_find _ _ _ hf, Result.andThen]


def sId : ByteArray := ⟨#[105, 100]⟩
def sSecret : ByteArray := ⟨#[115, 101, 99, 114, 101, 116]⟩
def sGrants : ByteArray := ⟨#[103, 114, 97, 110, 116, 115]⟩
def sPing : ByteArray := ⟨#[112, 105, 110, 103]⟩
def sUrl : ByteArray := ⟨#[117, 114, 108]⟩
def sScope : ByteArray := ⟨#[115, 99, 111, 112, 101]⟩
def twoF (a b : Nat) : Value := .agg #[.func (.func a) #[] #[], .func (.func b) #[] #[]]
def knownEs : Array MapEntry := #[⟨.string sId, twoF 69 70, 0⟩, ⟨.string sSecret, twoF 71 72, 1⟩, ⟨.string sGrants, twoF 73 74, 2⟩, ⟨.string sPing, twoF 75 76, 3⟩, ⟨.string sUrl, twoF 77 78, 4⟩, ⟨.string sScope, twoF 79 80, 5⟩]
/-- The table of fields lies in block g. -/
def Known (w : World) (g : Nat) : Prop := w.heap[g]? = some (.map knownEs 6)
theorem Known.keep {w w' : World} {g B : Nat} (h : Known w g) (hb : Below B w w') (hg : g < B) : Known w' g := (hb.block g hg).trans h
theorem Known.lt {w : World} {g : Nat} (h : Known w g) : g < w.heap.size := (Array.getElem?_eq_some_iff.1 h).1
set_option maxHeartbeats 400000 in
set_option maxRecDepth 100000 in
theorem fields_any (w : World) :
    Calls Tryz.prog 39 #[] w fun e w' => e = .returned (.map (some w.heap.size)) ∧ w' = w.alloc (.map knownEs 6) := by
  have hmm := @run_makeMap Tryz.prog
  obtain ⟨es1, E1⟩ : ∃ es : Array MapEntry, Hid (es = #[⟨.string sId, twoF 69 70, 0⟩]) := ⟨_, hide rfl⟩
  have h0 : (Instr.mapUpdate 73 (.map (some w.heap.size)) (.string { data := #[105, 100] }) (.agg #[.func (.func 69) #[] #[], .func (.func 70) #[] #[]])).run Tryz.prog (w.alloc (.map #[] 0)) = .ok () (w.alloc (.map es1 1)) := by
    rw [E1.out]; exact insert_new w _ 0 sId _ (by decide) (by rfl)
  obtain ⟨es2, E2⟩ : ∃ es : Array MapEntry, Hid (es = #[⟨.string sId, twoF 69 70, 0⟩, ⟨.string sSecret, twoF 71 72, 1⟩]) := ⟨_, hide rfl⟩
  have h1 : (Instr.mapUpdate 73 (.map (some w.heap.size)) (.string { data := #[115, 101, 99, 114, 101, 116] }) (.agg #[.func (.func 71) #[] #[], .func (.func 72) #[] #[]])).run Tryz.prog (w.alloc (.map es1 1)) = .ok () (w.alloc (.map es2 2)) := by
    rw [E2.out, E1.out]; exact insert_new w _ 1 sSecret _ (by decide) (by rfl)
  obtain ⟨es3, E3⟩ : ∃ es : Array MapEntry, Hid (es = #[⟨.string sId, twoF 69 70, 0⟩, ⟨.string sSecret, twoF 71 72, 1⟩, ⟨.string sGrants, twoF 73 74, 2⟩]) := ⟨_, hide rfl⟩
  have h2 : (Instr.mapUpdate 73 (.map (some w.heap.size)) (.string { data := #[103, 114, 97, 110, 116, 115] }) (.agg #[.func (.func 73) #[] #[], .func (.func 74) #[] #[]])).run Tryz.prog (w.alloc (.map es2 2)) = .ok () (w.alloc (.map es3 3)) := by
    rw [E3.out, E2.out]; exact insert_new w _ 2 sGrants _ (by decide) (by rfl)
  obtain ⟨es4, E4⟩ : ∃ es : Array MapEntry, Hid (es = #[⟨.string sId, twoF 69 70, 0⟩, ⟨.string sSecret, twoF 71 72, 1⟩, ⟨.string sGrants, twoF 73 74, 2⟩, ⟨.string sPing, twoF 75 76, 3⟩]) := ⟨_, hide rfl⟩
  have h3 : (Instr.mapUpdate 73 (.map (some w.heap.size)) (.string { data := #[112, 105, 110, 103] }) (.agg #[.func (.func 75) #[] #[], .func (.func 76) #[] #[]])).run Tryz.prog (w.alloc (.map es3 3)) = .ok () (w.alloc (.map es4 4)) := by
    rw [E4.out, E3.out]; exact insert_new w _ 3 sPing _ (by decide) (by rfl)
  obtain ⟨es5, E5⟩ : ∃ es : Array MapEntry, Hid (es = #[⟨.string sId, twoF 69 70, 0⟩, ⟨.string sSecret, twoF 71 72, 1⟩, ⟨.string sGrants, twoF 73 74, 2⟩, ⟨.string sPing, twoF 75 76, 3⟩, ⟨.string sUrl, twoF 77 78, 4⟩]) := ⟨_, hide rfl⟩
  have h4 : (Instr.mapUpdate 73 (.map (some w.heap.size)) (.string { data := #[117, 114, 108] }) (.agg #[.func (.func 77) #[] #[], .func (.func 78) #[] #[]])).run Tryz.prog (w.alloc (.map es4 4)) = .ok () (w.alloc (.map es5 5)) := by
    rw [E5.out, E4.out]; exact insert_new w _ 4 sUrl _ (by decide) (by rfl)
  obtain ⟨es6, E6⟩ : ∃ es : Array MapEntry, Hid (es = #[⟨.string sId, twoF 69 70, 0⟩, ⟨.string sSecret, twoF 71 72, 1⟩, ⟨.string sGrants, twoF 73 74, 2⟩, ⟨.string sPing, twoF 75 76, 3⟩, ⟨.string sUrl, twoF 77 78, 4⟩, ⟨.string sScope, twoF 79 80, 5⟩]) := ⟨_, hide rfl⟩
  have h5 : (Instr.mapUpdate 73 (.map (some w.heap.size)) (.string { data := #[115, 99, 111, 112, 101] }) (.agg #[.func (.func 79) #[] #[], .func (.func 80) #[] #[]])).run Tryz.prog (w.alloc (.map es5 5)) = .ok () (w.alloc (.map es6 6)) := by
    rw [E6.out, E5.out]; exact insert_new w _ 5 sScope _ (by decide) (by rfl)
  have HE : Hid (es6 = knownEs) := E6
  clear E1 E2 E3 E4 E5 E6
  go_enter Tryz.func39, Tryz.ntmps39
  go_wp2
  go_ret
  exact ⟨rfl, by rw [HE.out]⟩
theorem out_none (k : ByteArray) (h0 : k ≠ sId) (h1 : k ≠ sSecret) (h2 : k ≠ sGrants) (h3 : k ≠ sPing) (h4 : k ≠ sUrl) (h5 : k ≠ sScope) : Instr.findNow .string (.string k) knownEs.toList 0 = some none := by
  have e : ∀ b : ByteArray, k ≠ b → (k == b) = false := fun b h => by
    show (k.data == b.data) = false
    rw [beq_eq_false_iff_ne]
    intro e; apply h; cases k; cases b; simp_all
  simp [knownEs, Instr.findNow, Instr.sameNow, e _ h0, e _ h1, e _ h2, e _ h3, e _ h4, e _ h5]
end Go.Proofs.YtlhgjicichjbgaaGreatDoor
/- What the table's functions read into a client: Id, Secret, Url, Ping. -/
namespace Go.Proofs.YtlhgjicichjbgaaGreatDoor
open Go.RowKit

def sYes : ByteArray := ⟨#[121, 101, 115]⟩
theorem str_eq (a b : ByteArray) : (a.toList == b.toList) = decide (a = b) := by
  rw [Bool.eq_iff_iff, Lib.toList_data, Lib.toList_data]
  simp only [beq_iff_eq, decide_eq_true_eq]
  constructor
  · intro h; cases a; cases b; simp_all
  · intro h; rw [h]
set_option maxHeartbeats 400000 in
set_option maxRecDepth 100000 in
theorem readId_any (g : Nat) (c : Cl) (so : Option Addr) (n cp : Nat) (v : ByteArray) (w : World) (h : CB w g c so n cp) :
    Calls Tryz.prog 69 #[.pointer (some ⟨g, 0, none⟩), .string v] w fun e w' => e = .returned (.bool true) ∧ w' = w.setCell ⟨g, 0, none⟩ (.string v) := by
  have hg := h.lt
  have hc := h.six.1
  have hf := h.frozen 0
  go_enter Tryz.func69, Tryz.ntmps69
  go_wp2
  go_ret
  exact ⟨rfl, rfl⟩
set_option maxHeartbeats 400000 in
set_option maxRecDepth 100000 in
theorem readSecret_any (g : Nat) (c : Cl) (so : Option Addr) (n cp : Nat) (v : ByteArray) (w : World) (h : CB w g c so n cp) :
    Calls Tryz.prog 71 #[.pointer (some ⟨g, 0, none⟩), .string v] w fun e w' => e = .returned (.bool true) ∧ w' = w.setCell ⟨g, 1, none⟩ (.string v) := by
  have hg := h.lt
  have hc := h.six.2.1
  have hf := h.frozen 1
  go_enter Tryz.func71, Tryz.ntmps71
  go_wp2
  go_ret
  exact ⟨rfl, rfl⟩
set_option maxHeartbeats 400000 in
set_option maxRecDepth 100000 in
theorem readUrl_any (g : Nat) (c : Cl) (so : Option Addr) (n cp : Nat) (v : ByteArray) (w : World) (h : CB w g c so n cp) :
    Calls Tryz.prog 77 #[.pointer (some ⟨g, 0, none⟩), .string v] w fun e w' => e = .returned (.bool true) ∧ w' = w.setCell ⟨g, 4, none⟩ (.string v) := by
  have hg := h.lt
  have hc := h.six.2.2.2.2.1
  have hf := h.frozen 4
  go_enter Tryz.func77, Tryz.ntmps77
  go_wp2
  go_ret
  exact ⟨rfl, rfl⟩
set_option maxHeartbeats 400000 in
set_option maxRecDepth 100000 in
theorem readPing_any (g : Nat) (c : Cl) (so : Option Addr) (n cp : Nat) (v : ByteArray) (w : World) (h : CB w g c so n cp) :
    Calls Tryz.prog 75 #[.pointer (some ⟨g, 0, none⟩), .string v] w fun e w' => e = .returned (.bool (decide (v = sYes))) ∧ w' = w.setCell ⟨g, 3, none⟩ (.bool (decide (v = sYes))) := by
  have hg := h.lt
  have hc := h.six.2.2.2.1
  have hf := h.frozen 3
  obtain ⟨b, HB⟩ : ∃ b, Hid (b = decide (v = sYes)) := ⟨_, hide rfl⟩
  have hb : (v.toList == [121, 101, 115]) = b := by rw [HB.out, ← str_eq v sYes, Lib.toList_data sYes]; rfl
  rw [← HB.out]
  clear HB
  go_enter Tryz.func75, Tryz.ntmps75
  go_wp2
  go_ret
  exact ⟨rfl, rfl⟩
end Go.Proofs.YtlhgjicichjbgaaGreatDoor
/- What the table's functions read into a client: Grants, Scopes. -/
namespace Go.Proofs.YtlhgjicichjbgaaGreatDoor
open Go.RowKit

def uDevice : U := [100, 101, 118, 105, 99, 101]
def uCiba : U := [99, 105, 98, 97]
def grStep (u : U) (k : Nat) : Option Nat := if u = uDevice then some (k ||| 1) else if u = uCiba then some (k ||| 2) else none
def grFold (l : List U) (k : Nat) : Option Nat := l.foldl (fun a u => a.bind (grStep u)) (some k)
theorem grFold_snoc (l : List U) (u : U) (k : Nat) : grFold (l ++ [u]) k = (grFold l k).bind (grStep u) := by simp [grFold]
theorem grFold_bad {l : List U} {k j : Nat} (h : grFold (l.take j) k = none) : grFold l k = none := by
  have hn : ∀ r : List U, r.foldl (fun a u => a.bind (grStep u)) none = none := by
    intro r; induction r with
    | nil => rfl
    | cons u r ih => simpa using ih
  unfold grFold at *
  rw [← List.take_append_drop j l, List.foldl_append, h]
  exact hn _
def grantsR (v : U) (k : Nat) : Option Nat := match grFold (scoOut v).1 k with | some j => if (scoOut v).2 = 0 then some j else none | none => none
theorem SRow.grownR {w w' : World} {ao : Option Addr} {l : List U} {row : Option Nat} (h : SRow w ao l) (hg : w.grownBy w' row) (hne : ∀ a, ao = some a → l ≠ [] → some a.block ≠ row) : SRow w' ao l := by
  rcases h with h | ⟨b, off, rfl, hc⟩
  · exact .inl h
  · by_cases h0 : l = []
    · exact .inl h0
    · exact .inr ⟨b, off, rfl, fun i u hi => hg.cell (hc i u hi) (hne ⟨b, off, none⟩ rfl h0)⟩
theorem SRow.grown {w w' : World} {ao : Option Addr} {l : List U} {g : Nat} (h : SRow w ao l) (hg : w.grownBy w' (some g)) (hne : ∀ a, ao = some a → a.block ≠ g) : SRow w' ao l := by
  rcases h with h | ⟨b, off, rfl, hc⟩
  · exact .inl h
  · exact .inr ⟨b, off, rfl, fun i u hi => hg.cell (hc i u hi) (fun e => hne _ rfl (by simpa using e))⟩
theorem u_eq (u : U) (l : List UInt8) : ((⟨u.toArray⟩ : ByteArray).toList == l) = decide (u = l) := by
  rw [Lib.toList_data, Bool.eq_iff_iff]; simp
def withG (c : Cl) (k : Nat) : Cl := { c with grants := (k : Int) }
theorem take_u {l : List U} {k : Nat} {u : U} (h : l[k]? = some u) : l.take (k + 1) = l.take k ++ [u] := by rw [List.take_add_one, h]; rfl
/-- What readGrants leaves. -/
def GrPost (w w' : World) (g : Nat) (c : Cl) (so : Option Addr) (n cp : Nat) (R : Option Nat) (b : Bool) : Prop := ∃ k, k ≤ 3 ∧ b = R.isSome ∧ (∀ j, R = some j → k = j) ∧ CB w' g (withG c k) so n cp ∧ w.grownBy w' (some g)
def GrEnd (w : World) (g : Nat) (c : Cl) (so : Option Addr) (n cp : Nat) (R : Option Nat) (e : Ending) (w' : World) : Prop := ∃ b, e = .returned (.bool b) ∧ GrPost w w' g c so n cp R b
set_option maxHeartbeats 1000000 in
set_option maxRecDepth 100000 in
theorem readGrants_any (g : Nat) (c : Cl) (so : Option Addr) (n cp k0 : Nat) (v : ByteArray) (w : World) (h : CB w g (withG c k0) so n cp) (hk0 : k0 ≤ 3) (hM : MaxL w) (hv : v.size ≤ 9223372036854775807) :
    Calls Tryz.prog 73 #[.pointer (some ⟨g, 0, none⟩), .string v] w fun e w' => True ∧ GrEnd w g c so n cp (grantsR v.data.toList k0) e w' := by
  have HC : Hid (CB w g (withG c k0) so n cp) := h
  have hg := h.lt
  obtain ⟨l, er, hO⟩ : ∃ l er, scoOut v.data.toList = (l, er) := ⟨_, _, rfl⟩
  have HR : Hid (∀ j, grantsR v.data.toList j = match grFold l j with | some j => if er = 0 then some j else none | none => none) := by
    intro j; unfold grantsR; rw [hO]
  obtain ⟨R, HRR⟩ : ∃ R, Hid (R = grantsR v.data.toList k0) := ⟨_, hide rfl⟩
  rw [← HRR.out]
  obtain ⟨m, hm⟩ : ∃ m, m = l.length := ⟨_, rfl⟩
  have HL : Hid (m = l.length) := hm
  have hm32 : m ≤ 32 := by have h32 : (scoOut v.data.toList).1.length ≤ 32 := scoOut_len _; rw [hO] at h32; rw [hm]; exact h32
  have HS := scopes_m v l er m w hO hm hv hM
  clear hm hO h
  go_enter Tryz.func73, Tryz.ntmps73
  go_wp2_with (go_at_call 61; refine HS.mono ?_)
  rintro e w1 ⟨fo, fc, rfl, HO⟩
  have HG1 : Hid (w.grownBy w1 (some g)) := ⟨HO.out.2.os, HO.out.2.tape, HO.out.2.output, HO.out.2.size, fun k hk _ => HO.out.2.block k hk⟩
  have HC1 : Hid (CB w1 g (withG c k0) so n cp) := HC.out.keep HO.out.2 hg
  have HRW : Hid (SRow w1 fo l) := HO.out.1.row
  have HNE : Hid (∀ a, fo = some a → a.block ≠ g) := by
    intro a ha
    obtain ⟨a', c', e, _, _, hb⟩ := HO.out.1.shape
    cases e
    have := hb a ha
    omega
  clear HO HS
  go_wp2
  go_loopw [16] (fun i wr => ∃ k j : Nat, k ≤ m ∧ j ≤ 3 ∧ i = .int .i64 (k : Int) ∧ Hid (grFold (l.take k) k0 = some j) ∧ Hid (CB wr g (withG c j) so n cp) ∧ Hid (w1.grownBy wr (some g))) (fun i _ => m - (intOf i).toNat)
  case atStart => exact ⟨0, k0, Nat.zero_le _, hk0, rfl, rfl, HC1, World.grownBy.refl _ _⟩
  case round =>
    obtain ⟨k, j, hk, hj, rfl, HF, HCB, HGR⟩ := hrel
    by_cases hlt : k < m
    · obtain ⟨b, off, rfl⟩ := HRW.out.form (by rw [← HL.out]; omega)
      obtain ⟨u, hu⟩ : ∃ u, l[k]? = some u := ⟨_, List.getElem?_eq_getElem (by rw [← HL.out]; exact hlt)⟩
      have c0 : wr.cell? ⟨b, off + k, none⟩ = some (.string ⟨u.toArray⟩) := (HRW.out.grown HGR.out HNE.out).cell hu
      have HST : Hid (grFold (l.take (k + 1)) k0 = grStep u j) := by show _ = _; rw [take_u hu, grFold_snoc, HF.out]; rfl
      have hgr : wr.cell? ⟨g, 2, none⟩ = some (.int .i64 (j : Int)) := HCB.out.six.2.2.1
      have hfz := HCB.out.frozen 2
      have hgl := HCB.out.lt
      clear hu HF
      by_cases h1 : u = uDevice
      · have hb1 : ((⟨u.toArray⟩ : ByteArray).toList == [100, 101, 118, 105, 99, 101]) = true := by rw [u_eq, h1]; rfl
        have HS2 : Hid (grFold (l.take (k + 1)) k0 = some (j ||| 1)) := by show _ = _; rw [HST.out]; unfold grStep; rw [if_pos h1]
        clear h1 HST
        have HCN : ∀ v : Int, v = ((j ||| 1 : Nat) : Int) → CB (wr.setCell ⟨g, 2, none⟩ (.int .i64 v)) g (withG c (j ||| 1)) so n cp := fun v hv => HCB.out.put 2 _ (by rw [hv]; rfl)
        have HCN' : Hid (∀ v : Int, v = ((j ||| 1 : Nat) : Int) → CB (wr.setCell ⟨g, 2, none⟩ (.int .i64 v)) g (withG c (j ||| 1)) so n cp) := HCN
        clear HCN
        generalize (⟨u.toArray⟩ : ByteArray) = uu at *
        obtain rfl | rfl | rfl | rfl : j = 0 ∨ j = 1 ∨ j = 2 ∨ j = 3 := by omega
        all_goals
          go_wp2
          go_roundw
          case rel => exact ⟨k + 1, _, by omega, by decide, by go_num, HS2, HCN'.out _ rfl, HGR.out.trans (grown_set _ _ _ _)⟩
          case measure => simp [intOf]; omega
      · have hb1 : ((⟨u.toArray⟩ : ByteArray).toList == [100, 101, 118, 105, 99, 101]) = false := by rw [u_eq, decide_eq_false]; exact h1
        by_cases h2 : u = uCiba
        · have hb2 : ((⟨u.toArray⟩ : ByteArray).toList == [99, 105, 98, 97]) = true := by rw [u_eq, h2]; rfl
          have HS2 : Hid (grFold (l.take (k + 1)) k0 = some (j ||| 2)) := by show _ = _; rw [HST.out]; unfold grStep; rw [if_neg h1, if_pos h2]
          clear h1 h2 HST
          have HCN : ∀ v : Int, v = ((j ||| 2 : Nat) : Int) → CB (wr.setCell ⟨g, 2, none⟩ (.int .i64 v)) g (withG c (j ||| 2)) so n cp := fun v hv => HCB.out.put 2 _ (by rw [hv]; rfl)
          have HCN' : Hid (∀ v : Int, v = ((j ||| 2 : Nat) : Int) → CB (wr.setCell ⟨g, 2, none⟩ (.int .i64 v)) g (withG c (j ||| 2)) so n cp) := HCN
          clear HCN
          generalize (⟨u.toArray⟩ : ByteArray) = uu at *
          obtain rfl | rfl | rfl | rfl : j = 0 ∨ j = 1 ∨ j = 2 ∨ j = 3 := by omega
          all_goals
            go_wp2
            go_roundw
            case rel => exact ⟨k + 1, _, by omega, by decide, by go_num, HS2, HCN'.out _ rfl, HGR.out.trans (grown_set _ _ _ _)⟩
            case measure => simp [intOf]; omega
        · have hb2 : ((⟨u.toArray⟩ : ByteArray).toList == [99, 105, 98, 97]) = false := by rw [u_eq, decide_eq_false]; exact h2
          have HN : Hid (R = none) := by
            show _ = _
            rw [HRR.out, HR.out, grFold_bad (j := k + 1) (by rw [HST.out]; unfold grStep; rw [if_neg h1, if_neg h2])]
          clear h1 h2 HST
          generalize (⟨u.toArray⟩ : ByteArray) = uu at *
          go_wp2
          go_ret
          refine (fun h => by first | exact ⟨trivial, h⟩ | exact h) (?_ : GrEnd w g c so n cp R _ _)
          exact ⟨_, rfl, j, hj, by rw [HN.out]; rfl, by rw [HN.out]; intro _ h; exact absurd h (by simp), HCB.out, HG1.out.trans HGR.out⟩
    · have HE : Hid (R = if er = 0 then some j else none) := by
        show _ = _
        have := HF.out
        rw [List.take_of_length_le (by rw [← HL.out]; omega)] at this
        rw [HRR.out, HR.out, this]
      clear HF
      by_cases h0 : er = 0
      · subst h0
        have HE2 : Hid (R = some j) := HE
        clear HE
        go_wp2
        go_ret
        refine (fun h => by first | exact ⟨trivial, h⟩ | exact h) (?_ : GrEnd w g c so n cp R _ _)
        exact ⟨_, rfl, j, hj, by rw [HE2.out]; rfl, by rw [HE2.out]; intro _ h; exact Option.some.inj h, HCB.out, HG1.out.trans HGR.out⟩
      · have HE2 : Hid (R = none) := by show _ = _; rw [HE.out, if_neg h0]
        have h0i : ((er : Int) == 0) = false := by simp; omega
        clear HE
        go_wp2
        go_ret
        refine (fun h => by first | exact ⟨trivial, h⟩ | exact h) (?_ : GrEnd w g c so n cp R _ _)
        exact ⟨_, rfl, j, hj, by rw [HE2.out]; rfl, by rw [HE2.out]; intro _ h; exact absurd h (by simp), HCB.out, HG1.out.trans HGR.out⟩
def withS (c : Cl) (l : List U) : Cl := { c with scopes := l }
def ScEnd (w : World) (g : Nat) (c : Cl) (l : List U) (er : Nat) (e : Ending) (w' : World) : Prop := ∃ so' n' cp', e = .returned (.bool (decide (er = 0))) ∧ CB w' g (withS c l) so' n' cp' ∧ SAt w' so' n' cp' l ∧ (∀ a, so' = some a → w.heap.size ≤ a.block) ∧ w.grownBy w' (some g)
set_option maxHeartbeats 1000000 in
set_option maxRecDepth 100000 in
theorem readScopes_any (g : Nat) (c : Cl) (so : Option Addr) (n cp : Nat) (v : ByteArray) (w : World) (h : CB w g c so n cp) (hM : MaxL w) (hv : v.size ≤ 9223372036854775807) :
    Calls Tryz.prog 79 #[.pointer (some ⟨g, 0, none⟩), .string v] w fun e w' => True ∧ ScEnd w g c (scoOut v.data.toList).1 (scoOut v.data.toList).2 e w' := by
  have HC : Hid (CB w g c so n cp) := h
  have hg := h.lt
  obtain ⟨l, er, hO⟩ : ∃ l er, scoOut v.data.toList = (l, er) := ⟨_, _, rfl⟩
  obtain ⟨m, hm⟩ : ∃ m, m = l.length := ⟨_, rfl⟩
  have HL : Hid (m = l.length) := hm
  have HS := scopes_m v l er m w hO hm hv hM
  rw [hO]
  clear hm hO h
  go_enter Tryz.func79, Tryz.ntmps79
  go_wp2_with (go_at_call 61; refine HS.mono ?_)
  rintro e w1 ⟨fo, fc, rfl, HO⟩
  have HG1 : Hid (w.grownBy w1 (some g)) := ⟨HO.out.2.os, HO.out.2.tape, HO.out.2.output, HO.out.2.size, fun k hk _ => HO.out.2.block k hk⟩
  have HC1 : Hid (CB w1 g c so n cp) := HC.out.keep HO.out.2 hg
  have HRW : Hid (SRow w1 fo l) := HO.out.1.row
  have HTY : Hid (STy w1 fo l) := HO.out.1.ty
  have HNE : Hid ((∀ a, fo = some a → w.heap.size ≤ a.block) ∧ m ≤ fc) := by
    obtain ⟨a', c', e, hle, _, hb⟩ := HO.out.1.shape
    cases e
    exact ⟨hb, hle⟩
  clear HO HS
  have hgl := HC1.out.lt
  have hcc := HC1.out.six.2.2.2.2.2
  have hfz := HC1.out.frozen 5
  have HX : Hid (CB (w1.setCell ⟨g, 5, none⟩ (.slice fo m fc)) g (withS c l) fo m fc ∧ SAt (w1.setCell ⟨g, 5, none⟩ (.slice fo m fc)) fo m fc l ∧ w.grownBy (w1.setCell ⟨g, 5, none⟩ (.slice fo m fc)) (some g)) := by
    have hne : ∀ a, fo = some a → a.block ≠ g := fun a ha => by have := HNE.out.1 a ha; omega
    exact ⟨HC1.out.put 5 _ rfl, ⟨HL.out, HNE.out.2, HRW.out.grown (grown_set _ _ _ _) hne, HTY.out.grown (grown_set _ _ _ _) (fun a ha _ e => hne a ha (by simpa using e))⟩, HG1.out.trans (grown_set _ _ _ _)⟩
  by_cases h0 : er = 0
  · subst h0
    go_wp2
    go_ret
    exact ⟨trivial, fo, m, fc, rfl, HX.out.1, HX.out.2.1, HNE.out.1, HX.out.2.2⟩
  · have h0i : ((er : Int) == 0) = false := by simp; omega
    go_wp2
    go_ret
    exact ⟨trivial, fo, m, fc, by rw [decide_eq_false h0]; rfl, HX.out.1, HX.out.2.1, HNE.out.1, HX.out.2.2⟩
end Go.Proofs.YtlhgjicichjbgaaGreatDoor
