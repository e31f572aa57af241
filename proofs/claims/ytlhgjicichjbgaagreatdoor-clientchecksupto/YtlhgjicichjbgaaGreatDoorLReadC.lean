/- What is read into a client, whatever the name; a client laid into a block of six cells. -/
import Derived.Test.YtlhgjicichjbgaaGreatDoorLMath
namespace Go.Proofs.YtlhgjicichjbgaaGreatDoor
open Go.RowKit

/-- A client in block g, with all that is known of one that is being read. -/
structure ClAt (w : World) (g : Nat) (c : Cl) (so : Option Addr) (n cp : Nat) : Prop where
  cb : CB w g c so n cp
  sat : SAt w so n cp c.scopes
  far : ∀ a, so = some a → g < a.block
  gr : ∃ k : Nat, k ≤ 3 ∧ c.grants = (k : Int)
  small : ScSmall c.scopes
  sizes : c.id.size ≤ 9223372036854775807 ∧ c.secret.size ≤ 9223372036854775807 ∧ c.url.size ≤ 9223372036854775807
theorem ClAt.keep {w w' : World} {g : Nat} {c : Cl} {so : Option Addr} {n cp : Nat} (h : ClAt w g c so n cp) (hb : Below w.heap.size w w') : ClAt w' g c so n cp := ⟨h.cb.keep hb h.cb.lt, h.sat.keep hb, h.far, h.gr, h.small, h.sizes⟩
def readFn (nm : ByteArray) : Nat := if nm = sId then 69 else if nm = sSecret then 71 else if nm = sGrants then 73 else if nm = sPing then 75 else if nm = sUrl then 77 else 79
def writeFn (nm : ByteArray) : Nat := if nm = sId then 70 else if nm = sSecret then 72 else if nm = sGrants then 74 else if nm = sPing then 76 else if nm = sUrl then 78 else 80
def RdEnd (w : World) (g : Nat) (R : Option Cl) (e : Ending) (w' : World) : Prop := ∃ c' so' n' cp', e = .returned (.bool R.isSome) ∧ (∀ c2, R = some c2 → c' = c2) ∧ ClAt w' g c' so' n' cp' ∧ w.grownBy w' (some g)
theorem SAt.grown {w w' : World} {so : Option Addr} {n cp g : Nat} {l : List U} (h : SAt w so n cp l) (hg : w.grownBy w' (some g)) (hne : ∀ a, so = some a → g < a.block) : SAt w' so n cp l := ⟨h.1, h.2.1, h.2.2.1.grown hg (fun a ha => by have := hne a ha; omega), h.2.2.2.grown hg (fun a ha _ e => by have := hne a ha; simp only [Option.some.injEq] at e; omega)⟩
theorem six_names {nm : ByteArray} (h : isName nm = true) : nm = sId ∨ nm = sSecret ∨ nm = sGrants ∨ nm = sPing ∨ nm = sUrl ∨ nm = sScope := by simpa [isName] using h
theorem read_any (nm : ByteArray) (hnm : isName nm = true) (g : Nat) (c : Cl) (so : Option Addr) (n cp : Nat) (v : ByteArray) (w : World) (h : ClAt w g c so n cp) (hM : MaxL w) (hv : v.size ≤ 9223372036854775807) :
    Calls Tryz.prog (readFn nm) #[.pointer (some ⟨g, 0, none⟩), .string v] w fun e w' => True ∧ RdEnd w g (fieldR nm c v) e w' := by
  rcases six_names hnm with rfl | rfl | rfl | rfl | rfl | rfl
  · refine (readId_any g c so n cp v w h.cb).mono ?_
    rintro e w' ⟨rfl, rfl⟩
    exact ⟨trivial, { c with id := v }, so, n, cp, rfl, fun c2 h2 => by cases h2; rfl, ⟨h.cb.put 0 _ rfl, h.sat.grown (grown_set _ _ _ _) h.far, h.far, h.gr, h.small, hv, h.sizes.2⟩, grown_set _ _ _ _⟩
  · refine (readSecret_any g c so n cp v w h.cb).mono ?_
    rintro e w' ⟨rfl, rfl⟩
    exact ⟨trivial, { c with secret := v }, so, n, cp, rfl, fun c2 h2 => by cases h2; rfl, ⟨h.cb.put 1 _ rfl, h.sat.grown (grown_set _ _ _ _) h.far, h.far, h.gr, h.small, h.sizes.1, hv, h.sizes.2.2⟩, grown_set _ _ _ _⟩
  · obtain ⟨k, hk, hgr⟩ := h.gr
    have hcc : c = withG c k := by unfold withG; rw [← hgr]
    have hcb : CB w g (withG c k) so n cp := by rw [← hcc]; exact h.cb
    have e0 : fieldR sGrants c v = (grantsR v.data.toList k).map (withG c) := by
      have : c.grants.toNat = k := by rw [hgr]; rfl
      show (grantsR v.data.toList c.grants.toNat).map (withG c) = _
      rw [this]
    rw [e0]
    refine (readGrants_any g c so n cp k v w hcb hk hM hv).mono ?_
    rintro e w' ⟨_, b, rfl, j, hj, rfl, hR, hc', hg⟩
    refine ⟨trivial, withG c j, so, n, cp, by rw [Option.isSome_map], ?_, ⟨hc', h.sat.grown hg h.far, h.far, ⟨j, hj, rfl⟩, h.small, h.sizes⟩, hg⟩
    intro c2 h2
    obtain ⟨j2, hj2, rfl⟩ := Option.map_eq_some_iff.1 h2
    rw [hR j2 hj2]
  · refine (readPing_any g c so n cp v w h.cb).mono ?_
    rintro e w' ⟨rfl, rfl⟩
    by_cases hy : v = sYes
    · have e0 : fieldR sPing c v = some { c with ping := true } := by
        show (if v = sYes then _ else _) = _
        rw [if_pos hy]
      rw [e0, decide_eq_true hy]
      exact ⟨trivial, { c with ping := true }, so, n, cp, rfl, fun c2 h2 => by cases h2; rfl, ⟨h.cb.put 3 _ rfl, h.sat.grown (grown_set _ _ _ _) h.far, h.far, h.gr, h.small, h.sizes⟩, grown_set _ _ _ _⟩
    · have e0 : fieldR sPing c v = none := by
        show (if v = sYes then _ else _) = _
        rw [if_neg hy]
      rw [e0, decide_eq_false hy]
      exact ⟨trivial, { c with ping := false }, so, n, cp, rfl, fun c2 h2 => (by cases h2), ⟨h.cb.put 3 _ rfl, h.sat.grown (grown_set _ _ _ _) h.far, h.far, h.gr, h.small, h.sizes⟩, grown_set _ _ _ _⟩
  · refine (readUrl_any g c so n cp v w h.cb).mono ?_
    rintro e w' ⟨rfl, rfl⟩
    exact ⟨trivial, { c with url := v }, so, n, cp, rfl, fun c2 h2 => by cases h2; rfl, ⟨h.cb.put 4 _ rfl, h.sat.grown (grown_set _ _ _ _) h.far, h.far, h.gr, h.small, h.sizes.1, h.sizes.2.1, hv⟩, grown_set _ _ _ _⟩
  · refine (readScopes_any g c so n cp v w h.cb hM hv).mono ?_
    rintro e w' ⟨_, so', n', cp', rfl, hc', hs', hf, hg⟩
    have hl := h.cb.lt
    have hat : ClAt w' g (withS c (scoOut v.data.toList).1) so' n' cp' := ⟨hc', hs', fun a ha => by have := hf a ha; omega, h.gr, scSmall_out _, h.sizes⟩
    by_cases h0 : (scoOut v.data.toList).2 = 0
    · have e0 : fieldR sScope c v = some (withS c (scoOut v.data.toList).1) := by
        show (if (scoOut v.data.toList).2 = 0 then _ else _) = _
        rw [if_pos h0]
      rw [e0]
      exact ⟨trivial, _, so', n', cp', by rw [decide_eq_true h0]; rfl, fun c2 h2 => by cases h2; rfl, hat, hg⟩
    · have e0 : fieldR sScope c v = none := by
        show (if (scoOut v.data.toList).2 = 0 then _ else _) = _
        rw [if_neg h0]
      rw [e0]
      exact ⟨trivial, _, so', n', cp', by rw [decide_eq_false h0]; rfl, fun c2 h2 => (by cases h2), hat, hg⟩
theorem known_look (w : World) (gm : Nat) (nm : ByteArray) (hK : Known w gm) (hnm : isName nm = true) (hs : nm.size ≤ maxLen) :
    (Instr.lookup 73 (.map (some gm)) (.string nm) true).run Tryz.prog w = .ok (.tuple #[.agg #[.func (.func (readFn nm)) #[] #[], .func (.func (writeFn nm)) #[] #[]], .bool true]) w := by
  rcases six_names hnm with rfl | rfl | rfl | rfl | rfl | rfl
  · exact look_in w gm knownEs 6 sId 0 _ hs hK rfl
  · exact look_in w gm knownEs 6 sSecret 1 _ hs hK rfl
  · exact look_in w gm knownEs 6 sGrants 2 _ hs hK rfl
  · exact look_in w gm knownEs 6 sPing 3 _ hs hK rfl
  · exact look_in w gm knownEs 6 sUrl 4 _ hs hK rfl
  · exact look_in w gm knownEs 6 sScope 5 _ hs hK rfl
theorem known_out (w : World) (gm : Nat) (nm : ByteArray) (hK : Known w gm) (hnm : isName nm = false) (hs : nm.size ≤ maxLen) :
    (Instr.lookup 73 (.map (some gm)) (.string nm) true).run Tryz.prog w = .ok (.tuple #[.agg #[.nilFunc, .nilFunc], .bool false]) w := by
  have h : ¬ (nm = sId ∨ nm = sSecret ∨ nm = sGrants ∨ nm = sPing ∨ nm = sUrl ∨ nm = sScope) := by
    intro h; unfold isName at hnm; rw [decide_eq_true h] at hnm; cases hnm
  exact look_out w gm knownEs 6 nm hs hK (out_none nm (fun e => h (.inl e)) (fun e => h (.inr (.inl e))) (fun e => h (.inr (.inr (.inl e)))) (fun e => h (.inr (.inr (.inr (.inl e))))) (fun e => h (.inr (.inr (.inr (.inr (.inl e)))))) (fun e => h (.inr (.inr (.inr (.inr (.inr e)))))))

/-- Six cells in a block. -/
def C6 (w : World) (N : Nat) (v0 v1 v2 v3 v4 v5 : Value) : Prop := w.heap[N]? = some (.cells #[v0, v1, v2, v3, v4, v5] 27 (0, 0))
def putC (w : World) (N : Nat) (v0 v1 v2 v3 v4 v5 : Value) : World := (((((w.setCell ⟨N, 0, none⟩ v0).setCell ⟨N, 1, none⟩ v1).setCell ⟨N, 2, none⟩ v2).setCell ⟨N, 3, none⟩ v3).setCell ⟨N, 4, none⟩ v4).setCell ⟨N, 5, none⟩ v5
theorem C6.new (w : World) : C6 (w.alloc (.cells #[.string { data := #[] }, .string { data := #[] }, .int .i64 0, .bool false, .string { data := #[] }, .slice none 0 0] 27)) w.heap.size (.string { data := #[] }) (.string { data := #[] }) (.int .i64 0) (.bool false) (.string { data := #[] }) (.slice none 0 0) := heap_alloc_new w _
theorem C6.lt {w : World} {N : Nat} {v0 v1 v2 v3 v4 v5 : Value} (h : C6 w N v0 v1 v2 v3 v4 v5) : N < w.heap.size := (Array.getElem?_eq_some_iff.1 h).1
theorem C6.keep {w w' : World} {N B : Nat} {v0 v1 v2 v3 v4 v5 : Value} (h : C6 w N v0 v1 v2 v3 v4 v5) (hb : Below B w w') (hB : N < B) : C6 w' N v0 v1 v2 v3 v4 v5 := (hb.block N hB).trans h
theorem C6.cells {w : World} {N : Nat} {v0 v1 v2 v3 v4 v5 : Value} (h : C6 w N v0 v1 v2 v3 v4 v5) : w.cell? ⟨N, 0, none⟩ = some v0 ∧ w.cell? ⟨N, 1, none⟩ = some v1 ∧ w.cell? ⟨N, 2, none⟩ = some v2 ∧ w.cell? ⟨N, 3, none⟩ = some v3 ∧ w.cell? ⟨N, 4, none⟩ = some v4 ∧ w.cell? ⟨N, 5, none⟩ = some v5 := by
  refine ⟨?_, ?_, ?_, ?_, ?_, ?_⟩ <;> (rw [cell_of_row w N _ _ 27 (0, 0) h]; rfl)
theorem C6.frozen {w : World} {N : Nat} {v0 v1 v2 v3 v4 v5 : Value} (h : C6 w N v0 v1 v2 v3 v4 v5) (i : Nat) : w.frozen? ⟨N, i, none⟩ = false := by
  simp only [World.frozen?, show w.heap[N]? = _ from h]
  simp
theorem C6.thaw {w : World} {N : Nat} {v0 v1 v2 v3 v4 v5 : Value} (h : C6 w N v0 v1 v2 v3 v4 v5) : w.frozen? ⟨N, 0, none⟩ = false ∧ w.frozen? ⟨N, 1, none⟩ = false ∧ w.frozen? ⟨N, 2, none⟩ = false ∧ w.frozen? ⟨N, 3, none⟩ = false ∧ w.frozen? ⟨N, 4, none⟩ = false ∧ w.frozen? ⟨N, 5, none⟩ = false := ⟨h.frozen 0, h.frozen 1, h.frozen 2, h.frozen 3, h.frozen 4, h.frozen 5⟩
theorem C6.set {w : World} {N : Nat} {v0 v1 v2 v3 v4 v5 : Value} {u0 u1 u2 u3 u4 u5 : Value} (h : C6 w N v0 v1 v2 v3 v4 v5) (i : Nat) (v : Value) (he : ([v0, v1, v2, v3, v4, v5] : List Value).set i v = [u0, u1, u2, u3, u4, u5]) : C6 (w.setCell ⟨N, i, none⟩ v) N u0 u1 u2 u3 u4 u5 := by
  show _ = _
  rw [setCell_eq_setRow w N i _ _ _ _ h, setRow_heap w N _ _ _ _ h]
  congr 2
  apply Array.ext'
  simp only [Array.toList_setIfInBounds]
  exact he
theorem C6.put {w : World} {N : Nat} {v0 v1 v2 v3 v4 v5 : Value} (h : C6 w N v0 v1 v2 v3 v4 v5) (u0 u1 u2 u3 u4 u5 : Value) : C6 (putC w N u0 u1 u2 u3 u4 u5) N u0 u1 u2 u3 u4 u5 :=
  (((((h.set 0 u0 rfl).set 1 u1 rfl).set 2 u2 rfl).set 3 u3 rfl).set 4 u4 rfl).set 5 u5 rfl
theorem putC_grown (w : World) (N : Nat) (u0 u1 u2 u3 u4 u5 : Value) : w.grownBy (putC w N u0 u1 u2 u3 u4 u5) (some N) :=
  (((((grown_set w N 0 u0).trans (grown_set _ N 1 u1)).trans (grown_set _ N 2 u2)).trans (grown_set _ N 3 u3)).trans (grown_set _ N 4 u4)).trans (grown_set _ N 5 u5)
theorem below_of_grown {w w' : World} {N B : Nat} (h : w.grownBy w' (some N)) (hB : B ≤ N) (hs : B ≤ w.heap.size) : Below B w w' := (Below.refl B w).grown h hs (fun k hk => by cases hk; exact hB)
theorem c6_results2 {fn : Func} {slot s2 N : Nat} (h : fn.results = #[.cell slot 27, .tmp s2]) {tmps : Array Value} (hs : tmps.getD slot undef = .pointer (some ⟨N, 0, none⟩)) {x : Value} (hx : tmps.getD s2 undef = x) {w : World} {v0 v1 v2 v3 v4 v5 : Value} (hb : C6 w N v0 v1 v2 v3 v4 v5) : (results fn tmps).run Tryz.prog w = .ok (.tuple #[.agg #[v0, v1, v2, v3, v4, v5], x]) w := by
  obtain ⟨j0, j1, j2, j3, j4, j5⟩ := hb.cells
  have hs' : tmps[slot]?.getD undef = .pointer (some ⟨N, 0, none⟩) := by simpa using hs
  have hx' : tmps[s2]?.getD undef = x := by simpa using hx
  simp [results, h, go_sem, hs', hx', j0, j1, j2, j3, j4, j5]
end Go.Proofs.YtlhgjicichjbgaaGreatDoor
