/- What the document's value answers; one item more, in a world of which all is known. -/
import Derived.Test.YtlebockgdonceaaGreatDoorRPl
import Derived.Test.YtlebockgdonceaaGreatDoorKObj
import Derived.Test.YtlebockgdonceaaGreatDoorKWhole
import Derived.Maps.AppendAt
namespace Go.Proofs.YtlebockgdonceaaGreatDoor
open Go.RowKit

def gotX (x : JV) (q : Nat) : Value := gotV x.k x.t (.slice x.an x.ln x.cn) (.slice x.ai x.li x.ci) q 0 0
/-- What value and items answer. -/
def RVAns (o : Out J) (w : World) (ε : Ending) (w' : World) : Prop := match o with
  | .ok j q => ∃ x : JV, ε = .returned (gotX x q) ∧ JRep w' j x (fun b => w.heap.size ≤ b ∧ b < w'.heap.size) ∧ Below w.heap.size w w'
  | .error e q => ε = .returned (badV e q) ∧ Below w.heap.size w w'
theorem rv_ok {o : Out J} {j : J} {q : Nat} {w w' : World} {x : JV} (h : o = .ok j q) (hj : JRep w' j x (fun b => w.heap.size ≤ b ∧ b < w'.heap.size)) (hb : Below w.heap.size w w') : RVAns o w (.returned (gotX x q)) w' := by
  rw [h]; exact ⟨x, rfl, hj, hb⟩
theorem rv_bad {o : Out J} {e q : Nat} {w w' : World} (h : o = .error e q) (hb : Below w.heap.size w w') : RVAns o w (.returned (badV e q)) w' := by
  rw [h]; exact ⟨rfl, hb⟩
/-- The document's value at a depth. -/
def RValOk (d : Nat) : Prop := ∀ (s : ByteArray) (p : Nat) (w : World), ChFacts s → s.size ≤ 16384 → p ≤ s.size → Calls Tryz.prog 10 #[.string s, .int .i64 (p : Int), .int .i64 (32 - (d : Int))] w fun ε w' => RVAns (vAt (sbytes s) d p) w ε w'
/-- One item more. -/
theorem Parts.item1 {w w2 w3 W : World} {V lo : Nat} {k : Int} {ns : List By} {js : List J} {an ai : Option Addr} {ln cn li ci : Nat} {vs : List JV} {F : Nat → Prop} {x : JV} {ai' : Option Addr} {li' ci' : Nat} (h : Parts w V lo k ns js an ai ln cn li ci vs F) (hVl : V < lo)
    (hb2 : Below w.heap.size w w2) (hown : JOwn w3 lo (.slice ai' li' ci') (vs ++ [x])) (hgr : w2.grownBy w3 (Value.ownBlock (.slice ai li ci))) (hloc : Value.ownBlock (.slice ai' li' ci') = Value.ownBlock (.slice ai li ci) ∨ Value.ownBlock (.slice ai' li' ci') = some w2.heap.size)
    (hW : W = w3.setCell ⟨V, 3, none⟩ (.slice ai' li' ci')) {j : J} {F1 : Nat → Prop} (hj : JRep w j x F1) (f1 : ∀ b, F1 b → lo ≤ b ∧ b < w.heap.size) (f2 : ∀ b, F b → F1 b → False) (f3 : ∀ b, Value.ownBlock (.slice an ln cn) = some b → ¬ F1 b) (f4 : ∀ b, Value.ownBlock (.slice ai li ci) = some b → ¬ F1 b) :
    (∀ b, b < w.heap.size → b ≠ V → Value.ownBlock (.slice ai li ci) ≠ some b → W.heap[b]? = w.heap[b]?) ∧ w.heap.size ≤ W.heap.size ∧ (W.os = w.os ∧ W.tape = w.tape ∧ W.output = w.output) ∧ Parts W V lo k ns (js ++ [j]) an ai' ln cn li' ci' (vs ++ [x]) (fun b => F b ∨ F1 b) := by
  obtain ⟨g3, g4, g5, g6, g7, g8, g9, g10⟩ := h
  have hsz2 := hb2.size
  have hgs := hgr.size
  have hVw := Bl.lt g3
  have ho4 : ∀ b, Value.ownBlock (.slice an ln cn) = some b → lo ≤ b ∧ b < w.heap.size := fun b hb => ownsRow_own g4 hb
  have ho5 : ∀ b, Value.ownBlock (.slice ai li ci) = some b → lo ≤ b ∧ b < w.heap.size := fun b hb => ownsRow_own g5 hb
  have hx : ∀ b, b < w.heap.size → Value.ownBlock (.slice ai li ci) ≠ some b → w3.heap[b]? = w.heap[b]? := fun b h1 h2 => by
    rw [hgr.block b (by omega) (fun e => h2 e.symm)]
    exact hb2.block b h1
  have hV3 : Jb w3 V k ⟨#[]⟩ (.slice an ln cn) (.slice ai li ci) := (hx V hVw (own_ne g5 hVl)).trans g3
  have hall : ∀ b, b < w.heap.size → b ≠ V → Value.ownBlock (.slice ai li ci) ≠ some b → W.heap[b]? = w.heap[b]? := fun b h1 h2 h3 => by
    rw [hW, heap_setCell_other w3 ⟨V, 3, none⟩ b _ h2]
    exact hx b h1 h3
  have hz : W.heap.size = w3.heap.size := by rw [hW]; simp [World.setCell]
  have hnew : ∀ b, b < w.heap.size → Value.ownBlock (.slice ai' li' ci') = some b → Value.ownBlock (.slice ai li ci) = some b := fun b h1 h2 => by
    rcases hloc with h | h
    · rw [← h]; exact h2
    · rw [h] at h2
      injection h2 with h2
      omega
  refine ⟨hall, by omega, by rw [hW]; exact ⟨hgr.os.trans hb2.os, hgr.tape.trans hb2.tape, hgr.output.trans hb2.output⟩, ?_⟩
  refine ⟨?_, ownsRow_stay g4 (fun b hb => hall b (ho4 b hb).2 (by have := (ho4 b hb).1; omega) (fun h => g10 b hb h)), ownsRow_stay hown (fun b hb => ?_), ?_, ?_, ?_, ?_, ?_⟩
  · rw [hW]; exact Bl.set hV3 3 _
  · rw [hW]; exact heap_setCell_other w3 ⟨V, 3, none⟩ b _ (by show b ≠ V; have := (ownsRow_own hown hb).1; omega)
  · exact JReps.snoc (JReps.stay _ _ _ g6 (fun b hF => hall b (g7 b hF).2 (by have := (g7 b hF).1; omega) (fun h => g9 b h hF))) (JRep.stay _ _ _ hj (fun b hF => hall b (f1 b hF).2 (by have := (f1 b hF).1; omega) (fun h => f4 b h hF))) f2
  · rintro b (hb | hb)
    · exact ⟨(g7 b hb).1, by have := (g7 b hb).2; omega⟩
    · exact ⟨(f1 b hb).1, by have := (f1 b hb).2; omega⟩
  · rintro b hb (hF | hF)
    · exact g8 b hb hF
    · exact f3 b hb hF
  · rintro b hb (hF | hF)
    · exact g9 b (hnew b (g7 b hF).2 hb) hF
    · exact f4 b (hnew b (f1 b hF).2 hb) hF
  · intro b hb hb2
    exact g10 b hb (hnew b (ho4 b hb).2 hb2)
/-- What stays where only the rows of a Json under way turn. -/
theorem parts_low {w W : World} {V lo : Nat} {k : Int} {ns : List By} {js : List J} {an ai : Option Addr} {ln cn li ci : Nat} {vs : List JV} {F : Nat → Prop} {v : Value} (h : Parts w V lo k ns js an ai ln cn li ci vs F) (hv : v = .slice an ln cn ∨ v = .slice ai li ci)
    (hall : ∀ b, b < w.heap.size → b ≠ V → v.ownBlock ≠ some b → W.heap[b]? = w.heap[b]?) : ∀ b, b < w.heap.size → b < lo → b ≠ V → W.heap[b]? = w.heap[b]? := fun b h1 h2 h3 => hall b h1 h3 (fun e => by
  rcases hv with rfl | rfl
  · have := (ownsRow_own h.g4 e).1; omega
  · have := (ownsRow_own h.g5 e).1; omega)
/-- A Json under way, told. -/
theorem parts_rep {w : World} {V lo : Nat} {k : Int} {ns : List By} {js : List J} {an ai : Option Addr} {ln cn li ci : Nat} {vs : List JV} {F : Nat → Prop} (h : Parts w V lo k ns js an ai ln cn li ci vs F) (hns : ∀ n ∈ ns, ∀ x ∈ n, x < 256) :
    JRep w (.mk k [] ns js) ⟨k, ⟨#[]⟩, an, ln, cn, ai, li, ci⟩ (fun b => lo ≤ b ∧ b < w.heap.size) := by
  rw [JRep_mk]
  refine ⟨rfl, rfl, by simp, hns, vs, F, ownsRow_lower h.g4 (Nat.zero_le _), ownsRow_lower h.g5 (Nat.zero_le _), h.g6, fun b hb => h.g7 b hb, fun b hb => ⟨ownsRow_own h.g4 hb, h.g8 b hb⟩, fun b hb => ⟨ownsRow_own h.g5 hb, h.g9 b hb⟩, h.g10⟩
theorem parts_new (w : World) (V lo : Nat) (k : Int) (h : Jb w V k ⟨#[]⟩ (.slice none 0 0) (.slice none 0 0)) : Parts w V lo k [] [] none none 0 0 0 0 [] (fun _ => False) :=
  ⟨h, nown_nil _ _, jown_nil _ _, by rw [JReps_nil], fun _ h => h.elim, fun _ h => by simp [Value.ownBlock] at h, fun _ h => by simp [Value.ownBlock] at h, fun _ h => by simp [Value.ownBlock] at h⟩
end Go.Proofs.YtlebockgdonceaaGreatDoor
