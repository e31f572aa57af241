/- One item, and one name, more: in a world of which all is known. The contract of the closure by which the reader's object reads a member. The contract of the reader's object. -/
import Derived.Test.YtlebockgdonceaaGreatDoorKList
import Derived.Test.YtlebockgdonceaaGreatDoorJName
import Derived.Carry
namespace Go.Proofs.YtlebockgdonceaaGreatDoor
open Go.RowKit

/-- What LI says of V's rows, with all its parts named. -/
structure Parts (w : World) (V lo : Nat) (k : Int) (ns : List By) (js : List J) (an ai : Option Addr) (ln cn li ci : Nat) (vs : List JV) (F : Nat → Prop) : Prop where
  g3 : Jb w V k ⟨#[]⟩ (.slice an ln cn) (.slice ai li ci)
  g4 : NOwn w lo (.slice an ln cn) ns
  g5 : JOwn w lo (.slice ai li ci) vs
  g6 : JReps w js vs F
  g7 : ∀ b, F b → lo ≤ b ∧ b < w.heap.size
  g8 : ∀ b, Value.ownBlock (.slice an ln cn) = some b → ¬ F b
  g9 : ∀ b, Value.ownBlock (.slice ai li ci) = some b → ¬ F b
  g10 : ∀ b, Value.ownBlock (.slice an ln cn) = some b → Value.ownBlock (.slice ai li ci) = some b → False
theorem Parts.stay {w w' : World} {V lo : Nat} {k : Int} {ns : List By} {js : List J} {an ai : Option Addr} {ln cn li ci : Nat} {vs : List JV} {F : Nat → Prop} (h : Parts w V lo k ns js an ai ln cn li ci vs F) (hb : ∀ b, b < w.heap.size → (b = V ∨ lo ≤ b) → w'.heap[b]? = w.heap[b]?) (hz : w.heap.size ≤ w'.heap.size) : Parts w' V lo k ns js an ai ln cn li ci vs F := by
  obtain ⟨g3, g4, g5, g6, g7, g8, g9, g10⟩ := h
  exact ⟨(hb V (Bl.lt g3) (.inl rfl)).trans g3, ownsRow_stay g4 (fun b hb2 => hb b (ownsRow_own g4 hb2).2 (.inr (ownsRow_own g4 hb2).1)), ownsRow_stay g5 (fun b hb2 => hb b (ownsRow_own g5 hb2).2 (.inr (ownsRow_own g5 hb2).1)), JReps.stay _ _ _ g6 (fun b hF => hb b (g7 b hF).2 (.inr (g7 b hF).1)), fun b hF => ⟨(g7 b hF).1, Nat.lt_of_lt_of_le (g7 b hF).2 hz⟩, g8, g9, g10⟩
theorem Parts.li {w0 w : World} {R V lo : Nat} {k : Int} {ns : List By} {js : List J} {an ai : Option Addr} {ln cn li ci : Nat} {vs : List JV} {F : Nat → Prop} (h : Parts w V lo k ns js an ai ln cn li ci vs F) (hb : But R w0 w) (hT : Tabs w) (hz : lo ≤ w.heap.size) : LI w0 R V lo k w ns js :=
  ⟨hb, hT, hz, an, ln, cn, ai, li, ci, vs, F, h.g3, h.g4, h.g5, h.g6, h.g7, h.g8, h.g9, h.g10⟩
/-- One item more. -/
theorem Parts.item {w w2 w3 W : World} {V lo : Nat} {k : Int} {ns : List By} {js : List J} {an ai : Option Addr} {ln cn ci g cap : Nat} {vs : List JV} {F : Nat → Prop} {x : JV} {o : Obj} (h : Parts w V lo k ns js an ai ln cn vs.length ci vs F) (hVl : V < lo)
    (hb2 : Below w.heap.size w w2) (hfr : Fresh w3 lo g vs.length cap vs) (hgr : (w2.alloc o).drew.grownBy w3 (Value.ownBlock (.slice ai vs.length ci))) (hloc : Value.ownBlock (.slice ai vs.length ci) = some g ∨ g = (w2.alloc o).drew.heap.size)
    (hW : W = (put4 w3 g (vs.length * 4) x).setCell ⟨V, 3, none⟩ (.slice (some ⟨g, 0, none⟩) (vs.length + 1) cap) ∨ W = put4 (w3.setCell ⟨V, 3, none⟩ (.slice (some ⟨g, 0, none⟩) (vs.length + 1) cap)) g (vs.length * 4) x) :
    (∀ b, b < w.heap.size → b ≠ V → Value.ownBlock (.slice ai vs.length ci) ≠ some b → W.heap[b]? = w.heap[b]?) ∧ w.heap.size ≤ W.heap.size ∧ (W.os = w.os ∧ W.tape = w.tape ∧ W.output = w.output) ∧ Jb W V k ⟨#[]⟩ (.slice an ln cn) (.slice (some ⟨g, 0, none⟩) (vs.length + 1) cap) ∧
    ∀ j F1, JRep w j x F1 → (∀ b, F1 b → lo ≤ b ∧ b < w.heap.size) → (∀ b, F b → F1 b → False) → (∀ b, Value.ownBlock (.slice an ln cn) = some b → ¬ F1 b) → (∀ b, Value.ownBlock (.slice ai vs.length ci) = some b → ¬ F1 b) →
      Parts W V lo k ns (js ++ [j]) an (some ⟨g, 0, none⟩) ln cn (vs.length + 1) cap (vs ++ [x]) (fun b => F b ∨ F1 b) := by
  obtain ⟨g3, g4, g5, g6, g7, g8, g9, g10⟩ := h
  have hsz2 := hb2.size
  have hX : (w2.alloc o).drew.heap.size = w2.heap.size + 1 := by simp
  have hVw := Bl.lt g3
  have ho5 : ∀ b, Value.ownBlock (.slice ai vs.length ci) = some b → lo ≤ b ∧ b < w.heap.size := fun b hb => ownsRow_own g5 hb
  have ho4 : ∀ b, Value.ownBlock (.slice an ln cn) = some b → lo ≤ b ∧ b < w.heap.size := fun b hb => ownsRow_own g4 hb
  have hx : ∀ b, b < w.heap.size → Value.ownBlock (.slice ai vs.length ci) ≠ some b → w3.heap[b]? = w.heap[b]? := fun b h1 h2 => by
    rw [hgr.block b (by omega) (fun e => h2 e.symm)]
    show (w2.alloc o).heap[b]? = _
    rw [Below.heap_alloc w2 o b (by omega)]
    exact hb2.block b h1
  have hV3 : Jb w3 V k ⟨#[]⟩ (.slice an ln cn) (.slice ai vs.length ci) := (hx V hVw (own_ne g5 hVl)).trans g3
  have hgV : g ≠ V := by
    rcases hloc with h | h
    · have := (ho5 g h).1; omega
    · omega
  obtain ⟨d1, d2, d3, d4, d5, d6, d7⟩ := app_done hfr hV3 hgV hW
  have hgs := hgr.size
  have hall : ∀ b, b < w.heap.size → b ≠ V → Value.ownBlock (.slice ai vs.length ci) ≠ some b → W.heap[b]? = w.heap[b]? := fun b h1 h2 h3 => by
    rw [d3 b (by rcases hloc with h | h
                 · intro e; subst e; exact h3 h
                 · omega) h2]
    exact hx b h1 h3
  refine ⟨hall, by omega, ⟨d5.trans (hgr.os.trans hb2.os), d6.trans (hgr.tape.trans hb2.tape), d7.trans (hgr.output.trans hb2.output)⟩, d2, fun j F1 hj f1 f2 f3 f4 => ?_⟩
  have hgn : ∀ b, b < w.heap.size → b = g → Value.ownBlock (.slice ai vs.length ci) = some b := fun b h1 h2 => by
    subst h2
    rcases hloc with h | h
    · exact h
    · omega
  refine ⟨d2, ownsRow_stay g4 (fun b hb => hall b (ho4 b hb).2 (by have := (ho4 b hb).1; omega) (fun h => g10 b hb h)), d1, ?_, ?_, ?_, ?_, ?_⟩
  · exact JReps.snoc (JReps.stay _ _ _ g6 (fun b hF => hall b (g7 b hF).2 (by have := (g7 b hF).1; omega) (fun h => g9 b h hF))) (JRep.stay _ _ _ hj (fun b hF => hall b (f1 b hF).2 (by have := (f1 b hF).1; omega) (fun h => f4 b h hF))) f2
  · rintro b (hb | hb)
    · exact ⟨(g7 b hb).1, by have := (g7 b hb).2; omega⟩
    · exact ⟨(f1 b hb).1, by have := (f1 b hb).2; omega⟩
  · rintro b hb (hF | hF)
    · exact g8 b hb hF
    · exact f3 b hb hF
  · intro b hb
    injection hb with hb
    rintro (hF | hF)
    · exact g9 b (hgn b (g7 b hF).2 hb.symm) hF
    · exact f4 b (hgn b (f1 b hF).2 hb.symm) hF
  · intro b hb hb2
    injection hb2 with hb2
    exact g10 b hb (hgn b (ho4 b hb).2 hb2.symm)
/-- One name more. -/
theorem Parts.name {w w2 w3 W : World} {V lo : Nat} {k : Int} {ns : List By} {js : List J} {an ai : Option Addr} {ln cn li ci : Nat} {vs : List JV} {F : Nat → Prop} {nm : By} {an' : Option Addr} {ln' cn' : Nat} (h : Parts w V lo k ns js an ai ln cn li ci vs F) (hVl : V < lo)
    (hb2 : Below w.heap.size w w2) (hown : NOwn w3 lo (.slice an' ln' cn') (ns ++ [nm])) (hgr : w2.grownBy w3 (Value.ownBlock (.slice an ln cn))) (hloc : Value.ownBlock (.slice an' ln' cn') = Value.ownBlock (.slice an ln cn) ∨ Value.ownBlock (.slice an' ln' cn') = some w2.heap.size)
    (hW : W = w3.setCell ⟨V, 2, none⟩ (.slice an' ln' cn')) :
    (∀ b, b < w.heap.size → b ≠ V → Value.ownBlock (.slice an ln cn) ≠ some b → W.heap[b]? = w.heap[b]?) ∧ w.heap.size ≤ W.heap.size ∧ (W.os = w.os ∧ W.tape = w.tape ∧ W.output = w.output) ∧ Parts W V lo k (ns ++ [nm]) js an' ai ln' cn' li ci vs F := by
  obtain ⟨g3, g4, g5, g6, g7, g8, g9, g10⟩ := h
  have hsz2 := hb2.size
  have hgs := hgr.size
  have hVw := Bl.lt g3
  have ho5 : ∀ b, Value.ownBlock (.slice ai li ci) = some b → lo ≤ b ∧ b < w.heap.size := fun b hb => ownsRow_own g5 hb
  have hx : ∀ b, b < w.heap.size → Value.ownBlock (.slice an ln cn) ≠ some b → w3.heap[b]? = w.heap[b]? := fun b h1 h2 => by
    rw [hgr.block b (by omega) (fun e => h2 e.symm)]
    exact hb2.block b h1
  have hV3 : Jb w3 V k ⟨#[]⟩ (.slice an ln cn) (.slice ai li ci) := (hx V hVw (own_ne g4 hVl)).trans g3
  have hall : ∀ b, b < w.heap.size → b ≠ V → Value.ownBlock (.slice an ln cn) ≠ some b → W.heap[b]? = w.heap[b]? := fun b h1 h2 h3 => by
    rw [hW, heap_setCell_other w3 ⟨V, 2, none⟩ b _ h2]
    exact hx b h1 h3
  have hz : W.heap.size = w3.heap.size := by rw [hW]; simp [World.setCell]
  have hnew : ∀ b, b < w.heap.size → Value.ownBlock (.slice an' ln' cn') = some b → Value.ownBlock (.slice an ln cn) = some b := fun b h1 h2 => by
    rcases hloc with h | h
    · rw [← h]; exact h2
    · rw [h] at h2
      injection h2 with h2
      omega
  refine ⟨hall, by omega, by rw [hW]; exact ⟨hgr.os.trans hb2.os, hgr.tape.trans hb2.tape, hgr.output.trans hb2.output⟩, ?_⟩
  refine ⟨?_, ownsRow_stay hown (fun b hb => ?_), ownsRow_stay g5 (fun b hb => hall b (ho5 b hb).2 (by have := (ho5 b hb).1; omega) (fun h => g10 b h hb)), JReps.stay _ _ _ g6 (fun b hF => hall b (g7 b hF).2 (by have := (g7 b hF).1; omega) (fun h => g8 b h hF)), fun b hF => ⟨(g7 b hF).1, by have := (g7 b hF).2; omega⟩, fun b hb hF => g8 b (hnew b (g7 b hF).2 hb) hF, g9, fun b hb hb2 => g10 b (hnew b (ho5 b hb2).2 hb) hb2⟩
  · rw [hW]; exact Bl.set hV3 2 _
  · rw [hW]; exact heap_setCell_other w3 ⟨V, 2, none⟩ b _ (by show b ≠ V; have := (ownsRow_own hown hb).1; omega)
theorem Tabs.stay {w w' : World} (h : Tabs w) (h0 : w'.heap[0]? = w.heap[0]?) (h1 : w'.heap[1]? = w.heap[1]?) : Tabs w' := by
  have k0 : ∀ i v, w.cell? ⟨0, i, none⟩ = some v → w'.cell? ⟨0, i, none⟩ = some v := fun i v ha => by rw [World.cell?_of_block (show w'.heap[(⟨0, i, none⟩ : Addr).block]? = w.heap[(⟨0, i, none⟩ : Addr).block]? from h0)]; exact ha
  have k1 : ∀ i v, w.cell? ⟨1, i, none⟩ = some v → w'.cell? ⟨1, i, none⟩ = some v := fun i v ha => by rw [World.cell?_of_block (show w'.heap[(⟨1, i, none⟩ : Addr).block]? = w.heap[(⟨1, i, none⟩ : Addr).block]? from h1)]; exact ha
  exact ⟨fun c hc => k0 _ _ (h.1 c hc), fun i hi => ⟨k1 _ _ (h.2 i hi).1, k1 _ _ (h.2 i hi).2⟩⟩
theorem HadIs.stay {w w' : World} {M : Nat} {ns : List By} (h : HadIs w M ns) (hb : w'.heap[M]? = w.heap[M]?) : HadIs w' M ns := by
  obtain ⟨es, clock, hm, r⟩ := h
  exact ⟨es, clock, hb.trans hm, r⟩
end Go.Proofs.YtlebockgdonceaaGreatDoor
namespace Go.Proofs.YtlebockgdonceaaGreatDoor
open Go.RowKit

def fsts (l : List (By × J)) : List By := l.map (·.1)
def snds (l : List (By × J)) : List J := l.map (·.2)
/-- What an object's closure finds, behind so many members. -/
structure OI (w0 : World) (R : Nat) (dep : Int) (w : World) (l : List (By × J)) : Prop where
  cp : Cp w R w0.heap.size dep
  mv : Bl w (w0.heap.size + 5) [.map (some (w0.heap.size + 4))] 87
  had : HadIs w (w0.heap.size + 4) (fsts l)
  ok : ∀ n ∈ fsts l, ∀ x ∈ n, x < 256
  li : LI w0 R (w0.heap.size + 3) (w0.heap.size + 6) 6 w (fsts l) (snds l)
theorem OI.move {w0 w w' : World} {R : Nat} {dep : Int} {l : List (By × J)} (h : OI w0 R dep w l) (hb : But R w w') (hR : 2 ≤ R) (hRw : R < w0.heap.size) : OI w0 R dep w' l :=
  ⟨h.cp.move hb hRw, h.mv.but hb (by omega), h.had.but hb (by omega), h.ok, h.li.move hb hR (by omega) (by omega)⟩
def oneT (nm : By) : Obj := .cells #[.string (bstr nm)] 9

set_option maxHeartbeats 4000000 in
set_option maxRecDepth 100000 in
theorem object1_any (d : Nat) (hV : ValueOk d) (w0 : World) (R : Nat) (s : ByteArray) (p e q : Nat) (w : World) (acc : List (By × J)) (hd : d < 32) (hs : s.size ≤ 16384) (hR : 2 ≤ R) (hRw : R < w0.heap.size)
    (hI : OI w0 R (31 - (d : Int)) w acc) (h : RB w R s p e q) (hp : p ≤ s.size) (hal : acc.length ≤ 16384) :
    Calls Tryz.prog 47 #[.pointer (some ⟨w0.heap.size, 0, none⟩), .pointer (some ⟨w0.heap.size + 5, 0, none⟩), .pointer (some ⟨w0.heap.size + 1, 0, none⟩), .pointer (some ⟨w0.heap.size + 3, 0, none⟩)] w fun ε w' =>
      El R s e q (fun w l => OI w0 R (31 - (d : Int)) w l) (fun w => Cp w R w0.heap.size (31 - (d : Int)) ∧ LF w0 R (w0.heap.size + 3) w) acc (memAt (sbytes s) (vAt (sbytes s) d) acc p) ε w' := by
  obtain ⟨N, hN⟩ : ∃ N, N = w0.heap.size := ⟨_, rfl⟩
  have hrp := hI.cp.r
  have hdp := hI.cp.d
  have hmp := hI.mv
  rw [← hN] at hrp hdp hmp hRw ⊢
  have HN := hide hN
  have r0 : w.cell? ⟨N, 0, none⟩ = some (.pointer (some ⟨R, 0, none⟩)) := hrp.cell 0
  have r1 : w.cell? ⟨N + 5, 0, none⟩ = some (.map (some (N + 4))) := hmp.cell 0
  have HNM : Hid (Calls Tryz.prog 48 #[.pointer (some ⟨R, 0, none⟩), .map (some (N + 4))] w fun ε w' => Nm R (N + 4) s e q w (fsts acc) (nameAt (sbytes s) (fsts acc) p) ε w') := by
    rw [hN]
    exact name_any R _ s p e q w (fsts acc) h hp hs hR hI.li.tabs hI.had (by omega) hI.ok (by unfold fsts; rw [List.length_map]; exact hal)
  have HI := hide hI
  have HV := hide hV
  have hdep : (31 - (d : Int)) + 1 = 32 - (d : Int) := by omega
  have hd1 : (0 : Int) ≤ 31 - (d : Int) := by omega
  have hd2 : 31 - (d : Int) ≤ 31 := by omega
  have HMA : Hid (memAt (sbytes s) (vAt (sbytes s) d) acc p = match nameAt (sbytes s) (fsts acc) p with
      | .error e q => .error e q
      | .ok nm q => (vAt (sbytes s) d q).map fun v => (nm, v)) := rfl
  clear hI hV h hrp hdp hmp hN
  suffices HSU : ∀ PP : Ending → World → Prop, (∀ ε w', El R s e q (fun w l => OI w0 R (31 - (d : Int)) w l) (fun w => Cp w R N (31 - (d : Int)) ∧ LF w0 R (N + 3) w) acc (memAt (sbytes s) (vAt (sbytes s) d) acc p) ε w' → PP ε w') → Calls Tryz.prog 47 #[.pointer (some ⟨N, 0, none⟩), .pointer (some ⟨N + 5, 0, none⟩), .pointer (some ⟨N + 1, 0, none⟩), .pointer (some ⟨N + 3, 0, none⟩)] w fun ε w' => True ∧ PP ε w' from (HSU _ (fun _ _ h => h)).mono fun _ _ h => h.2
  intro PP hPP
  have HPP := hide hPP
  clear hPP
  go_enter Tryz.func47, Tryz.ntmps47
  go_wp2_with fail
  refine HNM.out.mono ?_
  intro ε w1 h1
  cases hno : nameAt (sbytes s) (fsts acc) p with
  | error e1 q1 =>
    rw [hno] at h1 HMA
    obtain ⟨⟨t, p', rfl, h2⟩, hb2⟩ := h1
    have hcp : Cp w1 R N (31 - (d : Int)) := by
      have := HI.out.cp
      rw [← HN.out] at this
      exact ⟨(hb2.block N (Bl.lt this.r) (by omega) (by omega)).trans this.r, (hb2.block (N + 1) (Bl.lt this.d) (by omega) (by omega)).trans this.d, (hb2.block (N + 2) (Bl.lt this.z) (by omega) (by omega)).trans this.z⟩
    have hlf : LF w0 R (N + 3) w1 := by
      obtain ⟨b1, b2, x, b3⟩ := HI.out.li.fin
      rw [← HN.out] at b3
      refine ⟨⟨hb2.os.trans b1.os, hb2.tape.trans b1.tape, hb2.output.trans b1.output, Nat.le_trans b1.size hb2.size, fun k hk hn => (hb2.block k (Nat.lt_of_lt_of_le hk b1.size) hn (by have := HN.out; omega)).trans (b1.block k hk hn)⟩, ?_, x, (hb2.block (N + 3) (Bl.lt b3) (by omega) (by omega)).trans b3⟩
      have key : ∀ a v, w.cell? a = some v → a.block < 2 → w1.cell? a = some v := fun a v ha h2 => by
        rw [World.cell?_of_block (hb2.block a.block (World.block_lt_of_cell? w a ha) (by omega) (by omega))]; exact ha
      exact ⟨fun c hc => key _ _ (b2.1 c hc) (by show (0 : Nat) < 2; omega), fun i hi => ⟨key _ _ (b2.2 i hi).1 (by show (1 : Nat) < 2; omega), key _ _ (b2.2 i hi).2 (by show (1 : Nat) < 2; omega)⟩⟩
    have FIN : Hid (PP (.returned (.bool false)) w1) := HPP.out _ _ (by rw [HMA.out]; exact ⟨rfl, ⟨p', h2⟩, hcp, hlf⟩)
    clear h2 hb2 hcp hlf hno
    go_wp2_with fail
    go_ret
    exact ⟨trivial, FIN.out⟩
  | ok nm q1 =>
    rw [hno] at h1 HMA
    obtain ⟨rfl, hn256, hR1, hb1, hH1⟩ := h1
    have hq1 := (nameAt_bounds hno).2
    rw [sbytes_length] at hq1
    have hsz1 := hb1.size
    have HB1 := hide hb1
    have HH1 := hide hH1
    have HN256 := hide hn256
    have HR1 := hide hR1
    obtain ⟨h0, hT0, hz, an, ln, cn, ai, li, ci, vs, F, g3, g4, g5, g6, g7, g8, g9, g10⟩ := HI.out.li
    rw [← HN.out] at hz g3 g4 g5 g7
    have HP : Hid (Parts w (N + 3) (N + 6) 6 (fsts acc) (snds acc) an ai ln cn li ci vs F) := ⟨g3, g4, g5, g6, g7, g8, g9, g10⟩
    obtain ⟨ao, cap, hsl⟩ := ownsRow_slice g5
    injection hsl with hs1 hs2 hs3
    subst hs1; subst hs2; subst hs3
    have HG7 : Hid (∀ b, F b → b < w.heap.size) := fun b hb => (g7 b hb).2
    have HO4 : Hid (∀ b, Value.ownBlock (.slice an ln cn) = some b → N + 6 ≤ b ∧ b < w.heap.size) := fun b hb => ownsRow_own g4 hb
    have HO5 : Hid (∀ b, Value.ownBlock (.slice ai vs.length ci) = some b → N + 6 ≤ b ∧ b < w.heap.size) := fun b hb => ownsRow_own g5 hb
    have HVL : Hid (vs.length ≤ 1000000 ∧ ln ≤ 1000000 ∧ ln = (fsts acc).length) := by
      have e1 := JReps.len g6
      obtain ⟨ao, cap, hsl⟩ := ownsRow_slice g4
      injection hsl with hs1 hs2 hs3
      have e2 : (fsts acc).length = acc.length := by unfold fsts; rw [List.length_map]
      have e3 : (snds acc).length = acc.length := by unfold snds; rw [List.length_map]
      show _ ∧ _
      omega
    have HT0 := hide hT0
    have H0 := hide h0
    have HCP1 : Hid (Cp w1 R N (31 - (d : Int))) := by
      have := HI.out.cp
      rw [← HN.out] at this
      exact ⟨(hb1.block N (Bl.lt this.r) (by omega) (by omega)).trans this.r, (hb1.block (N + 1) (Bl.lt this.d) (by omega) (by omega)).trans this.d, (hb1.block (N + 2) (Bl.lt this.z) (by omega) (by omega)).trans this.z⟩
    have HMV1 : Hid (Bl w1 (N + 5) [.map (some (N + 4))] 87) := by
      have := HI.out.mv
      rw [← HN.out] at this
      exact (hb1.block (N + 5) (Bl.lt this) (by omega) (by omega)).trans this
    have HTB1 : Hid (Tabs w1) := hT0.stay (hb1.block 0 (by omega) (by omega) (by omega)) (hb1.block 1 (by omega) (by omega) (by omega))
    have HP1 : Hid (Parts w1 (N + 3) (N + 6) 6 (fsts acc) (snds acc) an ai ln cn vs.length ci vs F) := HP.out.stay (fun b hb h => hb1.block b hb (by omega) (by omega)) hb1.size
    clear g3 g4 g5 g6 g7 g8 g9 g10 hT0 h0 hH1 hn256 hR1 hb1
    have r0' : w1.cell? ⟨N, 0, none⟩ = some (.pointer (some ⟨R, 0, none⟩)) := HCP1.out.r.cell 0
    have r1' : w1.cell? ⟨N + 1, 0, none⟩ = some (.int .i64 (31 - (d : Int))) := HCP1.out.d.cell 0
    clear r0 r1
    go_wp2_with fail
    refine (HV.out R s q1 e q w1 HR1.out hq1 hs hR HTB1.out).mono ?_
    intro ε w2 h2
    have HS1 : Hid (∃ (x : JV) (okb : Bool), ε = .returned (.tuple #[x.val, .bool okb]) ∧ But R w1 w2 ∧ (match vAt (sbytes s) d q1 with
        | .ok j p' => okb = true ∧ RB w2 R s p' e q ∧ JRep w2 j x (fun b => w1.heap.size ≤ b ∧ b < w2.heap.size)
        | .error e' q' => okb = false ∧ ∃ p', RB w2 R s p' e' q')) := by
      show ∃ x, _
      cases ho : vAt (sbytes s) d q1 with
      | ok j p' =>
        rw [ho] at h2
        obtain ⟨⟨v, rfl, _, x, rfl, hr⟩, h2, hb⟩ := h2
        exact ⟨x, true, rfl, hb, rfl, h2, hr⟩
      | error e' q' =>
        rw [ho] at h2
        obtain ⟨⟨v, p', rfl, hj, h2⟩, hb⟩ := h2
        obtain ⟨x, rfl⟩ := isJ_out hj
        exact ⟨x, false, rfl, hb, rfl, p', h2⟩
    clear h2
    obtain ⟨x, okb, rfl, hb2, hout⟩ := HS1.out
    have HOUT := hide hout
    have HB2 := hide hb2
    have hsz2 := hb2.size
    have HCP2 := hide (HCP1.out.move hb2 (by omega))
    have HMV2 := hide (HMV1.out.but hb2 (by omega))
    have HH2 := hide (HH1.out.but hb2 (by omega))
    have HTB2 := hide (HTB1.out.but hb2 hR)
    have HP2 : Hid (Parts w2 (N + 3) (N + 6) 6 (fsts acc) (snds acc) an ai ln cn vs.length ci vs F) := HP1.out.stay (fun b hb h => hb2.block b hb (by omega)) hb2.size
    have HB3 := hide (below_new w2 (.cells #[.int .i64 x.k, .string x.t, .slice x.an x.ln x.cn, .slice x.ai x.li x.ci] 25))
    have HP3 : Hid (Parts (w2.alloc (.cells #[.int .i64 x.k, .string x.t, .slice x.an x.ln x.cn, .slice x.ai x.li x.ci] 25)) (N + 3) (N + 6) 6 (fsts acc) (snds acc) an ai ln cn vs.length ci vs F) := HP2.out.stay (fun b hb h => HB3.out.block b hb) HB3.out.size
    have HJ3 := hide (Jb.new w2 x.k x.t (.slice x.an x.ln x.cn) (.slice x.ai x.li x.ci))
    have v2 := HP2.out.g3.c2
    have hNw2 : N + 6 ≤ w2.heap.size := by omega
    have hN3 : N + 3 < w2.heap.size := by omega
    obtain ⟨i0, hi0, hz0, hz1, hz2⟩ := info_parts infoText
    have HI0 : Hid (Tryz.prog.info? 9 = some i0 ∧ i0.zero = some (.string { data := #[] }) ∧ i0.size = 1 ∧ i0.bytes = 16) := ⟨hi0, hz0, hz1, hz2⟩
    have HOW : Hid (∀ o, ((w2.alloc (.cells #[.int .i64 x.k, .string x.t, .slice x.an x.ln x.cn, .slice x.ai x.li x.ci] 25)).alloc o).ownsRow (N + 6) 9 1 (.slice an ln cn) ln ((fsts acc).map tv)) := fun o => by
      have := World.ownsRow.alloc HP3.out.g4 o
      rw [← HVL.out.2.2] at this
      exact this
    clear hi0 hz0 hz1 hz2 hout hb2 HS1 hno
    rw [show x.val = .agg #[.int .i64 x.k, .string x.t, .slice x.an x.ln x.cn, .slice x.ai x.li x.ci] from rfl]
    go_wp2_with (first | (at_builtin; refine wpList_append_own_at _ rfl _ _ 22 rfl (N + 6) 9 i0 (.string { data := #[] }) 1 16 Tryz.underlying22 HI0.out.1 HI0.out.2.1 HI0.out.2.2.1 HI0.out.2.2.2 rfl (by decide) (.slice an ln cn) ln ((fsts acc).map tv) rfl ?e1 ⟨w2.heap.size + 1, 0, none⟩ 1 1 [.string (bstr nm)] rfl rfl ?e2 ?e3 ?e4 ?e5 ?e6 ?_) | fail)
    case e1 => exact HOW.out _
    case e2 =>
      intro j u hu
      cases j with
      | zero =>
        injection hu with hu
        subst hu
        rw [show w2.heap.size + 1 = (w2.alloc (.cells #[.int .i64 x.k, .string x.t, .slice x.an x.ln x.cn, .slice x.ai x.li x.ci] 25)).heap.size by simp]
        exact (Bl.new _ #[.string (bstr nm)] 9).cell 0
      | succ j => cases hu
    case e3 =>
      intro u hu
      rcases List.mem_singleton.1 hu with rfl
      rfl
    case e4 => have := HVL.out; unfold maxLen; omega
    case e5 => have := HVL.out; omega
    case e6 => simp; omega
    intro v' w5 f1 f2 f3 f4
    obtain ⟨an', cn', rfl⟩ := ownsRow_slice f1
    have HF4 := hide f4
    have HF2 := hide f2
    have HNM5 : Hid (NOwn w5 (N + 6) (.slice an' (ln + 1) cn') (fsts acc ++ [nm])) := by
      show World.ownsRow _ _ _ _ _ _ _
      rw [List.length_append, List.map_append, ← HVL.out.2.2]
      exact f1
    have HPW := hide (HP3.out.name (by omega) (below_new _ _) HNM5.out f2 (f4.imp id (fun h => h.trans (by simp))) rfl)
    have HV5 : Hid (Jb w5 (N + 3) 6 ⟨#[]⟩ (.slice an ln cn) (.slice ai vs.length ci)) := by
      refine (f2.block (N + 3) (by simp; omega) (fun e => ?_)).trans ?_
      · have := (HO4.out _ e.symm).1; omega
      · exact (Below.heap_alloc _ _ (N + 3) (by simp; omega)).trans HP3.out.g3
    have m2 := HV5.out.c2
    have mf := HV5.out.fz 2
    clear f1 f2 f3 f4
    go_wp2_with fail
    generalize w5.setCell ⟨N + 3, 2, none⟩ (.slice an' (ln + 1) cn') = w6 at *
    obtain ⟨k6, z6, ⟨o6, t6, u6⟩, p6⟩ := HPW.out
    have hbz : (w2.alloc (.cells #[.int .i64 x.k, .string x.t, .slice x.an x.ln x.cn, .slice x.ai x.li x.ci] 25)).heap.size = w2.heap.size + 1 := by simp
    have HP6 := hide p6
    have HK6 : Hid (∀ b, b < w2.heap.size → b ≠ N + 3 → Value.ownBlock (.slice an ln cn) ≠ some b → w6.heap[b]? = w2.heap[b]?) := fun b h1 h2 h3 => (k6 b (by omega) h2 h3).trans (HB3.out.block b h1)
    have HJ6 : Hid (Jb w6 w2.heap.size x.k x.t (.slice x.an x.ln x.cn) (.slice x.ai x.li x.ci)) := (k6 _ (by omega) (by omega) (fun e => by have := (HO4.out _ e).2; omega)).trans HJ3.out
    have hz62 : w2.heap.size + 1 ≤ w6.heap.size := by omega
    have HO6 : Hid (∀ b, Value.ownBlock (.slice an' (ln + 1) cn') = some b → (N + 6 ≤ b ∧ b < w.heap.size) ∨ w2.heap.size ≤ b) := by
      intro b hb
      rcases HF4.out with h | h
      · exact .inl (HO4.out b (h ▸ hb))
      · rw [h] at hb
        injection hb with hb
        exact .inr (by omega)
    have FIN : Hid (∀ (g cap : Nat) (w7 W : World) (o : Obj), Fresh w7 (N + 6) g vs.length cap vs → (w6.alloc o).drew.grownBy w7 (Value.ownBlock (.slice ai vs.length ci)) → (Value.ownBlock (.slice ai vs.length ci) = some g ∨ g = (w6.alloc o).drew.heap.size) → (W = (put4 w7 g (vs.length * 4) x).setCell ⟨N + 3, 3, none⟩ (.slice (some ⟨g, 0, none⟩) (vs.length + 1) cap) ∨ W = put4 (w7.setCell ⟨N + 3, 3, none⟩ (.slice (some ⟨g, 0, none⟩) (vs.length + 1) cap)) g (vs.length * 4) x) → El R s e q (fun w l => OI w0 R (31 - (d : Int)) w l) (fun w => Cp w R N (31 - (d : Int)) ∧ LF w0 R (N + 3) w) acc (memAt (sbytes s) (vAt (sbytes s) d) acc p) (.returned (.bool okb)) W) := by
      intro g cap w7 W o hfr hgr hloc hW
      obtain ⟨a1, a2, ⟨a3, a4, a5⟩, a6, a7⟩ := HP6.out.item (by omega) (Below.refl _ _) hfr hgr hloc hW
      have st : ∀ b, b < w2.heap.size → b < N + 6 → b ≠ N + 3 → W.heap[b]? = w2.heap[b]? := fun b hb h6 h3 =>
        (a1 b (by omega) h3 (fun e => by have := (HO5.out b e).1; omega)).trans (HK6.out b hb h3 (fun e => by have := (HO4.out b e).1; omega))
      have hcp : Cp W R N (31 - (d : Int)) := HCP2.out.stay (fun b hb => st b (by omega) (by omega) (by omega))
      have htb : Tabs W := HTB2.out.stay (st 0 (by omega) (by omega) (by omega)) (st 1 (by omega) (by omega) (by omega))
      have hbut : But R w0 W := by
        have e1 := H0.out
        have e2 := HB1.out
        have e3 := HB2.out
        have en := HN.out
        refine ⟨a3.trans (o6.trans (HB3.out.os.trans (e3.os.trans (e2.os.trans e1.os)))), a4.trans (t6.trans (HB3.out.tape.trans (e3.tape.trans (e2.tape.trans e1.tape)))), a5.trans (u6.trans (HB3.out.output.trans (e3.output.trans (e2.output.trans e1.output)))), by omega, fun k hk hn => ?_⟩
        rw [st k (by omega) (by omega) (by omega), e3.block k (by omega) hn, e2.block k (by omega) hn (by omega)]
        exact e1.block k hk hn
      rw [HMA.out]
      cases ho : vAt (sbytes s) d q1 with
      | ok j p' =>
        have h := HOUT.out
        rw [ho] at h
        obtain ⟨rfl, h1, h2⟩ := h
        have hp := a7 j (fun b => w1.heap.size ≤ b ∧ b < w2.heap.size) (JRep.stay _ _ _ h2 (fun b hb => HK6.out b hb.2 (by omega) (fun e => by have := (HO4.out b e).2; omega))) (fun b hb => ⟨by omega, by omega⟩) (fun b h1 h2 => by have := HG7.out b h1; omega) (fun b h1 h2 => by have := HO6.out b h1; omega) (fun b h1 h2 => by have := (HO5.out b h1).2; omega)
        refine ⟨rfl, (st R (by omega) (by omega) (by omega)).trans h1, ?_⟩
        rw [HN.out] at hcp hp st hNw2 hz hN3
        refine ⟨hcp, ?_, ?_, ?_, ?_⟩
        · have := HMV2.out
          rw [HN.out] at this
          exact (st _ (by omega) (by omega) (by omega)).trans this
        · have := HH2.out
          rw [HN.out] at this
          unfold fsts
          rw [List.map_append]
          exact this.stay (st _ (by omega) (by omega) (by omega))
        · unfold fsts
          rw [List.map_append]
          intro n hn
          rcases List.mem_append.1 hn with hn | hn
          · exact HI.out.ok n hn
          · rcases List.mem_singleton.1 hn with rfl
            exact HN256.out
        · unfold fsts snds
          rw [List.map_append, List.map_append]
          exact hp.li hbut htb (by omega)
      | error e' q' =>
        have h := HOUT.out
        rw [ho] at h
        obtain ⟨rfl, p', h1⟩ := h
        exact ⟨rfl, ⟨p', (st R (by omega) (by omega) (by omega)).trans h1⟩, hcp, hbut, htb, ⟨6, ⟨#[]⟩, an', ln + 1, cn', some ⟨g, 0, none⟩, vs.length + 1, cap⟩, a6⟩
    have FIN1 : Hid (∀ g cap w7 o ε, ε = .returned (.bool okb) → Fresh w7 (N + 6) g vs.length cap vs → (w6.alloc o).drew.grownBy w7 (Value.ownBlock (.slice ai vs.length ci)) → (Value.ownBlock (.slice ai vs.length ci) = some g ∨ g = (w6.alloc o).drew.heap.size) → PP ε ((put4 w7 g (vs.length * 4) x).setCell ⟨N + 3, 3, none⟩ (.slice (some ⟨g, 0, none⟩) (vs.length + 1) cap))) := fun g cap w7 o ε hε h1 h2 h3 => by rw [hε]; exact HPP.out _ _ (FIN.out g cap w7 _ o h1 h2 h3 (.inl rfl))
    have FIN2 : Hid (∀ g cap w7 o ε, ε = .returned (.bool okb) → Fresh w7 (N + 6) g vs.length cap vs → (w6.alloc o).drew.grownBy w7 (Value.ownBlock (.slice ai vs.length ci)) → (Value.ownBlock (.slice ai vs.length ci) = some g ∨ g = (w6.alloc o).drew.heap.size) → PP ε (put4 (w7.setCell ⟨N + 3, 3, none⟩ (.slice (some ⟨g, 0, none⟩) (vs.length + 1) cap)) g (vs.length * 4) x)) := fun g cap w7 o ε hε h1 h2 h3 => by rw [hε]; exact HPP.out _ _ (FIN.out g cap w7 _ o h1 h2 h3 (.inr rfl))
    simp only [put4] at FIN1 FIN2
    have HG3 := hide HP6.out.g3
    have HG5 := hide HP6.out.g5
    have HVL2 : Hid (vs.length ≤ 1000000) := HVL.out.1
    have hN6 : N + 6 ≤ w6.heap.size := by omega
    clear FIN HPP p6 k6 z6 o6 t6 u6 m2 mf v2 r0' r1' HPW HP6 HK6 HO6 HJ3 HP3 HB3 HP2 HTB2 HH2 HMV2 HCP2 HB2 HOUT HP1 HTB1 HMV1 HCP1 H0 HT0 HO4 HG7 HP HR1 HN256 HH1 HB1 HMA HI HV HNM HV5 HNM5 HF2 HF4 HOW HI0 hNw2 hbz hz
    generalize w2.heap.size = b4 at *
    have j0 := HJ6.out.c0
    have j1 := HJ6.out.c1
    have j2 := HJ6.out.c2
    have j3 := HJ6.out.c3
    have v3 := HG3.out.c3
    have vf := HG3.out.fz 3
    have hlt : (vs.length : Int) < (vs.length : Int) + 1 := by omega
    have v3a := cell_kept v3 (below_new w6 (.cells #[.int .i64 0, .string ⟨#[]⟩, .slice none 0 0, .slice none 0 0] 25))
    have j0a := cell_kept j0 (below_new w6 (.cells #[.int .i64 0, .string ⟨#[]⟩, .slice none 0 0, .slice none 0 0] 25))
    have j1a := cell_kept j1 (below_new w6 (.cells #[.int .i64 0, .string ⟨#[]⟩, .slice none 0 0, .slice none 0 0] 25))
    have j2a := cell_kept j2 (below_new w6 (.cells #[.int .i64 0, .string ⟨#[]⟩, .slice none 0 0, .slice none 0 0] 25))
    have j3a := cell_kept j3 (below_new w6 (.cells #[.int .i64 0, .string ⟨#[]⟩, .slice none 0 0, .slice none 0 0] 25))
    generalize hz6 : w6.heap.size = b6 at *
    have HZ4 : Hid (∀ W : World, W.heap.size = b6 → Bl (W.alloc (.cells #[.int .i64 0, .string ⟨#[]⟩, .slice none 0 0, .slice none 0 0] 25)) b6 zero4 25) := fun W hW => by rw [← hW]; exact Bl.new W _ _
    have HV4 : Hid (∀ (g : Nat) (w7 : World) (o : Obj), (w6.alloc o).drew.grownBy w7 (Value.ownBlock (.slice ai vs.length ci)) → (Value.ownBlock (.slice ai vs.length ci) = some g ∨ g = (w6.alloc o).drew.heap.size) → Jb w7 (N + 3) 6 ⟨#[]⟩ (.slice an' (ln + 1) cn') (.slice ai vs.length ci) ∧ g ≠ N + 3) := fun g w7 o hgr hloc => by
      have hX : (w6.alloc o).drew.heap.size = w6.heap.size + 1 := by simp
      refine ⟨?_, ?_⟩
      · have e := hgr.block (N + 3) (by omega) (fun e => own_ne HG5.out (show N + 3 < N + 6 by omega) e.symm)
        refine e.trans ?_
        show (w6.alloc o).heap[N + 3]? = _
        rw [Below.heap_alloc w6 o (N + 3) (by omega)]
        exact HG3.out
      · rcases hloc with h | h
        · have := (ownsRow_own HG5.out h).1; omega
        · omega
    go_region_law (first
      | (refine law_appJ rfl (.tmp 30) (.tmp 33) rfl (N + 6) (.slice ai vs.length ci) vs rfl (World.ownsRow.alloc HG5.out _) b6 rfl (by exact HZ4.out _ hz6) HVL2.out (by simp; omega) ?_; intro g cap7 w7 hfr hgr hloc; obtain ⟨hv3, hgV⟩ := HV4.out g w7 _ hgr hloc; have HFR := hide hfr; have HGR := hide hgr; have HLOC := hide hloc; have k0 : w7.cell? ⟨g, vs.length * 4, none⟩ = some (.int .i64 0) := hfr.cell 0 (by omega); have k1 : w7.cell? ⟨g, vs.length * 4 + 1, none⟩ = some (.string ⟨#[]⟩) := hfr.cell 1 (by omega); have k2 : w7.cell? ⟨g, vs.length * 4 + 2, none⟩ = some (.slice none 0 0) := hfr.cell 2 (by omega); have k3 : w7.cell? ⟨g, vs.length * 4 + 3, none⟩ = some (.slice none 0 0) := hfr.cell 3 (by omega); have l0 := hfr.frozen (vs.length * 4); have l1 := hfr.frozen (vs.length * 4 + 1); have l2 := hfr.frozen (vs.length * 4 + 2); have l3 := hfr.frozen (vs.length * 4 + 3); have m3 := hv3.c3; have mf := hv3.fz 3; have hVg : N + 3 ≠ g := hgV.symm; clear hfr hgr hloc hv3))
    all_goals go_wp2_with fail
    all_goals go_ret
    all_goals refine ⟨trivial, ?_⟩
    all_goals first
      | with_reducible refine FIN1.out g cap7 w7 _ _ ?_ HFR.out HGR.out HLOC.out
      | with_reducible refine FIN2.out g cap7 w7 _ _ ?_ HFR.out HGR.out HLOC.out
    all_goals rfl
end Go.Proofs.YtlebockgdonceaaGreatDoor
namespace Go.Proofs.YtlebockgdonceaaGreatDoor
open Go.RowKit

/-- The world in which an object begins to be read. -/
def objW (w : World) (R : Nat) (dep : Int) : World := ((listW w R dep 6).alloc (.map #[] 0)).alloc (.cells #[.map (some (w.heap.size + 4))] 87)
theorem objW_size (w : World) (R : Nat) (dep : Int) : (objW w R dep).heap.size = w.heap.size + 6 := by unfold objW; simp [listW_size]
theorem objW_up (w : World) (R : Nat) (dep : Int) : Below (w.heap.size + 4) (listW w R dep 6) (objW w R dep) := by
  have := listW_size w R dep 6
  unfold objW
  exact ((Below.refl _ _).alloc (by omega) _).alloc (by simp; omega) _
theorem objW_below (w : World) (R : Nat) (dep : Int) : Below w.heap.size w (objW w R dep) := by
  have := listW_size w R dep 6
  unfold objW
  exact ((listW_below w R dep 6).alloc (by omega) _).alloc (by simp; omega) _
theorem objW_OI (w : World) (R : Nat) (dep : Int) (hT : Tabs w) : OI w R dep (objW w R dep) [] := by
  have hz := listW_size w R dep 6
  have hz2 := objW_size w R dep
  have hu := objW_up w R dep
  have hc := listW_cp w R dep 6
  refine ⟨hc.stay (fun b hb => hu.block b (by omega)), ?_, ?_, (fun n hn => by cases hn), ?_⟩
  · have := Bl.new ((listW w R dep 6).alloc (.map #[] 0)) #[.map (some (w.heap.size + 4))] 87
    rw [show ((listW w R dep 6).alloc (.map #[] 0)).heap.size = w.heap.size + 5 by simp [hz]] at this
    exact this
  · have := World.ownsMap.alloc (World.ownsMap_made (H := Unit) (listW w R dep 6) Tryz.prog 9 unitElem) (.cells #[.map (some (w.heap.size + 4))] 87)
    rw [hz] at this
    exact this
  · exact ⟨But.of (objW_below w R dep), hT.keep (objW_below w R dep), by omega, none, 0, 0, none, 0, 0, [], fun _ => False, (hu.block _ (by omega)).trans (listW_jb w R dep 6), nown_nil _ _, jown_nil _ _, by show ([] : List JV) = []; rfl, fun b hb => hb.elim, fun b hb => (by cases hb), fun b hb => (by cases hb), fun b hb => (by cases hb)⟩

set_option maxHeartbeats 4000000 in
set_option maxRecDepth 100000 in
theorem object_any (d : Nat) (hV : ValueOk d) (R : Nat) (s : ByteArray) (p e q : Nat) (w : World) (hd : d < 32) (h : RB w R s p e q) (hp : p < s.size) (hs : s.size ≤ 16384) (hR : 2 ≤ R) (hT : Tabs w) :
    Calls Tryz.prog 29 #[.pointer (some ⟨R, 0, none⟩), .int .i64 (31 - (d : Int))] w fun ε w' => Rd R s e q w isJ (fun (l : List (By × J)) v w' => ∃ x : JV, v = x.val ∧ JRep w' (.mk 6 [] (fsts l) (snds l)) x (fun b => w.heap.size ≤ b ∧ b < w'.heap.size)) (inAt (sbytes s) 125 (memAt (sbytes s) (vAt (sbytes s) d)) p) ε w' := by
  have hRl := h.lt
  have HB : Hid (Calls Tryz.prog 45 #[.pointer (some ⟨R, 0, none⟩), .string (bstr [125]), .func (.func 47) #[] #[.pointer (some ⟨w.heap.size, 0, none⟩), .pointer (some ⟨w.heap.size + 5, 0, none⟩), .pointer (some ⟨w.heap.size + 1, 0, none⟩), .pointer (some ⟨w.heap.size + 3, 0, none⟩)]] (objW w R (31 - (d : Int))) fun ε w' => Bt R s e q (fun w' l => OI w R (31 - (d : Int)) w' l) (fun w' => Cp w' R w.heap.size (31 - (d : Int)) ∧ LF w R (w.heap.size + 3) w') (inAt (sbytes s) 125 (memAt (sbytes s) (vAt (sbytes s) d)) p) ε w') := by
    refine between_any R s p e q 125 _ _ _ _ _ _ (enters_of Tryz.func47 (by kernel_rfl) rfl) ?_ ?_ ?_ ?_ (objW_OI w R _ hT) (h.keep (objW_below w R _)) hp hs (by decide) (by decide)
    · intro w1 acc p1 hI hr hp1 hal
      exact object1_any d hV w R s p1 e q w1 acc hd hs hR hRl hI hr hp1 (by omega)
    · intro acc p1 a q1 hp1 ho
      have := (mem_local (vAt_local d)).bd (sbytes s) acc p1 a q1 (by rw [sbytes_length]; exact hp1) ho
      rw [sbytes_length] at this
      exact this
    · intro w1 w2 acc hI hb
      exact hI.move hb hR hRl
    · intro w1 acc hI
      exact ⟨hI.cp, hI.li.fin⟩
  clear h hT hV
  have hmf : ∀ (fn : Fn) (first cap : Array Value) (w : World), (Instr.makeFunc fn first cap).run Tryz.prog w = .ok (.func fn first cap) w := fun _ _ _ _ => rfl
  have hmm := @run_makeMap Tryz.prog
  have HOW : Hid (objW w R (31 - (d : Int)) = ((((((w.alloc (.cells #[.pointer (some ⟨R, 0, none⟩)] 35)).alloc (.cells #[.int .i64 (31 - (d : Int))] 3)).alloc (.cells #[.int .i64 0, .string ⟨#[]⟩, .slice none 0 0, .slice none 0 0] 25)).alloc (.cells #[.int .i64 6, .string ⟨#[]⟩, .slice none 0 0, .slice none 0 0] 25)).alloc (.map #[] 0)).alloc (.cells #[.map (some (w.heap.size + 4))] 87))) := rfl
  go_enter Tryz.func29, Tryz.ntmps29
  go_wp2_with fail
  refine HB.out.mono ?_
  intro ε w1 h1
  have HS1 : Hid (∃ (x : JV) (okb : Bool), ε = .returned (.bool okb) ∧ Jb w1 (w.heap.size + 3) x.k x.t (.slice x.an x.ln x.cn) (.slice x.ai x.li x.ci) ∧ Cp w1 R w.heap.size (31 - (d : Int)) ∧ But R w w1 ∧ (match inAt (sbytes s) 125 (memAt (sbytes s) (vAt (sbytes s) d)) p with
      | .ok l p' => okb = true ∧ RB w1 R s p' e q ∧ JRep w1 (.mk 6 [] (fsts l) (snds l)) x (fun b => w.heap.size + 6 ≤ b ∧ b < w1.heap.size)
      | .error e' q' => okb = false ∧ ∃ p', RB w1 R s p' e' q')) := by
    show ∃ x, _
    cases ho : inAt (sbytes s) 125 (memAt (sbytes s) (vAt (sbytes s) d)) p with
    | ok l p' =>
      rw [ho] at h1
      obtain ⟨rfl, h2, h3⟩ := h1
      obtain ⟨x, h5, h6⟩ := h3.li.rep h3.ok
      exact ⟨x, true, rfl, h5, h3.cp, h3.li.but, rfl, h2, h6⟩
    | error e' q' =>
      rw [ho] at h1
      obtain ⟨rfl, h2, h3, h4⟩ := h1
      obtain ⟨x, h5⟩ := h4.val
      exact ⟨x, false, rfl, h5, h3, h4.but, rfl, h2⟩
  obtain ⟨x, okb, rfl, hV1, hC1, hb1, hout⟩ := HS1.out
  have FIN : Hid (Rd R s e q w isJ (fun (l : List (By × J)) v w' => ∃ x : JV, v = x.val ∧ JRep w' (.mk 6 [] (fsts l) (snds l)) x (fun b => w.heap.size ≤ b ∧ b < w'.heap.size)) (inAt (sbytes s) 125 (memAt (sbytes s) (vAt (sbytes s) d)) p) (.returned (.tuple #[x.val, .bool okb])) (put4 w1 (w.heap.size + 2) 0 x)) := by
    have hbp := put4_but w1 (w.heap.size + 2) 0 x
    cases ho : inAt (sbytes s) 125 (memAt (sbytes s) (vAt (sbytes s) d)) p with
    | ok l p' =>
      rw [ho] at hout
      obtain ⟨rfl, h2, h3⟩ := hout
      refine ⟨⟨_, rfl, isJ_val x, x, rfl, (JRep.stay _ _ _ h3 (fun b hb => hbp.block b hb.2 (by omega))).wide (fun b hb => ⟨by omega, by rw [put4_size]; exact hb.2⟩)⟩, Bl.but h2 hbp (by omega), hb1.new (by omega) hbp⟩
    | error e' q' =>
      rw [ho] at hout
      obtain ⟨rfl, p', h2⟩ := hout
      exact ⟨⟨_, p', rfl, isJ_val x, Bl.but h2 hbp (by omega)⟩, hb1.new (by omega) hbp⟩
  have v0 := hV1.c0
  have v1 := hV1.c1
  have v2 := hV1.c2
  have v3 := hV1.c3
  have j0 := hC1.z.c0
  have j1 := hC1.z.c1
  have j2 := hC1.z.c2
  have j3 := hC1.z.c3
  have g0 := hC1.z.fz 0
  have g1 := hC1.z.fz 1
  have g2 := hC1.z.fz 2
  have g3 := hC1.z.fz 3
  clear HS1 hV1 hC1 hb1 hout h1 HB
  simp only [put4, JV.val, Nat.zero_add] at FIN
  go_wp2_with fail
  refine bodyPost_ret (v := .tuple #[.agg #[.int .i64 x.k, .string x.t, .slice x.an x.ln x.cn, .slice x.ai x.li x.ci], .bool okb]) (by simp [results, Tryz.results29, go_sem, j0, j1, j2, j3]) rfl ?_
  exact FIN.out
end Go.Proofs.YtlebockgdonceaaGreatDoor
