/- While elements are read: what lies in memory, and one item more. The contracts of the reader's list and of its closure, by the contract of value one deeper. The contract of the reader's list. -/
import Derived.Test.YtlebockgdonceaaGreatDoorJBetw
import Derived.Test.YtlebockgdonceaaGreatDoorKWord
namespace Go.Proofs.YtlebockgdonceaaGreatDoor
open Go.RowKit

/-- The contract of value, with d depths left. -/
def ValueOk (d : Nat) : Prop := ∀ (R : Nat) (s : ByteArray) (p e q : Nat) (w : World), RB w R s p e q → p ≤ s.size → s.size ≤ 16384 → 2 ≤ R → Tabs w →
  Calls Tryz.prog 14 #[.pointer (some ⟨R, 0, none⟩), .int .i64 (32 - (d : Int))] w fun ε w' => Rd R s e q w isJ (fun (j : J) v w' => ∃ x : JV, v = x.val ∧ JRep w' j x (fun b => w.heap.size ≤ b ∧ b < w'.heap.size)) (vAt (sbytes s) d p) ε w'

/-- While elements are read: V holds the Json of a kind; its rows lie from lo on. -/
structure LI (w0 : World) (R V lo : Nat) (k : Int) (w : World) (ns : List By) (js : List J) : Prop where
  but : But R w0 w
  tabs : Tabs w
  sz : lo ≤ w.heap.size
  rows : ∃ an ln cn ai li ci vs F, Jb w V k ⟨#[]⟩ (.slice an ln cn) (.slice ai li ci) ∧ NOwn w lo (.slice an ln cn) ns ∧ JOwn w lo (.slice ai li ci) vs ∧ JReps w js vs F ∧ (∀ b, F b → lo ≤ b ∧ b < w.heap.size) ∧
    (∀ b, Value.ownBlock (.slice an ln cn) = some b → ¬ F b) ∧ (∀ b, Value.ownBlock (.slice ai li ci) = some b → ¬ F b) ∧ (∀ b, Value.ownBlock (.slice an ln cn) = some b → Value.ownBlock (.slice ai li ci) = some b → False)
theorem LI.move {w0 w w' : World} {R V lo : Nat} {k : Int} {ns : List By} {js : List J} (h : LI w0 R V lo k w ns js) (hb : But R w w') (hR : 2 ≤ R) (hRV : R < V) (hVl : V < lo) : LI w0 R V lo k w' ns js := by
  obtain ⟨h1, h2, hz, an, ln, cn, ai, li, ci, vs, F, h3, h4, h5, h6, h7, h8, h9, h10⟩ := h
  refine ⟨h1.trans hb, h2.but hb hR, Nat.le_trans hz hb.size, an, ln, cn, ai, li, ci, vs, F, h3.but hb (by omega), ownsRow_stay h4 (fun g hg => hb.block g (ownsRow_own h4 hg).2 (by have := (ownsRow_own h4 hg).1; omega)), ownsRow_stay h5 (fun g hg => hb.block g (ownsRow_own h5 hg).2 (by have := (ownsRow_own h5 hg).1; omega)), JReps.stay _ _ _ h6 (fun b hF => hb.block b (h7 b hF).2 (by have := (h7 b hF).1; omega)), fun b hF => ⟨(h7 b hF).1, Nat.lt_of_lt_of_le (h7 b hF).2 hb.size⟩, h8, h9, h10⟩
/-- Beside a fault: V holds some Json. -/
structure LF (w0 : World) (R V : Nat) (w : World) : Prop where
  but : But R w0 w
  tabs : Tabs w
  val : ∃ x : JV, Jb w V x.k x.t (.slice x.an x.ln x.cn) (.slice x.ai x.li x.ci)
theorem LI.fin {w0 w : World} {R V lo : Nat} {k : Int} {ns : List By} {js : List J} (h : LI w0 R V lo k w ns js) : LF w0 R V w := by
  obtain ⟨h1, h2, hz, an, ln, cn, ai, li, ci, vs, F, h3, _⟩ := h
  exact ⟨h1, h2, ⟨k, ⟨#[]⟩, an, ln, cn, ai, li, ci⟩, h3⟩
theorem LF.move {w0 w w' : World} {R V : Nat} (h : LF w0 R V w) (hb : But R w w') (hR : 2 ≤ R) (hRV : R < V) : LF w0 R V w' := by
  obtain ⟨h1, h2, x, h3⟩ := h
  exact ⟨h1.trans hb, h2.but hb hR, x, h3.but hb (by omega)⟩

theorem own_ne {w : World} {B n z : Nat} {e : TypeId} {v : Value} {xs : List Value} (h : w.ownsRow B e z v n xs) {b : Nat} (hb : b < B) : v.ownBlock ≠ some b := fun e => by have := (ownsRow_own h e).1; omega
/-- One item more: from the world w (ahead of the item's reading), over w1 (behind it), to W. -/
theorem app_LI {w0 w w1 W : World} {R V lo : Nat} {k : Int} {ns : List By} {js : List J} {an ai : Option Addr} {ln cn li ci g n cap : Nat} {vs : List JV} {F : Nat → Prop} {x : JV}
    (h0 : But R w0 w) (hb1 : But R w w1) (hz : lo ≤ w.heap.size) (hR : 2 ≤ R) (hRV : R < V) (hVl : V < lo) (hV0 : w0.heap.size ≤ V) (hT : Tabs w)
    (g4 : NOwn w lo (.slice an ln cn) ns) (g5 : JOwn w lo (.slice ai li ci) vs) (g6 : JReps w js vs F) (g7 : ∀ b, F b → lo ≤ b ∧ b < w.heap.size)
    (g8 : ∀ b, Value.ownBlock (.slice an ln cn) = some b → ¬ F b) (g9 : ∀ b, Value.ownBlock (.slice ai li ci) = some b → ¬ F b) (g10 : ∀ b, Value.ownBlock (.slice an ln cn) = some b → Value.ownBlock (.slice ai li ci) = some b → False)
    (hW : ∀ b, b < w1.heap.size → b ≠ V → Value.ownBlock (.slice ai li ci) ≠ some b → W.heap[b]? = w1.heap[b]?) (hWz : w1.heap.size ≤ W.heap.size) (hos : W.os = w1.os ∧ W.tape = w1.tape ∧ W.output = w1.output)
    (hown : JOwn W lo (.slice (some ⟨g, 0, none⟩) (n + 1) cap) (vs ++ [x])) (hJb : Jb W V k ⟨#[]⟩ (.slice an ln cn) (.slice (some ⟨g, 0, none⟩) (n + 1) cap)) (hg : Value.ownBlock (.slice ai li ci) = some g ∨ w1.heap.size ≤ g) :
    LF w0 R V W ∧ ∀ j, JRep w1 j x (fun b => w.heap.size ≤ b ∧ b < w1.heap.size) → LI w0 R V lo k W ns (js ++ [j]) := by
  have hsz := hb1.size
  have h0z := h0.size
  have ho5 : ∀ b, Value.ownBlock (.slice ai li ci) = some b → lo ≤ b ∧ b < w.heap.size := fun b hb => ownsRow_own g5 hb
  have ho4 : ∀ b, Value.ownBlock (.slice an ln cn) = some b → lo ≤ b ∧ b < w.heap.size := fun b hb => ownsRow_own g4 hb
  have st : ∀ b, b < w.heap.size → b ≠ V → b ≠ R → Value.ownBlock (.slice ai li ci) ≠ some b → W.heap[b]? = w.heap[b]? := fun b h1 h2 h3 h4 => (hW b (by omega) h2 h4).trans (hb1.block b h1 h3)
  have hbut : But R w0 W := ⟨hos.1.trans (hb1.os.trans h0.os), hos.2.1.trans (hb1.tape.trans h0.tape), hos.2.2.trans (hb1.output.trans h0.output), by omega, fun b h1 h2 => (st b (by omega) (by omega) h2 (own_ne g5 (by omega))).trans (h0.block b h1 h2)⟩
  have htab : Tabs W := by
    have key : ∀ a v, w.cell? a = some v → a.block < 2 → W.cell? a = some v := fun a v ha h2 => by
      have hlt := World.block_lt_of_cell? w a ha
      rw [World.cell?_of_block (st a.block hlt (by omega) (by omega) (own_ne g5 (by omega)))]; exact ha
    exact ⟨fun c hc => key _ _ (hT.1 c hc) (by show (0 : Nat) < 2; omega), fun i hi => ⟨key _ _ (hT.2 i hi).1 (by show (1 : Nat) < 2; omega), key _ _ (hT.2 i hi).2 (by show (1 : Nat) < 2; omega)⟩⟩
  refine ⟨⟨hbut, htab, ⟨k, ⟨#[]⟩, an, ln, cn, some ⟨g, 0, none⟩, n + 1, cap⟩, hJb⟩, fun j hj => ?_⟩
  have hgF : ¬ (F g ∨ (w.heap.size ≤ g ∧ g < w1.heap.size)) := by
    rintro (h | h)
    · rcases hg with hg | hg
      · exact g9 g hg h
      · have := (g7 g h).2; omega
    · rcases hg with hg | hg
      · have := (ho5 g hg).2; omega
      · omega
  refine ⟨hbut, htab, by omega, an, ln, cn, some ⟨g, 0, none⟩, n + 1, cap, vs ++ [x], fun b => F b ∨ (w.heap.size ≤ b ∧ b < w1.heap.size), hJb, ownsRow_stay g4 (fun b hb => st b (ho4 b hb).2 (by have := (ho4 b hb).1; omega) (by have := (ho4 b hb).1; omega) (fun h => g10 b hb h)), hown, ?_, ?_, ?_, ?_, ?_⟩
  · refine JReps.snoc (JReps.stay _ _ _ g6 (fun b hF => st b (g7 b hF).2 (by have := (g7 b hF).1; omega) (by have := (g7 b hF).1; omega) (fun h => g9 b h hF))) (JRep.stay _ _ _ hj (fun b hF => hW b hF.2 (by omega) (fun h => by have := (ho5 b h).2; omega))) (fun b h1 h2 => by have := (g7 b h1).2; omega)
  · rintro b (h | h)
    · exact ⟨(g7 b h).1, by have := (g7 b h).2; omega⟩
    · omega
  · rintro b hb (h | h)
    · exact g8 b hb h
    · have := (ho4 b hb).2; omega
  · intro b hb
    cases hb
    exact hgF
  · intro b hb hb2
    cases hb2
    rcases hg with hg | hg
    · exact g10 _ hb hg
    · have h2 : g < w.heap.size := (ho4 _ hb).2
      omega
/-- What the closures capture: the reader, the depth; and the result's own block. -/
structure Cp (w : World) (R N : Nat) (dep : Int) : Prop where
  r : Bl w N [.pointer (some ⟨R, 0, none⟩)] 35
  d : Bl w (N + 1) [.int .i64 dep] 3
  z : Jb w (N + 2) 0 ⟨#[]⟩ (.slice none 0 0) (.slice none 0 0)
theorem Cp.move {w w' : World} {R N : Nat} {dep : Int} (h : Cp w R N dep) (hb : But R w w') (h0 : R < N) : Cp w' R N dep := ⟨h.r.but hb (by omega), h.d.but hb (by omega), h.z.but hb (by omega)⟩
theorem Cp.stay {w w' : World} {R N : Nat} {dep : Int} (h : Cp w R N dep) (hb : ∀ b, b < N + 3 → w'.heap[b]? = w.heap[b]?) : Cp w' R N dep := ⟨(hb N (by omega)).trans h.r, (hb (N + 1) (by omega)).trans h.d, (hb (N + 2) (by omega)).trans h.z⟩
/-- Behind the append and the two stores. -/
theorem app_end {w0 w w1 w2 w3 W : World} {R V lo : Nat} {k : Int} {ns : List By} {js : List J} {an ai : Option Addr} {ln cn ci g cap : Nat} {vs : List JV} {F : Nat → Prop} {x : JV} {o : Obj}
    (h0 : But R w0 w) (hb1 : But R w w1) (hz : lo ≤ w.heap.size) (hR : 2 ≤ R) (hRV : R < V) (hVl : V < lo) (hV0 : w0.heap.size ≤ V) (hT : Tabs w)
    (g3 : Jb w V k ⟨#[]⟩ (.slice an ln cn) (.slice ai vs.length ci)) (g4 : NOwn w lo (.slice an ln cn) ns) (g5 : JOwn w lo (.slice ai vs.length ci) vs) (g6 : JReps w js vs F) (g7 : ∀ b, F b → lo ≤ b ∧ b < w.heap.size)
    (g8 : ∀ b, Value.ownBlock (.slice an ln cn) = some b → ¬ F b) (g9 : ∀ b, Value.ownBlock (.slice ai vs.length ci) = some b → ¬ F b) (g10 : ∀ b, Value.ownBlock (.slice an ln cn) = some b → Value.ownBlock (.slice ai vs.length ci) = some b → False)
    (hb2 : Below w1.heap.size w1 w2) (hfr : Fresh w3 lo g vs.length cap vs) (hgr : (w2.alloc o).drew.grownBy w3 (Value.ownBlock (.slice ai vs.length ci))) (hloc : Value.ownBlock (.slice ai vs.length ci) = some g ∨ g = (w2.alloc o).drew.heap.size)
    (hW : W = (put4 w3 g (vs.length * 4) x).setCell ⟨V, 3, none⟩ (.slice (some ⟨g, 0, none⟩) (vs.length + 1) cap) ∨ W = put4 (w3.setCell ⟨V, 3, none⟩ (.slice (some ⟨g, 0, none⟩) (vs.length + 1) cap)) g (vs.length * 4) x) :
    (∀ b, b < w1.heap.size → b ≠ V → Value.ownBlock (.slice ai vs.length ci) ≠ some b → W.heap[b]? = w1.heap[b]?) ∧ LF w0 R V W ∧ ∀ j, JRep w1 j x (fun b => w.heap.size ≤ b ∧ b < w1.heap.size) → LI w0 R V lo k W ns (js ++ [j]) := by
  have hsz := hb1.size
  have hsz2 := hb2.size
  have hX : (w2.alloc o).drew.heap.size = w2.heap.size + 1 := by simp
  have ho5 : ∀ b, Value.ownBlock (.slice ai vs.length ci) = some b → lo ≤ b ∧ b < w.heap.size := fun b hb => ownsRow_own g5 hb
  have hx : ∀ b, b < w1.heap.size → Value.ownBlock (.slice ai vs.length ci) ≠ some b → w3.heap[b]? = w1.heap[b]? := fun b h1 h2 => by
    rw [hgr.block b (by omega) (fun e => h2 e.symm)]
    show (w2.alloc o).heap[b]? = _
    rw [Below.heap_alloc w2 o b (by omega)]
    exact hb2.block b h1
  have hVw : V < w1.heap.size := by omega
  have hV3 : Jb w3 V k ⟨#[]⟩ (.slice an ln cn) (.slice ai vs.length ci) := (hx V hVw (own_ne g5 hVl)).trans (hb1.block V (by omega) (by omega) |>.trans g3)
  have hgV : g ≠ V := by
    rcases hloc with h | h
    · have := (ho5 g h).1; omega
    · omega
  obtain ⟨d1, d2, d3, d4, d5, d6, d7⟩ := app_done hfr hV3 hgV hW
  have hall : ∀ b, b < w1.heap.size → b ≠ V → Value.ownBlock (.slice ai vs.length ci) ≠ some b → W.heap[b]? = w1.heap[b]? := fun b h1 h2 h3 => by
    rw [d3 b (by rcases hloc with h | h
                 · intro e; subst e; exact h3 h
                 · omega) h2]
    exact hx b h1 h3
  have hgs := hgr.size
  obtain ⟨l1, l2⟩ := app_LI (W := W) h0 hb1 hz hR hRV hVl hV0 hT g4 g5 g6 g7 g8 g9 g10 hall (by omega) ⟨d5.trans (hgr.os.trans hb2.os), d6.trans (hgr.tape.trans hb2.tape), d7.trans (hgr.output.trans hb2.output)⟩ d1 d2 (by
    rcases hloc with h | h
    · exact .inl h
    · exact .inr (by omega))
  exact ⟨hall, l1, l2⟩
end Go.Proofs.YtlebockgdonceaaGreatDoor
namespace Go.Proofs.YtlebockgdonceaaGreatDoor
open Go.RowKit

set_option maxHeartbeats 4000000 in
set_option maxRecDepth 100000 in
theorem list1_any (d : Nat) (hV : ValueOk d) (w0 : World) (R : Nat) (s : ByteArray) (p e q : Nat) (w : World) (acc : List J) (hd : d < 32) (hs : s.size ≤ 16384) (hR : 2 ≤ R) (hRw : R < w0.heap.size)
    (hC : Cp w R w0.heap.size (31 - (d : Int))) (hI : LI w0 R (w0.heap.size + 3) (w0.heap.size + 4) 5 w [] acc) (h : RB w R s p e q) (hp : p ≤ s.size) (hal : acc.length ≤ 16384) :
    Calls Tryz.prog 46 #[.pointer (some ⟨w0.heap.size, 0, none⟩), .pointer (some ⟨w0.heap.size + 1, 0, none⟩), .pointer (some ⟨w0.heap.size + 3, 0, none⟩)] w fun ε w' =>
      El R s e q (fun w l => Cp w R w0.heap.size (31 - (d : Int)) ∧ LI w0 R (w0.heap.size + 3) (w0.heap.size + 4) 5 w [] l) (fun w => Cp w R w0.heap.size (31 - (d : Int)) ∧ LF w0 R (w0.heap.size + 3) w) acc (vAt (sbytes s) d p) ε w' := by
  obtain ⟨N, hN⟩ : ∃ N, N = w0.heap.size := ⟨_, rfl⟩
  rw [← hN] at hRw hC hI ⊢
  have HN := hide hN
  clear hN
  suffices HSU : ∀ PP : Ending → World → Prop, (∀ ε w', El R s e q (fun w l => Cp w R N (31 - (d : Int)) ∧ LI w0 R (N + 3) (N + 4) 5 w [] l) (fun w => Cp w R N (31 - (d : Int)) ∧ LF w0 R (N + 3) w) acc (vAt (sbytes s) d p) ε w' → PP ε w') → Calls Tryz.prog 46 #[.pointer (some ⟨N, 0, none⟩), .pointer (some ⟨N + 1, 0, none⟩), .pointer (some ⟨N + 3, 0, none⟩)] w fun ε w' => True ∧ PP ε w' from (HSU _ (fun _ _ h => h)).mono fun _ _ h => h.2
  intro PP hPP
  have HPP := hide hPP
  clear hPP
  have r0 : w.cell? ⟨N, 0, none⟩ = some (.pointer (some ⟨R, 0, none⟩)) := hC.r.cell 0
  have r1 : w.cell? ⟨N + 1, 0, none⟩ = some (.int .i64 (31 - (d : Int))) := hC.d.cell 0
  have hdep : (31 - (d : Int)) + 1 = 32 - (d : Int) := by omega
  have HI := hide hI
  have HC := hide hC
  have H := hide h
  have hT := hI.tabs
  have HV := hide hV
  have HT := hide hT
  have hd1 : (0 : Int) ≤ 31 - (d : Int) := by omega
  have hd2 : 31 - (d : Int) ≤ 31 := by omega
  clear hI hC h hT hV
  go_enter Tryz.func46, Tryz.ntmps46
  go_wp2_with fail
  refine (HV.out R s p e q w H.out hp hs hR HT.out).mono ?_
  intro ε w1 h1
  have HS1 : Hid (∃ (x : JV) (okb : Bool), ε = .returned (.tuple #[x.val, .bool okb]) ∧ But R w w1 ∧ (∃ p' e' q', RB w1 R s p' e' q') ∧ (match vAt (sbytes s) d p with
      | .ok j p' => okb = true ∧ RB w1 R s p' e q ∧ JRep w1 j x (fun b => w.heap.size ≤ b ∧ b < w1.heap.size)
      | .error e' q' => okb = false ∧ ∃ p', RB w1 R s p' e' q')) := by
    show ∃ x, _
    cases ho : vAt (sbytes s) d p with
    | ok j p' =>
      rw [ho] at h1
      obtain ⟨⟨v, rfl, _, x, rfl, hr⟩, h2, hb⟩ := h1
      exact ⟨x, true, rfl, hb, ⟨_, _, _, h2⟩, rfl, h2, hr⟩
    | error e' q' =>
      rw [ho] at h1
      obtain ⟨⟨v, p', rfl, hj, h2⟩, hb⟩ := h1
      obtain ⟨x, rfl⟩ := isJ_out hj
      exact ⟨x, false, rfl, hb, ⟨_, _, _, h2⟩, rfl, p', h2⟩
  clear h1
  obtain ⟨x, okb, rfl, hb1, ⟨p1, e1, q1, hR1⟩, hout⟩ := HS1.out
  have HOUT := hide hout
  have HR1 := hide hR1
  have HB1 := hide hb1
  obtain ⟨h0, hT0, hz, an, ln, cn, ai, li, ci, vs, F, g3, g4, g5, g6, g7, g8, g9, g10⟩ := HI.out
  obtain ⟨ao, cap, hsl⟩ := ownsRow_slice g5
  injection hsl with hs1 hs2 hs3
  subst hs1; subst hs2; subst hs3
  have hsz1 := hb1.size
  have HVL := hide (JReps.len g6)
  have HVL2 : Hid (vs.length ≤ 1000000) := by show _ ≤ _; rw [HVL.out]; omega
  have HJ2 := hide (Jb.new w1 x.k x.t (.slice x.an x.ln x.cn) (.slice x.ai x.li x.ci))
  have HB2 := hide (below_new w1 (.cells #[.int .i64 x.k, .string x.t, .slice x.an x.ln x.cn, .slice x.ai x.li x.ci] 25))
  have HG3 := hide ((g3.but hb1 (by omega)).keep HB2.out)
  have HG5 : Hid (JOwn (w1.alloc (.cells #[.int .i64 x.k, .string x.t, .slice x.an x.ln x.cn, .slice x.ai x.li x.ci] 25)) (N + 4) (.slice ai vs.length ci) vs) := ownsRow_stay g5 (fun g hg => (HB2.out.block g (by have := (ownsRow_own g5 hg).2; omega)).trans (hb1.block g (ownsRow_own g5 hg).2 (by have := (ownsRow_own g5 hg).1; omega)))
  have hbz : (w1.alloc (.cells #[.int .i64 x.k, .string x.t, .slice x.an x.ln x.cn, .slice x.ai x.li x.ci] 25)).heap.size = w1.heap.size + 1 := by simp
  have FIN : Hid (∀ (g cap : Nat) (w3 W : World) (o : Obj), Fresh w3 (N + 4) g vs.length cap vs → ((w1.alloc (.cells #[.int .i64 x.k, .string x.t, .slice x.an x.ln x.cn, .slice x.ai x.li x.ci] 25)).alloc o).drew.grownBy w3 (Value.ownBlock (.slice ai vs.length ci)) → (Value.ownBlock (.slice ai vs.length ci) = some g ∨ g = ((w1.alloc (.cells #[.int .i64 x.k, .string x.t, .slice x.an x.ln x.cn, .slice x.ai x.li x.ci] 25)).alloc o).drew.heap.size) →
      (W = (put4 w3 g (vs.length * 4) x).setCell ⟨N + 3, 3, none⟩ (.slice (some ⟨g, 0, none⟩) (vs.length + 1) cap) ∨ W = put4 (w3.setCell ⟨N + 3, 3, none⟩ (.slice (some ⟨g, 0, none⟩) (vs.length + 1) cap)) g (vs.length * 4) x) →
      El R s e q (fun w l => Cp w R N (31 - (d : Int)) ∧ LI w0 R (N + 3) (N + 4) 5 w [] l) (fun w => Cp w R N (31 - (d : Int)) ∧ LF w0 R (N + 3) w) acc (vAt (sbytes s) d p) (.returned (.bool okb)) W) := by
    intro g cap w3 W o hfr hgr hloc hW
    obtain ⟨a1, a2, a3⟩ := app_end h0 hb1 hz hR (by omega) (by omega) (by have := HN.out; omega) hT0 g3 g4 g5 g6 g7 g8 g9 g10 HB2.out hfr hgr hloc hW
    have st : ∀ b, b < N + 3 → W.heap[b]? = w1.heap[b]? := fun b hb => a1 b (by omega) (by omega) (own_ne g5 (by omega))
    have hcp : Cp W R N (31 - (d : Int)) := (HC.out.move hb1 (by omega)).stay st
    cases ho : vAt (sbytes s) d p with
    | ok j p' =>
      have h := HOUT.out
      rw [ho] at h
      obtain ⟨rfl, h1, h2⟩ := h
      exact ⟨rfl, (st R (by omega)).trans h1, hcp, a3 j h2⟩
    | error e' q' =>
      have h := HOUT.out
      rw [ho] at h
      obtain ⟨rfl, p', h1⟩ := h
      exact ⟨rfl, ⟨p', (st R (by omega)).trans h1⟩, hcp, a2⟩
  have FIN1 : Hid (∀ g cap w3 o ε, ε = .returned (.bool okb) → Fresh w3 (N + 4) g vs.length cap vs → ((w1.alloc (.cells #[.int .i64 x.k, .string x.t, .slice x.an x.ln x.cn, .slice x.ai x.li x.ci] 25)).alloc o).drew.grownBy w3 (Value.ownBlock (.slice ai vs.length ci)) → (Value.ownBlock (.slice ai vs.length ci) = some g ∨ g = ((w1.alloc (.cells #[.int .i64 x.k, .string x.t, .slice x.an x.ln x.cn, .slice x.ai x.li x.ci] 25)).alloc o).drew.heap.size) → PP ε ((put4 w3 g (vs.length * 4) x).setCell ⟨N + 3, 3, none⟩ (.slice (some ⟨g, 0, none⟩) (vs.length + 1) cap))) := fun g cap w3 o ε hε h1 h2 h3 => by rw [hε]; exact HPP.out _ _ (FIN.out g cap w3 _ o h1 h2 h3 (.inl rfl))
  have FIN2 : Hid (∀ g cap w3 o ε, ε = .returned (.bool okb) → Fresh w3 (N + 4) g vs.length cap vs → ((w1.alloc (.cells #[.int .i64 x.k, .string x.t, .slice x.an x.ln x.cn, .slice x.ai x.li x.ci] 25)).alloc o).drew.grownBy w3 (Value.ownBlock (.slice ai vs.length ci)) → (Value.ownBlock (.slice ai vs.length ci) = some g ∨ g = ((w1.alloc (.cells #[.int .i64 x.k, .string x.t, .slice x.an x.ln x.cn, .slice x.ai x.li x.ci] 25)).alloc o).drew.heap.size) → PP ε (put4 (w3.setCell ⟨N + 3, 3, none⟩ (.slice (some ⟨g, 0, none⟩) (vs.length + 1) cap)) g (vs.length * 4) x)) := fun g cap w3 o ε hε h1 h2 h3 => by rw [hε]; exact HPP.out _ _ (FIN.out g cap w3 _ o h1 h2 h3 (.inr rfl))
  simp only [put4] at FIN1 FIN2
  clear FIN HPP
  clear HS1 hb1 hR1 hout r0 r1 HI HC H HT g3 g4 g5 g6 g7 g8 g9 g10 h0 hT0 HOUT HR1 HB2 HB1
  rw [show x.val = .agg #[.int .i64 x.k, .string x.t, .slice x.an x.ln x.cn, .slice x.ai x.li x.ci] from rfl]
  go_wp2_with fail
  generalize w1.alloc (.cells #[.int .i64 x.k, .string x.t, .slice x.an x.ln x.cn, .slice x.ai x.li x.ci] 25) = w2 at *
  generalize w1.heap.size = b4 at *
  have j0 := HJ2.out.c0
  have j1 := HJ2.out.c1
  have j2 := HJ2.out.c2
  have j3 := HJ2.out.c3
  have v3 := HG3.out.c3
  have vf := HG3.out.fz 3
  have hlt : (vs.length : Int) < (vs.length : Int) + 1 := by omega
  have v3a := cell_kept v3 (below_new w2 (.cells #[.int .i64 0, .string ⟨#[]⟩, .slice none 0 0, .slice none 0 0] 25))
  have j0a := cell_kept j0 (below_new w2 (.cells #[.int .i64 0, .string ⟨#[]⟩, .slice none 0 0, .slice none 0 0] 25))
  have j1a := cell_kept j1 (below_new w2 (.cells #[.int .i64 0, .string ⟨#[]⟩, .slice none 0 0, .slice none 0 0] 25))
  have j2a := cell_kept j2 (below_new w2 (.cells #[.int .i64 0, .string ⟨#[]⟩, .slice none 0 0, .slice none 0 0] 25))
  have j3a := cell_kept j3 (below_new w2 (.cells #[.int .i64 0, .string ⟨#[]⟩, .slice none 0 0, .slice none 0 0] 25))
  have HZ4 : Hid (∀ W : World, W.heap.size = b4 + 1 → Bl (W.alloc (.cells #[.int .i64 0, .string ⟨#[]⟩, .slice none 0 0, .slice none 0 0] 25)) (b4 + 1) zero4 25) := fun W hW => by rw [← hW]; exact Bl.new W _ _
  have HV4 : Hid (∀ (g : Nat) (w3 : World) (o : Obj), (w2.alloc o).drew.grownBy w3 (Value.ownBlock (.slice ai vs.length ci)) → (Value.ownBlock (.slice ai vs.length ci) = some g ∨ g = (w2.alloc o).drew.heap.size) → Jb w3 (N + 3) 5 ⟨#[]⟩ (.slice an ln cn) (.slice ai vs.length ci) ∧ g ≠ N + 3) := fun g w3 o hgr hloc => by
    have hX : (w2.alloc o).drew.heap.size = w2.heap.size + 1 := by simp
    refine ⟨?_, ?_⟩
    · have e := hgr.block (N + 3) (by omega) (fun e => own_ne HG5.out (show N + 3 < N + 4 by omega) e.symm)
      refine e.trans ?_
      show (w2.alloc o).heap[N + 3]? = _
      rw [Below.heap_alloc w2 o (N + 3) (by omega)]
      exact HG3.out
    · rcases hloc with h | h
      · have := (ownsRow_own HG5.out h).1; omega
      · omega
  go_region_law (first
    | (refine law_appJ rfl (.tmp 14) (.tmp 17) rfl (N + 4) (.slice ai vs.length ci) vs rfl (World.ownsRow.alloc HG5.out _) (b4 + 1) rfl (by exact HZ4.out _ hbz) HVL2.out (by simp; omega) ?_; intro g cap3 w3 hfr hgr hloc; obtain ⟨hv3, hgV⟩ := HV4.out g w3 _ hgr hloc; have HFR := hide hfr; have HGR := hide hgr; have HLOC := hide hloc; have k0 : w3.cell? ⟨g, vs.length * 4, none⟩ = some (.int .i64 0) := hfr.cell 0 (by omega); have k1 : w3.cell? ⟨g, vs.length * 4 + 1, none⟩ = some (.string ⟨#[]⟩) := hfr.cell 1 (by omega); have k2 : w3.cell? ⟨g, vs.length * 4 + 2, none⟩ = some (.slice none 0 0) := hfr.cell 2 (by omega); have k3 : w3.cell? ⟨g, vs.length * 4 + 3, none⟩ = some (.slice none 0 0) := hfr.cell 3 (by omega); have l0 := hfr.frozen (vs.length * 4); have l1 := hfr.frozen (vs.length * 4 + 1); have l2 := hfr.frozen (vs.length * 4 + 2); have l3 := hfr.frozen (vs.length * 4 + 3); have m3 := hv3.c3; have mf := hv3.fz 3; have hVg : N + 3 ≠ g := hgV.symm; clear hfr hgr hloc hv3))
  all_goals go_wp2_with fail
  all_goals go_ret
  all_goals refine ⟨trivial, ?_⟩
  all_goals first
    | with_reducible refine FIN1.out g cap3 w3 _ _ ?_ HFR.out HGR.out HLOC.out
    | with_reducible refine FIN2.out g cap3 w3 _ _ ?_ HFR.out HGR.out HLOC.out
  all_goals rfl
end Go.Proofs.YtlebockgdonceaaGreatDoor
namespace Go.Proofs.YtlebockgdonceaaGreatDoor
open Go.RowKit

theorem vAt_bd (s : ByteArray) (d p q : Nat) (j : J) (hp : p ≤ s.size) (h : vAt (sbytes s) d p = .ok j q) : p < q ∧ q ≤ s.size := by
  have := (vAt_local d).bd (sbytes s) [] p j q (by rw [sbytes_length]; exact hp) h
  rw [sbytes_length] at this
  exact this
/-- The answer: the Json that V holds, its memory the call's own. -/
theorem LI.rep {w0 w : World} {R V lo : Nat} {k : Int} {ns : List By} {js : List J} (h : LI w0 R V lo k w ns js) (hns : ∀ n ∈ ns, ∀ x ∈ n, x < 256) : ∃ x : JV, Jb w V x.k x.t (.slice x.an x.ln x.cn) (.slice x.ai x.li x.ci) ∧ JRep w (.mk k [] ns js) x (fun b => lo ≤ b ∧ b < w.heap.size) := by
  obtain ⟨h1, h2, hz, an, ln, cn, ai, li, ci, vs, F, g3, g4, g5, g6, g7, g8, g9, g10⟩ := h
  refine ⟨⟨k, ⟨#[]⟩, an, ln, cn, ai, li, ci⟩, g3, ?_⟩
  rw [JRep_mk]
  refine ⟨rfl, rfl, (fun x hx => by cases hx), hns, vs, F, ownsRow_lower g4 (Nat.zero_le _), ownsRow_lower g5 (Nat.zero_le _), g6, fun b hb => g7 b hb, fun b hb => ⟨ownsRow_own g4 hb, g8 b hb⟩, fun b hb => ⟨ownsRow_own g5 hb, g9 b hb⟩, g10⟩
/-- The world in which a list or an object begins to be read. -/
def listW (w : World) (R : Nat) (dep k : Int) : World := (((w.alloc (.cells #[.pointer (some ⟨R, 0, none⟩)] 35)).alloc (.cells #[.int .i64 dep] 3)).alloc (.cells #[.int .i64 0, .string ⟨#[]⟩, .slice none 0 0, .slice none 0 0] 25)).alloc (.cells #[.int .i64 k, .string ⟨#[]⟩, .slice none 0 0, .slice none 0 0] 25)
theorem listW_size (w : World) (R : Nat) (dep k : Int) : (listW w R dep k).heap.size = w.heap.size + 4 := by simp [listW]
theorem listW_below (w : World) (R : Nat) (dep k : Int) : Below w.heap.size w (listW w R dep k) := by
  unfold listW
  exact ((((Below.refl _ _).alloc (Nat.le_refl _) _).alloc (by simp) _).alloc (by simp; omega) _).alloc (by simp; omega) _
theorem listW_cp (w : World) (R : Nat) (dep k : Int) : Cp (listW w R dep k) R w.heap.size dep := by
  unfold listW
  refine ⟨(((Bl.new w _ _).alloc _).alloc _).alloc _, ?_, ?_⟩
  · have := ((Bl.new (w.alloc (.cells #[.pointer (some ⟨R, 0, none⟩)] 35)) #[.int .i64 dep] 3).alloc (.cells #[.int .i64 0, .string ⟨#[]⟩, .slice none 0 0, .slice none 0 0] 25)).alloc (.cells #[.int .i64 k, .string ⟨#[]⟩, .slice none 0 0, .slice none 0 0] 25)
    simpa using this
  · have := (Bl.new ((w.alloc (.cells #[.pointer (some ⟨R, 0, none⟩)] 35)).alloc (.cells #[.int .i64 dep] 3)) #[.int .i64 0, .string ⟨#[]⟩, .slice none 0 0, .slice none 0 0] 25).alloc (.cells #[.int .i64 k, .string ⟨#[]⟩, .slice none 0 0, .slice none 0 0] 25)
    unfold Jb
    simpa using this
theorem listW_jb (w : World) (R : Nat) (dep k : Int) : Jb (listW w R dep k) (w.heap.size + 3) k ⟨#[]⟩ (.slice none 0 0) (.slice none 0 0) := by
  have := Bl.new (((w.alloc (.cells #[.pointer (some ⟨R, 0, none⟩)] 35)).alloc (.cells #[.int .i64 dep] 3)).alloc (.cells #[.int .i64 0, .string ⟨#[]⟩, .slice none 0 0, .slice none 0 0] 25)) #[.int .i64 k, .string ⟨#[]⟩, .slice none 0 0, .slice none 0 0] 25
  unfold Jb listW
  simpa using this
theorem listW_LI (w : World) (R : Nat) (dep k : Int) (hT : Tabs w) : LI w R (w.heap.size + 3) (w.heap.size + 4) k (listW w R dep k) [] [] :=
  ⟨But.of (listW_below w R dep k), hT.keep (listW_below w R dep k), by rw [listW_size]; exact Nat.le_refl _, none, 0, 0, none, 0, 0, [], fun _ => False, listW_jb w R dep k, nown_nil _ _, jown_nil _ _, by rw [JReps_nil], fun b hb => hb.elim, fun b hb => (by cases hb), fun b hb => (by cases hb), fun b hb => (by cases hb)⟩

set_option maxHeartbeats 4000000 in
set_option maxRecDepth 100000 in
theorem list_any (d : Nat) (hV : ValueOk d) (R : Nat) (s : ByteArray) (p e q : Nat) (w : World) (hd : d < 32) (h : RB w R s p e q) (hp : p < s.size) (hs : s.size ≤ 16384) (hR : 2 ≤ R) (hT : Tabs w) :
    Calls Tryz.prog 28 #[.pointer (some ⟨R, 0, none⟩), .int .i64 (31 - (d : Int))] w fun ε w' => Rd R s e q w isJ (fun (l : List J) v w' => ∃ x : JV, v = x.val ∧ JRep w' (.mk 5 [] [] l) x (fun b => w.heap.size ≤ b ∧ b < w'.heap.size)) (inAt (sbytes s) 93 (fun _ => vAt (sbytes s) d) p) ε w' := by
  have hRl := h.lt
  have HB : Hid (Calls Tryz.prog 45 #[.pointer (some ⟨R, 0, none⟩), .string (bstr [93]), .func (.func 46) #[] #[.pointer (some ⟨w.heap.size, 0, none⟩), .pointer (some ⟨w.heap.size + 1, 0, none⟩), .pointer (some ⟨w.heap.size + 3, 0, none⟩)]] (listW w R (31 - (d : Int)) 5) fun ε w' => Bt R s e q (fun w' l => Cp w' R w.heap.size (31 - (d : Int)) ∧ LI w R (w.heap.size + 3) (w.heap.size + 4) 5 w' [] l) (fun w' => Cp w' R w.heap.size (31 - (d : Int)) ∧ LF w R (w.heap.size + 3) w') (inAt (sbytes s) 93 (fun _ => vAt (sbytes s) d) p) ε w') := by
    refine between_any R s p e q 93 _ _ _ _ _ _ (enters_of Tryz.func46 (by kernel_rfl) rfl) ?_ ?_ ?_ ?_ ⟨listW_cp w R _ 5, listW_LI w R _ 5 hT⟩ (h.keep (listW_below w R _ 5)) hp hs (by decide) (by decide)
    · intro w1 acc p1 hI hr hp1 hal
      exact list1_any d hV w R s p1 e q w1 acc hd hs hR hRl hI.1 hI.2 hr hp1 (by omega)
    · intro acc p1 a q1 hp1 ho
      exact vAt_bd s d p1 q1 a hp1 ho
    · intro w1 w2 acc hI hb
      exact ⟨hI.1.move hb hRl, hI.2.move hb hR (by omega) (by omega)⟩
    · intro w1 acc hI
      exact ⟨hI.1, hI.2.fin⟩
  clear h hT hV
  have hmf : ∀ (fn : Fn) (first cap : Array Value) (w : World), (Instr.makeFunc fn first cap).run Tryz.prog w = .ok (.func fn first cap) w := fun _ _ _ _ => rfl
  go_enter Tryz.func28, Tryz.ntmps28
  go_wp2_with fail
  refine HB.out.mono ?_
  intro ε w1 h1
  have HS1 : Hid (∃ (x : JV) (okb : Bool), ε = .returned (.bool okb) ∧ Jb w1 (w.heap.size + 3) x.k x.t (.slice x.an x.ln x.cn) (.slice x.ai x.li x.ci) ∧ Cp w1 R w.heap.size (31 - (d : Int)) ∧ But R w w1 ∧ (match inAt (sbytes s) 93 (fun _ => vAt (sbytes s) d) p with
      | .ok l p' => okb = true ∧ RB w1 R s p' e q ∧ JRep w1 (.mk 5 [] [] l) x (fun b => w.heap.size + 4 ≤ b ∧ b < w1.heap.size)
      | .error e' q' => okb = false ∧ ∃ p', RB w1 R s p' e' q')) := by
    show ∃ x, _
    cases ho : inAt (sbytes s) 93 (fun _ => vAt (sbytes s) d) p with
    | ok l p' =>
      rw [ho] at h1
      obtain ⟨rfl, h2, h3, h4⟩ := h1
      obtain ⟨x, h5, h6⟩ := h4.rep (fun n hn => by cases hn)
      exact ⟨x, true, rfl, h5, h3, h4.but, rfl, h2, h6⟩
    | error e' q' =>
      rw [ho] at h1
      obtain ⟨rfl, h2, h3, h4⟩ := h1
      obtain ⟨x, h5⟩ := h4.val
      exact ⟨x, false, rfl, h5, h3, h4.but, rfl, h2⟩
  obtain ⟨x, okb, rfl, hV1, hC1, hb1, hout⟩ := HS1.out
  have FIN : Hid (Rd R s e q w isJ (fun (l : List J) v w' => ∃ x : JV, v = x.val ∧ JRep w' (.mk 5 [] [] l) x (fun b => w.heap.size ≤ b ∧ b < w'.heap.size)) (inAt (sbytes s) 93 (fun _ => vAt (sbytes s) d) p) (.returned (.tuple #[x.val, .bool okb])) (put4 w1 (w.heap.size + 2) 0 x)) := by
    have hbp := put4_but w1 (w.heap.size + 2) 0 x
    cases ho : inAt (sbytes s) 93 (fun _ => vAt (sbytes s) d) p with
    | ok l p' =>
      rw [ho] at hout
      obtain ⟨rfl, h2, h3⟩ := hout
      refine ⟨⟨_, rfl, isJ_val x, x, rfl, (JRep.stay _ _ _ h3 (fun b hb => hbp.block b hb.2 (by omega))).wide (fun b hb => ⟨by omega, by rw [put4_size]; exact hb.2⟩)⟩, Bl.but h2 hbp (by omega), hb1.new (by omega) hbp⟩
    | error e' q' =>
      rw [ho] at hout
      obtain ⟨rfl, p', h2⟩ := hout
      exact ⟨⟨_, p', rfl, isJ_val x, Bl.but h2 hbp (by omega)⟩, hb1.new (by omega) hbp⟩
  have v0 := hV1.c0
  have v1 := hV1.c1
  have v2 := hV1.c2
  have v3 := hV1.c3
  have j0 := hC1.z.c0
  have j1 := hC1.z.c1
  have j2 := hC1.z.c2
  have j3 := hC1.z.c3
  have g0 := hC1.z.fz 0
  have g1 := hC1.z.fz 1
  have g2 := hC1.z.fz 2
  have g3 := hC1.z.fz 3
  clear HS1 hV1 hC1 hb1 hout h1 HB
  simp only [put4, JV.val, Nat.zero_add] at FIN
  go_wp2_with fail
  refine bodyPost_ret (v := .tuple #[.agg #[.int .i64 x.k, .string x.t, .slice x.an x.ln x.cn, .slice x.ai x.li x.ci], .bool okb]) (by simp [results, Tryz.results28, go_sem, j0, j1, j2, j3]) rfl ?_
  exact FIN.out
end Go.Proofs.YtlebockgdonceaaGreatDoor
