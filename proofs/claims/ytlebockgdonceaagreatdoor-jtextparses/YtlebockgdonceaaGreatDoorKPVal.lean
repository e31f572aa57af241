/- The contract of the writer's members, in the order in which they stand. A shape's type, asked. The contract of the writer's value, by the depth that is left. -/
import Derived.Test.YtlebockgdonceaaGreatDoorKPList
import Derived.Test.YtlebockgdonceaaGreatDoorKObj
import Derived.Test.YtlebockgdonceaaGreatDoorKPBuild
namespace Go.Proofs.YtlebockgdonceaaGreatDoor
open Go.RowKit Go.Maps

/-- The world in which members begin to be written. -/
def memWd (w : World) (b : Nat) (n i : Value) (dep : Int) : World :=
  (((((w.alloc (.cells #[.pointer (some ⟨b, 0, none⟩)] 67)).alloc (.cells #[n, i] 104)).alloc (.cells #[.int .i64 dep] 3)).alloc (.cells #[.func (.func 72) #[] #[]] 118)).alloc (.map #[] 0)).alloc (.cells #[.map (some (w.heap.size + 4))] 87)
theorem memWd_size (w : World) (b : Nat) (n i : Value) (dep : Int) : (memWd w b n i dep).heap.size = w.heap.size + 6 := by unfold memWd; simp
theorem memWd_below (w : World) (b : Nat) (n i : Value) (dep : Int) : Below w.heap.size w (memWd w b n i dep) := by
  unfold memWd
  exact ((((((Below.refl _ _).alloc (Nat.le_refl _) _).alloc (by simp) _).alloc (by simp; omega) _).alloc (by simp; omega) _).alloc (by simp; omega) _).alloc (by simp; omega) _
structure MB (w : World) (N b : Nat) (n i : Value) (dep : Int) : Prop where
  b0 : Bl w (N + 3) [.func (.func 72) #[] #[]] 118
  b1 : Bl w N [.pointer (some ⟨b, 0, none⟩)] 67
  b2 : Bl w (N + 1) [n, i] 104
  b3 : Bl w (N + 5) [.map (some (N + 4))] 87
  b4 : Bl w (N + 2) [.int .i64 dep] 3
theorem MB.wm {b N : Nat} {n i : Value} {dep : Int} {w w' : World} (h : MB w N b n i dep) (hk : WM b (N + 4) w w') (hb : b < N) : MB w' N b n i dep :=
  ⟨hk.bl h.b0 (by omega) (by omega) (by decide), hk.bl h.b1 (by omega) (by omega) (by decide), hk.bl h.b2 (by omega) (by omega) (by decide), hk.bl h.b3 (by omega) (by omega) (by decide), hk.bl h.b4 (by omega) (by omega) (by decide)⟩
theorem memWd_mb (w : World) (b : Nat) (n i : Value) (dep : Int) : MB (memWd w b n i dep) w.heap.size b n i dep := by
  obtain ⟨u1, h1⟩ : ∃ u, u = w.alloc (.cells #[.pointer (some ⟨b, 0, none⟩)] 67) := ⟨_, rfl⟩
  obtain ⟨u2, h2⟩ : ∃ u, u = u1.alloc (.cells #[n, i] 104) := ⟨_, rfl⟩
  obtain ⟨u3, h3⟩ : ∃ u, u = u2.alloc (.cells #[.int .i64 dep] 3) := ⟨_, rfl⟩
  obtain ⟨u4, h4⟩ : ∃ u, u = u3.alloc (.cells #[.func (.func 72) #[] #[]] 118) := ⟨_, rfl⟩
  obtain ⟨u5, h5⟩ : ∃ u, u = u4.alloc (.map #[] 0) := ⟨_, rfl⟩
  have z1 : u1.heap.size = w.heap.size + 1 := by rw [h1]; simp
  have z2 : u2.heap.size = w.heap.size + 2 := by rw [h2]; simp [z1]
  have z3 : u3.heap.size = w.heap.size + 3 := by rw [h3]; simp [z2]
  have z4 : u4.heap.size = w.heap.size + 4 := by rw [h4]; simp [z3]
  have z5 : u5.heap.size = w.heap.size + 5 := by rw [h5]; simp [z4]
  have hW : memWd w b n i dep = u5.alloc (.cells #[.map (some (w.heap.size + 4))] 87) := by unfold memWd; rw [h5, h4, h3, h2, h1]
  rw [hW]
  have e1 : Bl u1 w.heap.size [.pointer (some ⟨b, 0, none⟩)] 67 := by rw [h1]; exact Bl.new w _ _
  have e2 : Bl u2 (w.heap.size + 1) [n, i] 104 := by rw [h2, ← z1]; exact Bl.new u1 _ _
  have e3 : Bl u3 (w.heap.size + 2) [.int .i64 dep] 3 := by rw [h3, ← z2]; exact Bl.new u2 _ _
  have e4 : Bl u4 (w.heap.size + 3) [.func (.func 72) #[] #[]] 118 := by rw [h4, ← z3]; exact Bl.new u3 _ _
  have k2 : ∀ {k xs t}, Bl u1 k xs t → Bl u2 k xs t := fun h => by rw [h2]; exact h.alloc _
  have k3 : ∀ {k xs t}, Bl u2 k xs t → Bl u3 k xs t := fun h => by rw [h3]; exact h.alloc _
  have k4 : ∀ {k xs t}, Bl u3 k xs t → Bl u4 k xs t := fun h => by rw [h4]; exact h.alloc _
  have k5 : ∀ {k xs t}, Bl u4 k xs t → Bl u5 k xs t := fun h => by rw [h5]; exact h.alloc _
  refine ⟨(k5 e4).alloc _, (k5 (k4 (k3 (k2 e1)))).alloc _, (k5 (k4 (k3 e2))).alloc _, ?_, (k5 (k4 e3)).alloc _⟩
  have := Bl.new u5 #[.map (some (w.heap.size + 4))] 87
  rw [z5] at this
  exact this
theorem memWd_had (w : World) (b : Nat) (n i : Value) (dep : Int) : HadIs (memWd w b n i dep) (w.heap.size + 4) [] := by
  have := World.ownsMap.alloc (World.ownsMap_made (H := Unit) ((((w.alloc (.cells #[.pointer (some ⟨b, 0, none⟩)] 67)).alloc (.cells #[n, i] 104)).alloc (.cells #[.int .i64 dep] 3)).alloc (.cells #[.func (.func 72) #[] #[]] 118)) Tryz.prog 9 unitElem) (.cells #[.map (some (w.heap.size + 4))] 87)
  rw [show ((((w.alloc (.cells #[.pointer (some ⟨b, 0, none⟩)] 67)).alloc (.cells #[n, i] 104)).alloc (.cells #[.int .i64 dep] 3)).alloc (.cells #[.func (.func 72) #[] #[]] 118)).heap.size = w.heap.size + 4 by simp] at this
  exact this
theorem WM.new {b M : Nat} {u v w : World} (h : WK b u v) (hk : WM b M v w) (hM : u.heap.size ≤ M) : WK b u w :=
  ⟨hk.os.trans h.os, hk.tape.trans h.tape, hk.output.trans h.output, Nat.le_trans h.size hk.size, fun i hi => (hk.low i hi).trans (h.low i hi), fun i o hi h1 h3 => hk.oth i o (h.oth i o hi h1 h3) (fun e => h1 (by rw [e])) (by have := (Array.getElem?_eq_some_iff.1 hi).1; omega) h3⟩
theorem take_snoc' {α : Type} {l : List α} {i : Nat} {a : α} (h : l[i]? = some a) : l.take i ++ [a] = l.take (i + 1) := by
  rw [List.take_add_one, h]; rfl

set_option maxHeartbeats 4000000 in
set_option maxRecDepth 100000 in
theorem members_any (hv : ValidOk) (d : Nat) (hV : ValueW d) (b B : Nat) (ns : List By) (is : List J) (an ai : Option Addr) (ln cn li ci : Nat) (vs : List JV) (xs : By) (w : World) (h : WB b false xs w) (hx : xs.length ≤ 16384) (hB : B ≤ b) (hb7 : 6 ≤ b) (hT : Tabs w) (hZ : ZT w) (hd : d < 32)
    (hn : NSee w B an ln ns) (hi : ISee w B ai li vs) (hjs : JSees w B is vs) (hlen : ns.length = is.length) (hns : ∀ n ∈ ns, ∀ c ∈ n, c < 256) (hnz : ∀ n ∈ ns, n.length ≤ 4611686018427387904) (hnl : ns.length ≤ 4611686018427387904) (hf : JFits is) :
    Calls Tryz.prog 56 #[.pointer (some ⟨b, 0, none⟩), .agg #[.slice an ln cn, .slice ai li ci], .int .i64 (31 - (d : Int))] w fun ε w' => Wr b false w (betwAt [123] [125] is.length (memW (pAt d) ns is) xs) ε w' := by
  have hbl := h.lt
  obtain ⟨N, hN⟩ : ∃ N, N = w.heap.size := ⟨_, rfl⟩
  have hM := memWd_mb w b (.slice an ln cn) (.slice ai li ci) (31 - (d : Int))
  have hH := memWd_had w b (.slice an ln cn) (.slice ai li ci) (31 - (d : Int))
  have hBe := memWd_below w b (.slice an ln cn) (.slice ai li ci) (31 - (d : Int))
  have hWK := WK.of hBe (Nat.le_refl _) hbl
  have hli : li = is.length := by rw [hi.1]; exact (JSees.get is vs hjs).1
  have HB : Hid (Calls Tryz.prog 54 #[.pointer (some ⟨b, 0, none⟩), .string (bstr [123]), .string (bstr [125]), .int .i64 (is.length : Int), .func (.func 75) #[] #[.pointer (some ⟨w.heap.size + 3, 0, none⟩), .pointer (some ⟨w.heap.size, 0, none⟩), .pointer (some ⟨w.heap.size + 1, 0, none⟩), .pointer (some ⟨w.heap.size + 5, 0, none⟩), .pointer (some ⟨w.heap.size + 2, 0, none⟩)]] (memWd w b (.slice an ln cn) (.slice ai li ci) (31 - (d : Int))) fun ε w' => Wr b false w (betwAt [123] [125] is.length (memW (pAt d) ns is) xs) ε w') := by
    refine (wbetw_any b false xs [123] [125] is.length 75 _ (fun i w' => WM b (w.heap.size + 4) (memWd w b (.slice an ln cn) (.slice ai li ci) (31 - (d : Int))) w' ∧ HadIs w' (w.heap.size + 4) (ns.take i)) (fun w' => WM b (w.heap.size + 4) (memWd w b (.slice an ln cn) (.slice ai li ci) (31 - (d : Int))) w') (memW (pAt d) ns is) _ (enters_of Tryz.func75 (by kernel_rfl) rfl) ?_ ?_ ?_ ?_ (h.keep hBe) hx (by decide) (by decide) (by decide) (by decide) (by rw [← hlen]; exact hnl)).mono ?_
    · intro i w' ys hi2 hI hwb hy
      have hin : i < ns.length := by omega
      have hvl := (JSees.get is vs hjs).1
      obtain ⟨v, hv1, hv2⟩ := (JSees.get is vs hjs).2 i is[i] (List.getElem?_eq_getElem hi2)
      obtain ⟨gn, on, rfl, hgn, hnc⟩ : ∃ g off, an = some ⟨g, off, none⟩ ∧ g < B ∧ ∀ i nm, ns[i]? = some nm → w.cell? ⟨g, off + i, none⟩ = some (.string (bstr nm)) := by
        rcases hn.2 with e | e
        · rw [e] at hin; simp at hin
        · exact e
      obtain ⟨gi, oi, rfl, hgi, hic⟩ : ∃ g off, ai = some ⟨g, off, none⟩ ∧ g < B ∧ ∀ i v, vs[i]? = some v → ∀ j u, v.cells[j]? = some u → w.cell? ⟨g, off + (4 * i + j), none⟩ = some u := by
        rcases hi.2 with e | e
        · rw [e] at hv1; simp at hv1
        · exact e
      have hlow : ∀ k, k < b → w'.heap[k]? = w.heap[k]? := fun k hk => (hI.1.low k hk).trans (hBe.block k (by omega))
      have hmb := hM.wm hI.1 (by omega)
      have hnm := List.getElem?_eq_getElem hin
      have key := wmem3_any hv d hV b B (w.heap.size + 4) (w.heap.size + 3) w.heap.size (w.heap.size + 1) (w.heap.size + 5) (w.heap.size + 2) i i 72 #[] gn on ln cn gi oi li ci ns[i] is[i] v (ns.take i) ys w'
        (enters_of Tryz.func72 (by kernel_rfl) rfl) (wmem1_any i w') hwb hy hB hb7 (hT.low (fun k hk => hlow k (by omega))) ((hZ.wk hWK hb7).wm hI.1 hb7) hd hmb.b0 hmb.b1 hmb.b2 hmb.b3 hmb.b4
        (by omega) (by omega) (by omega) (by omega) (by omega) (by omega) (by omega) (by omega) hgn hgi (by have := hn.1; omega) (by omega)
        (by rw [World.cell?_of_block (show w'.heap[(⟨gn, on + i, none⟩ : Addr).block]? = w.heap[(⟨gn, on + i, none⟩ : Addr).block]? from hlow gn (by omega))]; exact hnc i _ hnm)
        (fun k u hu => by rw [World.cell?_of_block (show w'.heap[(⟨gi, oi + (4 * i + k), none⟩ : Addr).block]? = w.heap[(⟨gi, oi + (4 * i + k), none⟩ : Addr).block]? from hlow gi (by omega))]; exact hic i v hv1 k u hu)
        (JSee.stay _ _ hv2 (fun k hk => hlow k (by omega))) (JFits.get is hf i _ (List.getElem?_eq_getElem hi2)) hI.2 (by omega) (fun x hx2 => hns x (List.mem_of_mem_take hx2)) (hns _ (List.getElem_mem hin)) (hnz _ (List.getElem_mem hin)) (by rw [List.length_take]; omega)
      refine key.mono ?_
      intro ε w2 h2
      rw [show memW (pAt d) ns is i ys = (wNameAt (ns.take i) ns[i] ys).then (pAt d is[i]) by unfold memW; simp [List.getD, hin, hi2]]
      rw [take_snoc' hnm] at h2
      cases hr : (wNameAt (ns.take i) ns[i] ys).then (pAt d is[i]) with
      | ok zs =>
        rw [hr] at h2
        obtain ⟨a1, a2, a3, a4, a5⟩ := h2
        exact ⟨a1, a2, a3, hI.1.trans a4, a5⟩
      | error e =>
        rw [hr] at h2
        obtain ⟨a1, a2, a3⟩ := h2
        exact ⟨a1, a2, hI.1.trans a3⟩
    · intro i w1 w2 hI hk
      exact ⟨hI.1.trans (WM.of hk), hI.2.wk hk (by omega)⟩
    · intro i w1 hI
      exact hI.1
    · exact ⟨WM.of (WK.refl _ _), by rw [List.take_zero]; exact hH⟩
    · intro ε w' h2
      cases hr : betwAt [123] [125] is.length (memW (pAt d) ns is) xs with
      | ok zs =>
        rw [hr] at h2
        obtain ⟨a1, a2, a3, a4, _⟩ := h2
        exact ⟨a1, a2, WM.new hWK a4 (by omega), a3⟩
      | error e =>
        rw [hr] at h2
        obtain ⟨a1, a2, a3⟩ := h2
        exact ⟨a1, WM.new hWK a3 (by omega), a2⟩
  generalize betwAt [123] [125] is.length (memW (pAt d) ns is) xs = P at HB ⊢
  obtain ⟨q, v, hp, hbk, hown⟩ := h.ok
  have hso : w.cell? ⟨b, 2, none⟩ = some (.bool false) := hbk.cell 2
  have hso4 := cell_kept hso (show Below w.heap.size w ((((w.alloc (.cells #[.pointer (some ⟨b, 0, none⟩)] 67)).alloc (.cells #[.slice an ln cn, .slice ai li ci] 104)).alloc (.cells #[.int .i64 (31 - (d : Int))] 3)).alloc (.cells #[.func (.func 72) #[] #[]] 118)) from ((((Below.refl _ _).alloc (Nat.le_refl _) _).alloc (by simp) _).alloc (by simp; omega) _).alloc (by simp; omega) _)
  have HOW : Hid (memWd w b (.slice an ln cn) (.slice ai li ci) (31 - (d : Int)) = (((((w.alloc (.cells #[.pointer (some ⟨b, 0, none⟩)] 67)).alloc (.cells #[.slice an ln cn, .slice ai li ci] 104)).alloc (.cells #[.int .i64 (31 - (d : Int))] 3)).alloc (.cells #[.func (.func 72) #[] #[]] 118)).alloc (.map #[] 0)).alloc (.cells #[.map (some (w.heap.size + 4))] 87)) := rfl
  rw [HOW.out, show bstr [123] = ⟨#[123]⟩ from rfl, show bstr [125] = ⟨#[125]⟩ from rfl, ← hli] at HB
  have hmf : ∀ (fn : Fn) (first cap : Array Value) (w : World), (Instr.makeFunc fn first cap).run Tryz.prog w = .ok (.func fn first cap) w := fun _ _ _ _ => rfl
  have hmm := @run_makeMap Tryz.prog
  have hsf : ∀ (a : Addr) (f : Fn) (u c : Array Value) (w : World), (store a (.func f u c)).run Tryz.prog w = stored Tryz.prog w a (.func f u c) .plain := fun a f u c w => run_store Tryz.prog w a _ _ rfl
  clear hM hH hBe hWK hn hi hjs hns hnz hf hV hv hT hZ hown hbk HOW hp hN hli hlen hnl h
  suffices HSU : ∀ PP : Ending → World → Prop, (∀ ε w', Wr b false w P ε w' → PP ε w') → Calls Tryz.prog 56 #[.pointer (some ⟨b, 0, none⟩), .agg #[.slice an ln cn, .slice ai li ci], .int .i64 (31 - (d : Int))] w fun ε w' => True ∧ PP ε w' from (HSU _ (fun _ _ h => h)).mono fun _ _ h => h.2
  intro PP hPP
  have HPP := hide hPP
  clear hPP
  go_enter Tryz.func56, Tryz.ntmps56
  go_wp2_with fail
  refine HB.out.mono ?_
  intro ε w1 h1
  have HW := hide (HPP.out _ _ h1)
  obtain ⟨_, e5, rfl⟩ := h1.wk
  clear h1
  go_wp2_with fail
  go_ret
  exact ⟨trivial, HW.out⟩
end Go.Proofs.YtlebockgdonceaaGreatDoor
namespace Go.Proofs.YtlebockgdonceaaGreatDoor
open Go.RowKit

set_option maxRecDepth 100000 in
theorem ta_word (v : Value) (w : World) : (Instr.typeAssert (.iface 96 v) 93 96 true).run Tryz.prog w = .ok (.tuple #[v, .bool true]) w := by
  simp [Instr.typeAssert, go_sem]
set_option maxRecDepth 100000 in
theorem ta_number (v : Value) (w : World) : (Instr.typeAssert (.iface 98 v) 93 98 true).run Tryz.prog w = .ok (.tuple #[v, .bool true]) w := by
  simp [Instr.typeAssert, go_sem]
set_option maxRecDepth 100000 in
theorem ta_quoted (v : Value) (w : World) : (Instr.typeAssert (.iface 99 v) 93 99 true).run Tryz.prog w = .ok (.tuple #[v, .bool true]) w := by
  simp [Instr.typeAssert, go_sem]
set_option maxRecDepth 100000 in
theorem ta_list (v : Value) (w : World) : (Instr.typeAssert (.iface 100 v) 93 100 true).run Tryz.prog w = .ok (.tuple #[v, .bool true]) w := by
  simp [Instr.typeAssert, go_sem]
set_option maxRecDepth 100000 in
theorem ta_object (v : Value) (w : World) : (Instr.typeAssert (.iface 104 v) 93 104 true).run Tryz.prog w = .ok (.tuple #[v, .bool true]) w := by
  simp [Instr.typeAssert, go_sem]
set_option maxRecDepth 100000 in
theorem ta_number_word (v : Value) (w : World) : (Instr.typeAssert (.iface 98 v) 93 96 true).run Tryz.prog w = .ok (.tuple #[.string ⟨#[]⟩, .bool false]) w := by
  simp [Instr.typeAssert, go_sem, Tryz.zeroValue96]
set_option maxRecDepth 100000 in
theorem ta_quoted_word (v : Value) (w : World) : (Instr.typeAssert (.iface 99 v) 93 96 true).run Tryz.prog w = .ok (.tuple #[.string ⟨#[]⟩, .bool false]) w := by
  simp [Instr.typeAssert, go_sem, Tryz.zeroValue96]
set_option maxRecDepth 100000 in
theorem ta_quoted_number (v : Value) (w : World) : (Instr.typeAssert (.iface 99 v) 93 98 true).run Tryz.prog w = .ok (.tuple #[.string ⟨#[]⟩, .bool false]) w := by
  simp [Instr.typeAssert, go_sem, Tryz.zeroValue98]
set_option maxRecDepth 100000 in
theorem ta_list_word (v : Value) (w : World) : (Instr.typeAssert (.iface 100 v) 93 96 true).run Tryz.prog w = .ok (.tuple #[.string ⟨#[]⟩, .bool false]) w := by
  simp [Instr.typeAssert, go_sem, Tryz.zeroValue96]
set_option maxRecDepth 100000 in
theorem ta_list_number (v : Value) (w : World) : (Instr.typeAssert (.iface 100 v) 93 98 true).run Tryz.prog w = .ok (.tuple #[.string ⟨#[]⟩, .bool false]) w := by
  simp [Instr.typeAssert, go_sem, Tryz.zeroValue98]
set_option maxRecDepth 100000 in
theorem ta_list_quoted (v : Value) (w : World) : (Instr.typeAssert (.iface 100 v) 93 99 true).run Tryz.prog w = .ok (.tuple #[.string ⟨#[]⟩, .bool false]) w := by
  simp [Instr.typeAssert, go_sem, Tryz.zeroValue99]
set_option maxRecDepth 100000 in
theorem ta_object_word (v : Value) (w : World) : (Instr.typeAssert (.iface 104 v) 93 96 true).run Tryz.prog w = .ok (.tuple #[.string ⟨#[]⟩, .bool false]) w := by
  simp [Instr.typeAssert, go_sem, Tryz.zeroValue96]
set_option maxRecDepth 100000 in
theorem ta_object_number (v : Value) (w : World) : (Instr.typeAssert (.iface 104 v) 93 98 true).run Tryz.prog w = .ok (.tuple #[.string ⟨#[]⟩, .bool false]) w := by
  simp [Instr.typeAssert, go_sem, Tryz.zeroValue98]
set_option maxRecDepth 100000 in
theorem ta_object_quoted (v : Value) (w : World) : (Instr.typeAssert (.iface 104 v) 93 99 true).run Tryz.prog w = .ok (.tuple #[.string ⟨#[]⟩, .bool false]) w := by
  simp [Instr.typeAssert, go_sem, Tryz.zeroValue99]
set_option maxRecDepth 100000 in
theorem ta_object_list (v : Value) (w : World) : (Instr.typeAssert (.iface 104 v) 93 100 true).run Tryz.prog w = .ok (.tuple #[.slice none 0 0, .bool false]) w := by
  simp [Instr.typeAssert, go_sem, Tryz.zeroValue100]
end Go.Proofs.YtlebockgdonceaaGreatDoor
namespace Go.Proofs.YtlebockgdonceaaGreatDoor
open Go.RowKit

theorem Wr.up {b : Nat} {so : Bool} {w w2 w3 : World} {r : Pr} {ε : Ending} (h : Wr b so w2 r ε w3) (hk : WK b w w2) : Wr b so w r ε w3 := by
  cases r with
  | ok xs => exact ⟨h.1, h.2.1, hk.trans h.2.2.1, h.2.2.2⟩
  | error e => exact ⟨h.1, hk.trans h.2.1, h.2.2⟩
theorem Tabs.wk {b : Nat} {w w' : World} (h : Tabs w) (hk : WK b w w') (hb : 6 ≤ b) : Tabs w' := h.low (fun k hk2 => hk.low k (by omega))
theorem wlist_betw (d : Nat) (hV : ValueW d) (b B C1 C2 C3 : Nat) (is : List J) (ai : Option Addr) (li ci : Nat) (vs : List JV) (xs : By) (u : World) (h : WB b false xs u) (hx : xs.length ≤ 16384) (hB : B ≤ b) (hb7 : 6 ≤ b) (hT : Tabs u) (hZ : ZT u) (hd : d < 32)
    (h1 : Bl u C1 [.pointer (some ⟨b, 0, none⟩)] 67) (h2 : Bl u C2 [.slice ai li ci] 100) (h3 : Bl u C3 [.int .i64 (31 - (d : Int))] 3) (b1 : C1 ≠ b) (b2 : C2 ≠ b) (b3 : C3 ≠ b)
    (hi : ISee u B ai li vs) (hjs : JSees u B is vs) (hf : JFits is) (hl : is.length ≤ 4611686018427387904) :
    Calls Tryz.prog 54 #[.pointer (some ⟨b, 0, none⟩), .string ⟨#[91]⟩, .string ⟨#[93]⟩, .int .i64 (li : Int), .func (.func 55) #[] #[.pointer (some ⟨C1, 0, none⟩), .pointer (some ⟨C2, 0, none⟩), .pointer (some ⟨C3, 0, none⟩)]] u
      fun ε w' => Wr b false u (betwAt [91] [93] is.length (fun i ys => pAt d (is.getD i J.zero) ys) xs) ε w' := by
  have hli : li = is.length := by rw [hi.1]; exact (JSees.get is vs hjs).1
  rw [hli] at h2 hi ⊢
  refine (wbetw_any b false xs [91] [93] is.length 55 _ (fun _ w' => WK b u w') (fun w' => WK b u w') (fun i ys => pAt d (is.getD i J.zero) ys) u (enters_of Tryz.func55 (by kernel_rfl) rfl) ?_ ?_ ?_ (WK.refl _ _) h hx (by decide) (by decide) (by decide) (by decide) hl).mono ?_
  · intro i w' ys hi2 hI hwb hy
    obtain ⟨v, hv1, hv2⟩ := (JSees.get is vs hjs).2 i is[i] (List.getElem?_eq_getElem hi2)
    obtain ⟨gi, oi, rfl, hgi, hic⟩ : ∃ g off, ai = some ⟨g, off, none⟩ ∧ g < B ∧ ∀ i v, vs[i]? = some v → ∀ j u', v.cells[j]? = some u' → u.cell? ⟨g, off + (4 * i + j), none⟩ = some u' := by
      rcases hi.2 with e | e
      · rw [e] at hv1; simp at hv1
      · exact e
    have key := wlist1_any d hV b B C1 C2 C3 gi oi i is.length ci is[i] v ys w' hwb hy hB hb7 (hT.wk hI hb7) (hZ.wk hI hb7) hd (hI.bl h1 b1 (by decide)) (hI.bl h2 b2 (by decide)) (hI.bl h3 b3 (by decide)) b1 b2 b3 hgi hi2
      (fun k u' hu => by rw [World.cell?_of_block (show w'.heap[(⟨gi, oi + (4 * i + k), none⟩ : Addr).block]? = u.heap[(⟨gi, oi + (4 * i + k), none⟩ : Addr).block]? from hI.low gi (by omega))]; exact hic i v hv1 k u' hu)
      (JSee.stay _ _ hv2 (fun k hk => hI.low k (by omega))) (JFits.get is hf i _ (List.getElem?_eq_getElem hi2))
    refine key.mono ?_
    intro ε w2 hw2
    rw [show is.getD i J.zero = is[i] by simp [List.getD, hi2]]
    exact wr_wa hw2 (fun hk => hI.trans hk) (fun hk => hI.trans hk)
  · intro i w1 w2 hI hk
    exact hI.trans hk
  · intro i w1 hI
    exact hI
  · intro ε w' hw
    cases hr : betwAt [91] [93] is.length (fun i ys => pAt d (is.getD i J.zero) ys) xs with
    | ok zs =>
      rw [hr] at hw
      obtain ⟨a1, a2, a3, a4⟩ := hw
      exact ⟨a1, a2, a4, a3⟩
    | error e =>
      rw [hr] at hw
      obtain ⟨a1, a2, a3⟩ := hw
      exact ⟨a1, a3, a2⟩

set_option maxHeartbeats 4000000 in
set_option maxRecDepth 100000 in
theorem wvalue_step (hv : ValidOk) (d : Nat) (h32 : d ≤ 32) (hsub : ∀ d', d = d' + 1 → ValueW d') : ValueW d := by
  intro b B j x xs w h hx hj hf hB hb7 hT hZ
  obtain ⟨k, t, ns, is⟩ := j
  rw [JSee_mk] at hj
  obtain ⟨e1, e2, e3, e4, hn, vs, hi, hjs⟩ := hj
  rw [JFit_mk] at hf
  obtain ⟨f1, f2, f3, f4, f5⟩ := hf
  have hbl := h.lt
  have hli : x.li = is.length := by rw [hi.1]; exact (JSees.get is vs hjs).1
  have hst : sbytes x.t = t := by rw [e2, sbytes_bstr e3]
  have hsz : x.t.size ≤ 9000000000000000000 := by rw [e2, bstr_size]; omega
  have hsz2 : x.t.size ≤ 4611686018427387904 := by rw [e2, bstr_size]; omega
  have hsh := pStep_sh (subP d) d (subP_none d) h32 (.mk k t ns is) x xs e1 hst hn.1 hli
  rw [pAt_cases]
  obtain ⟨P, hP⟩ : ∃ P, P = pStep (subP d) (.mk k t ns is) xs := ⟨_, rfl⟩
  rw [← hP] at hsh ⊢
  obtain ⟨dep, hdep⟩ : ∃ dep, dep = 32 - (d : Int) := ⟨_, rfl⟩
  rw [← hdep] at hsh ⊢
  obtain ⟨N, hN⟩ : ∃ N, N = w.heap.size := ⟨_, rfl⟩
  obtain ⟨o1, ho1⟩ : ∃ o, o = Obj.cells #[.pointer (some ⟨b, 0, none⟩)] 67 := ⟨_, rfl⟩
  have HU : Hid (Below w.heap.size w (((w.alloc (.cells #[.pointer (some ⟨b, 0, none⟩)] 67)).alloc (.cells #[.int .i64 x.k, .string x.t, .slice x.an x.ln x.cn, .slice x.ai x.li x.ci] 25)).alloc (.cells #[.int .i64 dep] 3))) := (((Below.refl _ _).alloc (Nat.le_refl _) _).alloc (by simp) _).alloc (by simp; omega) _
  have HB1 : Hid (Bl (((w.alloc (.cells #[.pointer (some ⟨b, 0, none⟩)] 67)).alloc (.cells #[.int .i64 x.k, .string x.t, .slice x.an x.ln x.cn, .slice x.ai x.li x.ci] 25)).alloc (.cells #[.int .i64 dep] 3)) N [.pointer (some ⟨b, 0, none⟩)] 67) := by
    rw [hN]; exact ((Bl.new w _ _).alloc _).alloc _
  have HB3 : Hid (Bl (((w.alloc (.cells #[.pointer (some ⟨b, 0, none⟩)] 67)).alloc (.cells #[.int .i64 x.k, .string x.t, .slice x.an x.ln x.cn, .slice x.ai x.li x.ci] 25)).alloc (.cells #[.int .i64 dep] 3)) (N + 2) [.int .i64 dep] 3) := by
    have := Bl.new ((w.alloc (.cells #[.pointer (some ⟨b, 0, none⟩)] 67)).alloc (.cells #[.int .i64 x.k, .string x.t, .slice x.an x.ln x.cn, .slice x.ai x.li x.ci] 25)) #[.int .i64 dep] 3
    rw [show ((w.alloc (.cells #[.pointer (some ⟨b, 0, none⟩)] 67)).alloc (.cells #[.int .i64 x.k, .string x.t, .slice x.an x.ln x.cn, .slice x.ai x.li x.ci] 25)).heap.size = N + 2 by rw [hN]; simp] at this
    exact this
  have HS := hide (shapeOf_any hv x dep _ (hT.keep HU.out) hsz)
  obtain ⟨sv, hsv⟩ : ∃ sv, sv = shVal x := ⟨_, rfl⟩
  obtain ⟨e0, he0⟩ : ∃ e0, e0 = shErr dep x := ⟨_, rfl⟩
  rw [← hsv, ← he0] at HS
  rw [← he0] at hsh
  have HSH := hide hsh
  have HSV := hide hsv
  have HT := hide hT
  have HZ := hide hZ
  have H := hide h
  have HN := hide hn
  have HI := hide hi
  have HJS := hide hjs
  have HF5 := hide f5
  have HF2 := hide f2
  have HE4 := hide e4
  have HP := hide hP
  have HSUB := hide hsub
  have HST := hide hst
  have HV := hide hv
  have HDEP := hide hdep
  have HE1 := hide e1
  have HLI := hide hli
  clear hsh hsv hT hZ h hn hi hjs f5 f2 e4 hP hsub hst hv hdep e1 he0 ho1 o1 hli e2 e3
  suffices HSU : ∀ PP : Ending → World → Prop, (∀ ε w', Wr b false w P ε w' → PP ε w') → Calls Tryz.prog 36 #[.pointer (some ⟨b, 0, none⟩), x.val, .int .i64 dep] w fun ε w' => True ∧ PP ε w' from (HSU _ (fun _ _ h => h)).mono fun _ _ h => h.2
  intro PP hPP
  have HPP := hide hPP
  clear hPP
  rw [show x.val = .agg #[.int .i64 x.k, .string x.t, .slice x.an x.ln x.cn, .slice x.ai x.li x.ci] from rfl] at HS ⊢
  have HNW := hide hN
  clear hN
  go_enter Tryz.func36, Tryz.ntmps36
  go_wp2_with fail
  refine HS.out.mono ?_
  rintro ε w2 ⟨rfl, hb2⟩
  have HK2 : Hid (WK b w w2) := (WK.of HU.out (Nat.le_refl _) hbl).trans (WK.of hb2 (Nat.le_refl _) (by have := HU.out.size; omega))
  have hz2 : N + 3 ≤ w2.heap.size := by
    have := hb2.size
    have h4 : (((w.alloc (.cells #[.pointer (some ⟨b, 0, none⟩)] 67)).alloc (.cells #[.int .i64 x.k, .string x.t, .slice x.an x.ln x.cn, .slice x.ai x.li x.ci] 25)).alloc (.cells #[.int .i64 dep] 3)).heap.size = N + 3 := by rw [HNW.out]; simp
    omega
  have HC1 := hide (HB1.out.keep hb2)
  have HC3 := hide (HB3.out.keep hb2)
  rw [← HNW.out]
  have q1 : w2.cell? ⟨N, 0, none⟩ = some (.pointer (some ⟨b, 0, none⟩)) := HC1.out.cell 0
  have q3 : w2.cell? ⟨N + 2, 0, none⟩ = some (.int .i64 dep) := HC3.out.cell 0
  have HW2 : Hid (WB b false xs w2) := (H.out.keep HU.out).keep hb2
  have hbN : b < N := by rw [HNW.out]; exact hbl
  have FIN : Hid (∀ ε w3, Wr b false w2 P ε w3 → PP ε w3) := fun ε w3 hw => HPP.out ε w3 (hw.up HK2.out)
  clear hb2 HU HB1 HB3 HS H hbl
  by_cases he : e0 = 0
  · subst he
    obtain ⟨hb, hkr, hc4, hl6, hs56⟩ := HSH.out.2 rfl
    have HBo := hide hb
    clear hb HSH
    rw [if_pos rfl]
    by_cases k0 : x.k = 0
    · have hs0 : sv = .iface 96 (.string ⟨#[110, 117, 108, 108]⟩) := by rw [HSV.out]; unfold shVal; simp [k0]
      have HPB : Hid (P = putAt xs [110, 117, 108, 108]) := by show _ = _; rw [HBo.out]; unfold pBody; simp [← HE1.out, k0]
      subst hs0
      have g0 := ta_word
      go_wp2_with fail
      refine (put_any b false xs ⟨#[110, 117, 108, 108]⟩ w2 HW2.out hx (by decide)).mono ?_
      intro ε w3 h3
      have HW := hide (FIN.out _ _ (by rw [HPB.out]; exact h3))
      obtain ⟨_, e5, rfl⟩ := h3.wk
      clear h3
      go_wp2_with fail
      go_ret
      exact ⟨trivial, HW.out⟩
    by_cases k1 : x.k = 1
    · have hs0 : sv = .iface 96 (.string ⟨#[102, 97, 108, 115, 101]⟩) := by rw [HSV.out]; unfold shVal; simp [k1]
      have HPB : Hid (P = putAt xs [102, 97, 108, 115, 101]) := by show _ = _; rw [HBo.out]; unfold pBody; simp [← HE1.out, k1]
      subst hs0
      have g0 := ta_word
      go_wp2_with fail
      refine (put_any b false xs ⟨#[102, 97, 108, 115, 101]⟩ w2 HW2.out hx (by decide)).mono ?_
      intro ε w3 h3
      have HW := hide (FIN.out _ _ (by rw [HPB.out]; exact h3))
      obtain ⟨_, e5, rfl⟩ := h3.wk
      clear h3
      go_wp2_with fail
      go_ret
      exact ⟨trivial, HW.out⟩
    by_cases k2 : x.k = 2
    · have hs0 : sv = .iface 96 (.string ⟨#[116, 114, 117, 101]⟩) := by rw [HSV.out]; unfold shVal; simp [k2]
      have HPB : Hid (P = putAt xs [116, 114, 117, 101]) := by show _ = _; rw [HBo.out]; unfold pBody; simp [← HE1.out, k2]
      subst hs0
      have g0 := ta_word
      go_wp2_with fail
      refine (put_any b false xs ⟨#[116, 114, 117, 101]⟩ w2 HW2.out hx (by decide)).mono ?_
      intro ε w3 h3
      have HW := hide (FIN.out _ _ (by rw [HPB.out]; exact h3))
      obtain ⟨_, e5, rfl⟩ := h3.wk
      clear h3
      go_wp2_with fail
      go_ret
      exact ⟨trivial, HW.out⟩
    by_cases k3 : x.k = 3
    · have hs0 : sv = .iface 98 (.string x.t) := by rw [HSV.out]; unfold shVal; simp [k3]
      have HPB : Hid (P = putAt xs t) := by show _ = _; rw [HBo.out]; unfold pBody; simp [← HE1.out, k3]
      subst hs0
      have g0 := ta_number
      have g1 := ta_number_word
      go_wp2_with fail
      refine (put_big b false xs x.t w2 HW2.out hx hsz2).mono ?_
      intro ε w3 h3
      have HW := hide (FIN.out _ _ (by rw [HPB.out, ← HST.out]; exact h3))
      obtain ⟨_, e5, rfl⟩ := h3.wk
      clear h3
      go_wp2_with fail
      go_ret
      exact ⟨trivial, HW.out⟩
    by_cases k4 : x.k = 4
    · have hs0 : sv = .iface 99 (.string x.t) := by rw [HSV.out]; unfold shVal; simp [k4]
      have HPB : Hid (P = quoteAt t xs) := by show _ = _; rw [HBo.out]; unfold pBody; simp [← HE1.out, k4]
      have HCL := hide (hc4 k4)
      subst hs0
      have g0 := ta_quoted
      have g1 := ta_quoted_word
      have g2 := ta_quoted_number
      go_wp2_with fail
      refine (quote_any b false xs x.t w2 HW2.out hx (by rw [HST.out]; exact HCL.out) (HZ.out.wk HK2.out hb7) hb7).mono ?_
      intro ε w3 h3
      have HW := hide (FIN.out _ _ (by rw [HPB.out, ← HST.out]; exact h3))
      obtain ⟨_, e5, rfl⟩ := h3.wk
      clear h3
      go_wp2_with fail
      go_ret
      exact ⟨trivial, HW.out⟩
    obtain ⟨d', hd'⟩ : ∃ d', d = d' + 1 := by
      cases d with
      | zero => exact absurd (hs56 (by omega)) (by decide)
      | succ d' => exact ⟨d', rfl⟩
    have HDE : Hid (dep = 31 - (d' : Int)) := by show _ = _; rw [HDEP.out, hd']; push_cast; omega
    have HVV := hide (HSUB.out d' hd')
    have HSB : Hid (subP d = some (pAt d')) := by show _ = _; rw [hd']; rfl
    have hd32 : d' < 32 := by omega
    clear hd' HDEP HSUB
    by_cases k5 : x.k = 5
    · have hs0 : sv = .iface 100 (.slice x.ai x.li x.ci) := by rw [HSV.out]; unfold shVal; simp [k5]
      have HPB : Hid (P = betwAt [91] [93] is.length (fun i ys => pAt d' (is.getD i J.zero) ys) xs) := by show _ = _; rw [HBo.out, HSB.out]; unfold pBody; simp [← HE1.out, k5]
      have HKa : Hid (WK b w2 (w2.alloc (.cells #[.slice x.ai x.li x.ci] 100))) := WK.alloc (WK.refl _ _) (by omega) _
      have HKw : Hid (WK b w (w2.alloc (.cells #[.slice x.ai x.li x.ci] 100))) := HK2.out.trans HKa.out
      have HBW : Hid (Calls Tryz.prog 54 #[.pointer (some ⟨b, 0, none⟩), .string ⟨#[91]⟩, .string ⟨#[93]⟩, .int .i64 (x.li : Int), .func (.func 55) #[] #[.pointer (some ⟨N, 0, none⟩), .pointer (some ⟨w2.heap.size, 0, none⟩), .pointer (some ⟨N + 2, 0, none⟩)]] (w2.alloc (.cells #[.slice x.ai x.li x.ci] 100)) fun ε w' => Wr b false (w2.alloc (.cells #[.slice x.ai x.li x.ci] 100)) P ε w') := by
        rw [HPB.out]
        exact wlist_betw d' HVV.out b B N w2.heap.size (N + 2) is x.ai x.li x.ci vs xs _ (HW2.out.keep (below_new _ _)) hx hB hb7 (HT.out.wk HKw.out hb7) (HZ.out.wk HKw.out hb7) hd32 (HC1.out.alloc _) (Bl.new w2 _ _) (by rw [← HDE.out]; exact HC3.out.alloc _) (by omega) (by omega) (by omega) (HI.out.stay (fun k hk => HKw.out.low k (by omega))) (JSees.stay is vs HJS.out (fun k hk => HKw.out.low k (by omega))) HF5.out f4
      subst hs0
      have q1a := cell_kept q1 (below_new w2 (.cells #[.slice x.ai x.li x.ci] 100))
      have q3a := cell_kept q3 (below_new w2 (.cells #[.slice x.ai x.li x.ci] 100))
      have g0 := ta_list
      have g1 := ta_list_word
      have g2 := ta_list_number
      have g3 := ta_list_quoted
      have hmf : ∀ (fn : Fn) (first cap : Array Value) (w : World), (Instr.makeFunc fn first cap).run Tryz.prog w = .ok (.func fn first cap) w := fun _ _ _ _ => rfl
      go_wp2_with fail
      refine HBW.out.mono ?_
      intro ε w3 h3
      have HW := hide (FIN.out _ _ (h3.up HKa.out))
      obtain ⟨_, e5, rfl⟩ := h3.wk
      clear h3
      go_wp2_with fail
      go_ret
      exact ⟨trivial, HW.out⟩
    · have k6 : x.k = 6 := by omega
      have hs0 : sv = .iface 104 (.agg #[.slice x.an x.ln x.cn, .slice x.ai x.li x.ci]) := by rw [HSV.out]; unfold shVal; simp [k6]
      have HPB : Hid (P = betwAt [123] [125] is.length (memW (pAt d') ns is) xs) := by show _ = _; rw [HBo.out, HSB.out]; unfold pBody; simp [← HE1.out, k6]
      have hlen : ns.length = is.length := hl6 k6
      have HKa : Hid (WK b w2 (w2.alloc (.cells #[.slice x.an x.ln x.cn, .slice x.ai x.li x.ci] 104))) := WK.alloc (WK.refl _ _) (by omega) _
      have HKw : Hid (WK b w (w2.alloc (.cells #[.slice x.an x.ln x.cn, .slice x.ai x.li x.ci] 104))) := HK2.out.trans HKa.out
      have HBW : Hid (Calls Tryz.prog 56 #[.pointer (some ⟨b, 0, none⟩), .agg #[.slice x.an x.ln x.cn, .slice x.ai x.li x.ci], .int .i64 dep] (w2.alloc (.cells #[.slice x.an x.ln x.cn, .slice x.ai x.li x.ci] 104)) fun ε w' => Wr b false (w2.alloc (.cells #[.slice x.an x.ln x.cn, .slice x.ai x.li x.ci] 104)) P ε w') := by
        rw [HPB.out, HDE.out]
        exact members_any HV.out d' HVV.out b B ns is x.an x.ai x.ln x.cn x.li x.ci vs xs _ (HW2.out.keep (below_new _ _)) hx hB hb7 (HT.out.wk HKw.out hb7) (HZ.out.wk HKw.out hb7) hd32 (HN.out.stay (fun k hk => HKw.out.low k (by omega))) (HI.out.stay (fun k hk => HKw.out.low k (by omega))) (JSees.stay is vs HJS.out (fun k hk => HKw.out.low k (by omega))) hlen HE4.out HF2.out f3 HF5.out
      subst hs0
      have q1a := cell_kept q1 (below_new w2 (.cells #[.slice x.an x.ln x.cn, .slice x.ai x.li x.ci] 104))
      have q3a := cell_kept q3 (below_new w2 (.cells #[.slice x.an x.ln x.cn, .slice x.ai x.li x.ci] 104))
      have g0 := ta_object
      have g1 := ta_object_word
      have g2 := ta_object_number
      have g3 := ta_object_quoted
      have g4 := ta_object_list
      go_wp2_with fail
      refine HBW.out.mono ?_
      intro ε w3 h3
      have HW := hide (FIN.out _ _ (h3.up HKa.out))
      obtain ⟨_, e5, rfl⟩ := h3.wk
      clear h3
      go_wp2_with fail
      go_ret
      exact ⟨trivial, HW.out⟩
  · have hne0 : ((e0 : Int) != 0) = true := by simp; omega
    have HE := hide (HPP.out (.returned (.int .i64 (e0 : Int))) w2 (by rw [HSH.out.1 he]; exact ⟨rfl, HK2.out, he⟩))
    rw [if_neg he]
    clear HSH he
    go_wp2_with fail
    go_ret
    exact ⟨trivial, HE.out⟩
theorem wvalue_any (hv : ValidOk) : ∀ d, d ≤ 32 → ValueW d
  | 0, h => wvalue_step hv 0 h (fun d' e => by omega)
  | d + 1, h => wvalue_step hv (d + 1) h (fun d' e => by
    obtain rfl : d' = d := by omega
    exact wvalue_any hv d' (by omega))
end Go.Proofs.YtlebockgdonceaaGreatDoor
