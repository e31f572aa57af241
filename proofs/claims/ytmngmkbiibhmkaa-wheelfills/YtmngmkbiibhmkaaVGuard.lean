/- A wheel of one's own beside other blocks: what a call on it leaves of them. -/
import Derived.Test.YtmngmkbiibhmkaaVLive2
namespace Go.Proofs.Ytmngmkbiibhmkaa
open Go.RowKit Go.Maps

def Held (G : List Nat) (w w' : World) : Prop := ∀ g ∈ G, w'.heap[g]? = w.heap[g]?
theorem Held.cell {G : List Nat} {w w' : World} {a : Addr} {v : Value} (h : Held G w w') (hc : w.cell? a = some v) (ha : a.block ∈ G) : w'.cell? a = some v := (World.cell?_of_block (h a.block ha)).trans hc
theorem Held.of {G : List Nat} {w w' : World} (hb : Below w.heap.size w w') (hG : ∀ g ∈ G, g < w.heap.size) : Held G w w' := fun g hg => hb.block g (hG g hg)
theorem Held.trans {G : List Nat} {a b c : World} (h : Held G a b) (k : Held G b c) : Held G a c := fun g hg => (k g hg).trans (h g hg)
/-- A wheel that is young, apart from the blocks G. -/
structure MineG (w0 w : World) (wp now : Nat) (L : List Tm) (G : List Nat) : Prop where
  whl : ∃ Y, Whl w wp now L Y ∧ (∀ b ∈ Y.blocks wp, w0.heap.size ≤ b) ∧ ∀ b ∈ Y.blocks wp, b ∉ G
  bel : Below w0.heap.size w0 w
theorem MineG.ok {w0 w : World} {wp now : Nat} {L : List Tm} {G : List Nat} (h : MineG w0 w wp now L G) : ∃ S, Ok now L S := by
  obtain ⟨Y, ⟨S, _, h2⟩, _⟩ := h.whl
  exact ⟨S, h2⟩
theorem MineG.aft {w0 w w' : World} {wp now' : Nat} {L' : List Tm} {Y Y' : Lay} {G : List Nat} (h1 : ∀ b ∈ Y.blocks wp, w0.heap.size ≤ b) (hd : ∀ b ∈ Y.blocks wp, b ∉ G) (hb : Below w0.heap.size w0 w) (hG : ∀ g ∈ G, g < w.heap.size) (h2 : Whl w' wp now' L' Y') (hA : Aft wp Y Y' w w') : MineG w0 w' wp now' L' G ∧ Held G w w' := by
  refine ⟨⟨⟨Y', h2, fun b hm => ?_, fun b hm hg => ?_⟩, hb.trans (hA.fr.below _ hb.size h1)⟩, fun g hg => hA.fr.block g (hG g hg) fun hm => hd g hm hg⟩
  · rcases hA.new b hm with h | h
    · exact h1 b h
    · exact Nat.le_trans hb.size h
  · rcases hA.new b hm with h | h
    · exact hd b h hg
    · have := hG b hg; omega
theorem MineG.below {w0 w w' : World} {wp now : Nat} {L : List Tm} {G : List Nat} (h : MineG w0 w wp now L G) (hb : Below w.heap.size w w') : MineG w0 w' wp now L G := by
  obtain ⟨⟨Y, h1, h2, hd⟩, h3⟩ := h
  exact ⟨⟨Y, h1.below hb, h2, hd⟩, h3.trans (hb.mono h3.size)⟩
/-- New blocks beside. -/
theorem MineG.fresh {w0 w w' : World} {wp now : Nat} {L : List Tm} {G G' : List Nat} (h : MineG w0 w wp now L G) (hb : Below w.heap.size w w') (hn : ∀ g ∈ G', g ∈ G ∨ w.heap.size ≤ g) : MineG w0 w' wp now L G' := by
  obtain ⟨⟨Y, h1, h2, hd⟩, h3⟩ := h
  refine ⟨⟨Y, h1.below hb, h2, fun b hm hg => ?_⟩, h3.trans (hb.mono h3.size)⟩
  rcases hn b hg with h | h
  · exact hd b hm h
  · have := h1.lt b hm; omega
/-- Blocks beside it turn. -/
theorem MineG.apart {w0 w w' : World} {wp now : Nat} {L : List Tm} {G G' fp : List Nat} (h : MineG w0 w wp now L G) (hf : Fr fp w w') (hs : ∀ b ∈ fp, b ∈ G ∨ w.heap.size ≤ b) (hy : ∀ b ∈ fp, w0.heap.size ≤ b) (hn : ∀ g ∈ G', g ∈ G ∨ w.heap.size ≤ g) : MineG w0 w' wp now L G' := by
  obtain ⟨⟨Y, h1, h2, hd⟩, h3⟩ := h
  refine ⟨⟨Y, h1.apart hf fun b hm hfp => ?_, h2, fun b hm hg => ?_⟩, h3.trans (hf.below _ h3.size hy)⟩
  · rcases hs b hfp with h | h
    · exact hd b hm h
    · have := h1.lt b hm; omega
  · rcases hn b hg with h | h
    · exact hd b hm h
    · have := h1.lt b hm; omega
theorem new_g (now : Nat) (w : World) (G : List Nat) (hn : now < 18446744073709551616) (hG : ∀ g ∈ G, g < w.heap.size) : Calls Try.prog 7 #[.int .u64 (now : Int)] w fun e w' => ∃ wp, e = .returned (pw wp) ∧ MineG w w' wp now [] G :=
  (new_any now w hn).mono fun _ _ ⟨wp, Y, he, h1, h2, h3⟩ => ⟨wp, he, ⟨Y, h1, h3, fun b hm hg => by have := h3 b hm; have := hG b hg; omega⟩, h2⟩
theorem add_g {w0 w : World} {wp now : Nat} {L : List Tm} {G : List Nat} (h : MineG w0 w wp now L G) (hG : ∀ g ∈ G, g < w.heap.size) (id a : Nat) (hid : id < 18446744073709551616) (ha : a < 18446744073709551616) :
    Calls Try.prog 14 #[pw wp, .int .u64 (id : Int), .int .u64 (a : Int)] w fun e w' => e = .returned (.int .i64 (addE now L id a : Int)) ∧ MineG w0 w' wp now (addL now L id a) G ∧ Held G w w' ∧ w.heap.size ≤ w'.heap.size := by
  obtain ⟨⟨Y, h1, h2, hd⟩, h3⟩ := h
  exact (add_any wp now id a L Y w h1 hid ha).mono fun _ _ ⟨he, _, k1, k2⟩ => ⟨he, (MineG.aft h2 hd h3 hG k1 k2).1, (MineG.aft h2 hd h3 hG k1 k2).2, k2.fr.size⟩
theorem remove_g {w0 w : World} {wp now : Nat} {L : List Tm} {G : List Nat} (h : MineG w0 w wp now L G) (hG : ∀ g ∈ G, g < w.heap.size) (id : Nat) (hid : id < 18446744073709551616) :
    Calls Try.prog 23 #[pw wp, .int .u64 (id : Int)] w fun e w' => e = .returned (.int .i64 (remE L id : Int)) ∧ MineG w0 w' wp now (tdel id L) G ∧ Held G w w' ∧ w.heap.size ≤ w'.heap.size := by
  obtain ⟨⟨Y, h1, h2, hd⟩, h3⟩ := h
  exact (remove_any wp now id L Y w h1 hid).mono fun _ _ ⟨he, _, k1, k2⟩ => ⟨he, (MineG.aft h2 hd h3 hG k1 k2).1, (MineG.aft h2 hd h3 hG k1 k2).2, k2.fr.size⟩
theorem advance_g {w0 w : World} {wp now : Nat} {L : List Tm} {G : List Nat} (h : MineG w0 w wp now L G) (hG : ∀ g ∈ G, g < w.heap.size) (tt : Nat) (htt : tt < 18446744073709551616) :
    Calls Try.prog 19 #[pw wp, .int .u64 (tt : Int)] w fun e w' => ∃ ao n c, e = .returned (.tuple #[.slice ao n c, .int .i64 (if tt < now then 70 else 0)]) ∧ Own w' w.heap.size (.slice ao n c) (((advD tt L).mergeSort leT).map (·.1)) ∧ MineG w0 w' wp (max now tt) (advL tt L) (vb (.slice ao n c) ++ G) ∧ Held G w w' ∧ w.heap.size ≤ w'.heap.size := by
  obtain ⟨⟨Y, h1, h2, hd⟩, h3⟩ := h
  refine (advance_any wp now tt L Y w h1 htt).mono fun e w' ⟨ao, n, c, Y', he, k0, kn, k1, k2⟩ => ⟨ao, n, c, he, k0, ?_, (MineG.aft h2 hd h3 hG k1 k2).2, k2.fr.size⟩
  refine ⟨⟨Y', k1, fun b hm => ?_, fun b hm hg => ?_⟩, h3.trans (k2.fr.below _ h3.size h2)⟩
  · rcases k2.new b hm with h | h
    · exact h2 b h
    · exact Nat.le_trans h3.size h
  · rcases List.mem_append.1 hg with hg | hg
    · exact kn b (mem_vb.1 hg) hm
    · rcases k2.new b hm with h | h
      · exact hd b h hg
      · have := hG b hg; omega
theorem len_g {w0 w : World} {wp now : Nat} {L : List Tm} {G : List Nat} (h : MineG w0 w wp now L G) : Calls Try.prog 16 #[pw wp] w fun e w' => e = .returned (.int .i64 (L.length : Int)) ∧ w' = w := by
  obtain ⟨⟨Y, h1, h2⟩, h3⟩ := h
  exact len_any wp now L Y w h1
theorem now_g {w0 w : World} {wp now : Nat} {L : List Tm} {G : List Nat} (h : MineG w0 w wp now L G) : Calls Try.prog 25 #[pw wp] w fun e w' => e = .returned (.int .u64 (now : Int)) ∧ w' = w := by
  obtain ⟨⟨Y, h1, h2⟩, h3⟩ := h
  exact now_any wp now L Y w h1
theorem at_g {w0 w : World} {wp now : Nat} {L : List Tm} {G : List Nat} (h : MineG w0 w wp now L G) (id : Nat) (hid : id < 18446744073709551616) : Calls Try.prog 27 #[pw wp, .int .u64 (id : Int)] w fun e w' => e = .returned (.tuple #[.int .u64 (((tget id L).getD 0 : Nat) : Int), .bool (tget id L).isSome]) ∧ w' = w := by
  obtain ⟨⟨Y, h1, h2⟩, h3⟩ := h
  exact at_any wp now id L Y w h1 hid
end Go.Proofs.Ytmngmkbiibhmkaa
