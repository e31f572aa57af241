/- Advance, between two ids: what its loop keeps. -/
import Derived.Test.YtmngmkbiibhmkaaVAdvM
import Derived.Test.YtmngmkbiibhmkaaVInOrder
import Derived.Test.YtmngmkbiibhmkaaVLift
namespace Go.Proofs.Ytmngmkbiibhmkaa
open Go.RowKit Go.Maps

structure AParts (w wr : World) (wp now tt : Nat) (L : List Tm) (Y : Lay) (I : List Nat) (vI vD : Value) (pre : List Nat) (L' : List Tm) (S' : List (List Nat)) (D : List Tm) (Y' : Lay) : Prop where
  inv : AInv now tt L pre L' S' D
  rep : Rep wr wp tt L' S' Y'
  due : TOwn wr w.heap.size vD D
  new : ∀ b ∈ Y'.blocks wp, b ∈ Y.blocks wp ∨ w.heap.size ≤ b
  idn : ∀ g, vI.ownBlock = some g → g ∉ Y'.blocks wp
  dun : ∀ g, vD.ownBlock = some g → g ∉ Y'.blocks wp
  ids : Own wr w.heap.size vI I
  fr : Fr (Y.blocks wp) w wr
  ne : ∀ g, vI.ownBlock = some g → vD.ownBlock ≠ some g
def ALoop (w wr : World) (wp now tt : Nat) (L : List Tm) (Y : Lay) (I : List Nat) (vI vD : Value) (pre : List Nat) : Prop := ∃ L' S' D Y', AParts w wr wp now tt L Y I vI vD pre L' S' D Y'
theorem AParts.place {w wr w1 : World} {wp now tt : Nat} {L L' D : List Tm} {Y Y' Y1 : Lay} {I pre xs : List Nat} {vI vD : Value} {S' : List (List Nat)} (h : AParts w wr wp now tt L Y I vI vD pre L' S' D Y') (hL : Rise L) {id a : Nat} (hm : (id, a) ∈ L) (hn : id ∉ pre) (hd : tt < a) (hk : slotN now a ≤ slotN now tt) (hx : S'[slotN tt a]? = some xs) (hr : Rep w1 wp tt L' (S'.set (slotN tt a) (xs ++ [id])) Y1) (hA : Aft wp Y' Y1 wr w1) : ALoop w w1 wp now tt L Y I vI vD (pre ++ [id]) := by
  have hidl : ∀ g, vI.ownBlock = some g → g < wr.heap.size := fun g e => (h.ids.lt g e).2
  have hdul : ∀ g, vD.ownBlock = some g → g < wr.heap.size := fun g e => (h.due.lt g e).2
  refine ⟨L', _, D, Y1, h.inv.later hL hm hn hd hk hx, hr, h.due.same fun g e => hA.fr.block g (hdul g e) (h.dun g e), fun b hb => ?_, fun g e hb => ?_, fun g e hb => ?_, h.ids.same fun g e => hA.fr.block g (hidl g e) (h.idn g e), h.fr.trans hA.fr h.new, h.ne⟩
  · rcases hA.new b hb with h1 | h1
    · exact h.new b h1
    · exact .inr (Nat.le_trans h.fr.size h1)
  · rcases hA.new g hb with h1 | h1
    · exact h.idn g e h1
    · have := hidl g e; omega
  · rcases hA.new g hb with h1 | h1
    · exact h.dun g e h1
    · have := hdul g e; omega
theorem AParts.grown {w wr w1 : World} {wp now tt : Nat} {L L' D : List Tm} {Y Y' : Lay} {I pre : List Nat} {vI vD : Value} {S' : List (List Nat)} (h : AParts w wr wp now tt L Y I vI vD pre L' S' D Y') (o : Obj) (hg : (wr.alloc o).grownBy w1 vD.ownBlock) : Rep w1 wp tt L' S' Y' :=
  h.rep.apartFr (fr_new_grown o hg) fun b hb hm => h.dun b (mem_vb.1 hm) hb
theorem AParts.told {w wr w1 w2 : World} {wp now tt : Nat} {L L' D : List Tm} {Y Y' : Lay} {I pre : List Nat} {vI vD v' : Value} {S' : List (List Nat)} (h : AParts w wr wp now tt L Y I vI vD pre L' S' D Y') (hL : Rise L) {id a : Nat} (hm : (id, a) ∈ L) (hn : id ∉ pre) (hd : a ≤ tt) (o : Obj)
    (hg : (wr.alloc o).grownBy w1 vD.ownBlock) (ht : TOwn w1 w.heap.size v' (D ++ [(id, a)])) (hl : v'.ownBlock = vD.ownBlock ∨ v'.ownBlock = some (wr.alloc o).heap.size) (hM : MapAt w2 Y'.mp (tdel id L')) (hf : Fr [Y'.mp] w1 w2) : ALoop w w2 wp now tt L Y I vI v' (pre ++ [id]) := by
  have hidl : ∀ g, vI.ownBlock = some g → g < wr.heap.size := fun g e => (h.ids.lt g e).2
  have hfr := fr_new_grown o hg
  have hr := h.grown o hg
  obtain ⟨hr2, hA2⟩ := hr.map' hM hf
  have hno := new_or o hl
  have hvb : ∀ g, v'.ownBlock = some g → g ∉ Y'.blocks wp := fun g e hb => by
    rcases hno g e with h1 | h1
    · exact h.dun g h1 hb
    · have := h.rep.lt g hb; omega
  have hmp : Y'.mp ∈ Y'.blocks wp := (Y'.mem wp _).2 (.inr (.inl rfl))
  refine ⟨_, S', _, Y', h.inv.due_in hL hm hn hd, hr2, ht.same fun g e => hf.block g (ht.lt g e).2 (fun hb => hvb g e (by rw [List.mem_singleton.1 hb]; exact hmp)), h.new, h.idn, hvb, ?_, ?_, fun g e e2 => ?_⟩
  · refine h.ids.same fun g e => (hf.block g ?_ ?_).trans (hfr.block g (hidl g e) ?_)
    · exact Nat.lt_of_lt_of_le (hidl g e) hfr.size
    · intro hb; exact h.idn g e (by rw [List.mem_singleton.1 hb]; exact hmp)
    · intro hb; exact h.ne g e (mem_vb.1 hb)
  · refine (h.fr.trans hfr fun x hx => .inr ((h.due.lt x (mem_vb.1 hx)).1)).trans hf fun x hx => ?_
    rw [List.mem_singleton.1 hx]
    exact h.new _ hmp
  · rcases hno g e2 with h1 | h1
    · exact h.ne g e h1
    · have := hidl g e; omega
theorem ALoop.start {w w2 : World} {wp now tt : Nat} {L : List Tm} {Y : Lay} {S : List (List Nat)} {v : Value} (h : LiftInv w w2 wp now L S Y v (slotN now tt + 1)) (hok : Ok now L S) (ht : now ≤ tt) (hY : ∀ b ∈ Y.blocks wp, b < w.heap.size) : ALoop w (w2.setCell ⟨wp, 0, none⟩ (.int .u64 (tt : Int))) wp now tt L Y (S.take (slotN now tt + 1)).flatten v (.slice none 0 0) [] := by
  obtain ⟨Y1, hr, hs⟩ := h.rep
  obtain ⟨hr2, hA⟩ := hr.now' (now' := tt)
  refine ⟨L, _, [], Y1, AInv.start hok ht, hr2, town_nil _ _, fun b hb => .inl (hs b hb), fun g e hb => ?_, fun g e => by (cases e), ?_, h.fr.trans hA.fr fun b hb => .inl (hs b hb), fun g _ => by simp [Value.ownBlock]⟩
  · have h1 := hY g (hs g hb)
    have h2 := (h.own.lt g e).1
    omega
  · refine h.own.same fun g e => heap_setCell_other w2 _ g _ ?_
    have h1 := hY wp ((Y.mem wp wp).2 (.inl rfl))
    have h2 := (h.own.lt g e).1
    show g ≠ wp
    omega
end Go.Proofs.Ytmngmkbiibhmkaa
