/- What LimitPlays has at each round's head: two limits and the document's two, in memory. -/
import Derived.Test.YtbhlciaigadlkaaQPlayG
namespace Go.Proofs.Ytbhlciaigadlkaa
open Go.RowKit Go.Maps Go.Shelf

/-- Two limits, and the document's two in boxes of their own, their rows apart from both boxes. -/
structure PlJ (w wr : World) (N P Q lp kp : Nat) (cs : List Value) (i : Nat) (G : List Nat) (S T : LS) (ao bo : Option Addr) (n c m d : Nat) (L K : Tab) : Prop where
  two : Two G w wr lp kp S T
  gN : N ∈ G
  gP : P ∈ G
  gQ : Q ∈ G
  ne : N ≠ P ∧ N ≠ Q ∧ P ≠ Q
  old : w.heap.size ≤ P ∧ w.heap.size ≤ Q
  ga : ∀ a, ao = some a → a.block ∈ G ∧ a.block ≠ P ∧ a.block ≠ Q
  gb : ∀ a, bo = some a → a.block ∈ G ∧ a.block ≠ P ∧ a.block ≠ Q
  box : Bl wr N cs 25
  bP : Bl wr P (rcl S (.slice ao n c)) 32
  bQ : Bl wr Q (rcl T (.slice bo m d)) 32
  riS : RI S L
  riT : RI T K
  lenS : n = L.length
  lenT : m = K.length
  seeS : VSee wr ao L
  seeT : VSee wr bo K
  moreS : L.length ≤ i
  moreT : K.length ≤ i
theorem PlJ.swap {w wr : World} {N P Q lp kp : Nat} {cs : List Value} {i : Nat} {G : List Nat} {S T : LS} {ao bo : Option Addr} {n c m d : Nat} {L K : Tab} (h : PlJ w wr N P Q lp kp cs i G S T ao bo n c m d L K) : PlJ w wr N Q P kp lp cs i G T S bo ao m d n c K L :=
  ⟨h.two.swap, h.gN, h.gQ, h.gP, ⟨h.ne.2.1, h.ne.1, Ne.symm h.ne.2.2⟩, ⟨h.old.2, h.old.1⟩, fun a ha => ⟨(h.gb a ha).1, (h.gb a ha).2.2, (h.gb a ha).2.1⟩, fun a ha => ⟨(h.ga a ha).1, (h.ga a ha).2.2, (h.ga a ha).2.1⟩, h.box, h.bQ, h.bP, h.riT, h.riS, h.lenT, h.lenS, h.seeT, h.seeS, h.moreT, h.moreS⟩
theorem PlJ.drew {w wr : World} {N P Q lp kp : Nat} {cs : List Value} {i : Nat} {G : List Nat} {S T : LS} {ao bo : Option Addr} {n c m d : Nat} {L K : Tab} (h : PlJ w wr N P Q lp kp cs i G S T ao bo n c m d L K) : PlJ w wr.drew N P Q lp kp cs i G S T ao bo n c m d L K :=
  ⟨h.two.drew, h.gN, h.gP, h.gQ, h.ne, h.old, h.ga, h.gb, h.box, h.bP, h.bQ, h.riS, h.riT, h.lenS, h.lenT, h.seeS, h.seeT, h.moreS, h.moreT⟩
theorem PP.undrew {G : List Nat} {w0 w w' : World} {lp kp : Nat} {S' T : LS} {ao ao' : Option Addr} {L L' : Tab} {n' : Nat} (h : PP G w0 w.drew w' lp kp S' T ao L ao' n' L') : PP G w0 w w' lp kp S' T ao L ao' n' L' := ⟨h.two, h.held, h.size, h.ri, h.len, h.see, h.more, h.blk⟩
theorem vsee_set5 {w : World} {ao : Option Addr} {L : Tab} (h : VSee w ao L) {M : Nat} (hg : ∀ a, ao = some a → a.block ≠ M) (a b c d e : Value) : VSee (((((w.setCell ⟨M, 0, none⟩ a).setCell ⟨M, 1, none⟩ b).setCell ⟨M, 2, none⟩ c).setCell ⟨M, 3, none⟩ d).setCell ⟨M, 4, none⟩ e) ao L :=
  vsee_set (vsee_set (vsee_set (vsee_set (vsee_set h hg _ _) hg _ _) hg _ _) hg _ _) hg _ _
theorem bl_set5 {w : World} {g : Nat} {cs : List Value} {t : TypeId} (h : Bl w g cs t) {M : Nat} (hg : g ≠ M) (a b c d e : Value) : Bl (((((w.setCell ⟨M, 0, none⟩ a).setCell ⟨M, 1, none⟩ b).setCell ⟨M, 2, none⟩ c).setCell ⟨M, 3, none⟩ d).setCell ⟨M, 4, none⟩ e) g cs t :=
  ((set5_fr w M a b c d e).block g h.lt (fun x => hg (List.mem_singleton.1 x))).trans h
/-- Behind a call of the first limit, and the document's answer stored into its box. -/
theorem PlJ.step {w wr w3 : World} {N P Q lp kp : Nat} {cs : List Value} {i : Nat} {G : List Nat} {S S' T : LS} {ao ao' bo : Option Addr} {n c m d n' c' : Nat} {L L' K : Tab} (h : PlJ w wr N P Q lp kp cs i G S T ao bo n c m d L K) (p : PP G w wr w3 lp kp S' T ao L ao' n' L') :
    ∃ G', PlJ w (((((w3.setCell ⟨P, 0, none⟩ (.int .i64 (S'.tries : Int))).setCell ⟨P, 1, none⟩ (.int .u64 (S'.win : Int))).setCell ⟨P, 2, none⟩ (.int .i64 (S'.subs : Int))).setCell ⟨P, 3, none⟩ (.int .u64 (S'.clock : Int))).setCell ⟨P, 4, none⟩ (.slice ao' n' c')) N P Q lp kp cs (i + 1) G' S' T ao' bo n' c' m d L' K := by
  obtain ⟨gb, ht, hg⟩ := p.two
  have hP : P < wr.heap.size := h.two.lt P h.gP
  have hQ : Q < wr.heap.size := h.two.lt Q h.gQ
  have hne : ∀ a, ao' = some a → a.block ≠ P ∧ a.block ≠ Q := fun a ha => by
    rcases p.blk a ha with e | e
    · exact (h.ga a (e ▸ ha)).2
    · exact ⟨by omega, by omega⟩
  have hm := p.more
  have h1 := h.moreS
  have h2 := h.moreT
  refine ⟨gb ++ G, ht.set5 (List.mem_append_right _ h.gP) h.old.1 _ _ _ _ _, List.mem_append_right _ h.gN, List.mem_append_right _ h.gP, List.mem_append_right _ h.gQ, h.ne, h.old, fun a ha => ⟨hg a ha, hne a ha⟩, fun a ha => ⟨List.mem_append_right _ (h.gb a ha).1, (h.gb a ha).2⟩, bl_set5 (p.held.bl h.gN h.box) h.ne.1 _ _ _ _ _, set5 (p.held.bl h.gP h.bP) _ _ _ _ _, bl_set5 (p.held.bl h.gQ h.bQ) (Ne.symm h.ne.2.2) _ _ _ _ _, p.ri, h.riT, p.len, h.lenT, vsee_set5 p.see (fun a ha => (hne a ha).1) _ _ _ _ _, vsee_set5 (h.seeT.held (fun a ha => (h.gb a ha).1) p.held) (fun a ha => (h.gb a ha).2.1) _ _ _ _ _, by omega, by omega⟩
theorem ri_fresh (t wn sb : Nat) : RI (fresh t wn sb) [] := ⟨List.Perm.refl _, fun p hp => by cases hp⟩
/-- At the first round's head. -/
theorem plj_start {w wr : World} {N P Q lp kp t wn sb : Nat} {cs : List Value} {G : List Nat} (h : Two G w wr lp kp (fresh t wn sb) (fresh t wn sb)) (gN : N ∈ G) (gP : P ∈ G) (gQ : Q ∈ G) (ne : N ≠ P ∧ N ≠ Q ∧ P ≠ Q) (old : w.heap.size ≤ P ∧ w.heap.size ≤ Q) (box : Bl wr N cs 25) (bP : Bl wr P [.int .i64 (t : Int), .int .u64 (wn : Int), .int .i64 (sb : Int), .int .u64 0, .slice none 0 0] 32) (bQ : Bl wr Q [.int .i64 (t : Int), .int .u64 (wn : Int), .int .i64 (sb : Int), .int .u64 0, .slice none 0 0] 32) :
    PlJ w wr N P Q lp kp cs 0 G (fresh t wn sb) (fresh t wn sb) none none 0 0 0 0 [] [] :=
  ⟨h, gN, gP, gQ, ne, old, (fun a ha => by cases ha), (fun a ha => by cases ha), box, bP, bQ, ri_fresh t wn sb, ri_fresh t wn sb, rfl, rfl, .inl rfl, .inl rfl, Nat.le_refl _, Nat.le_refl _⟩
end Go.Proofs.Ytbhlciaigadlkaa
