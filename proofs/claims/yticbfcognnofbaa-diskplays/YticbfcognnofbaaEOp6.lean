/- A file more, a file turned in the document's disk; . -/
import Derived.Test.YticbfcognnofbaaEOp5
namespace Go.Proofs.Yticbfcognnofbaa
open Go.RowKit Go.Maps

theorem RRep.pushF {w w9 : World} {rp : Nat} {S : DS} {L : RL} {o : Obj} {f : Fl} {u : Value} {ao : Option Addr} {cap : Nat} (h : RRep w rp S L) (hu : Own w 0 u f.bys) (hun : ∀ g, u.ownBlock = some g → g ∉ L.mut rp)
    (hrow : w9.ownsRow 0 108 2 (.slice ao (S.files.length + 1) cap) (S.files.length + 1) (bcells S.files L.us ++ [u, .int .i64 (f.syn : Int)])) (hg : (w.alloc o).grownBy w9 L.fv.ownBlock)
    (hl : Value.ownBlock (.slice ao (S.files.length + 1) cap) = L.fv.ownBlock ∨ Value.ownBlock (.slice ao (S.files.length + 1) cap) = some (w.alloc o).heap.size) :
    RRep (w9.setCell ⟨rp, 1, none⟩ (.slice ao (S.files.length + 1) cap)) rp { S with files := S.files ++ [f] } { L with fv := .slice ao (S.files.length + 1) cap, us := L.us ++ [u] } ∧ Fr (L.mut rp) w (w9.setCell ⟨rp, 1, none⟩ (.slice ao (S.files.length + 1) cap)) ∧ (∀ b ∈ ({ L with fv := .slice ao (S.files.length + 1) cap, us := L.us ++ [u] } : RL).mut rp, b ∈ L.mut rp ∨ w.heap.size ≤ b) ∧ Bl w9 rp (rCells L S) 73 := by
  have hz : (w.alloc o).heap.size = w.heap.size + 1 := by simp
  have same := grown_same hg
  have hrp := h.box.lt
  obtain ⟨n1, n2⟩ := h.nod3
  have hmrp : rp ∈ L.mut rp := (L.mem_mut rp rp).2 (.inl rfl)
  have hnfv : L.fv.ownBlock ≠ some rp := fun e => (n1 rp e).1 rfl
  have hbox : Bl w9 rp (rCells L S) 73 := (same rp hrp hnfv).trans h.box
  have stay : ∀ b, b < w.heap.size → b ≠ rp → L.fv.ownBlock ≠ some b → (w9.setCell ⟨rp, 1, none⟩ (.slice ao (S.files.length + 1) cap)).heap[b]? = w.heap[b]? := fun b h1 h2 h3 => by
    rw [heap_setCell_other w9 ⟨rp, 1, none⟩ b _ h2, same b h1 h3]
  have off : ∀ b, b ∉ L.mut rp → b ≠ rp ∧ L.fv.ownBlock ≠ some b := fun b hb => ⟨fun e => hb (by rw [e]; exact hmrp), fun e => hb ((L.mem_mut rp b).2 (.inr (.inl e)))⟩
  have hcb : ∀ g, Value.ownBlock (.slice ao (S.files.length + 1) cap) = some g → L.fv.ownBlock = some g ∨ g = w.heap.size + 1 := fun g hgv => by
    rcases hl with e | e
    · left; rw [← e]; exact hgv
    · right; rw [e] at hgv; injection hgv with hgv; omega
  -- what only is read, the new file's bytes among it
  have imm : ∀ b ∈ ({ L with fv := .slice ao (S.files.length + 1) cap, us := L.us ++ [u] } : RL).imm, b < w.heap.size ∧ b ∉ L.mut rp := fun b hb => by
    rcases (RL.mem_imm _ b).1 hb with e | e | ⟨u', hu', e⟩
    · exact ⟨(World.ownsRow.lt h.dir b e).2, h.sep b ((L.mem_imm b).2 (.inl e))⟩
    · exact ⟨(World.ownsRow.lt h.safe b e).2, h.sep b ((L.mem_imm b).2 (.inr (.inl e)))⟩
    · have hu2 : u' ∈ L.us ++ [u] := hu'
      rcases List.mem_append.1 hu2 with hm | hm
      · exact ⟨h.lt b (List.mem_append.2 (.inr ((L.mem_imm b).2 (.inr (.inr ⟨u', hm, e⟩))))), h.sep b ((L.mem_imm b).2 (.inr (.inr ⟨u', hm, e⟩)))⟩
      · rw [List.mem_singleton.1 hm] at e
        exact ⟨(World.ownsRow.lt hu b e).2, hun b e⟩
  refine ⟨⟨?_, ?_, ?_, ?_, by simp [h.ulen], ?_, ?_, ?_, ?_⟩, ?_, ?_, hbox⟩
  · refine RL.nod_of (fun g hgv => ?_) (fun g hgv => (n2 g hgv).1)
    rcases hcb g hgv with e2 | e2
    · exact n1 g e2
    · exact ⟨by omega, fun e => by have := (World.ownsRow.lt h.chg g e).2; omega⟩
  · intro b hb hm
    have hi := imm b hb
    rcases (RL.mem_mut _ rp b).1 hm with e | e | e
    · exact hi.2 (by rw [e]; exact hmrp)
    · rcases hcb b e with e2 | e2
      · exact hi.2 ((L.mem_mut rp b).2 (.inr (.inl e2)))
      · omega
    · exact hi.2 ((L.mem_mut rp b).2 (.inr (.inr e)))
  · exact hbox.set 1 _
  · show World.ownsRow _ 0 _ 2 _ (S.files ++ [f]).length (bcells (S.files ++ [f]) (L.us ++ [u]))
    rw [List.length_append, bcells_snoc h.ulen]
    refine owns_same hrow fun g hgv => heap_setCell_other w9 ⟨rp, 1, none⟩ g _ (fun e => ?_)
    rcases hcb g hgv with e2 | e2
    · exact (n1 g e2).1 e
    · have e : g = rp := e
      omega
  · intro i u' f' h1 h2
    have h1 : (L.us ++ [u])[i]? = some u' := h1
    have h2 : (S.files ++ [f])[i]? = some f' := h2
    have hO : Own w 0 u' f'.bys := by
      by_cases hi : i < L.us.length
      · rw [List.getElem?_append_left hi] at h1
        rw [List.getElem?_append_left (by rw [← h.ulen]; exact hi)] at h2
        exact h.byte i u' f' h1 h2
      · have hil : i = L.us.length := by have := lt_of_get h1; simp at this; omega
        subst hil
        rw [List.getElem?_concat_length] at h1
        rw [h.ulen, List.getElem?_concat_length] at h2
        injection h1 with h1
        injection h2 with h2
        rw [← h1, ← h2]
        exact hu
    refine owns_same hO fun g hgv => ?_
    have hi := imm g ((RL.mem_imm _ g).2 (.inr (.inr ⟨u', List.mem_of_getElem? h1, hgv⟩)))
    exact stay g hi.1 (off g hi.2).1 (off g hi.2).2
  · refine owns_same h.dir fun g hgv => ?_
    have hi := imm g ((RL.mem_imm _ g).2 (.inl hgv))
    exact stay g hi.1 (off g hi.2).1 (off g hi.2).2
  · refine owns_same h.safe fun g hgv => ?_
    have hi := imm g ((RL.mem_imm _ g).2 (.inr (.inl hgv)))
    exact stay g hi.1 (off g hi.2).1 (off g hi.2).2
  · exact owns_same h.chg fun g hgv => stay g (World.ownsRow.lt h.chg g hgv).2 (n2 g hgv).1 (n2 g hgv).2
  · refine ⟨hg.os, hg.tape, hg.output, ?_, fun b hb hn => stay b hb (off b hn).1 (off b hn).2⟩
    have := hg.size
    show w.heap.size ≤ (w9.setCell _ _).heap.size
    simp [World.setCell]
    omega
  · intro b hb
    rcases (RL.mem_mut _ rp b).1 hb with e | e | e
    · exact .inl (by rw [e]; exact hmrp)
    · rcases hcb b e with e2 | e2
      · exact .inl ((L.mem_mut rp b).2 (.inr (.inl e2)))
      · exact .inr (by omega)
    · exact .inl ((L.mem_mut rp b).2 (.inr (.inr e)))
end Go.Proofs.Yticbfcognnofbaa
