/- One change more, one file more in the document's disk; the contract of its change. -/
import Derived.Test.YticbfcognnofbaaEOp1
import Derived.Test.YticbfcognnofbaaDCallF
namespace Go.Proofs.Yticbfcognnofbaa
open Go.RowKit Go.Maps

theorem ccells_snoc (l : List Ch) (c : Ch) : ccells (l ++ [c]) = ccells l ++ [.string (str c.fr), .string (str c.tn), .int .i64 (c.fl : Int)] := by simp [ccells]
theorem bcells_snoc {fs : List Fl} {us : List Value} (h : us.length = fs.length) (f : Fl) (u : Value) : bcells (fs ++ [f]) (us ++ [u]) = bcells fs us ++ [u, .int .i64 (f.syn : Int)] := by
  unfold bcells
  rw [List.zip_append (by omega), List.flatMap_append]
  simp
/-- What lies where behind a row that has grown. -/
theorem grown_same {w w9 : World} {o : Obj} {r : Option Nat} (hg : (w.alloc o).grownBy w9 r) : ∀ b, b < w.heap.size → r ≠ some b → w9.heap[b]? = w.heap[b]? := fun b hb hn => by
  rw [hg.block b (by simp; omega) (fun e => hn e.symm), Below.heap_alloc w o b hb]
theorem RRep.nod3 {w : World} {rp : Nat} {S : DS} {L : RL} (h : RRep w rp S L) : (∀ g, L.fv.ownBlock = some g → g ≠ rp ∧ L.cv.ownBlock ≠ some g) ∧ (∀ g, L.cv.ownBlock = some g → g ≠ rp ∧ L.fv.ownBlock ≠ some g) := by
  have hn := h.nod
  unfold RL.mut at hn
  rw [List.nodup_cons, List.nodup_append] at hn
  obtain ⟨h1, h2, h3, h4⟩ := hn
  exact ⟨fun g hg => ⟨fun e => h1 (by rw [← e]; exact List.mem_append.2 (.inl (mem_vb.2 hg))), fun e => h4 g (mem_vb.2 hg) g (mem_vb.2 e) rfl⟩, fun g hg => ⟨fun e => h1 (by rw [← e]; exact List.mem_append.2 (.inr (mem_vb.2 hg))), fun e => h4 g (mem_vb.2 e) g (mem_vb.2 hg) rfl⟩⟩
theorem RL.nod_of {L : RL} {rp : Nat} (h1 : ∀ g, L.fv.ownBlock = some g → g ≠ rp ∧ L.cv.ownBlock ≠ some g) (h2 : ∀ g, L.cv.ownBlock = some g → g ≠ rp) : (L.mut rp).Nodup := by
  unfold RL.mut
  have nv : ∀ v : Value, (vb v).Nodup := fun v => by
    unfold vb
    cases v.ownBlock <;> simp
  rw [List.nodup_cons, List.nodup_append]
  refine ⟨fun hm => ?_, nv _, nv _, fun a ha b hb e => ?_⟩
  · rcases List.mem_append.1 hm with e | e
    · exact (h1 rp (mem_vb.1 e)).1 rfl
    · exact h2 rp (mem_vb.1 e) rfl
  · subst e
    exact (h1 a (mem_vb.1 ha)).2 (mem_vb.1 hb)
theorem RRep.pushC {w w9 : World} {rp : Nat} {S : DS} {L : RL} {o : Obj} {c : Ch} {ao : Option Addr} {cap : Nat} (h : RRep w rp S L)
    (hrow : w9.ownsRow 0 113 3 (.slice ao (S.chg.length + 1) cap) (S.chg.length + 1) (ccells S.chg ++ [.string (str c.fr), .string (str c.tn), .int .i64 (c.fl : Int)])) (hg : (w.alloc o).grownBy w9 L.cv.ownBlock)
    (hl : Value.ownBlock (.slice ao (S.chg.length + 1) cap) = L.cv.ownBlock ∨ Value.ownBlock (.slice ao (S.chg.length + 1) cap) = some (w.alloc o).heap.size) :
    RAft w (w9.setCell ⟨rp, 4, none⟩ (.slice ao (S.chg.length + 1) cap)) rp L { S with chg := S.chg ++ [c] } ∧ Bl w9 rp (rCells L S) 73 := by
  have hz : (w.alloc o).heap.size = w.heap.size + 1 := by simp
  have same := grown_same hg
  have hrp := h.box.lt
  obtain ⟨n1, n2⟩ := h.nod3
  have hmrp : rp ∈ L.mut rp := (L.mem_mut rp rp).2 (.inl rfl)
  have hncv : L.cv.ownBlock ≠ some rp := fun e => (n2 rp e).1 rfl
  have hbox : Bl w9 rp (rCells L S) 73 := (same rp hrp hncv).trans h.box
  -- a block that lies behind, of the old ones
  have stay : ∀ b, b < w.heap.size → b ≠ rp → L.cv.ownBlock ≠ some b → (w9.setCell ⟨rp, 4, none⟩ (.slice ao (S.chg.length + 1) cap)).heap[b]? = w.heap[b]? := fun b h1 h2 h3 => by
    rw [heap_setCell_other w9 ⟨rp, 4, none⟩ b _ h2, same b h1 h3]
  have imm : ∀ b ∈ L.imm, b < w.heap.size ∧ b ≠ rp ∧ L.cv.ownBlock ≠ some b := fun b hb => ⟨h.lt b (List.mem_append.2 (.inr hb)), fun e => h.sep b hb (by rw [e]; exact hmrp), fun e => h.sep b hb ((L.mem_mut rp b).2 (.inr (.inr e)))⟩
  have hcb : ∀ g, Value.ownBlock (.slice ao (S.chg.length + 1) cap) = some g → L.cv.ownBlock = some g ∨ g = w.heap.size + 1 := fun g hgv => by
    rcases hl with e | e
    · left; rw [← e]; exact hgv
    · right; rw [e] at hgv; injection hgv with hgv; omega
  refine ⟨⟨{ L with cv := .slice ao (S.chg.length + 1) cap }, ⟨?_, ?_, ?_, ?_, h.ulen, ?_, ?_, ?_, ?_⟩, ?_, ?_⟩, hbox⟩
  · refine RL.nod_of (fun g hgv => ⟨(n1 g hgv).1, fun e => ?_⟩) (fun g hgv => ?_)
    · rcases hcb g e with e2 | e2
      · exact (n1 g hgv).2 e2
      · have := (World.ownsRow.lt h.files g hgv).2; omega
    · rcases hcb g hgv with e2 | e2
      · exact (n2 g e2).1
      · omega
  · intro b hb hm
    have hb' : b ∈ L.imm := hb
    have hi := imm b hb'
    rcases (RL.mem_mut _ rp b).1 hm with e | e | e
    · exact hi.2.1 e
    · exact h.sep b hb' ((L.mem_mut rp b).2 (.inr (.inl e)))
    · rcases hcb b e with e2 | e2
      · exact hi.2.2 e2
      · omega
  · exact hbox.set 4 _
  · exact owns_same h.files fun g hgv => stay g (World.ownsRow.lt h.files g hgv).2 (n1 g hgv).1 (n1 g hgv).2
  · intro i u f h1 h2
    refine owns_same (h.byte i u f h1 h2) fun g hgv => ?_
    have hi := imm g ((L.mem_imm g).2 (.inr (.inr ⟨u, List.mem_of_getElem? h1, hgv⟩)))
    exact stay g hi.1 hi.2.1 hi.2.2
  · refine owns_same h.dir fun g hgv => ?_
    have hi := imm g ((L.mem_imm g).2 (.inl hgv))
    exact stay g hi.1 hi.2.1 hi.2.2
  · refine owns_same h.safe fun g hgv => ?_
    have hi := imm g ((L.mem_imm g).2 (.inr (.inl hgv)))
    exact stay g hi.1 hi.2.1 hi.2.2
  · show World.ownsRow _ 0 _ 3 _ (S.chg ++ [c]).length (ccells (S.chg ++ [c]))
    rw [List.length_append, ccells_snoc]
    refine owns_same hrow fun g hgv => heap_setCell_other w9 ⟨rp, 4, none⟩ g _ (fun e => ?_)
    rcases hcb g hgv with e2 | e2
    · exact (n2 g e2).1 e
    · have e : g = rp := e
      omega
  · refine ⟨hg.os, hg.tape, hg.output, ?_, fun b hb hn => ?_⟩
    · have := hg.size
      show w.heap.size ≤ (w9.setCell _ _).heap.size
      simp [World.setCell]
      omega
    · exact stay b hb (fun e => hn (by rw [e]; exact hmrp)) (fun e => hn ((L.mem_mut rp b).2 (.inr (.inr e))))
  · intro b hb
    rcases List.mem_append.1 hb with hb | hb
    · rcases (RL.mem_mut _ rp b).1 hb with e | e | e
      · exact .inl (List.mem_append.2 (.inl ((L.mem_mut rp b).2 (.inl e))))
      · exact .inl (List.mem_append.2 (.inl ((L.mem_mut rp b).2 (.inr (.inl e)))))
      · rcases hcb b e with e2 | e2
        · exact .inl (List.mem_append.2 (.inl ((L.mem_mut rp b).2 (.inr (.inr e2)))))
        · exact .inr (by omega)
    · exact .inl (List.mem_append.2 (.inr hb))
end Go.Proofs.Yticbfcognnofbaa
