/- How the document's disk lies in memory; what a call of it leaves. -/
import Derived.Test.YticbfcognnofbaaEDir3
import Derived.Test.YticbfcognnofbaaDLeft1
namespace Go.Proofs.Yticbfcognnofbaa
open Go.RowKit Go.Maps

structure RL where
  fv : Value
  dv : Value
  sv : Value
  cv : Value
  us : List Value
/-- The blocks that its calls write into; those that they only read. -/
def RL.mut (L : RL) (rp : Nat) : List Nat := rp :: (vb L.fv ++ vb L.cv)
def RL.imm (L : RL) : List Nat := vb L.dv ++ (vb L.sv ++ L.us.flatMap vb)
def bcells (fs : List Fl) (us : List Value) : List Value := (fs.zip us).flatMap fun q => [q.2, .int .i64 (q.1.syn : Int)]
def ccells (l : List Ch) : List Value := l.flatMap fun c => [.string (str c.fr), .string (str c.tn), .int .i64 (c.fl : Int)]
def rCells (L : RL) (S : DS) : List Value := [.int .i64 (S.room : Int), L.fv, L.dv, L.sv, L.cv, .int .i64 (S.ops : Int), .int .i64 (S.armed : Int), .bool S.dead]
structure RRep (w : World) (rp : Nat) (S : DS) (L : RL) : Prop where
  nod : (L.mut rp).Nodup
  sep : ∀ b ∈ L.imm, b ∉ L.mut rp
  box : Bl w rp (rCells L S) 73
  files : w.ownsRow 0 108 2 L.fv S.files.length (bcells S.files L.us)
  ulen : L.us.length = S.files.length
  byte : ∀ (i : Nat) u f, L.us[i]? = some u → S.files[i]? = some f → Own w 0 u f.bys
  dir : EOwn w 0 L.dv S.dir
  safe : EOwn w 0 L.sv S.safe
  chg : w.ownsRow 0 113 3 L.cv S.chg.length (ccells S.chg)
theorem RL.mem_mut (L : RL) (rp b : Nat) : b ∈ L.mut rp ↔ b = rp ∨ L.fv.ownBlock = some b ∨ L.cv.ownBlock = some b := by simp [RL.mut, mem_vb]
theorem RL.mem_imm (L : RL) (b : Nat) : b ∈ L.imm ↔ L.dv.ownBlock = some b ∨ L.sv.ownBlock = some b ∨ ∃ u ∈ L.us, u.ownBlock = some b := by simp [RL.imm, mem_vb]
theorem RRep.lt {w : World} {rp : Nat} {S : DS} {L : RL} (h : RRep w rp S L) : ∀ b ∈ L.mut rp ++ L.imm, b < w.heap.size := fun b hb => by
  rcases List.mem_append.1 hb with hb | hb
  · rcases (L.mem_mut rp b).1 hb with rfl | e | e
    · exact h.box.lt
    · exact (World.ownsRow.lt h.files b e).2
    · exact (World.ownsRow.lt h.chg b e).2
  · rcases (L.mem_imm b).1 hb with e | e | ⟨u, hu, e⟩
    · exact (World.ownsRow.lt h.dir b e).2
    · exact (World.ownsRow.lt h.safe b e).2
    · obtain ⟨i, hi, rfl⟩ := List.getElem_of_mem hu
      have h2 : S.files[i]? = some (S.files[i]'(by rw [← h.ulen]; exact hi)) := List.getElem?_eq_getElem _
      exact (World.ownsRow.lt (h.byte i _ _ (List.getElem?_eq_getElem hi) h2) b e).2
theorem RRep.keep {w w' : World} {rp : Nat} {S : DS} {L : RL} (h : RRep w rp S L) (hb : ∀ b ∈ L.mut rp ++ L.imm, w'.heap[b]? = w.heap[b]?) : RRep w' rp S L where
  nod := h.nod
  sep := h.sep
  box := (hb rp (List.mem_append.2 (.inl ((L.mem_mut rp rp).2 (.inl rfl))))).trans h.box
  files := owns_same h.files fun g hg => hb g (List.mem_append.2 (.inl ((L.mem_mut rp g).2 (.inr (.inl hg)))))
  ulen := h.ulen
  byte := fun i u f h1 h2 => owns_same (h.byte i u f h1 h2) fun g hg => hb g (List.mem_append.2 (.inr ((L.mem_imm g).2 (.inr (.inr ⟨u, List.mem_of_getElem? h1, hg⟩)))))
  dir := owns_same h.dir fun g hg => hb g (List.mem_append.2 (.inr ((L.mem_imm g).2 (.inl hg))))
  safe := owns_same h.safe fun g hg => hb g (List.mem_append.2 (.inr ((L.mem_imm g).2 (.inr (.inl hg)))))
  chg := owns_same h.chg fun g hg => hb g (List.mem_append.2 (.inl ((L.mem_mut rp g).2 (.inr (.inr hg)))))
theorem RRep.below {w w' : World} {rp : Nat} {S : DS} {L : RL} (h : RRep w rp S L) (hb : Below w.heap.size w w') : RRep w' rp S L := h.keep fun b hm => hb.block b (h.lt b hm)
theorem RRep.drewN {w : World} {rp : Nat} {S : DS} {L : RL} (h : RRep w rp S L) (n : Nat) : RRep (w.drewN n) rp S L := h.keep fun _ _ => rfl
theorem RRep.c {w : World} {rp : Nat} {S : DS} {L : RL} (h : RRep w rp S L) : w.cell? ⟨rp, 0, none⟩ = some (.int .i64 (S.room : Int)) ∧ w.cell? ⟨rp, 1, none⟩ = some L.fv ∧ w.cell? ⟨rp, 2, none⟩ = some L.dv ∧ w.cell? ⟨rp, 3, none⟩ = some L.sv ∧ w.cell? ⟨rp, 4, none⟩ = some L.cv ∧ w.cell? ⟨rp, 5, none⟩ = some (.int .i64 (S.ops : Int)) ∧ w.cell? ⟨rp, 6, none⟩ = some (.int .i64 (S.armed : Int)) ∧ w.cell? ⟨rp, 7, none⟩ = some (.bool S.dead) :=
  ⟨h.box.cell 0, h.box.cell 1, h.box.cell 2, h.box.cell 3, h.box.cell 4, h.box.cell 5, h.box.cell 6, h.box.cell 7⟩
/-- What a call of the document's disk leaves. -/
def RAft (w w' : World) (rp : Nat) (L : RL) (S' : DS) : Prop := ∃ L', RRep w' rp S' L' ∧ Fr (L.mut rp) w w' ∧ ∀ b ∈ L'.mut rp ++ L'.imm, b ∈ L.mut rp ++ L.imm ∨ w.heap.size ≤ b
theorem RAft.same {w w' : World} {rp : Nat} {L : RL} {S : DS} (h : RRep w rp S L) (hb : Below w.heap.size w w') : RAft w w' rp L S := ⟨L, h.below hb, Fr.of hb, fun _ hm => .inl hm⟩
theorem RAft.under {w w2 w' : World} {rp : Nat} {L : RL} {S' : DS} (h : RAft w2 w' rp L S') (hb : Below w.heap.size w w2) : RAft w w' rp L S' := by
  obtain ⟨L', h1, h2, h3⟩ := h
  exact ⟨L', h1, (Fr.of hb).trans h2 (fun x hx => .inl hx), fun b hm => (h3 b hm).imp id (fun e => Nat.le_trans hb.size e)⟩
theorem RAft.then {w w2 w' : World} {rp : Nat} {L L2 : RL} {S' : DS} (hf : Fr (L.mut rp) w w2) (hn : ∀ b ∈ L2.mut rp ++ L2.imm, b ∈ L.mut rp ++ L.imm ∨ w.heap.size ≤ b) (hm : ∀ b ∈ L2.mut rp, b ∈ L.mut rp ∨ w.heap.size ≤ b) (k : RAft w2 w' rp L2 S') : RAft w w' rp L S' := by
  obtain ⟨L', h1, h2, h3⟩ := k
  refine ⟨L', h1, hf.trans h2 hm, fun b hb => ?_⟩
  rcases h3 b hb with e | e
  · exact hn b e
  · exact .inr (Nat.le_trans hf.size e)
/-- A box's cell written over. -/
theorem RRep.setBox {w : World} {rp : Nat} {S S' : DS} {L L' : RL} (h : RRep w rp S L) (i : Nat) (v : Value) (hc : (rCells L S).set i v = rCells L' S') (hu : L'.us = L.us) (hfv : L'.fv = L.fv) (hcv : L'.cv = L.cv) (hd : EOwn w 0 L'.dv S'.dir) (hs : EOwn w 0 L'.sv S'.safe) (e1 : S'.files = S.files) (e3 : S'.chg = S.chg) (hi : ∀ b ∈ L'.imm, b ∉ L.mut rp) : RRep (w.setCell ⟨rp, i, none⟩ v) rp S' L' := by
  have hmut : L'.mut rp = L.mut rp := by unfold RL.mut; rw [hfv, hcv]
  have ho : ∀ b, b ≠ rp → (w.setCell ⟨rp, i, none⟩ v).heap[b]? = w.heap[b]? := fun b hb => heap_setCell_other w ⟨rp, i, none⟩ b v hb
  have hnd := h.nod
  unfold RL.mut at hnd
  rw [List.nodup_cons] at hnd
  have hrp : rp ∈ L.mut rp := (L.mem_mut rp rp).2 (.inl rfl)
  refine ⟨by rw [hmut]; exact h.nod, fun b hb => by rw [hmut]; exact hi b hb, by rw [← hc]; exact h.box.set i v, ?_, by rw [hu, e1]; exact h.ulen, ?_, ?_, ?_, ?_⟩
  · rw [hfv, e1, hu]
    exact owns_same h.files fun g hg => ho g (fun e => hnd.1 (by rw [← e]; exact List.mem_append.2 (.inl (mem_vb.2 hg))))
  · intro j u f h1 h2
    rw [hu] at h1
    rw [e1] at h2
    refine owns_same (h.byte j u f h1 h2) fun g hg => ho g (fun e => h.sep g ((L.mem_imm g).2 (.inr (.inr ⟨u, List.mem_of_getElem? h1, hg⟩))) (by rw [e]; exact hrp))
  · exact owns_same hd fun g hg => ho g (fun e => hi g ((L'.mem_imm g).2 (.inl hg)) (by rw [e]; exact hrp))
  · exact owns_same hs fun g hg => ho g (fun e => hi g ((L'.mem_imm g).2 (.inr (.inl hg))) (by rw [e]; exact hrp))
  · rw [hcv, e3]
    exact owns_same h.chg fun g hg => ho g (fun e => hnd.1 (by rw [← e]; exact List.mem_append.2 (.inr (mem_vb.2 hg))))
theorem Fr.rp {w : World} {rp i : Nat} {v : Value} {L : RL} : Fr (L.mut rp) w (w.setCell ⟨rp, i, none⟩ v) := Fr.setCell _ _ _ _ _ ((L.mem_mut rp rp).2 (.inl rfl))
theorem bcells_get : ∀ {fs : List Fl} {us : List Value} (i : Nat) {f : Fl} {u : Value}, fs[i]? = some f → us[i]? = some u → (bcells fs us)[i * 2]? = some u ∧ (bcells fs us)[i * 2 + 1]? = some (.int .i64 (f.syn : Int))
  | [], _, i, _, _, h, _ => by simp at h
  | _ :: _, [], i, _, _, _, h => by simp at h
  | y :: l, c :: us, 0, x, u, h1, h2 => by
    have e1 : y = x := by simpa using h1
    have e2 : c = u := by simpa using h2
    subst e1; subst e2
    simp [bcells]
  | y :: l, c :: us, i + 1, x, u, h1, h2 => by
    have := bcells_get (fs := l) (us := us) i (f := x) (u := u) (by simpa using h1) (by simpa using h2)
    have e : bcells (y :: l) (c :: us) = [c, .int .i64 (y.syn : Int)] ++ bcells l us := by simp [bcells]
    rw [e, show (i + 1) * 2 = 2 + i * 2 by omega, show 2 + i * 2 + 1 = 2 + (i * 2 + 1) by omega, List.getElem?_append_right (by simp), List.getElem?_append_right (by simp)]
    simpa using this
theorem ccells_get : ∀ {l : List Ch} (i : Nat) {c : Ch}, l[i]? = some c → (ccells l)[i * 3]? = some (.string (str c.fr)) ∧ (ccells l)[i * 3 + 1]? = some (.string (str c.tn)) ∧ (ccells l)[i * 3 + 2]? = some (.int .i64 (c.fl : Int))
  | [], i, _, h => by simp at h
  | y :: l, 0, x, h1 => by
    have e1 : y = x := by simpa using h1
    subst e1
    simp [ccells]
  | y :: l, i + 1, x, h1 => by
    have := ccells_get (l := l) i (c := x) (by simpa using h1)
    have e : ccells (y :: l) = [.string (str y.fr), .string (str y.tn), .int .i64 (y.fl : Int)] ++ ccells l := by simp [ccells]
    rw [e, show (i + 1) * 3 = 3 + i * 3 by omega, show 3 + i * 3 + 1 = 3 + (i * 3 + 1) by omega, show 3 + i * 3 + 2 = 3 + (i * 3 + 2) by omega, List.getElem?_append_right (by simp), List.getElem?_append_right (by simp), List.getElem?_append_right (by simp)]
    simpa using this
theorem lt_of_get {α : Type} {l : List α} {i : Nat} {x : α} (h : l[i]? = some x) : i < l.length := by
  rcases Nat.lt_or_ge i l.length with h1 | h1
  · exact h1
  · rw [List.getElem?_eq_none h1] at h; cases h
/-- A file of it: where it lies. -/
theorem RRep.file {w : World} {rp : Nat} {S : DS} {L : RL} (h : RRep w rp S L) {i : Nat} (hi : i < S.files.length) : ∃ g cap ao c, L.fv = .slice (some ⟨g, 0, none⟩) S.files.length cap ∧ S.files.length ≤ cap ∧ L.us[i]? = some (.slice ao (flAt S.files i).bys.length c) ∧ w.cell? ⟨g, i * 2, none⟩ = some (.slice ao (flAt S.files i).bys.length c) ∧ w.cell? ⟨g, i * 2 + 1, none⟩ = some (.int .i64 ((flAt S.files i).syn : Int)) ∧ Row w ao (flAt S.files i).bys ∧ (flAt S.files i).bys.length ≤ c := by
  have e1 : S.files[i]? = some (flAt S.files i) := by simp [flAt, List.getD, hi]
  have e2 : L.us[i]? = some (L.us[i]'(by rw [h.ulen]; exact hi)) := List.getElem?_eq_getElem _
  obtain ⟨c1, c2⟩ := bcells_get i e1 e2
  obtain ⟨ao, c, hv, hle, hr⟩ := (h.byte i _ _ e2 e1).read
  rw [hv] at e2 c1
  rcases h.files.2 with ⟨_, e⟩ | ⟨g, cap, cur, e, _, _, hcap, _⟩
  · omega
  · have hc := World.ownsRow.cells h.files (g := g) (by rw [e]; rfl)
    have k1 := hc _ _ c1
    have k2 := hc _ _ c2
    rw [add_none, Nat.zero_add] at k1 k2
    exact ⟨g, cap, ao, c, e, hcap, e2, k1, k2, hr, hle⟩
theorem RRep.change {w : World} {rp : Nat} {S : DS} {L : RL} (h : RRep w rp S L) {i : Nat} {c : Ch} (hi : S.chg[i]? = some c) : ∃ g cap, L.cv = .slice (some ⟨g, 0, none⟩) S.chg.length cap ∧ w.cell? ⟨g, i * 3, none⟩ = some (.string (str c.fr)) ∧ w.cell? ⟨g, i * 3 + 1, none⟩ = some (.string (str c.tn)) ∧ w.cell? ⟨g, i * 3 + 2, none⟩ = some (.int .i64 (c.fl : Int)) ∧ S.chg.length ≤ cap := by
  obtain ⟨c1, c2, c3⟩ := ccells_get i hi
  rcases h.chg.2 with ⟨_, e⟩ | ⟨g, cap, cur, e, _, _, hcap, _⟩
  · have := lt_of_get hi; omega
  · have hc := World.ownsRow.cells h.chg (g := g) (by rw [e]; rfl)
    have k1 := hc _ _ c1
    have k2 := hc _ _ c2
    have k3 := hc _ _ c3
    rw [add_none, Nat.zero_add] at k1 k2 k3
    exact ⟨g, cap, e, k1, k2, k3, hcap⟩
theorem RRep.dirAt {w : World} {rp : Nat} {S : DS} {L : RL} (h : RRep w rp S L) {k : Nat} {p : Nm × Nat} (hp : S.dir[k]? = some p) : ∃ g cap, L.dv = .slice (some ⟨g, 0, none⟩) S.dir.length cap ∧ w.cell? ⟨g, k * 2, none⟩ = some (.string (str p.1)) ∧ w.cell? ⟨g, k * 2 + 1, none⟩ = some (.int .i64 (p.2 : Int)) ∧ S.dir.length ≤ cap := by
  obtain ⟨ao, cap, e⟩ := ownsRow_slice h.dir
  have hd := h.dir
  rw [e] at hd
  obtain ⟨g, rfl, c1, c2, -, hc⟩ := hd.at hp
  exact ⟨g, cap, e, c1, c2, hc⟩
end Go.Proofs.Yticbfcognnofbaa
