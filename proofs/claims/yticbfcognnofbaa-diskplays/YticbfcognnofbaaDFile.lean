/- A disk one of whose files has turned; operate in one sentence. -/
import Derived.Test.YticbfcognnofbaaDSize
namespace Go.Proofs.Yticbfcognnofbaa
open Go.RowKit Go.Maps

/-- Behind a call that turns a disk. -/
def Aft (w w' : World) (dp : Nat) (L : Lay) (S' : DS) (nx : Nat) : Prop := ∃ L', Rep w' dp S' L' nx ∧ Fr (L.blocks dp) w w' ∧ ∀ b ∈ L'.blocks dp, b ∈ L.blocks dp ∨ w.heap.size ≤ b
theorem blocks_split (L : Lay) (dp i : Nat) (v : Value) (h : L.rv[i]? = some v) : L.blocks dp = (dp :: L.bn :: L.sf :: (vb L.kv ++ L.bs)) ++ (L.rv.take i).flatMap vb ++ vb v ++ (L.rv.drop (i + 1)).flatMap vb := by
  have hi : i < L.rv.length := by
    rcases Nat.lt_or_ge i L.rv.length with h1 | h1
    · exact h1
    · rw [List.getElem?_eq_none h1] at h; cases h
  have e : L.rv = L.rv.take i ++ v :: L.rv.drop (i + 1) := by
    have : L.rv[i] = v := by rw [List.getElem?_eq_getElem hi] at h; exact Option.some.inj h
    rw [← this, ← List.drop_eq_getElem_cons hi, List.take_append_drop]
  unfold Lay.blocks
  conv => lhs; rw [e]
  simp [List.flatMap_append, List.flatMap_cons]
theorem blocks_set (L : Lay) (dp i : Nat) (v v' : Value) (h : L.rv[i]? = some v) : ({ L with rv := L.rv.set i v' } : Lay).blocks dp = (dp :: L.bn :: L.sf :: (vb L.kv ++ L.bs)) ++ (L.rv.take i).flatMap vb ++ vb v' ++ (L.rv.drop (i + 1)).flatMap vb := by
  have hi : i < L.rv.length := by
    rcases Nat.lt_or_ge i L.rv.length with h1 | h1
    · exact h1
    · rw [List.getElem?_eq_none h1] at h; cases h
  rw [blocks_split { L with rv := L.rv.set i v' } dp i v' (by simp [hi])]
  have e1 : (L.rv.set i v').take i = L.rv.take i := by rw [List.take_set, List.set_eq_of_length_le (by simp; omega)]
  have e2 : (L.rv.set i v').drop (i + 1) = L.rv.drop (i + 1) := by rw [List.drop_set_of_lt (by omega)]
  simp only [e1, e2]
theorem nodup_swap {X Y A : List Nat} {g : Nat} (h : (X ++ A ++ Y).Nodup) (hg : g ∉ X ++ A ++ Y) : (X ++ [g] ++ Y).Nodup := by
  have h1 : (X ++ Y).Nodup := h.sublist (by
    refine List.Sublist.append (List.sublist_append_left X A) (List.Sublist.refl Y))
  have h2 : g ∉ X ++ Y := fun e => hg (by
    simp only [List.mem_append] at e ⊢
    rcases e with e | e
    · exact .inl (.inl e)
    · exact .inr e)
  rw [List.nodup_append] at h1
  obtain ⟨n1, n2, n3⟩ := h1
  rw [List.mem_append, not_or] at h2
  rw [List.append_assoc, List.singleton_append, List.nodup_append]
  refine ⟨n1, List.nodup_cons.2 ⟨h2.2, n2⟩, fun a ha b hb e => ?_⟩
  rcases List.mem_cons.1 hb with hb | hb
  · exact h2.1 (hb ▸ e ▸ ha)
  · exact n3 a ha b hb e
theorem Lay.off {L : Lay} {dp i b : Nat} {v : Value} (h : (L.blocks dp).Nodup) (h1 : L.bs[i]? = some b) (h2 : L.rv[i]? = some v) :
    b ≠ dp ∧ b ≠ L.bn ∧ b ≠ L.sf ∧ b ∉ vb L.kv ∧ b ∉ vb v ∧ (∀ g ∈ vb v, g ≠ dp ∧ g ≠ L.bn ∧ g ≠ L.sf ∧ g ∉ vb L.kv ∧ g ∉ L.bs) ∧ (∀ j u, L.rv[j]? = some u → j ≠ i → ∀ g ∈ vb u, g ∉ vb v ∧ g ≠ b) ∧ (∀ j c, L.bs[j]? = some c → j ≠ i → c ≠ b) := by
  have hb := List.mem_of_getElem? h1
  have hm : ∀ g ∈ vb v, g ∈ L.rv.flatMap vb := fun g hg => List.mem_flatMap.2 ⟨v, List.mem_of_getElem? h2, hg⟩
  have hsp := h
  rw [blocks_split L dp i v h2] at hsp
  unfold Lay.blocks at h
  simp only [List.nodup_cons, List.mem_cons, List.mem_append, List.nodup_append, not_or] at h
  obtain ⟨⟨a1, a2, a3, a4, a5⟩, ⟨b1, b2, b3, b4⟩, ⟨c1, c2, c3⟩, d1, ⟨e1, e2, e3⟩, d3⟩ := h
  refine ⟨fun e => a4 (e ▸ hb), fun e => b3 (e ▸ hb), fun e => c2 (e ▸ hb), fun e => d3 b e b (.inl hb) rfl, fun e => e3 b hb b (hm b e) rfl, fun g hg => ⟨fun e => a5 (e ▸ hm g hg), fun e => b4 (e ▸ hm g hg), fun e => c3 (e ▸ hm g hg), fun e => d3 g e g (.inr (hm g hg)) rfl, fun e => e3 g e g (hm g hg) rfl⟩, fun j u hj hji g hg => ⟨fun hv => ?_, fun e => ?_⟩, fun j c hj hji e => ?_⟩
  · simp only [List.nodup_append, List.mem_append] at hsp
    obtain ⟨⟨⟨_, _, _⟩, _, f3⟩, _, f6⟩ := hsp
    rcases Nat.lt_or_gt_of_ne hji with hlt | hgt
    · have : g ∈ (L.rv.take i).flatMap vb := List.mem_flatMap.2 ⟨u, by
        refine List.mem_of_getElem? (i := j) ?_
        rw [List.getElem?_take, if_pos hlt]; exact hj, hg⟩
      exact f3 g (.inr this) g hv rfl
    · have : g ∈ (L.rv.drop (i + 1)).flatMap vb := List.mem_flatMap.2 ⟨u, by
        refine List.mem_of_getElem? (i := j - (i + 1)) ?_
        rw [List.getElem?_drop, show i + 1 + (j - (i + 1)) = j by omega]; exact hj, hg⟩
      exact f6 g (.inr hv) g this rfl
  · have hgm : g ∈ L.rv.flatMap vb := List.mem_flatMap.2 ⟨u, List.mem_of_getElem? hj, hg⟩
    exact e3 b hb g hgm e.symm
  · have hil : i < L.bs.length := by
      rcases Nat.lt_or_ge i L.bs.length with h3 | h3
      · exact h3
      · rw [List.getElem?_eq_none h3] at h1; cases h1
    have hjl : j < L.bs.length := by
      rcases Nat.lt_or_ge j L.bs.length with h3 | h3
      · exact h3
      · rw [List.getElem?_eq_none h3] at hj; cases hj
    rw [List.getElem?_eq_getElem hil] at h1
    rw [List.getElem?_eq_getElem hjl] at hj
    have he : L.bs[j] = L.bs[i] := by rw [Option.some.inj h1, Option.some.inj hj]; exact e
    have hp := List.pairwise_iff_getElem.1 e1
    rcases Nat.lt_or_gt_of_ne hji with hlt | hgt
    · exact hp j i hjl hil hlt he
    · exact hp i j hil hjl hgt he.symm
/-- A file turns: its block, and its row of bytes. -/
theorem rep_file {w w' : World} {dp nx i b : Nat} {S : DS} {L : Lay} {v v' : Value} {f : Fl} (h : Rep w dp S L nx) (h1 : L.bs[i]? = some b) (h2 : L.rv[i]? = some v) (hs : w.heap.size ≤ w'.heap.size)
    (hb : ∀ g ∈ L.blocks dp, g ≠ b → g ∉ vb v → w'.heap[g]? = w.heap[g]?) (hbl : Bl w' b (fileCells i v' f) 96) (hown : Own w' 0 v' f.bys) (hl : v'.ownBlock = v.ownBlock ∨ ∃ g, v'.ownBlock = some g ∧ w.heap.size ≤ g) :
    Rep w' dp (setFile i f S) { L with rv := L.rv.set i v' } nx ∧ ∀ g ∈ ({ L with rv := L.rv.set i v' } : Lay).blocks dp, g ∈ L.blocks dp ∨ w.heap.size ≤ g := by
  have hi : i < L.rv.length := by
    rcases Nat.lt_or_ge i L.rv.length with h3 | h3
    · exact h3
    · rw [List.getElem?_eq_none h3] at h2; cases h2
  have hif : i < S.files.length := by rw [← h.rlen]; exact hi
  obtain ⟨o1, o2, o3, o4, o5, o6, o7, o8⟩ := Lay.off h.nod h1 h2
  have hnew : ∀ g ∈ ({ L with rv := L.rv.set i v' } : Lay).blocks dp, g ∈ L.blocks dp ∨ (w.heap.size ≤ g ∧ g < w'.heap.size) := fun g hg => by
    rw [blocks_set L dp i v v' h2] at hg
    rw [blocks_split L dp i v h2]
    simp only [List.mem_append] at hg ⊢
    rcases hg with (hg | hg) | hg
    · exact .inl (.inl (.inl hg))
    · rcases hl with e | ⟨k, e, hk⟩
      · exact .inl (.inl (.inr (by rw [mem_vb] at hg ⊢; rw [← e]; exact hg)))
      · rw [mem_vb, e] at hg
        injection hg with hg
        subst hg
        exact .inr ⟨hk, (World.ownsRow.lt hown _ e).2⟩
    · exact .inl (.inr hg)
  have hnod : (({ L with rv := L.rv.set i v' } : Lay).blocks dp).Nodup := by
    have hn := h.nod
    have hlt := h.lt
    rw [blocks_set L dp i v v' h2]
    rw [blocks_split L dp i v h2] at hn hlt
    rcases hl with e | ⟨g, e, hg⟩
    · rw [show vb v' = vb v by unfold vb; rw [e]]; exact hn
    · rw [show vb v' = [g] by unfold vb; rw [e]; rfl]
      exact nodup_swap hn (fun hm => by have := hlt g hm; omega)
  have same : ∀ g ∈ L.blocks dp, g ≠ b → g ∉ vb v → w'.heap[g]? = w.heap[g]? := hb
  refine ⟨⟨hnod, fun g hg => ?_, ?_, ?_, ?_, ?_, ?_, ?_, fun j c u h3 h4 => ?_⟩, fun g hg => (hnew g hg).imp id And.left⟩
  · rcases hnew g hg with hg | hg
    · have := h.lt g hg; omega
    · exact hg.2
  · exact (same dp ((L.mem dp dp).2 (.inl rfl)) (fun e => o1 e.symm) (fun e => (o6 dp e).1 rfl)).trans h.box
  · exact h.names.same (same _ ((L.mem dp _).2 (.inr (.inl rfl))) (fun e => o2 e.symm) (fun e => (o6 _ e).2.1 rfl))
  · exact h.safe.same (same _ ((L.mem dp _).2 (.inr (.inr (.inl rfl)))) (fun e => o3 e.symm) (fun e => (o6 _ e).2.2.1 rfl))
  · exact owns_same h.kept fun g hg => same g ((L.mem dp g).2 (.inr (.inr (.inr (.inl (mem_vb.2 hg)))))) (fun e => o4 (e ▸ mem_vb.2 hg)) (fun e => (o6 g e).2.2.2.1 (mem_vb.2 hg))
  · show L.bs.length = (S.files.set i f).length
    rw [List.length_set]; exact h.blen
  · show (L.rv.set i v').length = (S.files.set i f).length
    rw [List.length_set, List.length_set]; exact h.rlen
  · have h4' : (L.rv.set i v')[j]? = some u := h4
    show Bl w' c (fileCells j u (flAt (S.files.set i f) j)) 96 ∧ Own w' 0 u (flAt (S.files.set i f) j).bys
    rw [flAt_set hif]
    by_cases hj : i = j
    · subst hj
      rw [if_pos rfl]
      have e1 : c = b := by have := h3.symm.trans h1; exact Option.some.inj this
      have e2 : u = v' := by rw [List.getElem?_set_self hi] at h4'; exact (Option.some.inj h4').symm
      subst e1; subst e2
      exact ⟨hbl, hown⟩
    · rw [if_neg hj]
      rw [List.getElem?_set_ne hj] at h4'
      have hF := h.file j c u h3 h4'
      have hc := o8 j c h3 (fun e => hj e.symm)
      refine ⟨(same c (L.mem_file dp h3) hc (fun e => (o6 c e).2.2.2.2 (List.mem_of_getElem? h3))).trans hF.1, owns_same hF.2 fun g hg => ?_⟩
      have hg2 := o7 j u h4' (fun e => hj e.symm) g (mem_vb.2 hg)
      exact same g (L.mem_row dp h4' hg) hg2.2 hg2.1

theorem went_eq {S : DS} (h : S.dead = false) : went S = { S with armed := S.armed - 1, ops := S.ops + 1 } := by unfold went; rw [← h]
/-- operate, at a change of the directory. -/
theorem operate_any (dp nx : Nat) (S : DS) (L : Lay) (c : Ch) (w : World) (h : Rep w dp S L nx) (hd : S.dead = false) (hc : Cok S.files.length c) (hlen : S.chg.length ≤ 1048576) (hdl : S.dir.length ≤ 64) (hop : S.ops ≤ 1048576) (ham : S.armed ≤ 9223372036854775807) :
    Calls Try.prog 55 #[pf dp, .agg (chCells L.bs c).toArray] w fun e w' => e = .returned (.int .i64 ((goes S (change c)).1 : Int)) ∧ ∃ L', Rep w' dp (goes S (change c)).2 L' nx ∧ Fr (L.blocks dp) w w' ∧ (∀ b ∈ L'.blocks dp, b ∈ L.blocks dp ∨ w.heap.size ≤ b) ∧ L'.bs = L.bs ∧ L'.rv = L.rv := by
  unfold goes
  by_cases h1 : 1048576 ≤ S.ops
  · rw [if_pos h1]
    exact (operate_full dp nx S L c w h h1 (by omega)).mono fun e w' ⟨e1, e2, e3⟩ => ⟨e1, L, e2, e3.mono (fun x hx => by cases hx), fun b hb => .inl hb, rfl, rfl⟩
  rw [if_neg h1]
  by_cases h2 : S.armed = 1
  · rw [if_pos h2]
    exact (operate_dies dp nx S L c w h (by omega) h2).mono fun e w' ⟨e1, e2, e3⟩ => ⟨e1, L, e2, e3.mono (fun x hx => .inl (by rw [List.mem_singleton.1 hx]; exact (L.mem dp dp).2 (.inl rfl))), fun b hb => .inl hb, rfl, rfl⟩
  rw [if_neg h2, ← went_eq hd]
  exact operate_change dp nx S L c w h (by omega) h2 ham hc hlen hdl
/-- operate, without a change. -/
theorem operate_zero (dp nx : Nat) (S : DS) (L : Lay) (w : World) (h : Rep w dp S L nx) (hd : S.dead = false) (hop : S.ops ≤ 1048576) (ham : S.armed ≤ 9223372036854775807) :
    Calls Try.prog 55 #[pf dp, .agg #[.string { data := #[] }, .string { data := #[] }, .pointer none]] w fun e w' => e = .returned (.int .i64 ((goes S id).1 : Int)) ∧ Rep w' dp (goes S id).2 L nx ∧ Fr [dp] w w' := by
  rw [show (#[.string { data := #[] }, .string { data := #[] }, .pointer none] : Array Value) = (chCells L.bs zeroCh).toArray from rfl]
  unfold goes
  by_cases h1 : 1048576 ≤ S.ops
  · rw [if_pos h1]
    exact (operate_full dp nx S L zeroCh w h h1 (by omega)).mono fun e w' ⟨e1, e2, e3⟩ => ⟨e1, e2, e3.mono (fun x hx => by cases hx)⟩
  rw [if_neg h1]
  by_cases h2 : S.armed = 1
  · rw [if_pos h2]
    exact operate_dies dp nx S L zeroCh w h (by omega) h2
  rw [if_neg h2, ← went_eq hd]
  exact operate_none dp nx S L w h (by omega) h2 ham
end Go.Proofs.Yticbfcognnofbaa
