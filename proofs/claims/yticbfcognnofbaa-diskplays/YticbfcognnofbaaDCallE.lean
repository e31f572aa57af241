/- The contract of Create. -/
import Derived.Test.YticbfcognnofbaaDCallD
import Derived.Deep.RegionLaw
namespace Go.Proofs.Yticbfcognnofbaa
open Go.RowKit Go.Maps

def nilS : Value := .slice none 0 0
def more (S : DS) : DS := { S with files := S.files ++ [⟨[], 0⟩] }
def Lay.more (L : Lay) (fb : Nat) : Lay := { L with bs := L.bs ++ [fb], rv := L.rv ++ [nilS] }
theorem more_blocks (L : Lay) (dp fb : Nat) : (L.more fb).blocks dp = (dp :: L.bn :: L.sf :: (vb L.kv ++ L.bs)) ++ [fb] ++ L.rv.flatMap vb := by
  have e : vb nilS = [] := rfl
  simp [Lay.more, Lay.blocks, List.flatMap_append, e]
theorem blocks_three (L : Lay) (dp : Nat) : L.blocks dp = (dp :: L.bn :: L.sf :: (vb L.kv ++ L.bs)) ++ [] ++ L.rv.flatMap vb := by simp [Lay.blocks]
theorem chCells_more {bs : List Nat} {fb : Nat} {c : Ch} (h : c.tn ≠ [] → c.fl < bs.length) : chCells (bs ++ [fb]) c = chCells bs c := by
  unfold chCells
  by_cases e : c.tn = []
  · rw [if_pos e, if_pos e]
  · rw [if_neg e, if_neg e]
    simp [List.getD, List.getElem?_append_left (h e)]
theorem kept_more {bs : List Nat} {fb : Nat} {l : List Ch} (h : ∀ c ∈ l, c.tn ≠ [] → c.fl < bs.length) : l.flatMap (chCells (bs ++ [fb])) = l.flatMap (chCells bs) := by
  rw [List.flatMap_def, List.flatMap_def]
  congr 1
  exact List.map_congr_left fun c hc => chCells_more (h c hc)
structure Near (S : DS) : Prop where
  dir : ∀ p ∈ S.dir, p.2 < S.files.length
  safe : ∀ p ∈ S.safe, p.2 < S.files.length
  chg : ∀ c ∈ S.chg, c.tn ≠ [] → c.fl < S.files.length
theorem Ok.near {S : DS} (h : Ok S) : Near S := ⟨h.dir.num, h.safe.num, fun c hc => (h.cok c hc).num⟩
theorem rep_add {w : World} {dp nx fb : Nat} {S : DS} {L : Lay} (h : Rep w dp S L nx) (hO : Near S) (hn : fb ∉ L.blocks dp) (hlt : fb < w.heap.size) (hb : Bl w fb (fileCells S.files.length nilS ⟨[], 0⟩) 96) : Rep w dp (more S) (L.more fb) nx := by
  have hbl := h.blen
  refine ⟨?_, fun b hm => ?_, h.box, ?_, ?_, ?_, ?_, ?_, fun i b v h1 h2 => ?_⟩
  · rw [more_blocks]
    have h1 := h.nod
    rw [blocks_three] at h1 hn
    exact nodup_swap h1 hn
  · rw [more_blocks] at hm
    rw [List.mem_append, List.mem_append, List.mem_singleton] at hm
    rcases hm with (hm | hm) | hm
    · exact h.lt b (by rw [blocks_three]; simp only [List.mem_append]; exact .inl (.inl hm))
    · rw [hm]; exact hlt
    · exact h.lt b (by rw [blocks_three]; simp only [List.mem_append]; exact .inr hm)
  · show World.ownsMap _ _ _ _ _ S.dir.length (DD (L.bs ++ [fb]) S.dir)
    rw [dd_more L.bs fb S.dir (fun p hp => by rw [hbl]; exact hO.dir p hp)]
    exact h.names
  · show World.ownsMap _ _ _ _ _ S.safe.length (DD (L.bs ++ [fb]) S.safe)
    rw [dd_more L.bs fb S.safe (fun p hp => by rw [hbl]; exact hO.safe p hp)]
    exact h.safe
  · show World.ownsRow _ _ _ _ L.kv S.chg.length (S.chg.flatMap (chCells (L.bs ++ [fb])))
    rw [kept_more (fun c hc e => by rw [hbl]; exact hO.chg c hc e)]
    exact h.kept
  · show (L.bs ++ [fb]).length = (S.files ++ [_]).length
    simp [hbl]
  · show (L.rv ++ [nilS]).length = (S.files ++ [_]).length
    simp [h.rlen]
  · have h1' : (L.bs ++ [fb])[i]? = some b := h1
    have h2' : (L.rv ++ [nilS])[i]? = some v := h2
    show Bl w b (fileCells i v (flAt (S.files ++ [⟨[], 0⟩]) i)) 96 ∧ Own w 0 v (flAt (S.files ++ [⟨[], 0⟩]) i).bys
    by_cases hi : i < S.files.length
    · rw [List.getElem?_append_left (by rw [hbl]; exact hi)] at h1'
      rw [List.getElem?_append_left (by rw [h.rlen]; exact hi)] at h2'
      rw [flAt_more hi]
      exact h.file i b v h1' h2'
    · have hi2 : i = S.files.length := by
        rcases Nat.lt_or_ge i (L.bs ++ [fb]).length with h3 | h3
        · simp [hbl] at h3; omega
        · rw [List.getElem?_eq_none h3] at h1'; cases h1'
      subst hi2
      rw [← hbl, List.getElem?_concat_length] at h1'
      rw [← h.rlen, List.getElem?_concat_length] at h2'
      injection h1' with h1'
      injection h2' with h2'
      subst h1'; subst h2'
      have e : flAt (S.files ++ [⟨[], 0⟩]) S.files.length = ⟨[], 0⟩ := by simp [flAt]
      rw [e]
      exact ⟨hb, own_nil w 0⟩
theorem rep_drop {w : World} {dp nx fb : Nat} {S : DS} {L : Lay} (h : Rep w dp (more S) (L.more fb) nx) (hO : Near S) (hbl : L.bs.length = S.files.length) (hrl : L.rv.length = S.files.length) : Rep w dp S L nx := by
  have sub : ∀ b ∈ L.blocks dp, b ∈ (L.more fb).blocks dp := fun b hb => by
    rw [blocks_three] at hb
    rw [more_blocks]
    simp only [List.mem_append, List.append_nil] at hb ⊢
    rcases hb with hb | hb
    · exact .inl (.inl hb)
    · exact .inr hb
  refine ⟨?_, fun b hm => h.lt b (sub b hm), h.box, ?_, ?_, ?_, hbl, hrl, fun i b v h1 h2 => ?_⟩
  · have h1 := h.nod
    rw [more_blocks] at h1
    rw [blocks_three, List.append_nil]
    exact h1.sublist (List.Sublist.append (List.sublist_append_left _ _) (List.Sublist.refl _))
  · have := h.names
    show World.ownsMap _ _ _ _ _ S.dir.length (DD L.bs S.dir)
    rw [← dd_more L.bs fb S.dir (fun p hp => by rw [hbl]; exact hO.dir p hp)]
    exact this
  · have := h.safe
    show World.ownsMap _ _ _ _ _ S.safe.length (DD L.bs S.safe)
    rw [← dd_more L.bs fb S.safe (fun p hp => by rw [hbl]; exact hO.safe p hp)]
    exact this
  · have := h.kept
    rw [← kept_more (fb := fb) (fun c hc e => by rw [hbl]; exact hO.chg c hc e)]
    exact this
  · have hi : i < S.files.length := by
      rcases Nat.lt_or_ge i L.bs.length with h3 | h3
      · omega
      · rw [List.getElem?_eq_none h3] at h1; cases h1
    have := h.file i b v (by show (L.bs ++ [fb])[i]? = some b; rw [List.getElem?_append_left (by omega)]; exact h1) (by show (L.rv ++ [nilS])[i]? = some v; rw [List.getElem?_append_left (by omega)]; exact h2)
    have e : flAt (more S).files i = flAt S.files i := flAt_more hi
    rw [e] at this
    exact this
/-- What Create's operation is. -/
def made (nm : Nm) (T : DS) : DS := change ⟨[], nm, T.files.length⟩ { T with files := T.files ++ [⟨[], 0⟩] }
theorem create_op (dp nx fb : Nat) (S : DS) (L : Lay) (nm : Nm) (w W : World) (h : Rep w dp S L nx) (hO : Ok S) (hd : S.dead = false) (hnm : isNm nm = true) (hB : Below w.heap.size w W) (hfb : w.heap.size ≤ fb) (hbl : Bl W fb (fileCells S.files.length nilS ⟨[], 0⟩) 96) :
    Calls Try.prog 55 #[pf dp, .agg #[.string { data := #[] }, .string (str nm), pf fb]] W fun e w' => e = .returned (.int .i64 ((goes S (made nm)).1 : Int)) ∧ Aft w w' dp L (goes S (made nm)).2 nx := by
  have hW := h.below hB
  have hfn : fb ∉ L.blocks dp := fun e => by have := h.lt fb e; omega
  have hA := rep_add hW hO.near hfn hbl.lt hbl
  have hne := isNm_ne hnm
  have hc := operate_any dp nx (more S) (L.more fb) ⟨[], nm, S.files.length⟩ W hA hd ⟨.inr hne.1, Nat.zero_le _, hne.2, fun _ => by show _ < (S.files ++ [_]).length; simp⟩ (by have := hO.clen; have := hO.ops; show S.chg.length ≤ _; omega) hO.dir.len hO.ops hO.armed
  rw [show (chCells (L.more fb).bs ⟨[], nm, S.files.length⟩).toArray = #[.string { data := #[] }, .string (str nm), pf fb] by
    simp only [chCells, if_neg hne.1, Lay.more]
    rw [← hW.blen]
    simp [List.getD, str_nil]] at hc
  refine hc.mono fun e w' ⟨he, L', h1, h2, h3, h4, h5⟩ => ?_
  have hsub : ∀ b ∈ (L.more fb).blocks dp, b ∈ L.blocks dp ∨ w.heap.size ≤ b := fun b hb => by
    rw [more_blocks] at hb
    rw [blocks_three]
    simp only [List.mem_append, List.append_nil, List.mem_singleton] at hb ⊢
    rcases hb with (hb | hb) | hb
    · exact .inl (.inl hb)
    · exact .inr (hb ▸ hfb)
    · exact .inl (.inr hb)
  have hFr : Fr (L.blocks dp) w w' := (Fr.of hB).trans h2 hsub
  have hnew : ∀ b ∈ L'.blocks dp, b ∈ L.blocks dp ∨ w.heap.size ≤ b := fun b hb => by
    rcases h3 b hb with h6 | h6
    · exact hsub b h6
    · exact .inr (Nat.le_trans hB.size h6)
  unfold goes at he h1 ⊢
  by_cases c1 : 1048576 ≤ S.ops
  · rw [if_pos c1]
    rw [if_pos (show 1048576 ≤ (more S).ops from c1)] at he h1
    have hk : Rep w' dp S { L' with bs := L.bs, rv := L.rv } nx := rep_drop (fb := fb) (L := { L' with bs := L.bs, rv := L.rv }) (by
      have e : ({ L' with bs := L.bs, rv := L.rv } : Lay).more fb = L' := by unfold Lay.more; rw [show L.bs ++ [fb] = L'.bs from h4.symm, show L.rv ++ [nilS] = L'.rv from h5.symm]
      rw [e]; exact h1) hO.near hW.blen hW.rlen
    refine ⟨he, _, hk, hFr, fun b hb => hnew b ?_⟩
    rw [Lay.mem] at hb ⊢
    rw [h4, h5]
    simp only [Lay.more, List.mem_append, List.flatMap_append] at hb ⊢
    rcases hb with hb | hb | hb | hb | hb | hb
    · exact .inl hb
    · exact .inr (.inl hb)
    · exact .inr (.inr (.inl hb))
    · exact .inr (.inr (.inr (.inl hb)))
    · exact .inr (.inr (.inr (.inr (.inl (.inl hb)))))
    · exact .inr (.inr (.inr (.inr (.inr (.inl hb)))))
  · rw [if_neg c1]
    rw [if_neg (show ¬ 1048576 ≤ (more S).ops from c1)] at he h1
    by_cases c2 : S.armed = 1
    · rw [if_pos c2]
      rw [if_pos (show (more S).armed = 1 from c2)] at he h1
      have hk : Rep w' dp { S with armed := 0, dead := true } { L' with bs := L.bs, rv := L.rv } nx := rep_drop (fb := fb) (S := { S with armed := 0, dead := true }) (L := { L' with bs := L.bs, rv := L.rv }) (by
        have e : ({ L' with bs := L.bs, rv := L.rv } : Lay).more fb = L' := by unfold Lay.more; rw [show L.bs ++ [fb] = L'.bs from h4.symm, show L.rv ++ [nilS] = L'.rv from h5.symm]
        rw [e]; exact h1) ⟨hO.near.dir, hO.near.safe, hO.near.chg⟩ hW.blen hW.rlen
      refine ⟨he, _, hk, hFr, fun b hb => hnew b ?_⟩
      rw [Lay.mem] at hb ⊢
      rw [h4, h5]
      simp only [Lay.more, List.mem_append, List.flatMap_append] at hb ⊢
      rcases hb with hb | hb | hb | hb | hb | hb
      · exact .inl hb
      · exact .inr (.inl hb)
      · exact .inr (.inr (.inl hb))
      · exact .inr (.inr (.inr (.inl hb)))
      · exact .inr (.inr (.inr (.inr (.inl (.inl hb)))))
      · exact .inr (.inr (.inr (.inr (.inr (.inl hb)))))
    · rw [if_neg c2]
      rw [if_neg (show ¬ (more S).armed = 1 from c2)] at he h1
      exact ⟨he, L', h1, hFr, hnew⟩
end Go.Proofs.Yticbfcognnofbaa
