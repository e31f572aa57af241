/- A disk under way in New. -/
import Derived.Test.YticbfcognnofbaaDNew1
namespace Go.Proofs.Yticbfcognnofbaa
open Go.RowKit Go.Maps

/-- A list of files that may be read. -/
structure FSee (w : World) (ao : Option Addr) (fs : List Fi) : Prop where
  cell : ∀ (i : Nat) x, fs[i]? = some x → ∃ b off bao c, ao = some ⟨b, off, none⟩ ∧ w.cell? ⟨b, off + i * 2, none⟩ = some (.string (str x.1)) ∧ w.cell? ⟨b, off + i * 2 + 1, none⟩ = some (.slice bao x.2.length c) ∧ Row w bao x.2
theorem FSee.keep {w w' : World} {ao : Option Addr} {fs : List Fi} (h : FSee w ao fs) (hb : Below w.heap.size w w') : FSee w' ao fs := ⟨fun i x hx => by
  obtain ⟨b, off, bao, c, h1, h2, h3, h4⟩ := h.cell i x hx
  exact ⟨b, off, bao, c, h1, cell_kept h2 hb, cell_kept h3 hb, h4.keep hb⟩⟩
theorem FOwn.see {w : World} {B : Nat} {ao : Option Addr} {n cap : Nat} {l : List Fi} {us : List Value} (h : FOwn w B (.slice ao n cap) l us) : FSee w ao l := ⟨fun i x hx => by
  have hi : i < l.length := by
    rcases Nat.lt_or_ge i l.length with h1 | h1
    · exact h1
    · rw [List.getElem?_eq_none h1] at hx; cases hx
  obtain ⟨u, hu⟩ : ∃ u, us[i]? = some u := ⟨_, List.getElem?_eq_getElem (by rw [h.len]; exact hi)⟩
  obtain ⟨c1, c2⟩ := fcells_get i hx hu
  rcases h.row.2 with ⟨_, e⟩ | ⟨g, cap', cur, e, _⟩
  · omega
  · injection e with e _ _
    subst e
    obtain ⟨bao, c, hv, _, hr⟩ := (h.own i u x hu hx).read
    have hc := World.ownsRow.cells h.row (g := g) rfl
    have k1 := hc _ _ c1
    have k2 := hc _ _ c2
    rw [add_none, Nat.zero_add] at k1 k2
    exact ⟨g, 0, bao, c, rfl, by rw [Nat.zero_add]; exact k1, by rw [Nat.zero_add, ← hv]; exact k2, hr⟩⟩
structure Beg (w : World) (nb : Nat) (bs : List Nat) (rv : List Value) (fs : List Fi) (k : Nat) : Prop where
  nod : (bs ++ rv.flatMap vb).Nodup
  rng : ∀ b ∈ bs ++ rv.flatMap vb, nb < b ∧ b < w.heap.size
  names : DirAt w nb bs (dirAt fs k)
  blen : bs.length = k
  rlen : rv.length = k
  file : ∀ (i : Nat) b v, bs[i]? = some b → rv[i]? = some v → Bl w b (fileCells i v ⟨(fs.getD i ([], [])).2, (fs.getD i ([], [])).2.length⟩) 96 ∧ Own w 0 v (fs.getD i ([], [])).2
theorem beg_nil {w : World} {nb : Nat} {fs : List Fi} (h : DirAt w nb [] []) : Beg w nb [] [] fs 0 := ⟨List.nodup_nil, fun b (hb : b ∈ []) => (List.not_mem_nil hb).elim, h, rfl, rfl, fun i b v h1 _ => by simp at h1⟩
theorem beg_step {wr wb wd : World} {nb k : Nat} {bs : List Nat} {rv : List Value} {fs : List Fi} {v : Value} (h : Beg wr nb bs rv fs k) (hB : Below wr.heap.size wr wb) (hv : Own wb 0 v (fs.getD k ([], [])).2) (hg : ∀ g, v.ownBlock = some g → wr.heap.size ≤ g)
    (hd : DirAt wd nb (bs ++ [wb.heap.size]) (dput (fs.getD k ([], [])).1 k (dirAt fs k))) (hf : Fr [nb] (wb.alloc (.cells (fileCells k v ⟨(fs.getD k ([], [])).2, (fs.getD k ([], [])).2.length⟩).toArray 96)) wd) :
    Beg wd nb (bs ++ [wb.heap.size]) (rv ++ [v]) fs (k + 1) := by
  obtain ⟨wc, hwc⟩ : ∃ wc, wc = wb.alloc (.cells (fileCells k v ⟨(fs.getD k ([], [])).2, (fs.getD k ([], [])).2.length⟩).toArray 96) := ⟨_, rfl⟩
  have hbl : Bl wc wb.heap.size (fileCells k v ⟨(fs.getD k ([], [])).2, (fs.getD k ([], [])).2.length⟩) 96 := by rw [hwc]; exact Bl.new wb _ _
  have hbc : Below wb.heap.size wb wc := by rw [hwc]; exact below_new wb _
  have hsc : wc.heap.size = wb.heap.size + 1 := by rw [hwc]; simp
  rw [← hwc] at hf
  have hnb := h.names.lt
  have hs1 := hB.size
  have hs2 := hf.size
  have hvl : ∀ g, v.ownBlock = some g → wr.heap.size ≤ g ∧ g < wb.heap.size := fun g hgv => ⟨hg g hgv, (World.ownsRow.lt hv g hgv).2⟩
  have same : ∀ b, b < wc.heap.size → b ≠ nb → wd.heap[b]? = wc.heap[b]? := fun b hlt hne => hf.block b hlt (by simpa using hne)
  have old : ∀ b, b < wr.heap.size → b ≠ nb → wd.heap[b]? = wr.heap[b]? := fun b hlt hne => by rw [same b (by omega) hne, hbc.block b (by omega), hB.block b hlt]
  refine ⟨?_, fun b hb => ?_, hd, by simp [h.blen], by simp [h.rlen], fun i b u h1 h2 => ?_⟩
  · have h0 := h.nod
    have h1 := h.rng
    have e : (rv ++ [v]).flatMap vb = rv.flatMap vb ++ vb v := by simp
    rw [e]
    have hx : (bs ++ [wb.heap.size] ++ rv.flatMap vb).Nodup := nodup_swap (A := []) (by simpa using h0) (fun hm => by
      have := h1 wb.heap.size (by simpa using hm)
      omega)
    rw [← List.append_assoc, List.nodup_append]
    refine ⟨hx, ?_, fun a ha c hc e2 => ?_⟩
    · unfold vb
      cases v.ownBlock with
      | none => simp
      | some g => simp
    · have hc2 := hvl c (mem_vb.1 hc)
      subst e2
      rcases List.mem_append.1 ha with ha | ha
      · rcases List.mem_append.1 ha with ha | ha
        · have := (h1 a (by simp [ha])).2; omega
        · rw [List.mem_singleton.1 ha] at hc2; omega
      · have := (h1 a (List.mem_append.2 (.inr ha))).2; omega
  · have e : (rv ++ [v]).flatMap vb = rv.flatMap vb ++ vb v := by simp
    rw [e] at hb
    simp only [List.mem_append, List.mem_singleton] at hb
    rcases hb with (hb | hb) | hb | hb
    · have := h.rng b (List.mem_append.2 (.inl hb)); omega
    · subst hb; omega
    · have := h.rng b (List.mem_append.2 (.inr hb)); omega
    · have := hvl b (mem_vb.1 hb); omega
  · by_cases hi : i < k
    · rw [List.getElem?_append_left (by rw [h.blen]; exact hi)] at h1
      rw [List.getElem?_append_left (by rw [h.rlen]; exact hi)] at h2
      have hF := h.file i b u h1 h2
      have hb := h.rng b (List.mem_append.2 (.inl (List.mem_of_getElem? h1)))
      refine ⟨(old b hb.2 (by omega)).trans hF.1, owns_same hF.2 fun g hgv => ?_⟩
      have hgr := h.rng g (List.mem_append.2 (.inr (List.mem_flatMap.2 ⟨u, List.mem_of_getElem? h2, mem_vb.2 hgv⟩)))
      exact old g hgr.2 (by omega)
    · have hik : i = k := by
        rcases Nat.lt_or_ge i (bs ++ [wb.heap.size]).length with h3 | h3
        · simp [h.blen] at h3; omega
        · rw [List.getElem?_eq_none h3] at h1; cases h1
      subst hik
      have e1 : (bs ++ [wb.heap.size])[i]? = some wb.heap.size := by rw [← h.blen, List.getElem?_concat_length]
      have e2 : (rv ++ [v])[i]? = some v := by rw [← h.rlen, List.getElem?_concat_length]
      rw [e1] at h1
      rw [e2] at h2
      injection h1 with h1
      injection h2 with h2
      subst h1; subst h2
      refine ⟨(same _ (by omega) (by omega)).trans hbl, owns_same hv fun g hgv => ?_⟩
      have := hvl g hgv
      rw [same g (by omega) (by omega), hbc.block g (by omega)]
theorem run_dir_put {w : World} {bn : Nat} {bs : List Nat} {d : Dir} {nm : Nm} {i b : Nat} (h : DirAt w bn bs d) (hb : bs[i]? = some b) (hl : nm.length ≤ maxLen) (hd : d.length < maxLen) :
    ∃ w', (Instr.mapUpdate 84 (.map (some bn)) (.string (str nm)) (.pointer (some ⟨b, 0, none⟩))).run Try.prog w = .ok () w' ∧ DirAt w' bn bs (dput nm i d) ∧ Fr [bn] w w' := by
  obtain ⟨w', hrun, r1, r2⟩ := World.ownsMap.update (t := 84) (e := 89) h law Try.underlying84 hd (key_str hl) (rp_pf b)
  rw [dd_put bs nm i b d hb] at r1
  exact ⟨w', hrun, own_exact r1, Fr.grown r2 (fun j e => by cases e; simp)⟩
theorem rep_begins {w wd : World} {nb sf dp room : Nat} {bs : List Nat} {rv : List Value} {fs : List Fi} (h : Beg w nb bs rv fs fs.length) (hB : Below w.heap.size w wd) (hsf : w.heap.size ≤ sf) (hsl : sf < dp) (hd : DirAt wd sf bs (dirAt fs fs.length)) (hb : Bl wd dp [.map (some nb), .map (some sf), .slice none 0 0, .int .i64 (room : Int), .int .i64 (fs.length : Int), .int .i64 0, .int .i64 0, .bool false] 87) :
    Rep wd dp (born fs room) ⟨nb, sf, nilS, bs, rv⟩ fs.length := by
  have hnb := h.names.lt
  have hs := hB.size
  have hdl := hb.lt
  have e : vb nilS = [] := rfl
  refine ⟨?_, fun b hm => ?_, hb, h.names.same (hB.block nb hnb), hd, World.ownsRow_nil _ _ _ _, by rw [h.blen]; simp [born], by rw [h.rlen]; simp [born], fun i b v h1 h2 => ?_⟩
  · unfold Lay.blocks
    simp only [e, List.nil_append]
    have hr := h.rng
    refine List.nodup_cons.2 ⟨fun hm => ?_, List.nodup_cons.2 ⟨fun hm => ?_, List.nodup_cons.2 ⟨fun hm => ?_, h.nod⟩⟩⟩
    · simp only [List.mem_cons] at hm
      rcases hm with hm | hm | hm
      · omega
      · omega
      · have := hr dp hm; omega
    · simp only [List.mem_cons] at hm
      rcases hm with hm | hm
      · omega
      · have := hr nb hm; omega
    · have := hr sf hm; omega
  · rw [Lay.mem] at hm
    simp only [e, List.not_mem_nil, false_or] at hm
    rcases hm with rfl | rfl | rfl | hm | hm
    · exact hdl
    · omega
    · omega
    · have := h.rng b (List.mem_append.2 (.inl hm)); omega
    · have := h.rng b (List.mem_append.2 (.inr hm)); omega
  · have h1' : bs[i]? = some b := h1
    have h2' : rv[i]? = some v := h2
    have hi : i < fs.length := by
      rcases Nat.lt_or_ge i bs.length with h3 | h3
      · rw [h.blen] at h3; exact h3
      · rw [List.getElem?_eq_none h3] at h1'; cases h1'
    have hF := h.file i b v h1' h2'
    show Bl wd b (fileCells i v (flAt (fs.map _) i)) 96 ∧ Own wd 0 v (flAt (fs.map _) i).bys
    rw [born_at hi]
    exact ⟨hF.1.keep hB, hF.2.keep hB⟩
end Go.Proofs.Yticbfcognnofbaa
