/- The contract of ours: files as the document's answer has them. -/
import Derived.Test.YticbfcognnofbaaDCopied
import Derived.Test.YticbfcognnofbaaDRows
namespace Go.Proofs.Yticbfcognnofbaa
open Go.RowKit Go.Maps

/-- A list of files that the call has made from block B on. -/
structure ROwn (w : World) (B : Nat) (v : Value) (l : List (Nm × List Nat)) (us : List Value) : Prop where
  len : us.length = l.length
  row : w.ownsRow B 104 2 v l.length (fcells l us)
  own : ∀ (i : Nat) u x, us[i]? = some u → l[i]? = some x → Own w 0 u x.2
  new : ∀ (i : Nat) u g, us[i]? = some u → u.ownBlock = some g → B ≤ g ∧ v.ownBlock ≠ some g
theorem rown_nil (w : World) (B : Nat) : ROwn w B (.slice none 0 0) [] [] := ⟨rfl, World.ownsRow_nil _ _ _ _, fun i u x h _ => by simp at h, fun i u g h _ => by simp at h⟩
theorem infoR : (Try.prog.info? 104).map (fun i => (i.zero, i.size, i.bytes)) = some (some (.agg #[.string ⟨#[]⟩, .slice none 0 0]), 2, 40) := by kernel_rfl
/-- append of one file, as a step of a region that draws. -/
theorem law_appR {w : World} {ops : Array Oper} {o : Oper} {a : Act} {K : Act → World → Prop} {Q : Exit → Act → World → Prop} {E : Prop} (hgd : o.guard = none) (s x : Operand)
    (ho : o.op = .call { callee := .builtin .append, args := #[s, x], argTypes := #[65, 65] }) (B : Nat) (v : Value) (n : Nat) (xs cs : List Value) (hs : a.eval s = v) (hown : w.ownsRow B 104 2 v n xs)
    (b : Nat) (hx : a.eval x = .slice (some ⟨b, 0, none⟩) 1 1) (hy : Bl w b cs 104) (hcl : cs.length = 2) (hc1 : ∀ u ∈ cs, u.oneCell' = true) (hsz : (n + 1) * 40 ≤ 140737488355328) (hB : B ≤ w.heap.size)
    (h : ∀ ao cap w', w'.ownsRow B 104 2 (.slice ao (n + 1) cap) (n + 1) (xs ++ cs) → w.grownBy w' v.ownBlock → (Value.ownBlock (.slice ao (n + 1) cap) = v.ownBlock ∨ Value.ownBlock (.slice ao (n + 1) cap) = some w.heap.size) → K (a.put o.dst (.slice ao (n + 1) cap)) w') : if Region.wanted o (yielded ops a.tmps) = true then Oper.wp Try.prog o a w K Q else E := by
  obtain ⟨i0, hi, hz0, hz1, hz2⟩ := info_parts infoR
  rw [if_pos (by simp [Region.wanted, hgd])]
  obtain ⟨v', w', hrun, h1, h2, h3, h4⟩ := run_append_own_at (P := Try.prog) w B 65 o.type 104 i0 _ 2 40 Try.underlying65 hi hz0 hz1 hz2 rfl (by decide) v n xs hown ⟨b, 0, none⟩ 1 1 cs (by rw [hcl]) (fun j u hu => by rw [add_none, Nat.zero_add, hy.cell]; exact hu) hc1 (by unfold maxLen; omega) (by omega) hB
  unfold Oper.wp
  simp [execOp, ho, resolve, invoke, builtin, hs, hx, hrun, Result.andThen]
  obtain ⟨ao, cap, rfl⟩ := ownsRow_slice h1
  exact h ao cap w' h1 h2 h4
/-- One file more. -/
theorem rown_step {wr W w' : World} {B : Nat} {v u : Value} {l : List (Nm × List Nat)} {us : List Value} {x : Nm × List Nat} {o : Obj} {ao : Option Addr} {cap : Nat} (h : ROwn wr B v l us) (hB : B ≤ wr.heap.size) (hb : Below wr.heap.size wr W) (hu : Own W 0 u x.2) (hn : ∀ g, u.ownBlock = some g → wr.heap.size ≤ g)
    (hrow : w'.ownsRow B 104 2 (.slice ao (l.length + 1) cap) (l.length + 1) (fcells l us ++ [.string (str x.1), u])) (hg : (W.alloc o).grownBy w' v.ownBlock) (hl : Value.ownBlock (.slice ao (l.length + 1) cap) = v.ownBlock ∨ Value.ownBlock (.slice ao (l.length + 1) cap) = some (W.alloc o).heap.size) :
    ROwn w' B (.slice ao (l.length + 1) cap) (l ++ [x]) (us ++ [u]) ∧ Below B wr w' := by
  have hz : (W.alloc o).heap.size = W.heap.size + 1 := by simp
  have hvb : ∀ g, v.ownBlock = some g → B ≤ g ∧ g < wr.heap.size := fun g hgv => World.ownsRow.lt h.row g hgv
  have hbs := hb.size
  have same : ∀ b, b < W.heap.size → v.ownBlock ≠ some b → w'.heap[b]? = W.heap[b]? := fun b hlt hne => by
    rw [hg.block b (by omega) (fun e => hne e.symm), Below.heap_alloc W o b hlt]
  refine ⟨⟨by simp [h.len], ?_, fun i c y h1 h2 => ?_, fun i c g h1 h2 => ?_⟩, hg.os.trans hb.os, hg.tape.trans hb.tape, hg.output.trans hb.output, ?_, fun k hk => ?_⟩
  · rw [fcells_snoc h.len, List.length_append]; exact hrow
  · by_cases hi : i < l.length
    · rw [List.getElem?_append_left (by rw [h.len]; exact hi)] at h1
      rw [List.getElem?_append_left hi] at h2
      refine owns_same (h.own i c y h1 h2) fun g hgv => ?_
      have hlt := (World.ownsRow.lt (h.own i c y h1 h2) g hgv).2
      have hne := (h.new i c g h1 hgv).2
      rw [same g (by omega) hne, hb.block g hlt]
    · have hil : i = l.length := by
        rcases Nat.lt_or_ge i (l ++ [x]).length with h3 | h3
        · simp at h3; omega
        · rw [List.getElem?_eq_none h3] at h2; cases h2
      subst hil
      rw [← h.len, List.getElem?_concat_length] at h1
      rw [List.getElem?_concat_length] at h2
      injection h1 with h1
      injection h2 with h2
      subst h1; subst h2
      refine owns_same hu fun g hgv => same g (World.ownsRow.lt hu g hgv).2 (fun e => ?_)
      have := hn g hgv
      have := (hvb g e).2
      omega
  · by_cases hi : i < l.length
    · rw [List.getElem?_append_left (by rw [h.len]; exact hi)] at h1
      obtain ⟨y, hy⟩ : ∃ y, l[i]? = some y := ⟨_, List.getElem?_eq_getElem hi⟩
      have hlt := (World.ownsRow.lt (h.own i c y h1 hy) g h2).2
      have hne := h.new i c g h1 h2
      refine ⟨hne.1, ?_⟩
      rcases hl with e | e
      · rw [e]; exact hne.2
      · rw [e]; intro e2; injection e2 with e2; omega
    · have hil : i = us.length := by
        rcases Nat.lt_or_ge i (us ++ [u]).length with h3 | h3
        · simp at h3; have := h.len; omega
        · rw [List.getElem?_eq_none h3] at h1; cases h1
      subst hil
      rw [List.getElem?_concat_length] at h1
      injection h1 with h1
      subst h1
      have hgu := hn g h2
      have hlu := (World.ownsRow.lt hu g h2).2
      refine ⟨by omega, ?_⟩
      rcases hl with e | e
      · rw [e]; intro e2; have := (hvb g e2).2; omega
      · rw [e]; intro e2; injection e2 with e2; omega
  · have := hg.size; omega
  · rw [same k (by omega) (fun e => by have := (hvb k e).1; omega), hb.block k (by omega)]
theorem ROwn.keep {w w' : World} {B : Nat} {v : Value} {l : List (Nm × List Nat)} {us : List Value} (h : ROwn w B v l us) (hb : Below w.heap.size w w') : ROwn w' B v l us :=
  ⟨h.len, owns_same h.row fun g hg => hb.block g (World.ownsRow.lt h.row g hg).2, fun i u x h1 h2 => (h.own i u x h1 h2).keep hb, h.new⟩
theorem ROwn.see {w : World} {B : Nat} {ao : Option Addr} {n cap : Nat} {l : List Fi} {us : List Value} (h : ROwn w B (.slice ao n cap) l us) : FSee w ao l := ⟨fun i x hx => by
  have hi : i < l.length := by
    rcases Nat.lt_or_ge i l.length with h1 | h1
    · exact h1
    · rw [List.getElem?_eq_none h1] at hx; cases hx
  obtain ⟨u, hu⟩ : ∃ u, us[i]? = some u := ⟨_, List.getElem?_eq_getElem (by rw [h.len]; exact hi)⟩
  obtain ⟨c1, c2⟩ := fcells_get i hx hu
  rcases h.row.2 with ⟨_, e⟩ | ⟨g, cap', cur, e, _⟩
  · omega
  · injection e with e _ _
    subst e
    obtain ⟨bao, c, hv, _, hr⟩ := (h.own i u x hu hx).read
    have hc := World.ownsRow.cells h.row (g := g) rfl
    have k1 := hc _ _ c1
    have k2 := hc _ _ c2
    rw [add_none, Nat.zero_add] at k1 k2
    exact ⟨g, 0, bao, c, rfl, by rw [Nat.zero_add]; exact k1, by rw [Nat.zero_add, ← hv]; exact k2, hr⟩⟩
set_option maxHeartbeats 4000000 in
set_option maxRecDepth 100000 in
theorem ours_any (ao : Option Addr) (n c : Nat) (fs : List Fi) (w : World) (hs : FSee w ao fs) (hn : n = fs.length) (hnl : n * 40 ≤ 140737488351232) (hl : ∀ f ∈ fs, f.2.length ≤ 140737488355328) :
    Calls Try.prog 33 #[.slice ao n c] w fun e w' => ∃ vao m cap, e = .returned (.slice vao m cap) ∧ (∃ us, ROwn w' w.heap.size (.slice vao m cap) fs us) ∧ Below w.heap.size w w' := by
  have HS := hide hs
  have HN := hide hn
  have HNL := hide hnl
  have HL := hide hl
  obtain ⟨B, hB⟩ : ∃ B, B = w.heap.size := ⟨_, rfl⟩
  rw [← hB]
  have HB := hide hB
  clear hs hn hnl hl hB
  go_enter Try.func33, Try.ntmps33
  go_wp2_with fail
  go_loopw [3, 4] (fun v i wr => ∃ (q : Nat) (us : List Value), q ≤ n ∧ i = .int .i64 (q : Int) ∧ Hid (ROwn wr B v (fs.take q) us) ∧ Hid (Below B w wr)) (fun _ i _ => n - (intOf i).toNat)
  case atStart => exact ⟨0, [], Nat.zero_le _, rfl, by rw [List.take_zero]; exact rown_nil _ _, Below.refl _ _⟩
  case round =>
    obtain ⟨q, us, hq, rfl, HFO, HBF⟩ := hrel
    have hltk : (fs.take q).length = q := by rw [List.length_take]; have := HN.out; omega
    obtain ⟨vao, vcap, hv⟩ := ownsRow_slice HFO.out.row
    rw [hltk] at hv
    subst hv
    have HS5 : Hid (B ≤ wr.heap.size) := by have := HBF.out.size; have := HB.out; show _ ≤ _; omega
    by_cases hqn : q < n
    · obtain ⟨x, hx⟩ : ∃ x, fs[q]? = some x := ⟨_, List.getElem?_eq_getElem (by rw [← HN.out]; exact hqn)⟩
      obtain ⟨ab, aoff, bao, bc, rfl, x1, x2, x3⟩ := HS.out.cell q x hx
      have hbw : Below w.heap.size w wr := by rw [← HB.out]; exact HBF.out
      have y1 := cell_kept x1 hbw
      have y2 := cell_kept x2 hbw
      have HY3 := hide (x3.keep hbw)
      have hxl := HL.out x (List.mem_of_getElem? hx)
      have HSTEP : Hid (∀ (W w' : World) (uao : Option Addr) (un ucap : Nat) (ao9 : Option Addr) (cap9 : Nat) (o : Obj), Below wr.heap.size wr W → Own W 0 (.slice uao un ucap) x.2 → (∀ g, (Value.slice uao un ucap).ownBlock = some g → wr.heap.size ≤ g) → w'.ownsRow B 104 2 (.slice ao9 (q + 1) cap9) (q + 1) (fcells (fs.take q) us ++ [.string (str x.1), .slice uao un ucap]) → (W.alloc o).grownBy w' (Value.slice vao q vcap).ownBlock → (Value.ownBlock (.slice ao9 (q + 1) cap9) = (Value.slice vao q vcap).ownBlock ∨ Value.ownBlock (.slice ao9 (q + 1) cap9) = some (W.alloc o).heap.size) → ROwn w' B (.slice ao9 (q + 1) cap9) (fs.take (q + 1)) (us ++ [.slice uao un ucap]) ∧ Below B w w') := fun W w' uao un ucap ao9 cap9 o g1 g2 g3 g4 g5 g6 => by
        have := rown_step (x := x) HFO.out HS5.out g1 g2 g3 (by rw [hltk]; exact g4) g5 (by rw [hltk]; exact g6)
        rw [hltk] at this
        rw [List.take_add_one, hx]
        exact ⟨this.1, HBF.out.trans this.2⟩
      have HROW := hide HFO.out.row
      rw [hltk] at HROW
      obtain ⟨nm, xs⟩ := x
      simp only at y1 y2 HY3 hxl HSTEP
      obtain ⟨bl, hbl⟩ : ∃ bl, bl = xs.length := ⟨_, rfl⟩
      have HBL := hide hbl
      rw [← hbl] at y2
      have HXL := hide hxl
      have HE := hide (own_new wr 0 [] (Nat.zero_le _) (Nat.zero_le _))
      have HYE := hide (HY3.out.keep (below_new wr (.cells #[] 5)))
      have z1 := cell_kept y1 (below_new wr (.cells #[] 5))
      have z2 := cell_kept y2 (below_new wr (.cells #[] 5))
      have hqi : (q : Int) < (n : Int) := by omega
      have hqb : (q : Int) + 1 ≤ 4611686018427387904 := by have := HNL.out; omega
      have hq40 : (q + 1) * 40 ≤ 140737488355328 := by have := HNL.out; omega
      generalize str nm = s at *
      clear hx x1 x2 x3 hbw hbl hxl hltk HFO HY3
      go_wp2_with fail
      go_region_law (first
        | (refine law_appB rfl (.tmp 17) (.tmp 22) rfl (.slice (some ⟨wr.heap.size, 0, none⟩) 0 0) [] rfl HE.out bao bl bc xs HBL.out rfl HYE.out (by have := HXL.out; simpa using this) ?_; intro uao un ucap w2 h2 g2 l2; have HOU := hide (show Own w2 0 (.slice uao un ucap) xs from h2); have han := app_new (grown_undrew g2) l2; have HCUR := hide han.1; have HNG := hide han.2; have zz1 := cell_kept y1 han.1; clear h2 g2 l2 han)
        | (refine law_appR rfl (.tmp 11) (.tmp 25) rfl B (.slice vao q vcap) q (fcells (fs.take q) us) [.string s, .slice uao un ucap] rfl (World.ownsRow.alloc (owns_same HROW.out fun g hg => HCUR.out.block g (World.ownsRow.lt HROW.out g hg).2) _) _ rfl (Bl.new _ _ _) rfl (by intro x hx; simp only [List.mem_cons, List.not_mem_nil, or_false] at hx; rcases hx with rfl | rfl <;> rfl) hq40 (by have := HCUR.out.size; have := HS5.out; simp; omega) ?_; intro ao9 cap9 w9 hn9 hg9 ho9; have HFI := hide (HSTEP.out _ w9 uao un ucap ao9 cap9 _ HCUR.out HOU.out HNG.out hn9 hg9 ho9); clear hn9 hg9 ho9))
      all_goals
        clear HSTEP HROW HOU HNG HCUR HE HYE y1 y2 z1 z2 zz1
        go_wp2_with fail
        go_roundw
        case rel => exact ⟨q + 1, us ++ [.slice uao un ucap], by omega, by simp, hide HFI.out.1, hide HFI.out.2⟩
        case measure => simp [intOf]; omega
    · have hqi : ¬ (q : Int) < (n : Int) := by omega
      have hte : fs.take q = fs := List.take_of_length_le (by have := HN.out; omega)
      rw [hte] at HFO
      clear hte hltk
      go_wp2_with fail
      go_ret
      exact ⟨_, _, _, rfl, ⟨us, HFO.out⟩, by rw [HB.out] at HBF ⊢; exact HBF.out⟩
end Go.Proofs.Yticbfcognnofbaa
