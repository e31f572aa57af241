/- copied: files in memory of their own, each in a block of its own; spoil writes over what was handed out, and nothing else. -/
import Derived.Test.YticbfcognnofbaaDCopied
import Derived.Test.YticbfcognnofbaaDRows
import Derived.Test.YticbfcognnofbaaGBoth
import Derived.Test.YticbfcognnofbaaGOpen
import Derived.Test.YticbfcognnofbaaEOp9
import Derived.Test.YticbfcognnofbaaDCrash
namespace Go.Proofs.Yticbfcognnofbaa
open Go.RowKit Go.Maps

/-- No two of these rows share a block. -/
def FOne (us : List Value) : Prop := ∀ (i j : Nat) u u' g, us[i]? = some u → us[j]? = some u' → u.ownBlock = some g → u'.ownBlock = some g → i = j
theorem fone_nil : FOne [] := fun i j u u' g h1 _ _ _ => by simp at h1
theorem fone_step {wr : World} {B : Nat} {v u : Value} {l : List Fi} {us : List Value} (h : FOwn wr B v l us) (ho : FOne us) (hn : ∀ g, u.ownBlock = some g → wr.heap.size ≤ g) : FOne (us ++ [u]) := by
  have old : ∀ (i : Nat) c g, us[i]? = some c → c.ownBlock = some g → g < wr.heap.size := fun i c g h1 h2 => by
    have hi : i < us.length := by
      rcases Nat.lt_or_ge i us.length with h3 | h3
      · exact h3
      · rw [List.getElem?_eq_none h3] at h1; cases h1
    obtain ⟨x, hx⟩ : ∃ x, l[i]? = some x := ⟨_, List.getElem?_eq_getElem (by rw [← h.len]; exact hi)⟩
    exact (World.ownsRow.lt (h.own i c x h1 hx) g h2).2
  have last : ∀ (i : Nat) c, (us ++ [u])[i]? = some c → (us[i]? = some c) ∨ (i = us.length ∧ c = u) := fun i c h1 => by
    by_cases hi : i < us.length
    · rw [List.getElem?_append_left hi] at h1; exact .inl h1
    · have hil : i = us.length := by
        rcases Nat.lt_or_ge i (us ++ [u]).length with h3 | h3
        · simp at h3; omega
        · rw [List.getElem?_eq_none h3] at h1; cases h1
      subst hil
      rw [List.getElem?_concat_length] at h1
      injection h1 with h1
      exact .inr ⟨rfl, h1.symm⟩
  intro i j c c' g h1 h2 h3 h4
  rcases last i c h1 with a | ⟨a1, a2⟩ <;> rcases last j c' h2 with b | ⟨b1, b2⟩
  · exact ho i j c c' g a b h3 h4
  · rw [b2] at h4
    have := old i c g a h3
    have := hn g h4
    omega
  · rw [a2] at h3
    have := old j c' g b h4
    have := hn g h3
    omega
  · omega
set_option maxHeartbeats 4000000 in
set_option maxRecDepth 100000 in
theorem copied_one (ao : Option Addr) (n c : Nat) (fs : List Fi) (w : World) (hs : FSee w ao fs) (hn : n = fs.length) (hnl : n * 40 ≤ 140737488351232) (hl : ∀ f ∈ fs, f.2.length ≤ 140737488355328) :
    Calls Try.prog 31 #[.slice ao n c] w fun e w' => ∃ vao m cap, e = .returned (.slice vao m cap) ∧ (∃ us, FOwn w' w.heap.size (.slice vao m cap) fs us ∧ FOne us) ∧ Below w.heap.size w w' := by
  have HS := hide hs
  have HN := hide hn
  have HNL := hide hnl
  have HL := hide hl
  obtain ⟨B, hB⟩ : ∃ B, B = w.heap.size := ⟨_, rfl⟩
  rw [← hB]
  have HB := hide hB
  clear hs hn hnl hl hB
  go_enter Try.func31, Try.ntmps31
  go_wp2_with fail
  go_loopw [3, 4] (fun v i wr => ∃ (q : Nat) (us : List Value), q ≤ n ∧ i = .int .i64 (q : Int) ∧ Hid (FOwn wr B v (fs.take q) us) ∧ Hid (FOne us) ∧ Hid (Below B w wr)) (fun _ i _ => n - (intOf i).toNat)
  case atStart => exact ⟨0, [], Nat.zero_le _, rfl, by rw [List.take_zero]; exact fown_nil _ _, fone_nil, Below.refl _ _⟩
  case round =>
    obtain ⟨q, us, hq, rfl, HFO, HON, HBF⟩ := hrel
    have hltk : (fs.take q).length = q := by rw [List.length_take]; have := HN.out; omega
    obtain ⟨vao, vcap, hv⟩ := ownsRow_slice HFO.out.row
    rw [hltk] at hv
    subst hv
    have HS5 : Hid (B ≤ wr.heap.size) := by have := HBF.out.size; have := HB.out; show _ ≤ _; omega
    by_cases hqn : q < n
    · obtain ⟨x, hx⟩ : ∃ x, fs[q]? = some x := ⟨_, List.getElem?_eq_getElem (by rw [← HN.out]; exact hqn)⟩
      obtain ⟨ab, aoff, bao, bc, rfl, x1, x2, x3⟩ := HS.out.cell q x hx
      have hbw : Below w.heap.size w wr := by rw [← HB.out]; exact HBF.out
      have y1 := cell_kept x1 hbw
      have y2 := cell_kept x2 hbw
      have HY3 := hide (x3.keep hbw)
      have hxl := HL.out x (List.mem_of_getElem? hx)
      have HSTEP : Hid (∀ (W w' : World) (uao : Option Addr) (un ucap : Nat) (ao9 : Option Addr) (cap9 : Nat) (o : Obj), Below wr.heap.size wr W → Own W 0 (.slice uao un ucap) x.2 → (∀ g, (Value.slice uao un ucap).ownBlock = some g → wr.heap.size ≤ g) → w'.ownsRow B 54 2 (.slice ao9 (q + 1) cap9) (q + 1) (fcells (fs.take q) us ++ [.string (str x.1), .slice uao un ucap]) → (W.alloc o).grownBy w' (Value.slice vao q vcap).ownBlock → (Value.ownBlock (.slice ao9 (q + 1) cap9) = (Value.slice vao q vcap).ownBlock ∨ Value.ownBlock (.slice ao9 (q + 1) cap9) = some (W.alloc o).heap.size) → FOwn w' B (.slice ao9 (q + 1) cap9) (fs.take (q + 1)) (us ++ [.slice uao un ucap]) ∧ Below B w w' ∧ FOne (us ++ [.slice uao un ucap])) := fun W w' uao un ucap ao9 cap9 o g1 g2 g3 g4 g5 g6 => by
        have := fown_step (x := x) HFO.out HS5.out g1 g2 g3 (by rw [hltk]; exact g4) g5 (by rw [hltk]; exact g6)
        rw [hltk] at this
        rw [List.take_add_one, hx]
        exact ⟨this.1, HBF.out.trans this.2, fone_step HFO.out HON.out g3⟩
      have HROW := hide HFO.out.row
      rw [hltk] at HROW
      obtain ⟨nm, xs⟩ := x
      simp only at y1 y2 HY3 hxl HSTEP
      obtain ⟨bl, hbl⟩ : ∃ bl, bl = xs.length := ⟨_, rfl⟩
      have HBL := hide hbl
      rw [← hbl] at y2
      have HXL := hide hxl
      have HE := hide (own_new wr 0 [] (Nat.zero_le _) (Nat.zero_le _))
      have HYE := hide (HY3.out.keep (below_new wr (.cells #[] 5)))
      have z1 := cell_kept y1 (below_new wr (.cells #[] 5))
      have z2 := cell_kept y2 (below_new wr (.cells #[] 5))
      have hqi : (q : Int) < (n : Int) := by omega
      have hqb : (q : Int) + 1 ≤ 4611686018427387904 := by have := HNL.out; omega
      have hq40 : (q + 1) * 40 ≤ 140737488355328 := by have := HNL.out; omega
      generalize str nm = s at *
      clear hx x1 x2 x3 hbw hbl hxl hltk HFO HY3
      go_wp2_with fail
      go_region_law (first
        | (refine law_appB rfl (.tmp 17) (.tmp 22) rfl (.slice (some ⟨wr.heap.size, 0, none⟩) 0 0) [] rfl HE.out bao bl bc xs HBL.out rfl HYE.out (by have := HXL.out; simpa using this) ?_; intro uao un ucap w2 h2 g2 l2; have HOU := hide (show Own w2 0 (.slice uao un ucap) xs from h2); have han := app_new (grown_undrew g2) l2; have HCUR := hide han.1; have HNG := hide han.2; have zz1 := cell_kept y1 han.1; clear h2 g2 l2 han)
        | (refine law_appF rfl (.tmp 11) (.tmp 25) rfl B (.slice vao q vcap) q (fcells (fs.take q) us) [.string s, .slice uao un ucap] rfl (World.ownsRow.alloc (owns_same HROW.out fun g hg => HCUR.out.block g (World.ownsRow.lt HROW.out g hg).2) _) _ rfl (Bl.new _ _ _) rfl (by intro x hx; simp only [List.mem_cons, List.not_mem_nil, or_false] at hx; rcases hx with rfl | rfl <;> rfl) hq40 (by have := HCUR.out.size; have := HS5.out; simp; omega) ?_; intro ao9 cap9 w9 hn9 hg9 ho9; have HFI := hide (HSTEP.out _ w9 uao un ucap ao9 cap9 _ HCUR.out HOU.out HNG.out hn9 hg9 ho9); clear hn9 hg9 ho9))
      all_goals
        clear HSTEP HROW HOU HNG HCUR HE HYE y1 y2 z1 z2 zz1
        go_wp2_with fail
        go_roundw
        case rel => exact ⟨q + 1, us ++ [.slice uao un ucap], by omega, by simp, hide HFI.out.1, hide HFI.out.2.2, hide HFI.out.2.1⟩
        case measure => simp [intOf]; omega
    · have hqi : ¬ (q : Int) < (n : Int) := by omega
      have hte : fs.take q = fs := List.take_of_length_le (by have := HN.out; omega)
      rw [hte] at HFO
      clear hte hltk
      go_wp2_with fail
      go_ret
      exact ⟨_, _, _, rfl, ⟨us, HFO.out, HON.out⟩, by rw [HB.out] at HBF ⊢; exact HBF.out⟩
end Go.Proofs.Yticbfcognnofbaa
/- The contract of spoil. -/
namespace Go.Proofs.Yticbfcognnofbaa
open Go.RowKit Go.Maps

/-- A list of files that is being written over, from place k on. -/
structure SP (w0 w : World) (v : Value) (n : Nat) (us : List Value) (k : Nat) : Prop where
  row : ∃ cs, w.ownsRow 0 54 2 v n cs ∧ ∀ (j : Nat) u, k ≤ j → us[j]? = some u → cs[j * 2 + 1]? = some u ∧ ∃ s, cs[j * 2]? = some (.string s)
  own : ∀ (j : Nat) u, k ≤ j → us[j]? = some u → ∃ xs, Own w 0 u xs ∧ xs.length ≤ 140737488351232
  fr : Fr (vb v ++ us.flatMap vb) w0 w
structure SF (v : Value) (us : List Value) : Prop where
  one : FOne us
  off : ∀ (i : Nat) u g, us[i]? = some u → u.ownBlock = some g → v.ownBlock ≠ some g
theorem us_mem {us : List Value} {v u : Value} {i g : Nat} (h : us[i]? = some u) (hg : u.ownBlock = some g) : g ∈ vb v ++ us.flatMap vb := List.mem_append.2 (.inr (List.mem_flatMap.2 ⟨u, List.mem_of_getElem? h, mem_vb.2 hg⟩))
theorem SP.first {w : World} {B : Nat} {v : Value} {l : List Fi} {us : List Value} (h : FOwn w B v l us) (hl : ∀ f ∈ l, f.2.length ≤ 140737488351232) : SP w w v l.length us 0 := by
  have at' : ∀ (j : Nat) u, us[j]? = some u → ∃ x, l[j]? = some x := fun j u hu => by
    have hj : j < us.length := by
      rcases Nat.lt_or_ge j us.length with h1 | h1
      · exact h1
      · rw [List.getElem?_eq_none h1] at hu; cases hu
    exact ⟨_, List.getElem?_eq_getElem (by rw [← h.len]; exact hj)⟩
  refine ⟨⟨fcells l us, ⟨h.row.1, ?_⟩, fun j u _ hu => ?_⟩, fun j u _ hu => ?_, Fr.refl _ _⟩
  · rcases h.row.2 with e | ⟨g, cap, cur, e, hg, r⟩
    · exact .inl e
    · exact .inr ⟨g, cap, cur, e, Nat.zero_le _, r⟩
  · obtain ⟨x, hx⟩ := at' j u hu
    obtain ⟨c1, c2⟩ := fcells_get j hx hu
    exact ⟨c2, _, c1⟩
  · obtain ⟨x, hx⟩ := at' j u hu
    exact ⟨x.2, h.own j u x hu hx, hl x (List.mem_of_getElem? hx)⟩
/-- A byte of a file's written over. -/
theorem SP.poke {w0 w : World} {v : Value} {n : Nat} {us : List Value} {k i g m cap : Nat} (h : SP w0 w v n us k) (hf : SF v us) (hu : us[i]? = some (.slice (some ⟨g, 0, none⟩) m cap)) (j x : Nat) : SP w0 (w.setCell ⟨g, j, none⟩ (.int .u8 (x : Int))) v n us k := by
  have hug : Value.ownBlock (.slice (some ⟨g, 0, none⟩) m cap) = some g := rfl
  have hvg : v.ownBlock ≠ some g := hf.off i _ g hu hug
  obtain ⟨cs, hr, hc⟩ := h.row
  refine ⟨⟨cs, owns_same hr fun b hb => heap_setCell_other w ⟨g, j, none⟩ b _ (fun e => hvg (by rw [hb]; exact congrArg some e)), hc⟩, fun q u hk hq => ?_, h.fr.trans (Fr.setCell _ w g j _ (us_mem hu hug)) (fun y hy => .inl hy)⟩
  obtain ⟨xs, ho, hl⟩ := h.own q u hk hq
  by_cases hqi : q = i
  · subst hqi
    rw [hu] at hq
    injection hq with hq
    subst hq
    obtain ⟨ao, c, e, _, _⟩ := ho.read
    injection e with e1 e2 e3
    subst e1; subst e2; subst e3
    have := (World.ownsRow.stored ho j (.int .u8 (x : Int))).1
    refine ⟨xs.set j x, ?_, by rw [List.length_set]; exact hl⟩
    unfold Own
    rw [List.length_set, List.map_set]
    exact this
  · exact ⟨xs, owns_same ho fun b hb => heap_setCell_other w ⟨g, j, none⟩ b _ (fun e => hqi (hf.one q i u _ g hq hu (by rw [hb]; exact congrArg some e) hug)), hl⟩
/-- A file's row grown. -/
theorem SP.grow {w0 w w2 w3 : World} {v u b : Value} {n : Nat} {us : List Value} {k : Nat} (h : SP w0 w v n us (k + 1)) (hf : SF v us) (hu : us[k]? = some u) (hb : ∀ g, b.ownBlock = some g → u.ownBlock = some g ∨ w0.heap.size ≤ g ∧ (∀ x, v.ownBlock = some x → x ≠ g) ∧ ∀ (j : Nat) c, us[j]? = some c → c.ownBlock ≠ some g) (h2 : Below w.heap.size w w2) (hg : w2.grownBy w3 b.ownBlock) : SP w0 w3 v n us (k + 1) := by
  have keep : ∀ x, x < w.heap.size → b.ownBlock ≠ some x → w3.heap[x]? = w.heap[x]? := fun x hx hne => by
    rw [hg.block x (by have := h2.size; omega) (fun e => hne e.symm), h2.block x hx]
  obtain ⟨cs, hr, hc⟩ := h.row
  refine ⟨⟨cs, owns_same hr fun x hx => keep x (World.ownsRow.lt hr x hx).2 (fun e => ?_), hc⟩, fun q c hk hq => ?_, ?_⟩
  · rcases hb x e with e1 | e1
    · exact hf.off k u x hu e1 hx
    · exact e1.2.1 x hx rfl
  · obtain ⟨xs, ho, hl⟩ := h.own q c hk hq
    refine ⟨xs, owns_same ho fun x hx => keep x (World.ownsRow.lt ho x hx).2 (fun e => ?_), hl⟩
    rcases hb x e with e1 | e1
    · have := hf.one q k c u x hq hu hx e1
      omega
    · exact e1.2.2 q c hq hx
  · have f3 : Fr (vb b) w w3 := (Fr.of (fp := vb b) h2).trans (Fr.grown (fp := vb b) hg (fun j hj => mem_vb.2 hj)) (fun x hx => .inl hx)
    exact h.fr.trans f3 (fun y hy => (hb y (mem_vb.1 hy)).imp (fun e => us_mem hu e) (fun e => e.1))
theorem SP.cell {w0 w : World} {vao : Option Addr} {n vcap : Nat} {us : List Value} {k j : Nat} {u : Value} (h : SP w0 w (.slice vao n vcap) n us k) (hk : k ≤ j) (hu : us[j]? = some u) : ∃ g, vao = some ⟨g, 0, none⟩ ∧ w.cell? ⟨g, j * 2 + 1, none⟩ = some u ∧ (∃ s, w.cell? ⟨g, j * 2, none⟩ = some (.string s)) ∧ n ≤ vcap ∧ ∀ i, w.frozen? ⟨g, i, none⟩ = false := by
  obtain ⟨cs, hr, hc⟩ := h.row
  obtain ⟨c1, s, c2⟩ := hc j u hk hu
  rcases hr.2 with ⟨e, e2⟩ | ⟨g, cap, cur, e, _, hgg, hle, _⟩
  · have hl := hr.1
    rw [e2] at hl
    have : j * 2 + 1 < cs.length := by
      rcases Nat.lt_or_ge (j * 2 + 1) cs.length with h1 | h1
      · exact h1
      · rw [List.getElem?_eq_none h1] at c1; cases c1
    omega
  · injection e with e1 e2 e3
    subst e1; subst e3
    have hcell := World.ownsRow.cells hr (g := g) rfl
    have k1 := hcell _ _ c1
    have k2 := hcell _ _ c2
    rw [add_none, Nat.zero_add] at k1 k2
    exact ⟨g, rfl, k1, ⟨s, k2⟩, hle, fun i => frozen_of_row w g i _ _ hgg⟩
/-- A file's place in the list written over. -/
theorem SP.next {w0 w : World} {g n vcap : Nat} {us : List Value} {k : Nat} (h : SP w0 w (.slice (some ⟨g, 0, none⟩) n vcap) n us (k + 1)) (hf : SF (.slice (some ⟨g, 0, none⟩) n vcap) us) (a b : Value) : SP w0 ((w.setCell ⟨g, k * 2, none⟩ a).setCell ⟨g, k * 2 + 1, none⟩ b) (.slice (some ⟨g, 0, none⟩) n vcap) n us (k + 1) := by
  obtain ⟨cs, hr, hc⟩ := h.row
  have h1 := (World.ownsRow.stored hr (k * 2) a).1
  have h2 := (World.ownsRow.stored h1 (k * 2 + 1) b).1
  have hvg : Value.ownBlock (.slice (some ⟨g, 0, none⟩) n vcap) = some g := rfl
  have hm : g ∈ vb (.slice (some ⟨g, 0, none⟩) n vcap) ++ us.flatMap vb := List.mem_append.2 (.inl (mem_vb.2 hvg))
  refine ⟨⟨_, h2, fun j u hk hu => ?_⟩, fun j u hk hu => ?_, (h.fr.trans (Fr.setCell _ w g _ _ hm) (fun y hy => .inl hy)).trans (Fr.setCell _ _ g _ _ hm) (fun y hy => .inl hy)⟩
  · obtain ⟨c1, s, c2⟩ := hc j u hk hu
    refine ⟨?_, s, ?_⟩
    · rw [List.getElem?_set_ne (by omega), List.getElem?_set_ne (by omega)]; exact c1
    · rw [List.getElem?_set_ne (by omega), List.getElem?_set_ne (by omega)]; exact c2
  · obtain ⟨xs, ho, hl⟩ := h.own j u hk hu
    have hne : ∀ x, u.ownBlock = some x → x ≠ g := fun x hx e => hf.off j u x hu hx (by rw [e]; exact hvg)
    exact ⟨xs, owns_same ho fun x hx => (heap_setCell_other _ ⟨g, k * 2 + 1, none⟩ x _ (hne x hx)).trans (heap_setCell_other w ⟨g, k * 2, none⟩ x _ (hne x hx)), hl⟩
theorem SP.up {w0 w : World} {v : Value} {n : Nat} {us : List Value} {k : Nat} (h : SP w0 w v n us k) : SP w0 w v n us (k + 1) := by
  obtain ⟨cs, hr, hc⟩ := h.row
  exact ⟨⟨cs, hr, fun j u hk hu => hc j u (by omega) hu⟩, fun j u hk hu => h.own j u (by omega) hu, h.fr⟩
theorem row_byte {w : World} {g m cap : Nat} {xs : List Nat} (h : Own w 0 (.slice (some ⟨g, 0, none⟩) m cap) xs) {q : Nat} (hq : q < m) : (∃ x : Nat, w.cell? ⟨g, q, none⟩ = some (.int .u8 (x : Int))) ∧ w.frozen? ⟨g, q, none⟩ = false ∧ m ≤ cap := by
  obtain ⟨ao, c, e, hle, hr⟩ := h.read
  injection e with e1 e2 e3
  subst e1; subst e2; subst e3
  refine ⟨⟨_, by have := hr.cell q hq; rwa [Nat.zero_add] at this⟩, ?_, hle⟩
  rcases h.2 with ⟨e, _⟩ | ⟨g', cap', cur, e, _, hgg, _⟩
  · cases e
  · injection e with e _ _
    injection e with e
    injection e with e _ _
    subst e
    exact frozen_of_row w g _ _ _ hgg
end Go.Proofs.Yticbfcognnofbaa
/- The walk of spoil. -/
namespace Go.Proofs.Yticbfcognnofbaa
open Go.RowKit Go.Maps

set_option maxHeartbeats 4000000 in
set_option maxRecDepth 100000 in
theorem spoil_any (v : Value) (n : Nat) (us : List Value) (w : World) (h : SP w w v n us 0) (hf : SF v us) (hul : us.length = n) (hn : n ≤ 4000000000000) :
    Calls Try.prog 35 #[v] w fun e w' => e = .returned (.tuple #[]) ∧ Fr (vb v ++ us.flatMap vb) w w' := by
  obtain ⟨vao, vcap, rfl⟩ : ∃ ao cap, v = .slice ao n cap := by
    obtain ⟨cs, hr, _⟩ := h.row
    exact ownsRow_slice hr
  have H := hide h
  have HF := hide hf
  have HUL := hide hul
  have HN := hide hn
  have HGET : Hid (∀ k, k < n → ∃ u, us[k]? = some u) := fun k hk => ⟨_, List.getElem?_eq_getElem (by rw [hul]; exact hk)⟩
  have HUB0 : Hid (∀ (j : Nat) c g, us[j]? = some c → c.ownBlock = some g → g < w.heap.size) := fun j c g hc hg => by
    obtain ⟨xs, ho, _⟩ := h.own j c (Nat.zero_le _) hc
    exact (World.ownsRow.lt ho g hg).2
  clear h hf hul hn
  go_enter Try.func35, Try.ntmps35
  go_wp2_with fail
  go_loopw [2] (fun i wr => ∃ k : Nat, k ≤ n ∧ i = .int .i64 (k : Int) ∧ Hid (SP w wr (.slice vao n vcap) n us 0)) (fun i _ => n - (intOf i).toNat)
  case atStart => exact ⟨0, Nat.zero_le _, rfl, H⟩
  case round =>
    obtain ⟨k, hk, rfl, HS⟩ := hrel
    by_cases hlt : k < n
    · obtain ⟨u, hu⟩ := HGET.out k hlt
      obtain ⟨xs, ho, hxl⟩ := HS.out.own k u (Nat.zero_le _) hu
      obtain ⟨uao, ucap, rfl, -, -⟩ := ho.read
      obtain ⟨m, hm⟩ : ∃ m, m = xs.length := ⟨_, rfl⟩
      rw [← hm] at hu hxl
      have HU := hide hu
      have HM := hide hxl
      obtain ⟨gv, rfl, x1, ⟨sn, x2⟩, hcap, -⟩ := HS.out.cell (Nat.zero_le k) hu
      have hki : (k : Int) < (n : Int) := by omega
      clear hu ho hm hxl x1 x2
      generalize wr = w1 at *
      go_wp2_with fail
      go_loopw [3] (fun i wr => ∃ q : Nat, q ≤ m ∧ i = .int .i64 (q : Int) ∧ Hid (SP w wr (.slice (some ⟨gv, 0, none⟩) n vcap) n us 0)) (fun i _ => m - (intOf i).toNat)
      case atStart => exact ⟨0, Nat.zero_le _, rfl, HS⟩
      case round =>
        clear HS
        obtain ⟨q, hq, rfl, HS⟩ := hrel
        obtain ⟨gv', e, x1, -, -, -⟩ := HS.out.cell (Nat.zero_le k) HU.out
        injection e with e
        injection e with e _ _
        subst e
        by_cases hqm : q < m
        · obtain ⟨xs, ho, -⟩ := HS.out.own k _ (Nat.zero_le _) HU.out
          have hne : xs ≠ [] := by
            intro e
            obtain ⟨ao, c, e2, -, -⟩ := ho.read
            rw [e] at e2
            injection e2 with _ e3 _
            simp at e3
            omega
          obtain ⟨gu, c2, e2, -, -, -⟩ := ho.readSome hne
          injection e2 with e2 e3 e4
          clear e3 e4
          subst e2
          obtain ⟨⟨x, k1⟩, k2, k3⟩ := row_byte ho hqm
          have HP : Hid (SP w (wr.setCell ⟨gu, q, none⟩ (.int .u8 204)) (.slice (some ⟨gv, 0, none⟩) n vcap) n us 0) := HS.out.poke HF.out HU.out q 204
          have hqi : (q : Int) < (m : Int) := by omega
          have hqb : (q : Int) + 1 ≤ 4611686018427387904 := by have := HM.out; omega
          have HQB := hide hqb
          clear ho hne hqb
          go_upto_region 5 with fail
          clear hki hqi k1 k2 k3 x1
          have hqb := HQB.out
          go_wp2_with fail
          go_roundw
          case rel => exact ⟨q + 1, by omega, by simp, HP⟩
          case measure => simp [intOf]; omega
        · have hqi : ¬ (q : Int) < (m : Int) := by omega
          have hkb : (k : Int) + 1 ≤ 4611686018427387904 := by have := HN.out; omega
          go_wp2_with fail
          go_roundw
          case rel => exact ⟨k + 1, by omega, by simp, HS⟩
          case measure => simp [intOf]; omega
    · have hki : ¬ (k : Int) < (n : Int) := by omega
      clear H hlt hk
      generalize wr = w1 at *
      go_wp2_with fail
      go_loopw [4] (fun i wr => ∃ k : Nat, k ≤ n ∧ i = .int .i64 (k : Int) ∧ Hid (SP w wr (.slice vao n vcap) n us k)) (fun i _ => n - (intOf i).toNat)
      case atStart => exact ⟨0, Nat.zero_le _, rfl, HS⟩
      case round =>
        clear HS hki
        obtain ⟨k, hk, rfl, HS⟩ := hrel
        by_cases hlt : k < n
        · obtain ⟨u, hu⟩ := HGET.out k hlt
          obtain ⟨xs, ho, hxl⟩ := HS.out.own k u (Nat.le_refl _) hu
          obtain ⟨uao, ucap, rfl, -, -⟩ := ho.read
          obtain ⟨gv, rfl, x1, -, hcap, -⟩ := HS.out.cell (Nat.le_refl k) hu
          have hki : (k : Int) < (n : Int) := by omega
          have HO := hide ho
          obtain ⟨m, hm⟩ : ∃ m, m = xs.length := ⟨_, rfl⟩
          have HM := hide hm
          have HXL := hide hxl
          rw [← hm] at hu HO x1 HXL
          have HU := hide hu
          have HS1 := hide HS.out.up
          have HUB : Hid (∀ (j : Nat) c g, us[j]? = some c → c.ownBlock = some g → g < w.heap.size) := HUB0
          have HSW := hide HS.out.fr.size
          have HVLT : Hid (∀ x, Value.ownBlock (.slice (some ⟨gv, 0, none⟩) n vcap) = some x → x < wr.heap.size) := fun x hx => by
            obtain ⟨cs, hr, _⟩ := HS.out.row
            exact (World.ownsRow.lt hr x hx).2
          clear hu ho hm hxl HS
          generalize wr = w2 at *
          go_wp2_with fail
          clear x1
          go_loopw [5, 6] (fun b i wr => ∃ (q : Nat) (ys : List Nat), q ≤ 16 ∧ i = .int .i64 (q : Int) ∧ Hid (SP w wr (.slice (some ⟨gv, 0, none⟩) n vcap) n us (k + 1)) ∧ Hid (Own wr 0 b ys) ∧ Hid (ys.length ≤ 140737488351232 + q) ∧ Hid (∀ g, b.ownBlock = some g → Value.ownBlock (.slice uao m ucap) = some g ∨ w.heap.size ≤ g ∧ (∀ x, Value.ownBlock (.slice (some ⟨gv, 0, none⟩) n vcap) = some x → x ≠ g) ∧ ∀ (j : Nat) c, us[j]? = some c → c.ownBlock ≠ some g)) (fun _ i _ => 16 - (intOf i).toNat)
          case atStart => exact ⟨0, xs, Nat.zero_le _, rfl, HS1, by rw [HM.out] at HO ⊢; exact HO, by rw [← HM.out]; exact HXL, fun g hg => .inl hg⟩
          case round =>
            clear HS1 HO
            obtain ⟨q, ys, hq, rfl, HS1, HO, HYL, HBB⟩ := hrel
            by_cases hq16 : q < 16
            · have hqi : (q : Int) < 16 := by omega
              have hqb : (q : Int) + 1 ≤ 4611686018427387904 := by omega
              obtain ⟨bao, bn, bcap, hb⟩ := own_shape HO.out
              subst hb
              have HRW := hide (row_one wr 187)
              have HOA : Hid (Own (wr.alloc (.cells #[.int .u8 187] 5)) 0 (.slice bao bn bcap) ys) := Own.alloc HO.out _
              have HST : Hid (∀ v' w3, Own w3 0 v' (ys ++ [187]) → (wr.alloc (.cells #[.int .u8 187] 5)).grownBy w3 (Value.ownBlock (.slice bao bn bcap)) → (v'.ownBlock = Value.ownBlock (.slice bao bn bcap) ∨ v'.ownBlock = some (wr.alloc (.cells #[.int .u8 187] 5)).heap.size) → SP w w3 (.slice (some ⟨gv, 0, none⟩) n vcap) n us (k + 1) ∧ (ys ++ [187]).length ≤ 140737488351232 + (q + 1) ∧ ∀ g, v'.ownBlock = some g → Value.ownBlock (.slice uao m ucap) = some g ∨ w.heap.size ≤ g ∧ (∀ x, Value.ownBlock (.slice (some ⟨gv, 0, none⟩) n vcap) = some x → x ≠ g) ∧ ∀ (j : Nat) c, us[j]? = some c → c.ownBlock ≠ some g) := fun v' w3 g1 g2 g3 => by
                refine ⟨HS1.out.grow HF.out HU.out HBB.out (below_new wr _) g2, by have := HYL.out; simp; omega, fun g hg => ?_⟩
                rcases g3 with e | e
                · rw [e] at hg; exact HBB.out g hg
                · rw [e] at hg
                  injection hg with hg
                  have hz : (wr.alloc (.cells #[.int .u8 187] 5)).heap.size = wr.heap.size + 1 := by simp
                  have hsz := HS1.out.fr.size
                  refine .inr ⟨by omega, fun x hx e2 => ?_, fun j c hc e2 => ?_⟩
                  · obtain ⟨cs, hr, _⟩ := HS1.out.row
                    have := (World.ownsRow.lt hr x hx).2
                    omega
                  · have := HUB.out j c g hc e2
                    omega
              clear hq
              go_wp2_with (first | (at_builtin; refine wpList_append_bytes_at rfl _ _ rfl _ ys rfl HOA.out (some ⟨wr.heap.size, 0, none⟩) 1 1 [187] rfl rfl HRW.out (by have := HYL.out; simp; omega) ?_; intro v' w3 g1 g2 g3; obtain ⟨vao3, vn3, vcap3, rfl⟩ := own_shape g1; have HS3 := hide (HST.out _ w3 g1 g2 g3); have HO3 := hide g1; clear g1 g2 g3) | fail)
              go_roundw
              case rel => exact ⟨q + 1, ys ++ [187], by omega, by simp, hide HS3.out.1, HO3, hide HS3.out.2.1, hide HS3.out.2.2⟩
              case measure => simp [intOf]; omega
            · have hqi : ¬ (q : Int) < 16 := by omega
              obtain ⟨bao, bn, bcap, hb⟩ := own_shape HO.out
              subst hb
              have HPL : Hid (∃ a b, wr.cell? ⟨gv, k * 2, none⟩ = some a ∧ wr.cell? ⟨gv, k * 2 + 1, none⟩ = some b ∧ ∀ i, wr.frozen? ⟨gv, i, none⟩ = false) := by
                obtain ⟨cs, hr, _⟩ := HS1.out.row
                have hl := hr.1
                obtain ⟨a, ha⟩ : ∃ a, cs[k * 2]? = some a := ⟨_, List.getElem?_eq_getElem (by omega)⟩
                obtain ⟨b, hb⟩ : ∃ b, cs[k * 2 + 1]? = some b := ⟨_, List.getElem?_eq_getElem (by omega)⟩
                have hcell := World.ownsRow.cells hr (g := gv) rfl
                have k1 := hcell _ _ ha
                have k2 := hcell _ _ hb
                rw [add_none, Nat.zero_add] at k1 k2
                refine ⟨a, b, k1, k2, fun i => ?_⟩
                rcases hr.2 with ⟨e, _⟩ | ⟨g', cap', cur, e, _, hgg, _⟩
                · cases e
                · injection e with e _ _
                  injection e with e
                  injection e with e _ _
                  subst e
                  exact frozen_of_row wr gv i _ _ hgg
              obtain ⟨a, b, k1, k2, k3⟩ := HPL.out
              have k4 := k3 (k * 2)
              have k5 := k3 (k * 2 + 1)
              have HP := hide (HS1.out.next HF.out (.string { data := #[63] }) (.slice bao bn bcap))
              have HKB : Hid ((k : Int) + 1 ≤ 4611686018427387904) := by have := HN.out; show _ ≤ _; omega
              clear k3 HPL
              go_upto_region 9 with fail
              clear hki hqi k1 k2 k4 k5
              have hkb := HKB.out
              go_wp2_with fail
              go_roundw
              case rel => exact ⟨k + 1, by omega, by simp, HP⟩
              case measure => simp [intOf]; omega
        · have hki : ¬ (k : Int) < (n : Int) := by omega
          go_wp2_with fail
          go_end0
          exact ⟨rfl, HS.out.fr⟩
end Go.Proofs.Yticbfcognnofbaa
/- The contract of begin: both disks of a story. -/
namespace Go.Proofs.Yticbfcognnofbaa
open Go.RowKit Go.Maps

def NoK : Nat → Prop := fun _ => False
/-- The files that were handed in are written over: both disks stay. -/
theorem both_spoilt {w u w1 w2 w3 w4 w6 w7 : World} {dp rp : Nat} {S : DS} {L : RL} {v : Value} {fs : List Fi} {us : List Value} (hu : Below w.heap.size w u) (hF : FOwn w1 u.heap.size v fs us) (h1 : Below u.heap.size u w1) (hD : Dsk w1 w2 dp S) (h3 : Below w2.heap.size w2 w3) (h4 : Below w3.heap.size w3 w4) (hR : RRep w4 rp S L) (hL : ∀ b ∈ L.mut rp ++ L.imm, w3.heap.size ≤ b) (h6 : Below w4.heap.size w4 w6) (h7 : Fr (vb v ++ us.flatMap vb) w6 w7) : Both NoK w w7 dp rp S S := by
  obtain ⟨LA, k1, k2⟩ := hD.rep
  have s1 := hu.size; have s2 := h1.size; have s3 := hD.bel.size; have s4 := h3.size; have s5 := h4.size; have s6 := h6.size
  have hfp : ∀ b ∈ vb v ++ us.flatMap vb, u.heap.size ≤ b ∧ b < w1.heap.size := fun b hb => by
    rcases List.mem_append.1 hb with e | e
    · have := World.ownsRow.lt hF.row b (mem_vb.1 e)
      exact this
    · obtain ⟨c, hc, hb2⟩ := List.mem_flatMap.1 e
      obtain ⟨i, hi, rfl⟩ := List.getElem_of_mem hc
      have hx : fs[i]? = some (fs[i]'(by rw [← hF.len]; exact hi)) := List.getElem?_eq_getElem _
      exact ⟨(hF.new i _ b (List.getElem?_eq_getElem hi) (mem_vb.1 hb2)).1, (World.ownsRow.lt (hF.own i _ _ (List.getElem?_eq_getElem hi) hx) b (mem_vb.1 hb2)).2⟩
  have r6 : Rep w6 dp S LA S.files.length := ((k1.below h3).below h4).below h6
  have rr6 : RRep w6 rp S L := hR.below h6
  refine ⟨⟨LA, L, r6.apart h7 (fun b hb hm => by have := k2 b hb; have := hfp b hm; omega), rr6.keep (fun b hb => h7.block b (rr6.lt b hb) (fun hm => by have := hL b hb; have := hfp b hm; omega)), fun b hb => ⟨by have := k2 b hb; omega, id⟩, fun b hb => ⟨by have := hL b hb; omega, id, fun hm => by have := hL b hb; have := (k1.lt b hm); omega⟩⟩, hD.ok, hD.ok, ?_, fun g hg => hg.elim⟩
  have b6 : Below w.heap.size w w6 := ((((hu.trans (h1.mono s1)).trans (hD.bel.mono (by omega))).trans (h3.mono (by omega))).trans (h4.mono (by omega))).trans (h6.mono (by omega))
  exact b6.trans (h7.below w.heap.size (by omega) (fun x hx => by have := hfp x hx; omega))
theorem spoilt_below {w u w1 w6 w7 : World} {v : Value} {fs : List Fi} {us : List Value} (hu : Below w.heap.size w u) (hF : FOwn w1 u.heap.size v fs us) (b6 : Below w.heap.size w w6) (h7 : Fr (vb v ++ us.flatMap vb) w6 w7) : Below w.heap.size w w7 :=
  b6.trans (h7.below w.heap.size b6.size (fun b hb => by
    have := hu.size
    rcases List.mem_append.1 hb with e | e
    · have := (World.ownsRow.lt hF.row b (mem_vb.1 e)).1
      omega
    · obtain ⟨c, hc, hb2⟩ := List.mem_flatMap.1 e
      obtain ⟨i, hi, rfl⟩ := List.getElem_of_mem hc
      have := (hF.new i _ b (List.getElem?_eq_getElem hi) (mem_vb.1 hb2)).1
      omega))
set_option maxHeartbeats 8000000 in
set_option maxRecDepth 100000 in
theorem begin_any (fao : Option Addr) (fn fc : Nat) (fs : List Fi) (room : Int) (av : Value) (aao : Option Addr) (an ac : Nat) (hav : av = .slice aao an ac) (w : World) (hf : FSee w fao fs) (hfn : fn = fs.length) (hfl : fn * 40 ≤ 140737488351232) (hfs : ∀ f ∈ fs, f.1.length ≤ maxLen ∧ f.1.length ≤ 281474976710656 ∧ f.2.length ≤ 140737488355328) (hfx : ∀ f ∈ fs, f.2.length ≤ 140737488351232) (hfb : ∀ f ∈ fs, ∀ x ∈ f.2, x < 256) (hr : room ≤ 9223372036854775807) :
    Calls Try.prog 11 #[.agg #[.slice fao fn fc, .int .i64 room, av]] w fun e w' => if newErr fs room = 0 then ∃ dp rp, e = .returned (.tuple #[.pointer (some ⟨dp, 0, none⟩), .pointer (some ⟨rp, 0, none⟩), .bool true]) ∧ Both NoK w w' dp rp (born fs room.toNat) (born fs room.toNat) else e = .returned (.tuple #[.pointer none, .pointer none, .bool true]) ∧ Below w.heap.size w w' := by
  subst hav
  have HU := hide (below_new w (.cells #[.slice fao fn fc, .int .i64 room, .slice aao an ac] 28))
  have HBN := hide (Bl.new w #[.slice fao fn fc, .int .i64 room, .slice aao an ac] 28)
  obtain ⟨u, hu⟩ : ∃ u, u = w.alloc (.cells #[.slice fao fn fc, .int .i64 room, .slice aao an ac] 28) := ⟨_, rfl⟩
  rw [← hu] at HU HBN
  have HCP : Hid (Calls Try.prog 31 #[.slice fao fn fc] u fun e w' => ∃ vao m cap, e = .returned (.slice vao m cap) ∧ (∃ us, FOwn w' u.heap.size (.slice vao m cap) fs us ∧ FOne us) ∧ Below u.heap.size u w') := copied_one fao fn fc fs u (hf.keep HU.out) hfn hfl (fun f hf => (hfs f hf).2.2)
  have HOU : Hid (∀ W, Below u.heap.size u W → Calls Try.prog 33 #[.slice fao fn fc] W fun e w' => ∃ vao m cap, e = .returned (.slice vao m cap) ∧ (∃ us, ROwn w' W.heap.size (.slice vao m cap) fs us) ∧ Below W.heap.size W w') := fun W g => ours_any fao fn fc fs W ((hf.keep HU.out).keep g) hfn hfl (fun f hf => (hfs f hf).2.2)
  have hsl : ∀ {W : World} {B : Nat} {t : TypeId} {ao : Option Addr} {m cap : Nat} {xs : List Value}, W.ownsRow B t 2 (.slice ao m cap) fs.length xs → m = fs.length ∧ m ≤ cap := fun h => by
    rcases h.2 with ⟨e, e2⟩ | ⟨g, cap', cur, e, _, _, h3, _⟩
    · injection e with _ e3 e4; omega
    · injection e with _ e3 e4; omega
  have HNM : Hid (∀ W vao m cap us B, FOwn W B (.slice vao m cap) fs us → Calls Try.prog 27 #[.slice vao m cap, .int .i64 room] W fun e w' => if newErr fs room = 0 then ∃ dp, e = .returned (.tuple #[.pointer (some ⟨dp, 0, none⟩), .int .i64 0]) ∧ Dsk W w' dp (born fs room.toNat) else e = .returned (.tuple #[.pointer none, .int .i64 (newErr fs room : Int)]) ∧ Below W.heap.size W w') := fun W vao m cap us B hF => by
    have hm := hsl hF.row
    by_cases h0 : newErr fs room = 0
    · simp only [if_pos h0]
      exact new_dsk vao m cap fs room W hF.see hm.1 hm.2 hfs hfb hr h0
    · simp only [if_neg h0]
      exact new_none vao m cap fs room W hF.see hm.1 hm.2 hfs hr h0
  have HRN : Hid (∀ W vao m cap us B, ROwn W B (.slice vao m cap) fs us → Calls Try.prog 32 #[.slice vao m cap, .int .i64 room] W fun e w' => if newErr fs room = 0 then ∃ rp L, e = .returned (.tuple #[.pointer (some ⟨rp, 0, none⟩), .int .i64 0]) ∧ RRep w' rp (born fs room.toNat) L ∧ (∀ b ∈ L.mut rp ++ L.imm, W.heap.size ≤ b) ∧ Below W.heap.size W w' else e = .returned (.tuple #[.pointer none, .int .i64 (newErr fs room : Int)]) ∧ Below W.heap.size W w') := fun W vao m cap us B hF => by
    have hm := hsl hF.row
    refine (enew_any vao m cap fs room W hF.see hm.1 hm.2 hfs).mono fun e w' ⟨_, hp⟩ => ?_
    unfold ENewPost at hp
    by_cases h0 : newErr fs room = 0
    · simp only [if_pos h0] at hp ⊢
      obtain ⟨⟨rp, L, a, b, c⟩, d⟩ := hp
      exact ⟨rp, L, a, b, c, d⟩
    · simp only [if_neg h0] at hp ⊢
      exact hp
  have HFI : Hid (∀ W lao m lc us B wao m2 wc vs B2, FOwn W B (.slice lao m lc) fs us → ROwn W B2 (.slice wao m2 wc) fs vs → Calls Try.prog 34 #[.slice lao m lc, .slice wao m2 wc] W fun e w' => e = .returned (.bool true) ∧ Below W.heap.size W w') := fun W lao m lc us B wao m2 wc vs B2 h1 h2 => by
    have e1 := (hsl h1.row).1
    have e2 := (hsl h2.row).1
    subst e1; subst e2
    exact (files_true lao wao fs.length lc wc fs W h1.see h2.see rfl (by omega)).mono fun e w' ⟨he, q, hq⟩ => ⟨he, by rw [hq]; exact below_drewN (Below.refl _ _) q⟩
  have HSP : Hid (∀ W v us B, FOwn W B v fs us → FOne us → Calls Try.prog 35 #[v] W fun e w' => e = .returned (.tuple #[]) ∧ Fr (vb v ++ us.flatMap vb) W w') := fun W v us B hF hO => spoil_any v fs.length us W (SP.first hF hfx) ⟨hO, fun i c g h1 h2 => (hF.new i c g h1 h2).2⟩ hF.len (by omega)
  obtain ⟨N, hN⟩ : ∃ N, N = w.heap.size := ⟨_, rfl⟩
  rw [← hN] at HBN
  clear hf hfn hfl hfs hfx hfb hr hsl
  by_cases h0 : newErr fs room = 0
  · simp only [if_pos h0] at HRN HNM ⊢
    generalize born fs room.toNat = S at *
    clear h0
    go_enter Try.func11, Try.ntmps11
    go_upto_region 1 with fail
    rw [← hu, ← hN]
    have HNW := hide hN
    clear hu hN
    have c0 : u.cell? ⟨N, 0, none⟩ = some (.slice fao fn fc) := HBN.out.cell 0
    have c1 : u.cell? ⟨N, 1, none⟩ = some (.int .i64 room) := HBN.out.cell 1
    go_upto_region 3 with (first | (go_at_call 31; refine HCP.out.mono ?_; rintro e w1 ⟨vao, m, cap, rfl, ⟨us, hF, hO⟩, b1⟩; have HF1 := hide hF; have HO1 := hide hO; have B1 := hide b1; have d0 := cell_kept c0 b1; have d1 := cell_kept c1 b1; clear hF hO b1) | (go_at_call 27; refine (HNM.out _ _ _ _ _ _ HF1.out).mono ?_; rintro e w2 ⟨dp, rfl, hD⟩; have HD := hide hD; have B2 := hide hD.bel; have e0 := cell_kept d0 hD.bel; have e1 := cell_kept d1 hD.bel; clear hD) | fail)
    have HBU2 : Hid (Below u.heap.size u w2) := B1.out.trans (B2.out.mono B1.out.size)
    go_region_held (fun W => W.cell? ⟨N, 0, none⟩ = some (.slice fao fn fc) ∧ W.cell? ⟨N, 1, none⟩ = some (.int .i64 room)) (go_keep) (first
      | (go_at_call 33; refine (HOU.out _ (below_drewN HBU2.out 1)).mono ?_; rintro e w3 ⟨vao3, m3, cap3, rfl, ⟨us3, hR3⟩, b3⟩; have hb3 := below_undrew b3; have HR3 := hide hR3; have B3 := hide hb3; have f0 := cell_kept e0 hb3; have f1 := cell_kept e1 hb3; clear b3 hR3 hb3)
      | (go_at_call 32; refine (HRN.out _ _ _ _ _ _ HR3.out).mono ?_; rintro e w4 ⟨rp, L, rfl, hr4, hl4, b4⟩; have HR4 := hide hr4; have HL4 := hide hl4; have B4 := hide b4; have g0 := cell_kept f0 b4; have g1 := cell_kept f1 b4; clear hr4 hl4 b4))
    have HBU4 : Hid (Below u.heap.size u w4) := (HBU2.out.trans (B3.out.mono HBU2.out.size)).trans (B4.out.mono (Nat.le_trans HBU2.out.size B3.out.size))
    clear d0 d1 e0 e1 f0 f1 c0 c1
    have HF6 : Hid (∀ W, Below w4.heap.size w4 W → FOwn W u.heap.size (.slice vao m cap) fs us) := fun W hW => HF1.out.keep ((B2.out.trans (B3.out.mono B2.out.size)).trans ((B4.out.trans (hW.mono B4.out.size)).mono (Nat.le_trans B2.out.size B3.out.size)))
    go_upto_region 6 with (first | (go_at_call 9; refine (num_any _ _).mono ?_; rintro e wx ⟨rfl, hwx⟩; have hwy := hwx.symm; subst hwy; clear hwx) | (go_at_call 33; refine (HOU.out _ HBU4.out).mono ?_; rintro e w5 ⟨vao5, m5, cap5, rfl, ⟨us5, hR5⟩, b5⟩; have HR5 := hide hR5; have B5 := hide b5; clear b5 hR5) | (go_at_call 34; refine (HFI.out _ _ _ _ _ _ _ _ _ _ _ (HF6.out _ B5.out) HR5.out).mono ?_; rintro e w6 ⟨rfl, b6⟩; have B6 := hide (B5.out.trans (b6.mono B5.out.size)); clear b6) | (go_at_call 35; refine (HSP.out _ _ us _ (HF6.out _ B6.out) HO1.out).mono ?_; rintro e w7 ⟨rfl, f7⟩; have F7 := hide f7; clear f7) | fail)
    have HE := hide (both_spoilt HU.out HF1.out B1.out HD.out B3.out B4.out HR4.out HL4.out B6.out F7.out)
    clear HF6 HF1 HO1 HD HR4 HL4 HCP HOU HNM HRN HFI HSP
    go_wp2_with fail
    go_ret3
    exact ⟨dp, rp, rfl, HE.out⟩
  · simp only [if_neg h0] at HRN HNM ⊢
    generalize (newErr fs room : Int) = er at *
    clear h0
    go_enter Try.func11, Try.ntmps11
    go_upto_region 1 with fail
    rw [← hu, ← hN]
    have HNW := hide hN
    clear hu hN
    have c0 : u.cell? ⟨N, 0, none⟩ = some (.slice fao fn fc) := HBN.out.cell 0
    have c1 : u.cell? ⟨N, 1, none⟩ = some (.int .i64 room) := HBN.out.cell 1
    go_upto_region 3 with (first | (go_at_call 31; refine HCP.out.mono ?_; rintro e w1 ⟨vao, m, cap, rfl, ⟨us, hF, hO⟩, b1⟩; have HF1 := hide hF; have HO1 := hide hO; have B1 := hide b1; have d0 := cell_kept c0 b1; have d1 := cell_kept c1 b1; clear hF hO b1) | (go_at_call 27; refine (HNM.out _ _ _ _ _ _ HF1.out).mono ?_; rintro e w2 ⟨rfl, b2⟩; have B2 := hide b2; have e0 := cell_kept d0 b2; have e1 := cell_kept d1 b2; clear b2) | fail)
    have HBU2 : Hid (Below u.heap.size u w2) := B1.out.trans (B2.out.mono B1.out.size)
    go_region_held (fun W => W.cell? ⟨N, 0, none⟩ = some (.slice fao fn fc) ∧ W.cell? ⟨N, 1, none⟩ = some (.int .i64 room)) (go_keep) (first
      | (go_at_call 33; refine (HOU.out _ (below_drewN HBU2.out 1)).mono ?_; rintro e w3 ⟨vao3, m3, cap3, rfl, ⟨us3, hR3⟩, b3⟩; have hb3 := below_undrew b3; have HR3 := hide hR3; have B3 := hide hb3; have f0 := cell_kept e0 hb3; have f1 := cell_kept e1 hb3; clear b3 hR3 hb3)
      | (go_at_call 32; refine (HRN.out _ _ _ _ _ _ HR3.out).mono ?_; rintro e w4 ⟨rfl, b4⟩; have B4 := hide b4; have g0 := cell_kept f0 b4; have g1 := cell_kept f1 b4; clear b4))
    have HBU4 : Hid (Below u.heap.size u w4) := (HBU2.out.trans (B3.out.mono HBU2.out.size)).trans (B4.out.mono (Nat.le_trans HBU2.out.size B3.out.size))
    clear d0 d1 e0 e1 f0 f1 c0 c1
    have HF6 : Hid (∀ W, Below w4.heap.size w4 W → FOwn W u.heap.size (.slice vao m cap) fs us) := fun W hW => HF1.out.keep ((B2.out.trans (B3.out.mono B2.out.size)).trans ((B4.out.trans (hW.mono B4.out.size)).mono (Nat.le_trans B2.out.size B3.out.size)))
    go_upto_region 6 with (first | (go_at_call 9; refine (num_any _ _).mono ?_; rintro e wx ⟨rfl, hwx⟩; have hwy := hwx.symm; subst hwy; clear hwx) | (go_at_call 33; refine (HOU.out _ HBU4.out).mono ?_; rintro e w5 ⟨vao5, m5, cap5, rfl, ⟨us5, hR5⟩, b5⟩; have HR5 := hide hR5; have B5 := hide b5; clear b5 hR5) | (go_at_call 34; refine (HFI.out _ _ _ _ _ _ _ _ _ _ _ (HF6.out _ B5.out) HR5.out).mono ?_; rintro e w6 ⟨rfl, b6⟩; have B6 := hide (B5.out.trans (b6.mono B5.out.size)); clear b6) | (go_at_call 35; refine (HSP.out _ _ us _ (HF6.out _ B6.out) HO1.out).mono ?_; rintro e w7 ⟨rfl, f7⟩; have F7 := hide f7; clear f7) | fail)
    have HE := hide (spoilt_below HU.out HF1.out (HU.out.trans ((HBU4.out.trans (B6.out.mono HBU4.out.size)).mono HU.out.size)) F7.out)
    clear HF6 HF1 HO1 HCP HOU HNM HRN HFI HSP
    go_wp2_with fail
    go_ret3
    exact ⟨rfl, HE.out⟩
end Go.Proofs.Yticbfcognnofbaa
/- The contract of changes: a call that changes, on the program's disk and on the document's: the same answer, the same state. -/
namespace Go.Proofs.Yticbfcognnofbaa
open Go.RowKit Go.Maps

/-- What was made behind both disks is none of theirs. -/
theorem Both.guard {K : Nat → Prop} {w0 w w' : World} {dp rp : Nat} {A B : DS} (h : Both K w0 w dp rp A B) (hb : Below w.heap.size w w') : Both (fun g => w.heap.size ≤ g ∧ g < w'.heap.size) w0 w' dp rp A B := by
  obtain ⟨LA, LR, h1, h2, h3, h4⟩ := h.rep
  have hk := h.below hb
  exact ⟨⟨LA, LR, h1.below hb, h2.below hb, fun b hm => ⟨(h3 b hm).1, fun hg => by have := h1.lt b hm; omega⟩, fun b hm => ⟨(h4 b hm).1, fun hg => by have := h2.lt b hm; omega, (h4 b hm).2.2⟩⟩, h.oka, h.okb, hk.bel, fun g hg => hg.2⟩
theorem Both.forget {K K' : Nat → Prop} {w0 w : World} {dp rp : Nat} {A B : DS} (h : Both K w0 w dp rp A B) (hk : ∀ g, K' g → K g) : Both K' w0 w dp rp A B := by
  obtain ⟨LA, LR, h1, h2, h3, h4⟩ := h.rep
  exact ⟨⟨LA, LR, h1, h2, fun b hm => ⟨(h3 b hm).1, fun hg => (h3 b hm).2 (hk b hg)⟩, fun b hm => ⟨(h4 b hm).1, fun hg => (h4 b hm).2.1 (hk b hg), (h4 b hm).2.2⟩⟩, h.oka, h.okb, h.bel, fun g hg => h.old g (hk g hg)⟩
theorem Both.noK {K : Nat → Prop} {w0 w : World} {dp rp : Nat} {A B : DS} (h : Both K w0 w dp rp A B) : Both NoK w0 w dp rp A B := h.forget (fun _ (hg : False) => False.elim hg)
theorem held_cell {K : Nat → Prop} {w w' : World} (h : Held K w w') {a : Addr} {v : Value} (hc : w.cell? a = some v) (hk : K a.block) : w'.cell? a = some v := by
  have := h.2 a.block hk
  revert hc
  unfold World.cell?
  rw [this]
  exact id
set_option maxHeartbeats 8000000 in
set_option maxRecDepth 100000 in
theorem changes_plain {w0 w : World} {dp rp : Nat} {S : DS} (x : Ac) (pao tao : Option Addr) (pl pc tl tc : Nat) (h : Both NoK w0 w dp rp S S) (hx : AOk x) (hn2 : ¬ x.kind = 2) :
    Calls Try.prog 13 #[.pointer (some ⟨dp, 0, none⟩), .pointer (some ⟨rp, 0, none⟩), .agg #[.int .i64 x.kind, .string (str x.nm), .string (str x.tn), .slice pao pl pc, .int .i64 x.n, .int .i64 x.dir, .slice tao tl tc]] w fun e w' => e = .returned (.bool true) ∧ Both NoK w0 w' dp rp (act S x) (act S x) := by
  obtain ⟨snm, hsnm⟩ : ∃ s, s = str x.nm := ⟨_, rfl⟩
  obtain ⟨stn, hstn⟩ : ∃ s, s = str x.tn := ⟨_, rfl⟩
  rw [← hsnm, ← hstn]
  obtain ⟨T, hT⟩ : ∃ T, T = act S x := ⟨_, rfl⟩
  rw [← hT]
  have HT := hide hT
  have HSNM := hide hsnm
  have HSTN := hide hstn
  have HX := hide hx
  have HV := hide (Bl.new w #[.int .i64 x.kind, .string snm, .string stn, .slice pao pl pc, .int .i64 x.n, .int .i64 x.dir, .slice tao tl tc] 41)
  have HBV := hide (below_new w (.cells #[.int .i64 x.kind, .string snm, .string stn, .slice pao pl pc, .int .i64 x.n, .int .i64 x.dir, .slice tao tl tc] 41))
  have HK : Hid (w.heap.size ≤ w.heap.size ∧ w.heap.size < (w.alloc (.cells #[.int .i64 x.kind, .string snm, .string stn, .slice pao pl pc, .int .i64 x.n, .int .i64 x.dir, .slice tao tl tc] 41)).heap.size) := ⟨Nat.le_refl _, Nat.lt_of_lt_of_le (Nat.lt_succ_self _) (Nat.le_of_eq (Array.size_push ..).symm)⟩
  have HG := hide (h.guard HBV.out)
  have hkd : x.kind = 1 ∨ x.kind = 3 ∨ x.kind = 4 ∨ x.kind = 5 ∨ x.kind = 6 ∨ x.kind = 10 ∨ (¬ x.kind = 1 ∧ ¬ x.kind = 2 ∧ ¬ x.kind = 3 ∧ ¬ x.kind = 4 ∧ ¬ x.kind = 5 ∧ ¬ x.kind = 6 ∧ ¬ x.kind = 10) := by omega
  have HKD := hide hkd
  clear hT hsnm hstn hx hn2 h hkd
  go_enter Try.func13, Try.ntmps13
  go_upto_region 1 with fail
  obtain ⟨M, hM⟩ : ∃ M, M = w.heap.size := ⟨_, rfl⟩
  rw [← hM] at HV HK HG ⊢
  clear hM
  generalize w.alloc (.cells #[.int .i64 x.kind, .string snm, .string stn, .slice pao pl pc, .int .i64 x.n, .int .i64 x.dir, .slice tao tl tc] 41) = wv at *
  obtain ⟨K, hK⟩ : ∃ K : Nat → Prop, K = fun g => M ≤ g ∧ g < wv.heap.size := ⟨_, rfl⟩
  have HKM : Hid (K M) := by rw [hK]; exact HK.out
  rw [← hK] at HG
  clear hK HK HBV
  have v0 : wv.cell? ⟨M, 0, none⟩ = some (.int .i64 x.kind) := HV.out.cell 0
  have v1 : wv.cell? ⟨M, 1, none⟩ = some (.string snm) := HV.out.cell 1
  have v2 : wv.cell? ⟨M, 2, none⟩ = some (.string stn) := HV.out.cell 2
  have v4 : wv.cell? ⟨M, 4, none⟩ = some (.int .i64 x.n) := HV.out.cell 4
  rcases HKD.out with hkd | hkd | hkd | hkd | hkd | hkd | hkd
  · have HS' : Hid (T = (create S x.nm).2) := by show _ = _; rw [HT.out]; unfold act; rw [hkd]; rfl
    have HA : Hid (∀ W, Both K w0 W dp rp S S → Calls Try.prog 28 #[.pointer (some ⟨dp, 0, none⟩), .string snm] W fun e w' => e = .returned (.int .i64 ((create S x.nm).1 : Int)) ∧ Both K w0 w' dp rp (T) S ∧ Held K W w') := fun W hW => by
      rw [HS'.out, HSNM.out]
      exact hW.onA (R := fun e => e = _) (fun G hg => create_g hg x.nm HX.out.nm)
    have HB : Hid (∀ W, Both K w0 W dp rp (T) S → Calls Try.prog 41 #[.pointer (some ⟨rp, 0, none⟩), .string snm] W fun e w' => e = .returned (.int .i64 ((create S x.nm).1 : Int)) ∧ Both K w0 w' dp rp (T) (T) ∧ Held K W w') := fun W hW => by
      rw [HS'.out] at hW ⊢
      rw [HSNM.out]
      exact hW.onB (R := fun e => e = _) (ok_create hW.okb x.nm) (fun L hL _ => ecreate_any rp S L x.nm W hL hW.okb HX.out.nm)
    generalize (create S x.nm).1 = code at *
    rw [hkd] at v0
    clear hkd HS'
    go_wp2_with fail
    go_region_held (fun W => W.cell? ⟨M, 1, none⟩ = some (.string snm)) (go_keep) (first | (go_at_call 28; refine (HA.out _ (HG.out.drewN 1)).mono ?_; rintro e w1 ⟨rfl, b1, k1⟩; have HB1 := hide b1; have d1 := held_cell (w := wv.drew) k1 v1 HKM.out; clear b1 k1) | (go_at_call 9; refine (num_any _ _).mono ?_; rintro e wx ⟨rfl, hwx⟩; subst hwx) | (go_at_call 41; refine (HB.out _ HB1.out).mono ?_; rintro e w2 ⟨rfl, b2, k2⟩; have HB2 := hide b2; have e1 := held_cell k2 d1 HKM.out; clear b2 k2))
    go_wp2_with fail
    go_ret
    exact ⟨rfl, HB2.out.noK⟩
  · have HS' : Hid (T = (sync S x.nm).2) := by show _ = _; rw [HT.out]; unfold act; rw [hkd]; rfl
    have HA : Hid (∀ W, Both K w0 W dp rp S S → Calls Try.prog 20 #[.pointer (some ⟨dp, 0, none⟩), .string snm] W fun e w' => e = .returned (.int .i64 ((sync S x.nm).1 : Int)) ∧ Both K w0 w' dp rp (T) S ∧ Held K W w') := fun W hW => by
      rw [HS'.out, HSNM.out]
      exact hW.onA (R := fun e => e = _) (fun G hg => sync_g hg x.nm HX.out.nm)
    have HB : Hid (∀ W, Both K w0 W dp rp (T) S → Calls Try.prog 43 #[.pointer (some ⟨rp, 0, none⟩), .string snm] W fun e w' => e = .returned (.int .i64 ((sync S x.nm).1 : Int)) ∧ Both K w0 w' dp rp (T) (T) ∧ Held K W w') := fun W hW => by
      rw [HS'.out] at hW ⊢
      rw [HSNM.out]
      exact hW.onB (R := fun e => e = _) (ok_sync hW.okb x.nm) (fun L hL _ => esync_any rp S L x.nm W hL hW.okb)
    generalize (sync S x.nm).1 = code at *
    rw [hkd] at v0
    clear hkd HS'
    go_wp2_with fail
    go_region_held (fun W => W.cell? ⟨M, 1, none⟩ = some (.string snm)) (go_keep) (first | (go_at_call 20; refine (HA.out _ (HG.out.drewN 1)).mono ?_; rintro e w1 ⟨rfl, b1, k1⟩; have HB1 := hide b1; have d1 := held_cell (w := wv.drew) k1 v1 HKM.out; clear b1 k1) | (go_at_call 9; refine (num_any _ _).mono ?_; rintro e wx ⟨rfl, hwx⟩; subst hwx) | (go_at_call 43; refine (HB.out _ HB1.out).mono ?_; rintro e w2 ⟨rfl, b2, k2⟩; have HB2 := hide b2; have e1 := held_cell k2 d1 HKM.out; clear b2 k2))
    go_wp2_with fail
    go_ret
    exact ⟨rfl, HB2.out.noK⟩
  · have HS' : Hid (T = (rename S x.nm x.tn).2) := by show _ = _; rw [HT.out]; unfold act; rw [hkd]; rfl
    have HA : Hid (∀ W, Both K w0 W dp rp S S → Calls Try.prog 44 #[.pointer (some ⟨dp, 0, none⟩), .string snm, .string stn] W fun e w' => e = .returned (.int .i64 ((rename S x.nm x.tn).1 : Int)) ∧ Both K w0 w' dp rp (T) S ∧ Held K W w') := fun W hW => by
      rw [HS'.out, HSNM.out, HSTN.out]
      exact hW.onA (R := fun e => e = _) (fun G hg => rename_g hg x.nm x.tn HX.out.nm HX.out.tn)
    have HB : Hid (∀ W, Both K w0 W dp rp (T) S → Calls Try.prog 45 #[.pointer (some ⟨rp, 0, none⟩), .string snm, .string stn] W fun e w' => e = .returned (.int .i64 ((rename S x.nm x.tn).1 : Int)) ∧ Both K w0 w' dp rp (T) (T) ∧ Held K W w') := fun W hW => by
      rw [HS'.out] at hW ⊢
      rw [HSNM.out, HSTN.out]
      exact hW.onB (R := fun e => e = _) (ok_rename hW.okb x.nm x.tn) (fun L hL _ => erename_any rp S L x.nm x.tn W hL hW.okb HX.out.tn)
    generalize (rename S x.nm x.tn).1 = code at *
    rw [hkd] at v0
    clear hkd HS'
    go_wp2_with fail
    go_region_held (fun W => W.cell? ⟨M, 1, none⟩ = some (.string snm) ∧ W.cell? ⟨M, 2, none⟩ = some (.string stn)) (go_keep) (first | (go_at_call 44; refine (HA.out _ (HG.out.drewN 1)).mono ?_; rintro e w1 ⟨rfl, b1, k1⟩; have HB1 := hide b1; have d1 := held_cell (w := wv.drew) k1 v1 HKM.out; have d2 := held_cell (w := wv.drew) k1 v2 HKM.out; clear b1 k1) | (go_at_call 9; refine (num_any _ _).mono ?_; rintro e wx ⟨rfl, hwx⟩; subst hwx) | (go_at_call 45; refine (HB.out _ HB1.out).mono ?_; rintro e w2 ⟨rfl, b2, k2⟩; have HB2 := hide b2; have e1 := held_cell k2 d1 HKM.out; have e2 := held_cell k2 d2 HKM.out; clear b2 k2))
    go_wp2_with fail
    go_ret
    exact ⟨rfl, HB2.out.noK⟩
  · have HS' : Hid (T = (remove S x.nm).2) := by show _ = _; rw [HT.out]; unfold act; rw [hkd]; rfl
    have HA : Hid (∀ W, Both K w0 W dp rp S S → Calls Try.prog 46 #[.pointer (some ⟨dp, 0, none⟩), .string snm] W fun e w' => e = .returned (.int .i64 ((remove S x.nm).1 : Int)) ∧ Both K w0 w' dp rp (T) S ∧ Held K W w') := fun W hW => by
      rw [HS'.out, HSNM.out]
      exact hW.onA (R := fun e => e = _) (fun G hg => remove_g hg x.nm HX.out.nm)
    have HB : Hid (∀ W, Both K w0 W dp rp (T) S → Calls Try.prog 47 #[.pointer (some ⟨rp, 0, none⟩), .string snm] W fun e w' => e = .returned (.int .i64 ((remove S x.nm).1 : Int)) ∧ Both K w0 w' dp rp (T) (T) ∧ Held K W w') := fun W hW => by
      rw [HS'.out] at hW ⊢
      rw [HSNM.out]
      exact hW.onB (R := fun e => e = _) (ok_remove hW.okb x.nm) (fun L hL _ => eremove_any rp S L x.nm W hL hW.okb)
    generalize (remove S x.nm).1 = code at *
    rw [hkd] at v0
    clear hkd HS'
    go_wp2_with fail
    go_region_held (fun W => W.cell? ⟨M, 1, none⟩ = some (.string snm)) (go_keep) (first | (go_at_call 46; refine (HA.out _ (HG.out.drewN 1)).mono ?_; rintro e w1 ⟨rfl, b1, k1⟩; have HB1 := hide b1; have d1 := held_cell (w := wv.drew) k1 v1 HKM.out; clear b1 k1) | (go_at_call 9; refine (num_any _ _).mono ?_; rintro e wx ⟨rfl, hwx⟩; subst hwx) | (go_at_call 47; refine (HB.out _ HB1.out).mono ?_; rintro e w2 ⟨rfl, b2, k2⟩; have HB2 := hide b2; have e1 := held_cell k2 d1 HKM.out; clear b2 k2))
    go_wp2_with fail
    go_ret
    exact ⟨rfl, HB2.out.noK⟩
  · have HS' : Hid (T = (syncDir S).2) := by show _ = _; rw [HT.out]; unfold act; rw [hkd]; rfl
    have HA : Hid (∀ W, Both K w0 W dp rp S S → Calls Try.prog 21 #[.pointer (some ⟨dp, 0, none⟩)] W fun e w' => e = .returned (.int .i64 ((syncDir S).1 : Int)) ∧ Both K w0 w' dp rp (T) S ∧ Held K W w') := fun W hW => by
      rw [HS'.out]
      exact hW.onA (R := fun e => e = _) (fun G hg => syncDir_g hg)
    have HB : Hid (∀ W, Both K w0 W dp rp (T) S → Calls Try.prog 48 #[.pointer (some ⟨rp, 0, none⟩)] W fun e w' => e = .returned (.int .i64 ((syncDir S).1 : Int)) ∧ Both K w0 w' dp rp (T) (T) ∧ Held K W w') := fun W hW => by
      rw [HS'.out] at hW ⊢
      exact hW.onB (R := fun e => e = _) (ok_syncDir hW.okb) (fun L hL _ => esyncDir_any rp S L W hL hW.okb)
    generalize (syncDir S).1 = code at *
    rw [hkd] at v0
    clear hkd HS'
    go_wp2_with (first | (go_at_call 21; refine (HA.out _ HG.out).mono ?_; rintro e w1 ⟨rfl, b1, -⟩; have HB1 := hide b1; clear b1) | (go_at_call 9; refine (num_any _ _).mono ?_; rintro e wx ⟨rfl, hwx⟩; subst hwx) | (go_at_call 48; refine (HB.out _ HB1.out).mono ?_; rintro e w2 ⟨rfl, b2, -⟩; have HB2 := hide b2; clear b2) | fail)
    go_ret
    exact ⟨rfl, HB2.out.noK⟩
  · have HS' : Hid (T = arm S x.n) := by show _ = _; rw [HT.out]; unfold act; rw [hkd]; rfl
    have HA : Hid (∀ W, Both K w0 W dp rp S S → Calls Try.prog 17 #[.pointer (some ⟨dp, 0, none⟩), .int .i64 x.n] W fun e w' => e = .returned (.tuple #[]) ∧ Both K w0 w' dp rp (T) S ∧ Held K W w') := fun W hW => by
      rw [HS'.out]
      exact hW.onA (R := fun e => e = _) (fun G hg => arm_g hg x.n HX.out.n)
    have HB : Hid (∀ W, Both K w0 W dp rp (T) S → Calls Try.prog 49 #[.pointer (some ⟨rp, 0, none⟩), .int .i64 x.n] W fun e w' => e = .returned (.tuple #[]) ∧ Both K w0 w' dp rp (T) (T) ∧ Held K W w') := fun W hW => by
      rw [HS'.out] at hW ⊢
      exact hW.onB (R := fun e => e = _) (ok_arm hW.okb x.n HX.out.n) (fun L hL _ => earm_any rp S L x.n W hL)
    rw [hkd] at v0
    clear hkd HS'
    generalize x.n = n at *
    go_wp2_with (first | (go_at_call 17; refine (HA.out _ HG.out).mono ?_; rintro e w1 ⟨rfl, b1, k1⟩; have HB1 := hide b1; have d4 := held_cell k1 v4 HKM.out; clear b1 k1) | (go_at_call 49; refine (HB.out _ HB1.out).mono ?_; rintro e w2 ⟨rfl, b2, -⟩; have HB2 := hide b2; clear b2) | fail)
    go_ret
    exact ⟨rfl, HB2.out.noK⟩
  · obtain ⟨q1, q2, q3, q4, q5, q6, q7⟩ := hkd
    have HEQ : Hid (T = S) := by show _ = _; rw [HT.out]; unfold act; rw [if_neg q1, if_neg q2, if_neg q3, if_neg q4, if_neg q5, if_neg q6, if_neg q7]
    have HG2 : Hid (Both K w0 wv dp rp T T) := by rw [HEQ.out]; exact HG.out
    clear HEQ
    generalize x.kind = kd at *
    have b1 : (kd == 1) = false := by rw [beq_eq_false_iff_ne]; exact q1
    have b2 : (kd == 2) = false := by rw [beq_eq_false_iff_ne]; exact q2
    have b3 : (kd == 3) = false := by rw [beq_eq_false_iff_ne]; exact q3
    have b4 : (kd == 4) = false := by rw [beq_eq_false_iff_ne]; exact q4
    have b5 : (kd == 5) = false := by rw [beq_eq_false_iff_ne]; exact q5
    have b6 : (kd == 6) = false := by rw [beq_eq_false_iff_ne]; exact q6
    have b7 : (kd == 10) = false := by rw [beq_eq_false_iff_ne]; exact q7
    go_wp2_with fail
    go_ret
    exact ⟨rfl, HG2.out.noK⟩
end Go.Proofs.Yticbfcognnofbaa
/- The contract of the document's Append once more: where no byte is handed over, the place of the bytes is free. -/
namespace Go.Proofs.Yticbfcognnofbaa
open Go.RowKit Go.Maps

theorem row_fr0 {w w' : World} {fp : List Nat} {ao : Option Addr} {xs : List Nat} (h : Row w ao xs) (hf : Fr fp w w') (hn : xs ≠ [] → ∀ a, ao = some a → a.block ∉ fp) : Row w' ao xs := by
  by_cases he : xs = []
  · exact .inl he
  · exact h.fr hf (hn he)
set_option maxHeartbeats 4000000 in
set_option maxRecDepth 100000 in
theorem eappend_off (rp : Nat) (S : DS) (L : RL) (nm : Nm) (ao : Option Addr) (pl pc : Nat) (p : List Nat) (w : World) (h : RRep w rp S L) (hO : Ok S) (hn : pl = p.length) (hp : Row w ao p) (hoff : p ≠ [] → ∀ a, ao = some a → a.block ∉ L.mut rp) (hpl : pl ≤ 140737488351232) :
    Calls Try.prog 42 #[pf rp, .string (str nm), .slice ao pl pc] w fun e w' => e = .returned (.int .i64 ((append S nm p).1 : Int)) ∧ RAft w w' rp L (append S nm p).2 := by
  obtain ⟨c0, c1, c2, c3, c4, c5, c6, c7⟩ := h.c
  have H := hide h
  unfold append
  cases hd : S.dead with
  | true =>
    rw [hd] at c7
    simp only [if_true]
    unfold pf at *
    clear h hO hd c0 c1 c2 c3 c4 c5 c6 hp hn
    go_enter Try.func42, Try.ntmps42
    go_wp2
    go_ret
    exact ⟨rfl, RAft.same H.out (Below.refl _ _)⟩
  | false =>
    rw [hd] at c7
    simp only [Bool.false_eq_true, if_false]
    cases hg : dget nm S.dir with
    | none =>
      have HF := hide (efind_none h.dir (by have := hO.dir.len; omega) hg)
      unfold pf at *
      clear h hO hd hg c0 c1 c3 c4 c5 c6 hp hn
      go_enter Try.func42, Try.ntmps42
      go_wp2_with (go_at_call 65; refine HF.out.mono ?_; rintro e w2 ⟨rfl, hw⟩; subst hw)
      go_ret
      exact ⟨rfl, RAft.same H.out (Below.refl _ _)⟩
    | some i =>
      have HF := hide (efind_some h.dir (by have := hO.dir.len; omega) hg)
      simp only
      have hil : i < S.files.length := hO.dir.num _ (dget_some hg)
      obtain ⟨gf, cf, bo, bc, y1, y2, y3, y4, y5, y6, y7⟩ := h.file hil
      have hal : (flAt S.files i).bys.length ≤ 4194304 := (Fok.at hO.file i).len
      obtain ⟨dao, dcap, hdv⟩ := ownsRow_slice h.dir
      have HX : Hid (∀ k, S.dir[k]? = some (nm, i) → ∃ g, dao = some ⟨g, 0, none⟩ ∧ w.cell? ⟨g, k * 2 + 1, none⟩ = some (.int .i64 (i : Int)) ∧ k < S.dir.length ∧ S.dir.length ≤ dcap) := fun k hk => by
        obtain ⟨g, cap, x1, x2, x3, x4⟩ := h.dirAt hk
        rw [hdv] at x1
        injection x1 with x1 _ x5
        exact ⟨g, x1, x3, lt_of_get hk, by rw [x5]; exact x4⟩
      rw [hdv] at c2 HF
      clear hdv
      have HU : Hid (∀ m, Calls Try.prog 67 #[pf rp] (w.drewN m) fun e w' => e = .returned (.int .i64 (sizes S.files S.dir : Int)) ∧ ∃ q, w' = (w.drewN m).drewN q) := fun m => eused_any rp S L (w.drewN m) (h.drewN m) hO
      have hus := hO.used
      have hrm := hO.room
      have d1 : w.cell? ⟨rp, 1, none⟩ = some (.slice (some ⟨gf, 0, none⟩) S.files.length cf) := by rw [← y1]; exact c1
      have hsum : (((flAt S.files i).bys.length : Nat) : Int) + (pl : Int) ≤ 4611686018427387904 := by omega
      have q1 : wrap64 ((S.room : Int) - (sizes S.files S.dir : Int)) = (S.room : Int) - (sizes S.files S.dir : Int) := by unfold wrap64; omega
      have q2 : IntKind.i64.wrap ((S.room : Int) - (sizes S.files S.dir : Int)) = (S.room : Int) - (sizes S.files S.dir : Int) := by rw [IntKind.wrap_i64]; omega
      have hfi : (i : Int) < (S.files.length : Int) := by omega
      by_cases hA : 4194304 < (flAt S.files i).bys.length + pl
      · rw [if_pos (.inl (by rw [← hn]; exact hA))]
        have t1 : decide ((4194304 : Int) < (((flAt S.files i).bys.length : Nat) : Int) + (pl : Int)) = true := decide_eq_true (by omega)
        clear hA
        unfold pf at *
        generalize S.ops = o at *
        generalize sizes S.files S.dir = z at *
        generalize S.room = room at *
        generalize (flAt S.files i).bys.length = bl at *
        generalize S.files.length = fl at *
        clear h hO hd hg c1 c3 c4 c6 hp hn hoff y1 y3 y5 y6 y7 hal hus hrm
        go_enter Try.func42, Try.ntmps42
        go_upto_region 7 with (first | (go_at_call 65; refine HF.out.mono ?_; rintro e w2 ⟨k, hk, rfl, hw⟩; have hw2 := hw.symm; subst hw2; obtain ⟨g, rfl, x2, x3, x4⟩ := HX.out k hk; have x5 : (k : Int) < (S.dir.length : Int) := (by omega); clear hk hw) | fail)
        go_quiet ((go_at_call 67; exact Calls.quiet_of (HU.out _)))
        go_wp2_with fail
        go_ret
        exact ⟨rfl, RAft.same H.out (below_drewN (Below.refl _ _) _)⟩
      have t1 : decide ((4194304 : Int) < (((flAt S.files i).bys.length : Nat) : Int) + (pl : Int)) = false := decide_eq_false (by omega)
      by_cases hB : S.room < sizes S.files S.dir + pl
      · rw [if_pos (.inr (by rw [← hn]; exact hB))]
        have t2 : decide ((S.room : Int) - (sizes S.files S.dir : Int) < (pl : Int)) = true := decide_eq_true (by omega)
        clear hA hB
        unfold pf at *
        generalize S.ops = o at *
        generalize sizes S.files S.dir = z at *
        generalize S.room = room at *
        generalize (flAt S.files i).bys.length = bl at *
        generalize S.files.length = fl at *
        clear h hO hd hg c1 c3 c4 c6 hp hn hoff y1 y3 y5 y6 y7 hal hus hrm
        go_enter Try.func42, Try.ntmps42
        go_upto_region 7 with (first | (go_at_call 65; refine HF.out.mono ?_; rintro e w2 ⟨k, hk, rfl, hw⟩; have hw2 := hw.symm; subst hw2; obtain ⟨g, rfl, x2, x3, x4⟩ := HX.out k hk; have x5 : (k : Int) < (S.dir.length : Int) := (by omega); clear hk hw) | fail)
        go_quiet ((go_at_call 67; exact Calls.quiet_of (HU.out _)))
        go_wp2_with fail
        go_ret
        exact ⟨rfl, RAft.same H.out (below_drewN (Below.refl _ _) _)⟩
      have t2 : decide ((S.room : Int) - (sizes S.files S.dir : Int) < (pl : Int)) = false := decide_eq_false (by omega)
      rw [if_neg (by rw [← hn]; omega)]
      by_cases ho : 1048576 ≤ S.ops
      · rw [goes_full _ ho]
        have t3 : decide ((1048576 : Int) ≤ (S.ops : Int)) = true := decide_eq_true (by omega)
        clear hA hB ho
        unfold pf at *
        generalize S.ops = o at *
        generalize sizes S.files S.dir = z at *
        generalize S.room = room at *
        generalize (flAt S.files i).bys.length = bl at *
        generalize S.files.length = fl at *
        clear h hO hd hg c1 c3 c4 c6 hp hn hoff y1 y3 y5 y6 y7 hal hus hrm
        go_enter Try.func42, Try.ntmps42
        go_upto_region 7 with (first | (go_at_call 65; refine HF.out.mono ?_; rintro e w2 ⟨k, hk, rfl, hw⟩; have hw2 := hw.symm; subst hw2; obtain ⟨g, rfl, x2, x3, x4⟩ := HX.out k hk; have x5 : (k : Int) < (S.dir.length : Int) := (by omega); clear hk hw) | fail)
        go_quiet ((go_at_call 67; exact Calls.quiet_of (HU.out _)))
        go_wp2_with fail
        go_ret
        exact ⟨rfl, RAft.same H.out (below_drewN (Below.refl _ _) _)⟩
      have t3 : decide ((1048576 : Int) ≤ (S.ops : Int)) = false := decide_eq_false (by omega)
      have HG : Hid (∀ m, Calls Try.prog 70 #[pf rp] (w.drewN m) fun e w' => e = .returned (.int .i64 (if S.armed = 1 then 51 else 0)) ∧ RRep w' rp (goneS S) L ∧ Fr (L.mut rp) w w') := fun m => (egoes_any rp S L (w.drewN m) (h.drewN m) (by omega) hO.armed).mono fun e w' ⟨a1, a2, a3⟩ => ⟨a1, a2, (Fr.of (fp := []) (below_drewN (Below.refl _ _) m)).mono (fun x hx => by cases hx) |>.trans a3 (fun x hx => .inl hx)⟩
      by_cases ha : S.armed = 1
      · rw [goes_one _ ho ha]
        rw [if_pos ha] at HG
        unfold pf at *
        generalize S.ops = o at *
        generalize sizes S.files S.dir = z at *
        generalize S.room = room at *
        generalize (flAt S.files i).bys.length = bl at *
        generalize S.files.length = fl at *
        clear h hO hd hg c1 c3 c4 c6 hp hn hoff y1 y3 y5 y6 y7 hal hus hrm hA hB ho ha
        go_enter Try.func42, Try.ntmps42
        go_upto_region 7 with (first | (go_at_call 65; refine HF.out.mono ?_; rintro e w2 ⟨k, hk, rfl, hw⟩; have hw2 := hw.symm; subst hw2; obtain ⟨g, rfl, x2, x3, x4⟩ := HX.out k hk; have x5 : (k : Int) < (S.dir.length : Int) := (by omega); clear hk hw) | fail)
        go_quiet ((go_at_call 67; exact Calls.quiet_of (HU.out _)))
        go_wp2_with (first | (go_at_call 70; refine (HG.out _).mono ?_; rintro e w3 ⟨rfl, h3, f3⟩; have H3 := hide h3; have F3 := hide f3; clear h3 f3) | fail)
        go_ret
        exact ⟨rfl, RAft.mk0 H3.out F3.out⟩
      · rw [goes_on _ ho ha]
        rw [if_neg ha] at HG
        obtain ⟨e1, e2, e3, e4, e5⟩ := goneS_eq S
        have HY : Hid (∀ w3, RRep w3 rp (goneS S) L → Fr (L.mut rp) w w3 → w3.cell? ⟨rp, 1, none⟩ = some (.slice (some ⟨gf, 0, none⟩) S.files.length cf) ∧ w3.cell? ⟨gf, i * 2, none⟩ = some (.slice bo (flAt S.files i).bys.length bc) ∧ w3.frozen? ⟨gf, i * 2, none⟩ = false ∧ Row w3 bo (flAt S.files i).bys ∧ Row w3 ao p ∧ ∀ w5 u, Below w3.heap.size w3 w5 → Own w5 0 u ((flAt S.files i).bys ++ p) → (∀ b, u.ownBlock = some b → w3.heap.size ≤ b) → RAft w (w5.setCell ⟨gf, i * 2, none⟩ u) rp L (setFile i ⟨(flAt S.files i).bys ++ p, (flAt S.files i).syn⟩ (goneS S))) := fun w3 h3 f3 => by
          obtain ⟨gf', cf', bo', bc', z1, z2, z3, z4, z5, z6, z7⟩ := h3.file (i := i) (by rw [e4]; exact hil)
          rw [e4] at z1 z3 z4 z6
          rw [y1] at z1
          injection z1 with z1 _ z8
          injection z1 with z1
          injection z1 with z1 _ _
          subst z1; subst z8
          rw [y3] at z3
          injection z3 with z3
          injection z3 with z3 _ z9
          subst z3; subst z9
          have hfv3 : L.fv = .slice (some ⟨gf, 0, none⟩) (goneS S).files.length cf := by rw [e4]; exact y1
          refine ⟨by rw [← y1]; exact h3.c.2.1, z4, h3.ffrozen hfv3 _, z6, row_fr0 hp f3 hoff, fun w5 u b5 o5 n5 => ?_⟩
          have := h3.append hfv3 (i := i) (by rw [e4]; exact hil) b5 o5 n5
          rw [e4] at this
          exact this.after f3
        have HN := hide hn
        have HAL := hide hal
        unfold pf at *
        generalize setFile i ⟨(flAt S.files i).bys ++ p, (flAt S.files i).syn⟩ (goneS S) = S2 at *
        obtain ⟨bl, hbl⟩ : ∃ bl, bl = (flAt S.files i).bys.length := ⟨_, rfl⟩
        have HBL := hide hbl
        have HNA : Hid (bl + pl ≤ 4194304) := by show _ ≤ _; rw [hbl]; omega
        rw [← hbl] at HY HAL y4 hsum t1
        generalize (flAt S.files i).bys = xs at *
        generalize S.ops = o at *
        generalize sizes S.files S.dir = z at *
        generalize S.room = room at *
        generalize S.files.length = fl at *
        clear h hO hd hg c1 c3 c4 c6 hp hn hoff y1 y3 y5 y6 y7 hal hus hrm hA hB ho ha e1 e2 e3 e4 e5 hbl
        go_enter Try.func42, Try.ntmps42
        go_upto_region 7 with (first | (go_at_call 65; refine HF.out.mono ?_; rintro e w2 ⟨k, hk, rfl, hw⟩; have hw2 := hw.symm; subst hw2; obtain ⟨g, rfl, x2, x3, x4⟩ := HX.out k hk; have x5 : (k : Int) < (S.dir.length : Int) := (by omega); clear hk hw) | fail)
        go_quiet ((go_at_call 67; exact Calls.quiet_of (HU.out _)))
        go_upto_region 11 with (first | (go_at_call 70; refine (HG.out _).mono ?_; rintro e w3 ⟨rfl, h3, f3⟩; obtain ⟨k1, k2, k3, k4, k5, k6⟩ := HY.out w3 h3 f3; have K4 := hide k4; have K5 := hide k5; have K6 := hide k6; clear h3 f3 k4 k5 k6) | fail)
        have HE := hide (own_new w3 0 [] (Nat.zero_le _) (Nat.zero_le _))
        have HK4 := hide (K4.out.keep (below_new w3 (.cells #[] 5)))
        have l1 := cell_kept k1 (below_new w3 (.cells #[] 5))
        have l2 := cell_kept k2 (below_new w3 (.cells #[] 5))
        go_region_law (first
          | (refine law_appB rfl (.tmp 71) (.tmp 79) rfl (.slice (some ⟨w3.heap.size, 0, none⟩) 0 0) [] rfl HE.out bo bl bc xs HBL.out rfl HK4.out (by have := HAL.out; have := HBL.out; simp; omega) ?_; intro uao un ucap w4 h2 g2 l2; have HOU := hide (show Own w4 0 (.slice uao un ucap) xs from h2); have han := app_new (grown_undrew g2) l2; have HCUR := hide han.1; have HNG := hide han.2; have z1 := cell_kept k1 han.1; have z2 := cell_kept k2 han.1; clear h2 g2 l2 han)
          | (refine law_appB rfl (.tmp 80) (.tmp 81) rfl (.slice uao un ucap) xs rfl HOU.out ao pl pc p HN.out rfl (K5.out.keep HCUR.out) (by have := HNA.out; have := HBL.out; have := HN.out; omega) ?_; intro vao vn vcap w5 h2 g2 l2; have han := app_more HCUR.out HNG.out (by first | exact g2 | exact grown_undrew g2) l2; have m1 := cell_kept k1 han.1; have m2 := cell_kept k2 han.1; have m3 : w5.frozen? ⟨gf, i * 2, none⟩ = false := (frozen_kept k2 k3 han.1); have HFI := hide (K6.out w5 _ han.1 h2 han.2); clear h2 g2 l2 han))
        all_goals
          go_wp2_with fail
          go_ret
          first | exact ⟨rfl, HFI.out⟩ | exact ⟨rfl, HFI.out.drewN 1⟩
end Go.Proofs.Yticbfcognnofbaa
/- The contract of changes at an Append. -/
namespace Go.Proofs.Yticbfcognnofbaa
open Go.RowKit Go.Maps

theorem Both.onA2 {K : Nat → Prop} {w0 w : World} {dp rp : Nat} {A A' B : DS} {f : FuncId} {args : Array Value} {R : Ending → Prop} (h : Both K w0 w dp rp A B) (hc : ∀ G : Nat → Prop, (∀ g, K g → G g) → DskG G w0 w dp A → Calls Try.prog f args w fun e w' => R e ∧ DskG G w0 w' dp A' ∧ Held G w w') : Calls Try.prog f args w fun e w' => R e ∧ Both K w0 w' dp rp A' B ∧ Held K w w' := by
  obtain ⟨LA, LR, h1, h2, h3, h4⟩ := h.rep
  refine (hc (fun b => b ∈ LR.mut rp ++ LR.imm ∨ K b) (fun g hg => .inr hg) ⟨⟨LA, h1, fun b hb => ⟨(h3 b hb).1, fun hg => hg.elim (fun e => (h4 b e).2.2 hb) (h3 b hb).2⟩⟩, h.oka, h.bel, fun g hg => hg.elim (h2.lt g) (h.old g)⟩).mono fun e w' ⟨he, hd, hh⟩ => ⟨he, ?_, hh.1, fun g hg => hh.2 g (.inr hg)⟩
  obtain ⟨LA', k1, k2⟩ := hd.rep
  exact ⟨⟨LA', LR, k1, h2.keep (fun b hb => hh.2 b (.inl hb)), fun b hb => ⟨(k2 b hb).1, fun hk => (k2 b hb).2 (.inr hk)⟩, fun b hb => ⟨(h4 b hb).1, (h4 b hb).2.1, fun hm => (k2 b hm).2 (.inl hb)⟩⟩, hd.ok, h.okb, hd.bel, fun g hg => hd.old g (.inr hg)⟩
/-- A block that is none of theirs, written over. -/
theorem Both.fr {K : Nat → Prop} {w0 w w' : World} {dp rp g : Nat} {A B : DS} (h : Both K w0 w dp rp A B) (hf : Fr [g] w w') (hk : K g) (hg : w0.heap.size ≤ g) : Both K w0 w' dp rp A B := by
  obtain ⟨LA, LR, h1, h2, h3, h4⟩ := h.rep
  refine ⟨⟨LA, LR, h1.apart hf (fun b hb hm => ?_), h2.keep (fun b hb => hf.block b (h2.lt b hb) (fun hm => ?_)), h3, h4⟩, h.oka, h.okb, h.bel.trans (hf.below w0.heap.size h.bel.size (fun x hx => ?_)), fun k hk => Nat.lt_of_lt_of_le (h.old k hk) hf.size⟩
  · rw [List.mem_singleton.1 hm] at hb; exact (h3 g hb).2 hk
  · rw [List.mem_singleton.1 hm] at hb; exact (h4 g hb).2.1 hk
  · rw [List.mem_singleton.1 hx]; exact hg
theorem fr_cell {fp : List Nat} {w w' : World} (hf : Fr fp w w') {a : Addr} {v : Value} (hc : w.cell? a = some v) (hn : a.block ∉ fp) : w'.cell? a = some v := by
  rw [World.cell?_of_block (hf.block a.block (World.block_lt_of_cell? w _ hc) hn)]
  exact hc
theorem own_poke {w : World} {g m cap : Nat} {xs : List Nat} (ho : Own w 0 (.slice (some ⟨g, 0, none⟩) m cap) xs) (j x : Nat) : Own (w.setCell ⟨g, j, none⟩ (.int .u8 (x : Int))) 0 (.slice (some ⟨g, 0, none⟩) m cap) (xs.set j x) := by
  obtain ⟨ao, c, e, _, _⟩ := ho.read
  injection e with e1 e2 e3
  subst e1; subst e2; subst e3
  have := (World.ownsRow.stored ho j (.int .u8 (x : Int))).1
  unfold Own
  rw [List.length_set, List.map_set]
  exact this
theorem row_lt {w : World} {ao : Option Addr} {xs : List Nat} (h : Row w ao xs) (hne : xs ≠ []) : ∀ a, ao = some a → a.block < w.heap.size := by
  intro a ha
  rcases h with h | ⟨b, off, e, hc⟩
  · exact absurd h hne
  · rw [e] at ha
    injection ha with ha
    rw [← ha]
    exact World.block_lt_of_cell? w _ (hc 0 (List.length_pos_iff.2 hne))
theorem bstr_more (p : List Nat) : bstr (p ++ [1, 2, 3]) = bstr p ++ ⟨#[1, 2, 3]⟩ := by
  apply ByteArray.ext
  simp [bstr, ByteArray.data_append]
theorem row_three (w : World) : Row (w.alloc (.cells #[.int .u8 1, .int .u8 2, .int .u8 3] 5)) (some ⟨w.heap.size, 0, none⟩) [1, 2, 3] := by
  have hB := Bl.new w #[.int .u8 1, .int .u8 2, .int .u8 3] 5
  refine .inr ⟨w.heap.size, 0, rfl, fun i hi => ?_⟩
  rw [Nat.zero_add, hB.cell i]
  match i, hi with
  | 0, _ => rfl
  | 1, _ => rfl
  | 2, _ => rfl
set_option maxHeartbeats 8000000 in
set_option maxRecDepth 100000 in
theorem changes_append {w0 w : World} {dp rp : Nat} {S : DS} (x : Ac) (pao tao : Option Addr) (pl pc tl tc : Nat) (h : Both NoK w0 w dp rp S S) (hx : AOk x) (hk2 : x.kind = 2) (hpl : pl = x.p.length) (hr : Row w0 pao x.p) :
    Calls Try.prog 13 #[.pointer (some ⟨dp, 0, none⟩), .pointer (some ⟨rp, 0, none⟩), .agg #[.int .i64 x.kind, .string (str x.nm), .string (str x.tn), .slice pao pl pc, .int .i64 x.n, .int .i64 x.dir, .slice tao tl tc]] w fun e w' => e = .returned (.bool true) ∧ Both NoK w0 w' dp rp (act S x) (act S x) := by
  obtain ⟨snm, hsnm⟩ : ∃ s, s = str x.nm := ⟨_, rfl⟩
  obtain ⟨T, hT⟩ : ∃ T, T = act S x := ⟨_, rfl⟩
  have HT : Hid (T = (append S x.nm x.p).2) := by show _ = _; rw [hT]; unfold act; rw [hk2]; rfl
  rw [← hsnm, ← hT, hk2]
  have HSNM := hide hsnm
  have HX := hide hx
  have HPL := hide hpl
  have HR := hide hr
  generalize str x.tn = stn at *
  have HV := hide (Bl.new w #[.int .i64 2, .string snm, .string stn, .slice pao pl pc, .int .i64 x.n, .int .i64 x.dir, .slice tao tl tc] 41)
  have HBV := hide (below_new w (.cells #[.int .i64 2, .string snm, .string stn, .slice pao pl pc, .int .i64 x.n, .int .i64 x.dir, .slice tao tl tc] 41))
  have HH := hide h
  have HRV := hide ((hr.keep h.bel).keep HBV.out)
  clear hsnm hT hx hk2 hpl hr h
  go_enter Try.func13, Try.ntmps13
  go_upto_region 1 with fail
  obtain ⟨M, hM⟩ : ∃ M, M = w.heap.size := ⟨_, rfl⟩
  rw [← hM] at HV ⊢
  have HM := hide hM
  clear hM
  generalize w.alloc (.cells #[.int .i64 2, .string snm, .string stn, .slice pao pl pc, .int .i64 x.n, .int .i64 x.dir, .slice tao tl tc] 41) = wv at *
  have v0 : wv.cell? ⟨M, 0, none⟩ = some (.int .i64 2) := HV.out.cell 0
  have v1 : wv.cell? ⟨M, 1, none⟩ = some (.string snm) := HV.out.cell 1
  have v3 : wv.cell? ⟨M, 3, none⟩ = some (.slice pao pl pc) := HV.out.cell 3
  have HE := hide (own_new wv 0 [] (Nat.zero_le _) (Nat.zero_le _))
  have HRE := hide (HRV.out.keep (below_new wv (.cells #[] 5)))
  have z1 := cell_kept v1 (below_new wv (.cells #[] 5))
  have z3 := cell_kept v3 (below_new wv (.cells #[] 5))
  go_upto_region 6 with (first
    | (at_builtin; refine wpList_append_bytes_at rfl _ _ rfl (.slice (some ⟨wv.heap.size, 0, none⟩) 0 0) [] rfl HE.out pao pl pc x.p HPL.out rfl HRE.out (by have := HX.out.pl; simp; omega) ?_; intro v' w3 h3 g3 l3; obtain ⟨uao, un, ucap, rfl⟩ := own_shape h3; have hann := app_new g3 l3; have HCUR := hide hann.1; have HNG := hide hann.2; have HOU := hide ((show Own w3 0 (.slice uao un ucap) x.p from h3).keep (below_new w3 (.cells #[.int .u8 1, .int .u8 2, .int .u8 3] 5))); have HR3 := hide (row_three w3); clear h3 g3 l3 hann)
    | (at_builtin; refine wpList_append_bytes_at rfl _ _ rfl (.slice uao un ucap) x.p rfl HOU.out (some ⟨w3.heap.size, 0, none⟩) 3 3 [1, 2, 3] rfl rfl HR3.out (by have := HX.out.pl; simp; omega) ?_; intro v5 w5 h5 g5 l5; obtain ⟨qao, qn, qcap, rfl⟩ := own_shape h5; have hann := app_more (HCUR.out.trans ((below_new w3 (.cells #[.int .u8 1, .int .u8 2, .int .u8 3] 5)).mono HCUR.out.size)) HNG.out g5 l5; have HQ := hide h5; have HB5 := hide hann.1; have HN5 := hide hann.2; clear h5 g5 l5 hann) | fail)
  have m1 := cell_kept v1 HB5.out
  have m3 := cell_kept v3 HB5.out
  have HBW : Hid (Below w.heap.size w w5) := HBV.out.trans (HB5.out.mono HBV.out.size)
  obtain ⟨g, qcap', e, hle, -, hrow⟩ := HQ.out.readSome (by simp)
  injection e with e1 e2 e3
  subst e1; subst e3
  have hqn : qn = pl + 3 := by rw [e2, HPL.out]; simp
  rw [← e2] at hle
  have HQN := hide hqn
  have HGN := hide (HN5.out g rfl)
  have hgl : g < w5.heap.size := (World.ownsRow.lt HQ.out g rfl).2
  obtain ⟨K, hK⟩ : ∃ K : Nat → Prop, K = fun b => w.heap.size ≤ b ∧ b < w5.heap.size := ⟨_, rfl⟩
  have HKM : Hid (K M) := by
    have h1 := HV.out.lt
    have h2 := HB5.out.size
    have h3 := HM.out
    rw [hK]; show _ ∧ _; omega
  have HKG : Hid (K g) := by
    have h1 := HBV.out.size
    have h2 := HGN.out
    rw [hK]; show _ ∧ _; omega
  have HG : Hid (Both K w0 w5 dp rp S S) := by rw [hK]; exact HH.out.guard HBW.out
  have HGW : Hid (w0.heap.size ≤ g) := by
    have h1 := HBV.out.size
    have h2 := HGN.out
    have h3 := HH.out.bel.size
    show _ ≤ _; omega
  have HMG : Hid (M ≠ g) := by
    have h1 := HV.out.lt
    have h2 := HGN.out
    intro e; omega
  have HRW : Hid (Row w5 (some ⟨g, 0, none⟩) x.p) := hrow.take
  have hsl : (pl : Int) ≤ (qcap : Int) := by omega
  have HA : Hid (∀ W, Both K w0 W dp rp S S → Row W (some ⟨g, 0, none⟩) x.p → Calls Try.prog 29 #[.pointer (some ⟨dp, 0, none⟩), .string snm, .slice (some ⟨g, 0, none⟩) pl qcap] W fun e w' => e = .returned (.int .i64 ((append S x.nm x.p).1 : Int)) ∧ Both K w0 w' dp rp T S ∧ Held K W w') := fun W hW hRw => by
    rw [HT.out, HSNM.out]
    refine hW.onA2 (R := fun e => e = _) (fun G hKG hg => ?_)
    obtain ⟨L, h1, h2⟩ := hg.rep
    refine (append_any dp S.files.length S L x.nm (some ⟨g, 0, none⟩) pl qcap x.p W h1 hg.ok HX.out.nm HPL.out hRw (fun a ha hm => (h2 _ hm).2 (hKG _ (by injection ha with ha; rw [← ha]; exact HKG.out))) (by have := HX.out.pl; have := HPL.out; omega)).mono fun e w' ⟨he, hA⟩ => ⟨he, hg.aft h2 (by rw [append_files]; exact hA) (ok_append hg.ok x.nm x.p HX.out.pb)⟩
  have HB : Hid (∀ W, Both K w0 W dp rp T S → Calls Try.prog 42 #[.pointer (some ⟨rp, 0, none⟩), .string snm, .slice pao pl pc] W fun e w' => e = .returned (.int .i64 ((append S x.nm x.p).1 : Int)) ∧ Both K w0 w' dp rp T T ∧ Held K W w') := fun W hW => by
    rw [HT.out] at hW ⊢
    rw [HSNM.out]
    exact hW.onB (R := fun e => e = _) (ok_append hW.okb x.nm x.p HX.out.pb) (fun L hL hLw => eappend_off rp S L x.nm pao pl pc x.p W hL hW.okb HPL.out (HR.out.keep hW.bel) (fun hne a ha hm => by have h1 := row_lt HR.out hne a ha; have h2 := (hLw _ (List.mem_append.2 (.inl hm))).1; omega) (by rw [HPL.out]; exact HX.out.pl))
  generalize (append S x.nm x.p).1 = code at *
  clear hK e2 hle hrow hgl z1 z3 v0 v1 v3 HE HRE HCUR HNG HOU HR3 hqn
  go_region_held (fun W => W.cell? ⟨M, 1, none⟩ = some (.string snm) ∧ W.cell? ⟨M, 3, none⟩ = some (.slice pao pl pc)) (go_keep) (first | (go_at_call 29; refine (HA.out _ (HG.out.drewN 1) HRW.out).mono ?_; rintro e w6 ⟨rfl, b6, k6⟩; have HB6 := hide b6; have d1 := held_cell (w := w5.drew) k6 m1 HKM.out; have d3 := held_cell (w := w5.drew) k6 m3 HKM.out; have HO6 := hide ((Held.own (w := w5.drew) k6 HQ.out (fun b hb => by injection hb with hb; rw [← hb]; exact HKG.out))); clear b6 k6))
  have c1 : (convert 36 9 (.slice (some ⟨g, 0, none⟩) qn qcap)).run Try.prog w6 = .ok (.string (bstr x.p ++ ⟨#[1, 2, 3]⟩)) w6 := by
    obtain ⟨ao, c, e, _, hr6⟩ := Own.read HO6.out
    injection e with e1 e2 e3
    rw [← bstr_more, e2, e1]
    exact conv_row qcap hr6
  have c2 : (convert 36 9 (.slice pao pl pc)).run Try.prog w6 = .ok (.string (bstr x.p)) w6 := by
    rw [HPL.out]
    exact conv_row pc (HR.out.keep HB6.out.bel)
  have hts : (bstr x.p).size + 3 ≤ 9223372036854775807 := by
    have h1 : (bstr x.p).size = x.p.length := by show (bstr x.p).data.size = _; simp [bstr]
    have h2 := HX.out.pl
    omega
  have hts2 : ¬ 9223372036854775807 < (bstr x.p).size + 3 := by omega
  have hts3 : ¬ 9223372036854775807 < (bstr x.p).size + ByteArray.size ⟨#[1, 2, 3]⟩ := hts2
  generalize bstr x.p = t at *
  have HQL : Hid (qn ≤ 4611686018427387000) := by
    have h1 := HX.out.pl
    have h2 := HPL.out
    have h3 := HQN.out
    show _ ≤ _; omega
  have HO7 : Hid (∃ xs, Own w6 0 (.slice (some ⟨g, 0, none⟩) qn qcap) xs) := ⟨_, HO6.out⟩
  clear HA HG m1 m3 HQ HO6 HRW hsl
  go_upto_region 8 with fail
  clear c1 c2 hts hts2 hts3
  go_wp2_with fail
  go_loopw [10] (fun i wr => ∃ q : Nat, q ≤ qn ∧ i = .int .i64 (q : Int) ∧ Hid (∃ xs, Own wr 0 (.slice (some ⟨g, 0, none⟩) qn qcap) xs) ∧ Hid (Fr [g] w6 wr)) (fun i _ => qn - (intOf i).toNat)
  case atStart => exact ⟨0, Nat.zero_le _, rfl, HO7, Fr.refl _ _⟩
  case round =>
    obtain ⟨q, hq, rfl, HO, HF⟩ := hrel
    by_cases hlt : q < qn
    · obtain ⟨xs, ho⟩ := HO.out
      obtain ⟨⟨y, k1⟩, k2, k3⟩ := row_byte ho hlt
      have HP : Hid (∃ xs, Own (wr.setCell ⟨g, q, none⟩ (.int .u8 238)) 0 (.slice (some ⟨g, 0, none⟩) qn qcap) xs) := ⟨_, own_poke ho q 238⟩
      have HF2 : Hid (Fr [g] w6 (wr.setCell ⟨g, q, none⟩ (.int .u8 238))) := HF.out.trans (Fr.setCell [g] wr g q _ (List.mem_singleton.2 rfl)) (fun y hy => .inl hy)
      have hqi : (q : Int) < (qn : Int) := by omega
      clear ho d1 d3
      go_upto_region 10 with fail
      clear hqi k1 k2 k3
      have hqb : (q : Int) + 1 ≤ 4611686018427387904 := by have := HQL.out; omega
      go_wp2_with fail
      go_roundw
      case rel => exact ⟨q + 1, by omega, by simp, HP, HF2⟩
      case measure => simp [intOf]; omega
    · have hqi : ¬ (q : Int) < (qn : Int) := by omega
      have e1 := fr_cell HF.out d1 (fun hm => HMG.out (List.mem_singleton.1 hm))
      have e3 := fr_cell HF.out d3 (fun hm => HMG.out (List.mem_singleton.1 hm))
      have HB7 := hide (HB6.out.fr HF.out HKG.out HGW.out)
      clear d1 d3 HB6 HF HO HO7
      go_upto_region 12 with fail
      go_region_held (fun W => W.cell? ⟨M, 1, none⟩ = some (.string snm) ∧ W.cell? ⟨M, 3, none⟩ = some (.slice pao pl pc)) (go_keep) (first | (go_at_call 9; refine (num_any _ _).mono ?_; rintro e wx ⟨rfl, hwx⟩; subst hwx) | (go_at_call 42; refine (HB.out _ (HB7.out.drewN 1)).mono ?_; rintro e w8 ⟨rfl, b8, k8⟩; have HB8 := hide b8; have f1 := held_cell (w := wr.drew) k8 e1 HKM.out; have f3 := held_cell (w := wr.drew) k8 e3 HKM.out; clear b8 k8))
      all_goals
        go_wp2_with fail
        go_ret
        exact ⟨rfl, HB8.out.noK⟩
end Go.Proofs.Yticbfcognnofbaa
/- The walk of the law DiskSteps. -/
namespace Go.Proofs.Yticbfcognnofbaa
open Go.RowKit Go.Maps

theorem changes_any {w0 w : World} {dp rp : Nat} {S : DS} (x : Ac) (pao tao : Option Addr) (pl pc tl tc : Nat) (h : Both NoK w0 w dp rp S S) (hx : AOk x) (hpl : pl = x.p.length) (hr : Row w0 pao x.p) :
    Calls Try.prog 13 #[.pointer (some ⟨dp, 0, none⟩), .pointer (some ⟨rp, 0, none⟩), .agg #[.int .i64 x.kind, .string (str x.nm), .string (str x.tn), .slice pao pl pc, .int .i64 x.n, .int .i64 x.dir, .slice tao tl tc]] w fun e w' => e = .returned (.bool true) ∧ Both NoK w0 w' dp rp (act S x) (act S x) := by
  by_cases hk : x.kind = 2
  · exact changes_append x pao tao pl pc tl tc h hx hk hpl hr
  · exact changes_plain x pao tao pl pc tl tc h hx hk
set_option maxHeartbeats 4000000 in
set_option maxRecDepth 100000 in
theorem diskSteps_walk (fao : Option Addr) (fn fc : Nat) (fs : List Fi) (room : Int) (aao : Option Addr) (an ac : Nat) (l : List Ac) (w : World) (hf : FSee w fao fs) (hfn : fn = fs.length) (hfl : fn * 40 ≤ 140737488351232) (hfs : ∀ f ∈ fs, f.1.length ≤ maxLen ∧ f.1.length ≤ 281474976710656 ∧ f.2.length ≤ 140737488355328) (hfx : ∀ f ∈ fs, f.2.length ≤ 140737488351232) (hfb : ∀ f ∈ fs, ∀ x ∈ f.2, x < 256) (hr : room ≤ 9223372036854775807)
    (ha : ASee w aao l) (han : an = l.length) (hal : an * 104 ≤ 140737488351232) (hao : ∀ x ∈ l, AOk x) :
    Calls Try.prog 6 #[.agg #[.slice fao fn fc, .int .i64 room, .slice aao an ac]] w fun e w' => e = .returned (.bool true) ∧ Below w.heap.size w w' := by
  have HB := hide (Bl.new w #[.slice fao fn fc, .int .i64 room, .slice aao an ac] 28)
  have HU := hide (below_new w (.cells #[.slice fao fn fc, .int .i64 room, .slice aao an ac] 28))
  have HA := hide (ha.keep HU.out)
  have HBG := hide (begin_any fao fn fc fs room (.slice aao an ac) aao an ac rfl (w.alloc (.cells #[.slice fao fn fc, .int .i64 room, .slice aao an ac] 28)) (hf.keep HU.out) hfn hfl hfs hfx hfb hr)
  have HLV : Hid (∀ W, Calls Try.prog 10 #[] W fun e w' => e = .returned (.bool true) ∧ Below W.heap.size W w') := fun W => live_true W
  have HAN := hide han
  have HAL := hide hal
  have HAO := hide hao
  clear hf hfn hfl hfs hfx hfb hr ha han hal hao
  by_cases h0 : newErr fs room = 0
  · simp only [if_pos h0] at HBG
    generalize born fs room.toNat = S0 at *
    clear h0
    go_enter Try.func6, Try.ntmps6
    go_upto_region 1 with fail
    obtain ⟨N, hN⟩ : ∃ N, N = w.heap.size := ⟨_, rfl⟩
    rw [← hN] at HB ⊢
    clear hN
    generalize w.alloc (.cells #[.slice fao fn fc, .int .i64 room, .slice aao an ac] 28) = u at *
    have c0 : u.cell? ⟨N, 0, none⟩ = some (.slice fao fn fc) := HB.out.cell 0
    have c1 : u.cell? ⟨N, 1, none⟩ = some (.int .i64 room) := HB.out.cell 1
    have c2 : u.cell? ⟨N, 2, none⟩ = some (.slice aao an ac) := HB.out.cell 2
    go_wp2_with (first | (go_at_call 11; refine HBG.out.mono ?_; rintro e w2 ⟨dp, rp, rfl, h2⟩; have H2 := hide h2; clear h2) | (go_at_call 10; refine (HLV.out _).mono ?_; rintro e w3 ⟨rfl, b3⟩; have H3 := hide (H2.out.below b3); clear b3) | fail)
    clear c0 c1 H2 HBG HLV
    go_loopw [6] (fun i wr => ∃ k : Nat, k ≤ an ∧ i = .int .i64 (k : Int) ∧ Hid (Both NoK u wr dp rp (acts S0 (l.take k)) (acts S0 (l.take k)))) (fun i _ => an - (intOf i).toNat)
    case atStart => exact ⟨0, Nat.zero_le _, rfl, H3.out⟩
    case round =>
      clear H3
      obtain ⟨k, hk, rfl, HK⟩ := hrel
      have n2 := cell_kept c2 HK.out.bel
      clear c2
      by_cases hlt : k < an
      · obtain ⟨x, hx⟩ : ∃ x, l[k]? = some x := ⟨_, List.getElem?_eq_getElem (by rw [← HAN.out]; exact hlt)⟩
        obtain ⟨ab, aoff, pao, pc, tao, tc, rfl, x0, x1, x2, x3, x4, x5, x6, x8, x9⟩ := (HA.out.keep HK.out.bel).cell k x hx
        have hrow : Row u pao x.p := by
          obtain ⟨ab', aoff', pao', pc', tao', tc', y0, y1, y2, y3, y4, y5, y6, y7, y8, y9⟩ := HA.out.cell k x hx
          injection y0 with y0
          injection y0 with y0a y0b
          subst y0a; subst y0b
          have := cell_kept y4 HK.out.bel
          rw [x3] at this
          injection this with this
          injection this with this _ _
          rw [this]
          exact y8
        have HX := hide (HAO.out x (List.mem_of_getElem? hx))
        have HCH := hide (changes_any x pao tao x.p.length pc x.ts.length tc HK.out HX.out rfl hrow)
        have HTK : Hid (acts S0 (l.take (k + 1)) = act (acts S0 (l.take k)) x) := acts_take hx
        generalize act (acts S0 (l.take k)) x = T at *
        generalize str x.nm = snm at *
        generalize str x.tn = stn at *
        generalize x.p.length = pl at *
        generalize x.ts.length = tl at *
        have hki : (k : Int) < (an : Int) := by omega
        have HKB : Hid ((k : Int) + 1 ≤ 4611686018427387904) := by show _ ≤ _; have := HAL.out; omega
        clear hx x8 x9 hrow HK
        go_upto_region 6 with (first | (go_at_call 13; refine HCH.out.mono ?_; rintro e w4 ⟨rfl, b4⟩; have H4 := hide b4; clear b4) | (go_at_call 12; refine (all_true H4.out).mono ?_; rintro e w5 ⟨rfl, b5⟩; have H5 := hide (H4.out.below b5); clear b5) | fail)
        clear x0 x1 x2 x3 x4 x5 x6 hki n2
        have hkb := HKB.out
        go_wp2_with fail
        go_roundw
        case rel => exact ⟨k + 1, by omega, by simp, by rw [HTK.out]; exact H5.out⟩
        case measure => simp [intOf]; omega
      · have hki : ¬ (k : Int) < (an : Int) := by omega
        have HY : Hid (Below w.heap.size w wr) := HU.out.trans (HK.out.bel.mono HU.out.size)
        go_wp2_with fail
        go_ret
        exact ⟨rfl, HY.out⟩
  · simp only [if_neg h0] at HBG
    clear h0
    go_enter Try.func6, Try.ntmps6
    go_wp2_with (first | (go_at_call 11; refine HBG.out.mono ?_; rintro e w2 ⟨rfl, b2⟩; have B2 := hide b2; clear b2) | (go_at_call 10; refine (HLV.out _).mono ?_; rintro e w3 ⟨rfl, b3⟩; have B3 := hide (B2.out.trans (b3.mono B2.out.size)); clear b3) | fail)
    go_wp2_with (first | (go_at_call 10; refine (HLV.out _).mono ?_; rintro e w4 ⟨rfl, b4⟩; have B4 := hide (B3.out.trans (b4.mono B3.out.size)); clear b4) | fail)
    go_ret
    exact ⟨rfl, HU.out.trans (B4.out.mono HU.out.size)⟩
end Go.Proofs.Yticbfcognnofbaa
/- The contract of asks: a call that tells, where nothing is handed out. -/
namespace Go.Proofs.Yticbfcognnofbaa
open Go.RowKit Go.Maps

set_option maxHeartbeats 8000000 in
set_option maxRecDepth 100000 in
theorem asks_small {w0 w : World} {dp rp : Nat} {S : DS} (kd : Int) (snm stn : ByteArray) (pao tao : Option Addr) (pl pc tl tc : Nat) (n dir : Int) (h : Both NoK w0 w dp rp S S) (h7 : ¬ kd = 7) (h8 : ¬ kd = 8) (h12 : ¬ kd = 12) (h13 : ¬ kd = 13) :
    Calls Try.prog 14 #[.pointer (some ⟨dp, 0, none⟩), .pointer (some ⟨rp, 0, none⟩), .agg #[.int .i64 kd, .string snm, .string stn, .slice pao pl pc, .int .i64 n, .int .i64 dir, .slice tao tl tc]] w fun e w' => e = .returned (.bool true) ∧ Below w.heap.size w w' := by
  have HV := hide (Bl.new w #[.int .i64 kd, .string snm, .string stn, .slice pao pl pc, .int .i64 n, .int .i64 dir, .slice tao tl tc] 41)
  have HBV := hide (below_new w (.cells #[.int .i64 kd, .string snm, .string stn, .slice pao pl pc, .int .i64 n, .int .i64 dir, .slice tao tl tc] 41))
  have HG := hide (h.below HBV.out)
  have hkd : kd = 9 ∨ kd = 11 ∨ kd = 14 ∨ (¬ kd = 7 ∧ ¬ kd = 8 ∧ ¬ kd = 9 ∧ ¬ kd = 11 ∧ ¬ kd = 12 ∧ ¬ kd = 13 ∧ ¬ kd = 14) := by omega
  have HKD := hide hkd
  clear h h7 h8 h12 h13 hkd
  go_enter Try.func14, Try.ntmps14
  go_upto_region 1 with fail
  obtain ⟨M, hM⟩ : ∃ M, M = w.heap.size := ⟨_, rfl⟩
  rw [← hM] at HV ⊢
  clear hM
  generalize w.alloc (.cells #[.int .i64 kd, .string snm, .string stn, .slice pao pl pc, .int .i64 n, .int .i64 dir, .slice tao tl tc] 41) = wv at *
  have v0 : wv.cell? ⟨M, 0, none⟩ = some (.int .i64 kd) := HV.out.cell 0
  rcases HKD.out with hkd | hkd | hkd | hkd
  · rw [hkd] at v0
    clear hkd
    have HF1 : Hid (Calls Try.prog 36 #[.pointer (some ⟨dp, 0, none⟩)] wv fun e w' => e = .returned (.int .i64 (if S.dead then 0 else (S.room : Int) - (sizes S.files S.dir : Int))) ∧ Below wv.heap.size wv w') := both_free HG.out
    have HF2 : Hid (∀ W, Below wv.heap.size wv W → Calls Try.prog 37 #[.pointer (some ⟨rp, 0, none⟩)] W fun e w' => e = .returned (.int .i64 (if S.dead then 0 else (S.room : Int) - (sizes S.files S.dir : Int))) ∧ Below wv.heap.size wv w') := fun W hW => (both_free2 (HG.out.below hW)).mono fun e w' ⟨a, b⟩ => ⟨a, hW.trans (b.mono hW.size)⟩
    generalize (if S.dead then 0 else (S.room : Int) - (sizes S.files S.dir : Int)) = fr at *
    go_wp2_with (first | (go_at_call 36; refine HF1.out.mono ?_; rintro e w1 ⟨rfl, b1⟩; have HB1 := hide b1; clear b1) | (go_at_call 37; refine (HF2.out _ HB1.out).mono ?_; rintro e w2 ⟨rfl, b2⟩; have HB2 := hide b2; clear b2) | fail)
    go_ret
    exact ⟨rfl, HBV.out.trans (HB2.out.mono HBV.out.size)⟩
  · rw [hkd] at v0
    clear hkd
    have HD1 : Hid (∀ W, Below wv.heap.size wv W → Calls Try.prog 16 #[.pointer (some ⟨dp, 0, none⟩)] W fun e w' => e = .returned (.bool S.dead) ∧ w' = W) := fun W hW => dead_dsk (HG.out.below hW).dsk
    have r7 : wv.cell? ⟨rp, 7, none⟩ = some (.bool S.dead) := HG.out.cells.2.1
    generalize S.dead = dd at *
    go_upto_region 22 with fail
    go_region_held (fun W => W.cell? ⟨rp, 7, none⟩ = some (.bool dd)) (go_keep) (first | (go_at_call 16; refine (HD1.out _ (below_drewN (Below.refl _ _) 1)).mono ?_; rintro e w1 ⟨rfl, hw1⟩; subst hw1))
    all_goals
      go_wp2_with fail
      go_ret
      exact ⟨rfl, below_drewN HBV.out 1⟩
  · rw [hkd] at v0
    clear hkd
    have HD1 : Hid (∀ W, Below wv.heap.size wv W → Calls Try.prog 19 #[.pointer (some ⟨dp, 0, none⟩)] W fun e w' => e = .returned (.int .i64 (S.ops : Int)) ∧ w' = W) := fun W hW => count_dsk (HG.out.below hW).dsk
    have r7 : wv.cell? ⟨rp, 5, none⟩ = some (.int .i64 (S.ops : Int)) := HG.out.cells.1
    generalize (S.ops : Int) = dd at *
    go_upto_region 35 with fail
    go_region_held (fun W => W.cell? ⟨rp, 5, none⟩ = some (.int .i64 dd)) (go_keep) (first | (go_at_call 19; refine (HD1.out _ (below_drewN (Below.refl _ _) 1)).mono ?_; rintro e w1 ⟨rfl, hw1⟩; subst hw1))
    all_goals
      go_wp2_with fail
      go_ret
      exact ⟨rfl, below_drewN HBV.out 1⟩
  · obtain ⟨q1, q2, q3, q4, q5, q6, q7⟩ := hkd
    have b1 : (kd == 7) = false := by rw [beq_eq_false_iff_ne]; exact q1
    have b2 : (kd == 8) = false := by rw [beq_eq_false_iff_ne]; exact q2
    have b3 : (kd == 9) = false := by rw [beq_eq_false_iff_ne]; exact q3
    have b4 : (kd == 11) = false := by rw [beq_eq_false_iff_ne]; exact q4
    have b5 : (kd == 12) = false := by rw [beq_eq_false_iff_ne]; exact q5
    have b6 : (kd == 13) = false := by rw [beq_eq_false_iff_ne]; exact q6
    have b7 : (kd == 14) = false := by rw [beq_eq_false_iff_ne]; exact q7
    go_wp2_with fail
    go_ret
    exact ⟨rfl, HBV.out⟩
end Go.Proofs.Yticbfcognnofbaa
/- The contract of asks: Read and List, and what they handed out is written over. -/
namespace Go.Proofs.Yticbfcognnofbaa
open Go.RowKit Go.Maps

theorem orow_cell {w : World} {e : TypeId} {g n cap : Nat} {cs : List Value} (h : w.ownsRow 0 e 1 (.slice (some ⟨g, 0, none⟩) n cap) n cs) {q : Nat} (hq : q < n) : (∃ u, w.cell? ⟨g, q, none⟩ = some u) ∧ w.frozen? ⟨g, q, none⟩ = false ∧ n ≤ cap := by
  have hl : q < cs.length := by have := h.1; omega
  have h1 := World.ownsRow.cells h (g := g) rfl q _ (List.getElem?_eq_getElem hl)
  have hadd : (⟨g, 0, none⟩ : Addr).add q = ⟨g, 0 + q, none⟩ := by unfold Addr.add; split <;> simp_all
  rw [hadd, Nat.zero_add] at h1
  rcases h.2 with ⟨e, _⟩ | ⟨g', cap', cur, e, _, hgg, hc, _⟩
  · cases e
  · injection e with e _ e3
    injection e with e
    injection e with e _ _
    subst e
    exact ⟨⟨_, h1⟩, frozen_of_row w g _ _ _ hgg, by omega⟩
theorem orow_some {w : World} {e : TypeId} {ao : Option Addr} {n cap : Nat} {cs : List Value} (h : w.ownsRow 0 e 1 (.slice ao n cap) n cs) (hn : 0 < n) : ∃ g, ao = some ⟨g, 0, none⟩ := by
  rcases h.2 with ⟨_, e⟩ | ⟨g', cap', cur, e, _⟩
  · omega
  · injection e with e _ _
    exact ⟨g', e⟩
theorem own_none (w : World) : Own w 0 (.slice none 0 0) [] := ⟨by simp, .inl ⟨rfl, rfl⟩⟩
/-- What Read tells. -/
def rdx (S : DS) (nm : Nm) : List Nat × Int := match (if S.dead then none else dget nm S.dir) with
  | none => ([], if S.dead then 51 else 7)
  | some i => ((flAt S.files i).bys, 0)
theorem rdx_len {S : DS} (hO : Ok S) (nm : Nm) : (rdx S nm).1.length ≤ 4194304 := by
  unfold rdx
  split
  · simp
  · exact (Fok.at hO.file _).len
def RdPost (S : DS) (nm : Nm) (w : World) (e : Ending) (w' : World) : Prop := ∃ ao n cap, e = .returned (.tuple #[.slice ao n cap, .int .i64 (rdx S nm).2]) ∧ Own w' 0 (.slice ao n cap) (rdx S nm).1 ∧ n = (rdx S nm).1.length ∧ (∀ g, (Value.slice ao n cap).ownBlock = some g → w.heap.size ≤ g) ∧ Below w.heap.size w w'
theorem rd_post {S : DS} {nm : Nm} {w w' : World} {e : Ending} (h : (match (if S.dead then none else dget nm S.dir) with
      | none => e = .returned (.tuple #[.slice none 0 0, .int .i64 (if S.dead then 51 else 7)])
      | some i => ∃ v, e = .returned (.tuple #[v, .int .i64 0]) ∧ Own w' 0 v (flAt S.files i).bys ∧ (∀ g, v.ownBlock = some g → w.heap.size ≤ g)) ∧ Below w.heap.size w w') : RdPost S nm w e w' := by
  obtain ⟨h1, h2⟩ := h
  unfold RdPost rdx
  generalize (if S.dead then none else dget nm S.dir) = o at h1 ⊢
  cases o with
  | none => exact ⟨none, 0, 0, h1, own_none w', rfl, (fun g hg => by cases hg), h2⟩
  | some i =>
    obtain ⟨v, a, b, c⟩ := h1
    obtain ⟨ao, cap, rfl, -, -⟩ := b.read
    exact ⟨ao, _, cap, a, b, rfl, c, h2⟩
theorem both_read {K : Nat → Prop} {w0 w : World} {dp rp : Nat} {A B : DS} (h : Both K w0 w dp rp A B) (nm : Nm) (hl : nm.length ≤ maxLen) : Calls Try.prog 24 #[.pointer (some ⟨dp, 0, none⟩), .string (str nm)] w (RdPost A nm w) := by
  obtain ⟨LA, LR, h1, h2, h3, h4⟩ := h.rep
  exact (read_any dp _ A LA nm w h1 h.oka hl).mono fun e w' hp => rd_post hp
theorem both_read2 {K : Nat → Prop} {w0 w : World} {dp rp : Nat} {A B : DS} (h : Both K w0 w dp rp A B) (nm : Nm) : Calls Try.prog 50 #[.pointer (some ⟨rp, 0, none⟩), .string (str nm)] w (RdPost B nm w) := by
  obtain ⟨LA, LR, h1, h2, h3, h4⟩ := h.rep
  exact (eread_any rp B LR nm w h2 h.okb).mono fun e w' hp => rd_post hp
set_option maxHeartbeats 8000000 in
set_option maxRecDepth 100000 in
theorem asks_read {w0 w : World} {dp rp : Nat} {S : DS} (nm : Nm) (stn : ByteArray) (pao tao : Option Addr) (pl pc tl tc : Nat) (n dir : Int) (h : Both NoK w0 w dp rp S S) (hl : nm.length ≤ maxLen) :
    Calls Try.prog 14 #[.pointer (some ⟨dp, 0, none⟩), .pointer (some ⟨rp, 0, none⟩), .agg #[.int .i64 7, .string (str nm), .string stn, .slice pao pl pc, .int .i64 n, .int .i64 dir, .slice tao tl tc]] w fun e w' => e = .returned (.bool true) ∧ Below w.heap.size w w' := by
  have HR1 : Hid (∀ W, Below w.heap.size w W → Calls Try.prog 24 #[.pointer (some ⟨dp, 0, none⟩), .string (str nm)] W (RdPost S nm W)) := fun W hW => both_read (h.below hW) nm hl
  have HR2 : Hid (∀ W, Below w.heap.size w W → Calls Try.prog 50 #[.pointer (some ⟨rp, 0, none⟩), .string (str nm)] W (RdPost S nm W)) := fun W hW => both_read2 (h.below hW) nm
  have HXL := hide (rdx_len h.oka nm)
  unfold RdPost at HR1 HR2
  generalize str nm = snm at *
  generalize (rdx S nm).1 = rx at *
  generalize (rdx S nm).2 = rc at *
  have HV := hide (Bl.new w #[.int .i64 7, .string snm, .string stn, .slice pao pl pc, .int .i64 n, .int .i64 dir, .slice tao tl tc] 41)
  have HBV := hide (below_new w (.cells #[.int .i64 7, .string snm, .string stn, .slice pao pl pc, .int .i64 n, .int .i64 dir, .slice tao tl tc] 41))
  clear h hl
  go_enter Try.func14, Try.ntmps14
  go_upto_region 1 with fail
  obtain ⟨M, hM⟩ : ∃ M, M = w.heap.size := ⟨_, rfl⟩
  rw [← hM] at HV ⊢
  clear hM
  generalize w.alloc (.cells #[.int .i64 7, .string snm, .string stn, .slice pao pl pc, .int .i64 n, .int .i64 dir, .slice tao tl tc] 41) = wv at *
  have v0 : wv.cell? ⟨M, 0, none⟩ = some (.int .i64 7) := HV.out.cell 0
  have v1 : wv.cell? ⟨M, 1, none⟩ = some (.string snm) := HV.out.cell 1
  go_upto_region 5 with (first | (go_at_call 24; refine (HR1.out _ HBV.out).mono ?_; rintro e w1 ⟨bao, bn, bcap, rfl, o1, n1, g1, b1⟩; have HO1 := hide o1; have HN1 := hide n1; have HG1 := hide g1; have HB1 := hide b1; have d1 := cell_kept v1 b1; clear o1 n1 g1 b1) | (go_at_call 50; refine (HR2.out _ (HBV.out.trans (HB1.out.mono HBV.out.size))).mono ?_; rintro e w2 ⟨cao, cn, ccap, rfl, o2, n2, -, b2⟩; have HO2 := hide o2; have HN2 := hide n2; have HB2 := hide b2; clear o2 n2 b2) | fail)
  have HO12 := hide (HO1.out.keep HB2.out)
  have c1 : (convert 36 9 (.slice bao bn bcap)).run Try.prog w2 = .ok (.string (bstr rx)) w2 := by
    obtain ⟨ao, c, e, _, hr6⟩ := Own.read HO12.out
    injection e with e1 e2 e3
    rw [e2, e1]
    exact conv_row bcap hr6
  have c2 : (convert 36 9 (.slice cao cn ccap)).run Try.prog w2 = .ok (.string (bstr rx)) w2 := by
    obtain ⟨ao, c, e, _, hr6⟩ := Own.read HO2.out
    injection e with e1 e2 e3
    rw [e2, e1]
    exact conv_row ccap hr6
  generalize bstr rx = t at *
  have HBN : Hid (bn ≤ 4194304) := by rw [HN1.out]; exact HXL.out
  have HBW : Hid (Below wv.heap.size wv w2) := HB1.out.trans (HB2.out.mono HB1.out.size)
  clear v0 v1 d1 HN1 HN2 HXL
  go_upto_region 6 with (first | (go_at_call 9; refine (num_any _ _).mono ?_; rintro e wx ⟨rfl, hwx⟩; have hwy := hwx.symm; subst hwy; clear hwx) | fail)
  clear c1 c2
  go_wp2_with fail
  go_loopw [12] (fun i wr => ∃ q : Nat, q ≤ bn ∧ i = .int .i64 (q : Int) ∧ Hid (∃ xs, Own wr 0 (.slice bao bn bcap) xs) ∧ Hid (Fr (vb (.slice bao bn bcap)) w2 wr)) (fun i _ => bn - (intOf i).toNat)
  case atStart => exact ⟨0, Nat.zero_le _, rfl, ⟨_, HO12.out⟩, Fr.refl _ _⟩
  case round =>
    obtain ⟨q, hq, rfl, HO, HF⟩ := hrel
    by_cases hlt : q < bn
    · obtain ⟨xs, ho⟩ := HO.out
      obtain ⟨g, rfl⟩ : ∃ g, bao = some ⟨g, 0, none⟩ := by
        obtain ⟨ao, c, e, _, _⟩ := ho.read
        injection e with e1 e2 e3
        have hne : xs ≠ [] := fun e => by rw [e] at e2; simp at e2; omega
        obtain ⟨g, c', e', _, _, _⟩ := ho.readSome hne
        injection e' with e'
        exact ⟨g, e'⟩
      obtain ⟨⟨y, k1⟩, k2, k3⟩ := row_byte ho hlt
      have HP : Hid (∃ xs, Own (wr.setCell ⟨g, q, none⟩ (.int .u8 221)) 0 (.slice (some ⟨g, 0, none⟩) bn bcap) xs) := ⟨_, own_poke ho q 221⟩
      have HF2 : Hid (Fr (vb (.slice (some ⟨g, 0, none⟩) bn bcap)) w2 (wr.setCell ⟨g, q, none⟩ (.int .u8 221))) := HF.out.trans (Fr.setCell _ wr g q _ (mem_vb.2 rfl)) (fun y hy => .inl hy)
      have hqi : (q : Int) < (bn : Int) := by omega
      clear ho
      go_upto_region 8 with fail
      clear hqi k1 k2 k3
      have hqb : (q : Int) + 1 ≤ 4611686018427387904 := by have := HBN.out; omega
      go_wp2_with fail
      go_roundw
      case rel => exact ⟨q + 1, by omega, by simp, HP, HF2⟩
      case measure => simp [intOf]; omega
    · have hqi : ¬ (q : Int) < (bn : Int) := by omega
      have HX : Hid (Below w.heap.size w wr) := by
        have h1 : Below wv.heap.size wv wr := HBW.out.trans (HF.out.below _ HBW.out.size (fun x hx => HG1.out x (mem_vb.1 hx)))
        exact HBV.out.trans (h1.mono HBV.out.size)
      go_wp2_with fail
      go_ret
      exact ⟨rfl, HX.out⟩
end Go.Proofs.Yticbfcognnofbaa
/- The contract of asks at a List. -/
namespace Go.Proofs.Yticbfcognnofbaa
open Go.RowKit Go.Maps

set_option maxHeartbeats 8000000 in
set_option maxRecDepth 100000 in
theorem asks_list {w0 w : World} {dp rp : Nat} {S : DS} (snm stn : ByteArray) (pao tao : Option Addr) (pl pc tl tc : Nat) (n dir : Int) (h : Both NoK w0 w dp rp S S) :
    Calls Try.prog 14 #[.pointer (some ⟨dp, 0, none⟩), .pointer (some ⟨rp, 0, none⟩), .agg #[.int .i64 8, .string snm, .string stn, .slice pao pl pc, .int .i64 n, .int .i64 dir, .slice tao tl tc]] w fun e w' => e = .returned (.bool true) ∧ Below w.heap.size w w' := by
  have HL1 : Hid (∀ W, Below w.heap.size w W → Calls Try.prog 18 #[.pointer (some ⟨dp, 0, none⟩)] W fun e w' => ∃ ao n cap, e = .returned (.slice ao n cap) ∧ TOwn w' (.slice ao n cap) (if S.dead then [] else S.dir.map (·.1)) ∧ n = (if S.dead then [] else S.dir.map (·.1)).length ∧ (∀ g, (Value.slice ao n cap).ownBlock = some g → W.heap.size ≤ g) ∧ Below W.heap.size W w') := fun W hW => (list_dsk (h.below hW).dsk).mono fun e w' ⟨a, b, c, d, f, i, j, _, g⟩ => ⟨a, b, c, d, f, i, j, g⟩
  have HL2 : Hid (∀ W, Below w.heap.size w W → Calls Try.prog 39 #[.pointer (some ⟨rp, 0, none⟩)] W fun e w' => ∃ v, e = .returned v ∧ TOwn w' v (if S.dead then [] else S.dir.map (·.1)) ∧ Below W.heap.size W w') := fun W hW => both_list2 (h.below hW)
  have HNL : Hid ((if S.dead then [] else S.dir.map (·.1)).length ≤ 1000000) := by
    have := h.oka.dir.len
    show _ ≤ _
    split
    · simp
    · rw [List.length_map]; omega
  generalize (if S.dead then [] else S.dir.map (·.1)) = ns at *
  have HV := hide (Bl.new w #[.int .i64 8, .string snm, .string stn, .slice pao pl pc, .int .i64 n, .int .i64 dir, .slice tao tl tc] 41)
  have HBV := hide (below_new w (.cells #[.int .i64 8, .string snm, .string stn, .slice pao pl pc, .int .i64 n, .int .i64 dir, .slice tao tl tc] 41))
  clear h
  go_enter Try.func14, Try.ntmps14
  go_upto_region 1 with fail
  obtain ⟨M, hM⟩ : ∃ M, M = w.heap.size := ⟨_, rfl⟩
  rw [← hM] at HV ⊢
  clear hM
  generalize w.alloc (.cells #[.int .i64 8, .string snm, .string stn, .slice pao pl pc, .int .i64 n, .int .i64 dir, .slice tao tl tc] 41) = wv at *
  have v0 : wv.cell? ⟨M, 0, none⟩ = some (.int .i64 8) := HV.out.cell 0
  go_upto_region 14 with (first | (go_at_call 18; refine (HL1.out _ HBV.out).mono ?_; rintro e w1 ⟨bao, bn, bcap, rfl, o1, n1, g1, b1⟩; have HO1 := hide o1; have HN1 := hide n1; have HG1 := hide g1; have HB1 := hide b1; clear o1 n1 g1 b1) | (go_at_call 39; refine (HL2.out _ (HBV.out.trans (HB1.out.mono HBV.out.size))).mono ?_; rintro e w2 ⟨v2, rfl, o2, b2⟩; have HO2 := hide o2; have HB2 := hide b2; clear o2 b2) | (go_at_call 38; refine (names_true _ _ ns w2 (HO1.out.keep HB2.out) HO2.out HNL.out).mono ?_; rintro e w3 ⟨rfl, m3, h3⟩; have HW3 := hide h3; clear h3) | fail)
  have HB23 : Hid (Below w2.heap.size w2 w3) := by rw [HW3.out]; exact below_drewN (Below.refl _ _) m3
  have HB13 : Hid (Below w1.heap.size w1 w3) := HB2.out.trans (HB23.out.mono HB2.out.size)
  have HO3 : Hid (∃ cs, w3.ownsRow 0 9 1 (.slice bao bn bcap) bn cs) := by
    have := HO1.out.keep HB13.out
    unfold TOwn at this
    rw [← HN1.out] at this
    exact ⟨_, this⟩
  have HBN : Hid (bn ≤ 1000000) := by rw [HN1.out]; exact HNL.out
  have HBW : Hid (Below wv.heap.size wv w3) := HB1.out.trans (HB13.out.mono HB1.out.size)
  clear v0 HN1 HNL HB23 HB13 HW3 HO1 HO2 HB1 HB2 HL1 HL2
  go_wp2_with fail
  go_loopw [15] (fun i wr => ∃ q : Nat, q ≤ bn ∧ i = .int .i64 (q : Int) ∧ Hid (∃ cs, wr.ownsRow 0 9 1 (.slice bao bn bcap) bn cs) ∧ Hid (Fr (vb (.slice bao bn bcap)) w3 wr)) (fun i _ => bn - (intOf i).toNat)
  case atStart => exact ⟨0, Nat.zero_le _, rfl, HO3, Fr.refl _ _⟩
  case round =>
    obtain ⟨q, hq, rfl, HO, HF⟩ := hrel
    by_cases hlt : q < bn
    · obtain ⟨cs, ho⟩ := HO.out
      obtain ⟨g, rfl⟩ := orow_some ho (by omega)
      obtain ⟨⟨y, k1⟩, k2, k3⟩ := orow_cell ho hlt
      have HP : Hid (∃ cs, (wr.setCell ⟨g, q, none⟩ (.string ⟨#[63]⟩)).ownsRow 0 9 1 (.slice (some ⟨g, 0, none⟩) bn bcap) bn cs) := ⟨_, (World.ownsRow.stored ho q (.string ⟨#[63]⟩)).1⟩
      have HF2 : Hid (Fr (vb (.slice (some ⟨g, 0, none⟩) bn bcap)) w3 (wr.setCell ⟨g, q, none⟩ (.string ⟨#[63]⟩))) := HF.out.trans (Fr.setCell _ wr g q _ (mem_vb.2 rfl)) (fun y hy => .inl hy)
      have hqi : (q : Int) < (bn : Int) := by omega
      clear ho
      go_upto_region 16 with fail
      clear hqi k1 k2 k3
      have hqb : (q : Int) + 1 ≤ 4611686018427387904 := by have := HBN.out; omega
      go_wp2_with fail
      go_roundw
      case rel => exact ⟨q + 1, by omega, by simp, HP, HF2⟩
      case measure => simp [intOf]; omega
    · have hqi : ¬ (q : Int) < (bn : Int) := by omega
      have HX : Hid (Below w.heap.size w wr) := by
        have h1 : Below wv.heap.size wv wr := HBW.out.trans (HF.out.below _ HBW.out.size (fun x hx => HG1.out x (mem_vb.1 hx)))
        exact HBV.out.trans (h1.mono HBV.out.size)
      go_wp2_with fail
      go_ret
      exact ⟨rfl, HX.out⟩
end Go.Proofs.Yticbfcognnofbaa
/- Left once more: each file that is left lies in a block of its own. -/
namespace Go.Proofs.Yticbfcognnofbaa
open Go.RowKit Go.Maps

set_option maxHeartbeats 4000000 in
set_option maxRecDepth 100000 in
theorem disk_left_one (dp nx : Nat) (S : DS) (L : Lay) (dir : Int) (ao : Option Addr) (tn tc : Nat) (ts : List Int) (w : World) (h : Rep w dp S L nx) (hO : Ok S) (ht : IRow w ao ts) (htn : tn = ts.length) (htl : tn ≤ 4611686018427387904) :
    Calls Try.prog 22 #[pf dp, .agg #[.int .i64 dir, .slice ao tn tc]] w fun e w' => ∃ v, e = .returned v ∧ (∃ us, FOwn w' w.heap.size v (left S dir ts) us ∧ FOne us) ∧ Below w.heap.size w w' := by
  have HC := hide (Bl.new w #[.int .i64 dir, .slice ao tn tc] 39)
  have HU := hide (below_new w (.cells #[.int .i64 dir, .slice ao tn tc] 39))
  have HR := hide (h.below HU.out)
  have HT := hide (ht.keep HU.out)
  obtain ⟨N, hN⟩ : ∃ N, N = w.heap.size := ⟨_, rfl⟩
  obtain ⟨kao, kcap, hkv, hksh, hkc⟩ := kept_shape h.kept
  have HKV := hide hkv
  have HKS := hide hksh
  have HTN := hide htn
  have HTW := hide ht
  obtain ⟨l, hl⟩ : ∃ l, l = left S dir ts := ⟨_, rfl⟩
  rw [← hl]
  have HLDEF := hide hl
  obtain ⟨pk, hpk⟩ : ∃ pk, pk = part dir S.chg.length := ⟨_, rfl⟩
  have hpl : pk ≤ S.chg.length := by rw [hpk]; exact Nat.min_le_right _ _
  have hcl : S.chg.length ≤ 1048576 := by have := hO.clen; have := hO.ops; omega
  have hsl := slice_chg kao S.chg.length kcap pk hksh hpl hkc
  have HWI : Hid (∀ W, Calls Try.prog 58 #[.int .i64 dir, .int .i64 (S.chg.length : Int)] W fun e w' => e = .returned (.int .i64 (pk : Int)) ∧ w' = W) := fun W => by rw [hpk]; exact within_any dir S.chg.length W (by omega)
  have HPK := hide hpk
  have HPL := hide hpl
  obtain ⟨kn, hkn⟩ : ∃ n, n = S.chg.length := ⟨_, rfl⟩
  rw [← hkn] at HWI hsl HKV HKS hkc
  have HKN := hide hkn
  unfold pf
  clear h ht hkv hksh htn hpk hpl hkn hl
  go_enter Try.func22, Try.ntmps22
  go_upto_region 1 with fail
  rw [← hN] at HC ⊢
  have HNW := hide hN
  clear hN
  generalize w.alloc (.cells #[.int .i64 dir, .slice ao tn tc] 39) = u at *
  obtain ⟨c0, c1, c2, c3, c4, c5, c6, c7⟩ := HR.out.c
  have HMC := hide (mapClone_any L.sf L.bs S.safe u HR.out.safe)
  go_wp2_with (first | (go_at_call 57; refine HMC.out.mono ?_; rintro e w2 ⟨rfl, hd2, hb2⟩; have HD2 := hide hd2; have HB2 := hide hb2; have HR2 := hide (HR.out.below hb2); have HC2 := hide (HC.out.keep hb2); obtain ⟨e0, e1, e2, e3, e4, e5, e6, e7⟩ := HR2.out.c; have n0 : w2.cell? ⟨N, 0, none⟩ = some (.int .i64 dir) := HC2.out.cell 0; have n1 : w2.cell? ⟨N, 1, none⟩ = some (.slice ao tn tc) := HC2.out.cell 1; rw [HKV.out] at e2; clear hd2 hb2))
  have HT2 := hide (HT.out.keep HB2.out)
  have HMG : Hid (w.heap.size < u.heap.size ∧ u.heap.size < w2.heap.size) := by have h1 := HU.out.size; have h2 := HD2.out.lt; have h3 := HC.out.lt; have h4 := HNW.out; exact ⟨by omega, h2⟩
  have HB02 : Hid (Below w.heap.size w w2) := HU.out.trans (HB2.out.mono HU.out.size)
  obtain ⟨m, hm⟩ : ∃ m, m = u.heap.size := ⟨_, rfl⟩
  have HLT : Hid (∀ b ∈ L.blocks dp, b < m) := by rw [hm]; exact HR.out.lt
  have HNM : Hid (N < m) := by have := HC.out.lt; show _ < _; omega
  rw [← hm] at HD2 HMG ⊢
  clear hm c0 c1 c2 c3 c4 c5 c6 c7 HMC HB2 HR HC HT
  go_region_held (fun W => W.cell? ⟨dp, 2, none⟩ = some (.slice kao kn kcap) ∧ W.cell? ⟨N, 0, none⟩ = some (.int .i64 dir)) (go_keep) (first | (go_at_call 58; refine (HWI.out _).mono ?_; rintro e w3 ⟨rfl, hw3⟩; subst hw3))
  go_wp2_with fail
  have HKR := hide HR2.out.kept
  rw [HKV.out, ← HKN.out] at HKR
  have HBL := hide HR2.out.blen
  have HKB : Hid (∀ b, (Value.slice kao kn kcap).ownBlock = some b → b < m) := fun b hb => HLT.out b ((L.mem dp b).2 (.inr (.inr (.inr (.inl (mem_vb.2 (by rw [HKV.out]; exact hb)))))))
  clear e0 e1 e2 e3 e4 e5 e6 e7 n0 n1 hsl
  have HOK := hide hO
  clear hO
  have hpkb : (pk : Int) + 1 ≤ 4611686018427387904 := by have := HPL.out; omega
  have hpc : pk ≤ kcap := by have := HPL.out; have := HKN.out; omega
  go_loopw [32] (fun i wr => ∃ k : Nat, k ≤ pk ∧ i = .int .i64 (k : Int) ∧ Hid (DirAt wr m L.bs (chds S.safe (S.chg.take k))) ∧ Hid (Below m w2 wr)) (fun i _ => pk - (intOf i).toNat)
  case atStart => exact ⟨0, Nat.zero_le _, rfl, HD2.out.same rfl, below_drewN (Below.refl _ _) 1⟩
  case round =>
    obtain ⟨k, hk, rfl, HD, HF⟩ := hrel
    by_cases hlt : k < pk
    · obtain ⟨c, hc⟩ : ∃ c, S.chg[k]? = some c := ⟨_, List.getElem?_eq_getElem (by have := HPL.out; omega)⟩
      obtain ⟨g, rfl⟩ : ∃ g, kao = some ⟨g, 0, none⟩ := by
        rcases HKS.out with ⟨_, e, _⟩ | e
        · have := HPL.out; have := HKN.out; omega
        · exact e
      have hrow : wr.ownsRow 0 94 3 (.slice (some ⟨g, 0, none⟩) kn kcap) kn (S.chg.flatMap (chCells L.bs)) := owns_same HKR.out fun b hb => HF.out.block b (HKB.out b hb)
      obtain ⟨k0, k1, k2⟩ := kept_cells hrow hc
      obtain ⟨po, hpv⟩ : ∃ po, (if c.tn = [] then Value.pointer none else pf (L.bs.getD c.fl 0)) = Value.pointer po := by
        by_cases e : c.tn = []
        · exact ⟨none, by rw [if_pos e]⟩
        · exact ⟨_, by rw [if_neg e]; rfl⟩
      rw [hpv] at k2
      have HCC := HOK.out.cok c (List.mem_of_getElem? hc)
      have HDO := hide (fun W hW => doneOn_any c L.bs m (chds S.safe (S.chg.take k)) W hW HCC.fr HCC.tn (fun e => by rw [HBL.out]; exact HCC.num e) (by have := (HOK.out.hist k).len; omega))
      rw [← chds_take hc, show (chCells L.bs c).toArray = #[.string (str c.fr), .string (str c.tn), .pointer po] by rw [← hpv]; rfl] at HDO
      have hkn : (k : Int) < (pk : Int) := by omega
      clear hrow hc hpv HCC
      generalize str c.fr = sfr at *
      generalize str c.tn = stn at *
      go_upto_region 7 with fail
      have HDN := hide (HD.out.alloc (.cells #[.string sfr, .string stn, .pointer po] 94))
      have HFN := hide (HF.out.trans ((below_new wr (.cells #[.string sfr, .string stn, .pointer po] 94)).mono (by have := HD.out.lt; omega)))
      have HV := hide (Bl.new wr #[.string sfr, .string stn, .pointer po] 94)
      obtain ⟨M, hM⟩ : ∃ M, M = wr.heap.size := ⟨_, rfl⟩
      rw [← hM] at HV ⊢
      clear k0 k1 k2 hM HD HF
      generalize wr.alloc (.cells #[.string sfr, .string stn, .pointer po] 94) = wv at *
      obtain ⟨v0, v1, v2⟩ := HV.out.three
      have HC7 := hide (HDO.out wv HDN.out)
      go_wp2_with (first | (go_at_call 56; refine HC7.out.mono ?_; rintro e w3 ⟨rfl, hd3, hf3⟩; have HD3 := hide hd3; have HF3 := hide (HFN.out.trans (hf3.below m (by have := HDN.out.lt; omega) (fun x hx => by rw [List.mem_singleton.1 hx]; exact Nat.le_refl _))); clear hd3 hf3 v0 v1 v2))
      go_roundw
      case rel => exact ⟨k + 1, by omega, by simp, HD3, HF3⟩
      case measure => simp [intOf]; omega
    · have hkn : ¬ (k : Int) < (pk : Int) := by omega
      obtain rfl : k = pk := by omega
      have HD5 := HD
      have HOD := HOK.out.hist k
      have HRI := hide (rising_any m L.bs (chds S.safe (S.chg.take k)) wr HD.out HOD.rising (by have := HOD.len; omega))
      have HODH := hide HOD
      clear HOD
      obtain ⟨D, hD⟩ : ∃ D, D = chds S.safe (S.chg.take k) := ⟨_, rfl⟩
      have HDD := hide hD
      rw [← hD] at HRI HD HODH
      clear hD
      go_wp2_with (first | (go_at_call 52; refine HRI.out.mono ?_; rintro e w5 ⟨lv, rfl, h5, g5, b5⟩; obtain ⟨lao, lcap, rfl⟩ := ownsRow_slice h5; have H5 := hide h5; have B5 := hide b5; clear h5 g5 b5))
      have HB25 : Hid (Below m w2 w5) := HF.out.trans (B5.out.mono (by have := HD.out.lt; omega))
      have HBW5 : Hid (Below w.heap.size w w5) := HB02.out.trans (HB25.out.mono (by have := HMG.out.1; omega))
      have HR5 : Hid (Rep w5 dp S L nx) := HR2.out.keep HB25.out.size (fun b hb => HB25.out.block b (HLT.out b hb))
      have HD5' : Hid (DirAt w5 m L.bs D) := HD.out.same (B5.out.block m HD.out.lt)
      have HT5 := hide (HTW.out.keep HBW5.out)
      have HC5 : Hid (Bl w5 N [.int .i64 dir, .slice ao tn tc] 39) := HC2.out.below HB25.out HNM.out
      obtain ⟨B1, hB1⟩ : ∃ B1, B1 = w5.heap.size := ⟨_, rfl⟩
      have HB1 := hide hB1
      have HL : Hid (l = D.map fun p => (p.1, leftF (flAt S.files p.2) (tailOf ts p.2))) := by show _ = _; rw [HLDEF.out, HDD.out]; unfold left; rw [← HPK.out]
      have HLL : Hid (l.length = D.length) := by show _ = _; rw [HL.out, List.length_map]
      obtain ⟨n, hn⟩ : ∃ n, n = D.length := ⟨_, rfl⟩
      have hn64 : n ≤ 64 := by rw [hn]; exact HODH.out.len
      have HN := hide hn
      have e1 : (D.map (·.1)).length = n := by rw [List.length_map, hn]
      rw [e1] at H5
      rw [← hn] at HLL ⊢
      clear hn e1 hB1 hkn hpkb hpc hlt HRI HDD HD HF HD5 HKR HR2 HB25 HC2 HT2 HWI
      go_loopw [8, 43] (fun v i wr => ∃ (q : Nat) (us : List Value), q ≤ n ∧ i = .int .i64 (q : Int) ∧ Hid (FOwn wr B1 v (l.take q) us) ∧ Hid (FOne us) ∧ Hid (Below B1 w5 wr)) (fun _ i _ => n - (intOf i).toNat)
      case atStart => exact ⟨0, [], Nat.zero_le _, rfl, by rw [List.take_zero]; exact fown_nil _ _, fone_nil, Below.refl _ _⟩
      case round =>
        obtain ⟨q, us, hq, rfl, HFO, HON, HBF⟩ := hrel
        have hltk : (l.take q).length = q := by rw [List.length_take]; have := HLL.out; omega
        obtain ⟨vao, vcap, hv⟩ := ownsRow_slice HFO.out.row
        rw [hltk] at hv
        subst hv
        have HS5 : Hid (B1 ≤ wr.heap.size) := by have := HBF.out.size; have := HB1.out; show _ ≤ _; omega
        by_cases hqn : q < n
        · obtain ⟨p, hp⟩ : ∃ p, D[q]? = some p := ⟨_, List.getElem?_eq_getElem (by rw [← HN.out]; exact hqn)⟩
          have hpm := List.mem_of_getElem? hp
          have hlq : l[q]? = some (p.1, leftF (flAt S.files p.2) (tailOf ts p.2)) := by rw [HL.out, List.getElem?_map, hp]; rfl
          obtain ⟨lg, rfl⟩ : ∃ g, lao = some ⟨g, 0, none⟩ := by
            rcases H5.out.2 with ⟨e, e2⟩ | ⟨g, cap', cur, e, _⟩
            · rw [List.length_map] at e2; have := HN.out; omega
            · injection e with e _ _; exact ⟨g, e⟩
          have hc0 : wr.cell? ⟨lg, q, none⟩ = some (.string (str p.1)) := by
            have h1 := H5.out.at (k := q) (nm := p.1) (by rw [List.getElem?_map, hp]; rfl)
            rw [HBF.out.cell (p := ⟨lg, q, none⟩) (by have h2 : lg < w5.heap.size := World.block_lt_of_cell? w5 _ h1; have := HB1.out; show lg < B1; omega)]
            exact h1
          have hcapl : n ≤ lcap := by
            rcases H5.out.2 with ⟨e, _⟩ | ⟨g', cap', cur, e, _, _, h3, _⟩
            · cases e
            · injection e with _ e2 e3; rw [List.length_map] at h3; have := HN.out; omega
          obtain ⟨fb, fao, fcap, f1, f2, f3, f4, f5, f6⟩ := HR5.out.at (HODH.out.num p hpm)
          have hnl := (isNm_ne (HODH.out.name p hpm)).2
          have HLK : Hid (∀ W, Below wr.heap.size wr W → (Instr.lookup 84 (.map (some m)) (.string (str p.1)) false).run Try.prog W = .ok (.pointer (some ⟨fb, 0, none⟩)) W) := fun W hW => by
            have hD : DirAt W m L.bs D := HD5'.out.same ((hW.block m (by have := HD5'.out.lt; have := HBF.out.size; omega)).trans (HBF.out.block m (by have := HD5'.out.lt; have := HB1.out; omega)))
            have := hD.look (nm := p.1) (by unfold maxLen; omega)
            rw [this, dget_of HODH.out.rising (show (p.1, p.2) ∈ D from hpm)]
            show _ = _
            rw [← f2]
            rfl
          have HTL : Hid (∀ W, Below wr.heap.size wr W → W.cell? ⟨N, 1, none⟩ = some (.slice ao tn tc)) := fun W hW => by
            have h1 : w5.cell? ⟨N, 1, none⟩ = some (.slice ao tn tc) := HC5.out.cell 1
            have h2 := HC5.out.lt
            have h3 := HBF.out.size
            have h4 := HB1.out
            rw [hW.cell (p := ⟨N, 1, none⟩) (by show N < _; omega), HBF.out.cell (p := ⟨N, 1, none⟩) (by show N < B1; omega)]
            exact h1
          have HLF : Hid (∀ W, Below wr.heap.size wr W → Calls Try.prog 59 #[.pointer (some ⟨fb, 0, none⟩), .slice ao tn tc] W fun e w' => ∃ uao un ucap, e = .returned (.slice uao un ucap) ∧ Own w' 0 (.slice uao un ucap) (leftF (flAt S.files p.2) (tailOf ts p.2)) ∧ (∀ g, (Value.slice uao un ucap).ownBlock = some g → wr.heap.size ≤ g) ∧ Below W.heap.size W w') := fun W hW => by
            have hBW : Below B1 w5 W := HBF.out.trans (hW.mono HS5.out)
            have h4 : Bl W fb _ _ := f4.below hBW (by rw [HB1.out]; exact f4.lt)
            have h5 : Own W 0 _ _ := owns_same f5 fun b hb => hBW.block b (by rw [HB1.out]; exact (World.ownsRow.lt f5 b hb).2)
            have h6 : IRow W ao ts := HT5.out.keep (by rw [← HB1.out]; exact hBW)
            have := left_any fb p.2 (flAt S.files p.2) _ ao tc ts W h4 h5 (Fok.at HOK.out.file p.2) h6 (by rw [← HTN.out]; exact htl)
            rw [← HTN.out] at this
            refine this.mono fun e w' ⟨u, h1, h2, h3, h4⟩ => ?_
            obtain ⟨uao, un, ucap, rfl⟩ := own_shape h2
            exact ⟨uao, un, ucap, h1, h2, fun g hg => Nat.le_trans hW.size (h3 g hg), h4⟩
          have HCL : Hid (∀ W, Calls Try.prog 53 #[.string (str p.1)] W fun e w' => e = .returned (.string (str p.1)) ∧ Below W.heap.size W w') := fun W => clone_any (str p.1) W (by rw [str_size]; omega)
          have HSTEP : Hid (∀ (W w' : World) (uao : Option Addr) (un ucap : Nat) (ao9 : Option Addr) (cap9 : Nat) (o : Obj), Below wr.heap.size wr W → Own W 0 (.slice uao un ucap) (leftF (flAt S.files p.2) (tailOf ts p.2)) → (∀ g, (Value.slice uao un ucap).ownBlock = some g → wr.heap.size ≤ g) → w'.ownsRow B1 54 2 (.slice ao9 (q + 1) cap9) (q + 1) (fcells (l.take q) us ++ [.string (str p.1), .slice uao un ucap]) → (W.alloc o).grownBy w' (Value.slice vao q vcap).ownBlock → (Value.ownBlock (.slice ao9 (q + 1) cap9) = (Value.slice vao q vcap).ownBlock ∨ Value.ownBlock (.slice ao9 (q + 1) cap9) = some (W.alloc o).heap.size) → FOwn w' B1 (.slice ao9 (q + 1) cap9) (l.take (q + 1)) (us ++ [.slice uao un ucap]) ∧ Below B1 w5 w' ∧ FOne (us ++ [.slice uao un ucap])) := fun W w' uao un ucap ao9 cap9 o g1 g2 g3 g4 g5 g6 => by
            have := fown_step (x := (p.1, leftF (flAt S.files p.2) (tailOf ts p.2))) HFO.out HS5.out g1 g2 g3 (by rw [hltk]; exact g4) g5 (by rw [hltk]; exact g6)
            rw [hltk] at this
            rw [List.take_add_one, hlq]
            exact ⟨this.1, HBF.out.trans this.2, fone_step HFO.out HON.out g3⟩
          have HROW := hide HFO.out.row
          rw [hltk] at HROW
          have hqi : (q : Int) < (n : Int) := by omega
          have hqb : (q : Int) + 1 ≤ 4611686018427387904 := by omega
          have lk := HLK.out wr.drew (below_drewN (Below.refl _ _) 1)
          have tl := HTL.out wr.drew (below_drewN (Below.refl _ _) 1)
          have HCUR : Hid (Below wr.heap.size wr wr.drew) := below_drewN (Below.refl _ _) 1
          generalize str p.1 = s at *
          clear hp hpm hlq f1 f2 f3 f4 f5 f6 hnl hltk HFO
          go_upto_region 13 with fail
          go_region_law (first
            | (refine law_call rfl 49 rfl 53 #[.string s] (by unfold execOp; simp; go_simp) (HCL.out _) ?_; rintro ε wa ⟨rfl, hb⟩; refine ⟨_, rfl, ?_⟩; have hcur := HCUR.out.trans (hb.mono HCUR.out.size); clear HCUR; have HCUR := hide hcur; have lka := HLK.out wa hcur; have tla := HTL.out wa hcur; first | (have hou := HOU.out.keep hb; clear HOU; have HOU := hide hou; clear hou hcur hb) | (clear hcur hb))
            | (refine law_call rfl 55 rfl 59 #[.pointer (some ⟨fb, 0, none⟩), .slice ao tn tc] (by unfold execOp; simp; go_simp) (HLF.out _ HCUR.out) ?_; rintro ε wb ⟨uao, un, ucap, rfl, hou, hng, hb⟩; refine ⟨_, rfl, ?_⟩; have hcur := HCUR.out.trans (hb.mono HCUR.out.size); clear HCUR; have HCUR := hide hcur; have HOU := hide hou; have HNG := hide hng; clear hou hng hcur hb)
            | (refine law_appF rfl (.tmp 47) (.tmp 57) rfl B1 (.slice vao q vcap) q (fcells (l.take q) us) [.string s, .slice uao un ucap] rfl (World.ownsRow.alloc (owns_same HROW.out fun g hg => HCUR.out.block g (World.ownsRow.lt HROW.out g hg).2) _) _ rfl (Bl.new _ _ _) rfl (by intro x hx; simp only [List.mem_cons, List.not_mem_nil, or_false] at hx; rcases hx with rfl | rfl <;> rfl) (by omega) (by have := HCUR.out.size; have := HS5.out; simp; omega) ?_; intro ao9 cap9 w9 hn9 hg9 ho9; have HFI := hide (HSTEP.out _ w9 uao un ucap ao9 cap9 _ HCUR.out HOU.out HNG.out hn9 hg9 ho9); clear hn9 hg9 ho9))
          all_goals
            clear HLK HTL HLF HCL HSTEP HROW HOU HNG HCUR lk tl lka tla
            go_wp2_with fail
            go_roundw
            case rel => exact ⟨q + 1, us ++ [.slice uao un ucap], by omega, by simp, hide HFI.out.1, hide HFI.out.2.2, hide HFI.out.2.1⟩
            case measure => simp [intOf]; omega
        · have hqi : ¬ (q : Int) < (n : Int) := by omega
          have hte : l.take q = l := List.take_of_length_le (by have := HLL.out; omega)
          rw [hte] at HFO
          have HFI : Hid ((∃ us, FOwn wr w.heap.size (.slice vao q vcap) l us ∧ FOne us) ∧ Below w.heap.size w wr) := ⟨⟨us, HFO.out.lower (by have := HBW5.out.size; have := HB1.out; omega), HON.out⟩, HBW5.out.trans (HBF.out.mono (by have := HBW5.out.size; have := HB1.out; omega))⟩
          clear hte hltk
          go_wp2_with fail
          go_ret
          exact ⟨_, rfl, HFI.out⟩
theorem left_one {w0 w : World} {dp : Nat} {S : DS} (h : Dsk w0 w dp S) (dir : Int) (ao : Option Addr) (tn tc : Nat) (ts : List Int) (ht : IRow w ao ts) (htn : tn = ts.length) (htl : tn ≤ 4611686018427387904) : Calls Try.prog 22 #[pf dp, .agg #[.int .i64 dir, .slice ao tn tc]] w fun e w' => ∃ vao n cap us, e = .returned (.slice vao n cap) ∧ FOwn w' w.heap.size (.slice vao n cap) (left S dir ts) us ∧ FOne us ∧ n = (left S dir ts).length ∧ Below w.heap.size w w' := by
  obtain ⟨L, h1, _⟩ := h.rep
  refine (disk_left_one dp _ S L dir ao tn tc ts w h1 h.ok ht htn htl).mono fun e w' ⟨v, he, ⟨us, hF, hO⟩, hb⟩ => ?_
  obtain ⟨vao, cap, rfl⟩ := ownsRow_slice hF.row
  exact ⟨vao, _, cap, us, he, hF, hO, rfl, hb⟩
set_option maxHeartbeats 1000000 in
set_option maxRecDepth 100000 in
theorem durable_one {w0 w : World} {dp : Nat} {S : DS} (h : Dsk w0 w dp S) : Calls Try.prog 30 #[pf dp] w fun e w' => ∃ vao n cap us, e = .returned (.slice vao n cap) ∧ FOwn w' w.heap.size (.slice vao n cap) (left S 0 []) us ∧ FOne us ∧ n = (left S 0 []).length ∧ Below w.heap.size w w' := by
  have HC := hide (left_one h 0 none 0 0 [] (.inl rfl) rfl (by omega))
  unfold pf at *
  clear h
  go_enter Try.func30, Try.ntmps30
  go_wp2_with (first | (go_at_call 22; refine HC.out.mono ?_; rintro e w3 ⟨vao, n, cap, us, rfl, h3⟩; have H3 := hide h3; clear h3))
  go_ret
  exact ⟨vao, n, cap, us, rfl, H3.out⟩
end Go.Proofs.Yticbfcognnofbaa
/- ints answers true where both rows have the same numbers. -/
namespace Go.Proofs.Yticbfcognnofbaa
open Go.RowKit Go.Maps

theorem IRow.cellAt {w : World} {ao : Option Addr} {ts : List Int} (h : IRow w ao ts) {k : Nat} (hk : k < ts.length) : ∃ b off, ao = some ⟨b, off, none⟩ ∧ w.cell? ⟨b, off + k, none⟩ = some (.int .i64 (ts.getD k 0)) := by
  rcases h with h | ⟨b, off, e, hc⟩
  · rw [h] at hk; simp at hk
  · exact ⟨b, off, e, hc k hk⟩
set_option maxHeartbeats 4000000 in
set_option maxRecDepth 100000 in
theorem ints_true (lao wao : Option Addr) (n lc wc : Nat) (ts : List Int) (w : World) (hl : IRow w lao ts) (hw : IRow w wao ts) (hn : n = ts.length) (hb : n ≤ 4611686018427387903) :
    Calls Try.prog 51 #[.slice lao n lc, .slice wao n wc] w fun e w' => e = .returned (.bool true) ∧ ∃ m, w' = w.drewN m := by
  have HL := hide hl
  have HW := hide hw
  have HN := hide hn
  have HBB := hide hb
  clear hl hw hn hb
  go_enter Try.func51, Try.ntmps51
  go_wp2_with fail
  go_loopw [5] (fun i wr => ∃ k : Nat, k ≤ n ∧ i = .int .i64 (k : Int) ∧ ∃ m, wr = w.drewN m) (fun i _ => n - (intOf i).toNat)
  case atStart => exact ⟨0, Nat.zero_le _, rfl, 0, rfl⟩
  case round =>
    obtain ⟨k, hk, rfl, m, rfl⟩ := hrel
    by_cases hlt : k < n
    · obtain ⟨lb, loff, rfl, a1⟩ := (HL.out.keep (below_drewN (Below.refl _ _) m)).cellAt (k := k) (by rw [← HN.out]; exact hlt)
      obtain ⟨wb, woff, rfl, b1⟩ := (HW.out.keep (below_drewN (Below.refl _ _) m)).cellAt (k := k) (by rw [← HN.out]; exact hlt)
      generalize ts.getD k 0 = t at *
      have hki : (k : Int) < (n : Int) := by omega
      have HKB : Hid ((k : Int) + 1 ≤ 4611686018427387904) := by have := HBB.out; show _ ≤ _; omega
      have HD : Hid (∀ q, (w.drewN m).drewN q = w.drewN (m + q)) := fun q => World.drewN_drewN w m q
      generalize w.drewN m = wm at *
      go_upto_region 6 with fail
      go_quiet (fail)
      clear hki a1 b1
      have hkb := HKB.out
      go_wp2_with fail
      go_roundw
      case rel => exact ⟨k + 1, by omega, by simp, _, HD.out _⟩
      case measure => simp [intOf]; omega
    · obtain rfl : k = n := by omega
      go_wp2_with fail
      go_ret
      exact ⟨rfl, m, rfl⟩
end Go.Proofs.Yticbfcognnofbaa
/- The contract of asks at a Left and at a Durable: what was handed out is written over. -/
namespace Go.Proofs.Yticbfcognnofbaa
open Go.RowKit Go.Maps

theorem both_left3 {K : Nat → Prop} {w0 w : World} {dp rp : Nat} {A B : DS} (h : Both K w0 w dp rp A B) (dir : Int) (ao : Option Addr) (tn tc : Nat) (ts : List Int) (ht : IRow w ao ts) (htn : tn = ts.length) (htl : tn ≤ 4611686018427387904) : Calls Try.prog 40 #[.pointer (some ⟨rp, 0, none⟩), .int .i64 dir, .slice ao tn tc] w fun e w' => ∃ vao m cap, e = .returned (.slice vao m cap) ∧ FSee w' vao (left B dir ts) ∧ m = (left B dir ts).length ∧ Below w.heap.size w w' := by
  obtain ⟨LA, LR, h1, h2, h3, h4⟩ := h.rep
  exact (eleft_free rp B LR dir ao tn tc ts w h2 h.okb ht htn htl).mono fun e w' ⟨vao, m, cap, a, ⟨us, b⟩, c, d⟩ => ⟨vao, m, cap, a, b.see, c, d⟩
theorem left_bys {S : DS} (hO : Ok S) (dir : Int) (ts : List Int) : ∀ f ∈ left S dir ts, f.2.length ≤ 140737488351232 := by
  intro f hf
  unfold left at hf
  obtain ⟨p, hp, rfl⟩ := List.mem_map.1 hf
  have h1 := (Fok.at hO.file p.2).len
  have h2 : (leftF (flAt S.files p.2) (tailOf ts p.2)).length ≤ (flAt S.files p.2).bys.length := by
    unfold leftF
    rw [List.length_take]
    omega
  show (leftF (flAt S.files p.2) (tailOf ts p.2)).length ≤ _
  omega
/-- What was handed out, written over: nothing else is changed. -/
theorem spoilt_out {w w1 w2 : World} {v : Value} {l : List Fi} {us : List Value} (hF : FOwn w1 w.heap.size v l us) (h1 : Below w.heap.size w w1) (hf : Fr (vb v ++ us.flatMap vb) w1 w2) : Below w.heap.size w w2 := by
  refine h1.trans (hf.below _ h1.size (fun x hx => ?_))
  rcases List.mem_append.1 hx with hx | hx
  · rcases hF.row.2 with ⟨e, _⟩ | ⟨g, cap, cur, e, hg, _⟩
    · rw [e] at hx; cases mem_vb.1 hx
    · rw [e] at hx
      have h2 : g = x := Option.some.inj (mem_vb.1 hx)
      rw [← h2]; exact hg
  · obtain ⟨u, hu, hx⟩ := List.mem_flatMap.1 hx
    obtain ⟨i, hi⟩ := List.getElem?_of_mem hu
    exact (hF.new i u x hi (mem_vb.1 hx)).1
set_option maxHeartbeats 8000000 in
set_option maxRecDepth 100000 in
theorem asks_durable {w0 w : World} {dp rp : Nat} {S : DS} (snm stn : ByteArray) (pao tao : Option Addr) (pl pc tl tc : Nat) (n dir : Int) (h : Both NoK w0 w dp rp S S) :
    Calls Try.prog 14 #[.pointer (some ⟨dp, 0, none⟩), .pointer (some ⟨rp, 0, none⟩), .agg #[.int .i64 13, .string snm, .string stn, .slice pao pl pc, .int .i64 n, .int .i64 dir, .slice tao tl tc]] w fun e w' => e = .returned (.bool true) ∧ Below w.heap.size w w' := by
  have HDU : Hid (∀ W, Below w.heap.size w W → Calls Try.prog 30 #[.pointer (some ⟨dp, 0, none⟩)] W fun e w' => ∃ vao cap us, e = .returned (.slice vao (left S 0 []).length cap) ∧ FOwn w' W.heap.size (.slice vao (left S 0 []).length cap) (left S 0 []) us ∧ FOne us ∧ Below W.heap.size W w') := fun W hW => (durable_one (h.below hW).dsk).mono fun e w' ⟨a, b, c, us, d, f, i, j, g⟩ => by rw [j] at d f; exact ⟨a, c, us, d, f, i, g⟩
  have HLF : Hid (∀ W, Below w.heap.size w W → Calls Try.prog 40 #[.pointer (some ⟨rp, 0, none⟩), .int .i64 0, .slice none 0 0] W fun e w' => ∃ vao cap, e = .returned (.slice vao (left S 0 []).length cap) ∧ FSee w' vao (left S 0 []) ∧ Below W.heap.size W w') := fun W hW => (both_left2 (h.below hW) 0 none 0 0 [] (.inl rfl) rfl (by omega) (Nat.le_refl _)).mono fun e w' ⟨a, m, c, d, f, hn, g⟩ => ⟨a, c, by rw [← hn]; exact d, f, g⟩
  have HLN := hide (left_many h.oka 0 [])
  have HSP : Hid (∀ W v us B, FOwn W B v (left S 0 []) us → FOne us → Calls Try.prog 35 #[v] W fun e w' => e = .returned (.tuple #[]) ∧ Fr (vb v ++ us.flatMap vb) W w') := fun W v us B hF hO => spoil_any v _ us W (SP.first hF (left_bys h.oka 0 [])) ⟨hO, fun i c g h1 h2 => (hF.new i c g h1 h2).2⟩ hF.len (by have := HLN.out; omega)
  generalize left S 0 [] = LA at *
  have HFI : Hid (∀ W a b lc wc, FSee W a LA → FSee W b LA → Calls Try.prog 34 #[.slice a LA.length lc, .slice b LA.length wc] W fun e w' => e = .returned (.bool true) ∧ Below W.heap.size W w') := fun W a b lc wc h1 h2 => (files_true a b LA.length lc wc LA W h1 h2 rfl (by have := HLN.out; omega)).mono fun e w' ⟨he, m, hm⟩ => ⟨he, by rw [hm]; exact below_drewN (Below.refl _ _) m⟩
  have HV := hide (Bl.new w #[.int .i64 13, .string snm, .string stn, .slice pao pl pc, .int .i64 n, .int .i64 dir, .slice tao tl tc] 41)
  have HBV := hide (below_new w (.cells #[.int .i64 13, .string snm, .string stn, .slice pao pl pc, .int .i64 n, .int .i64 dir, .slice tao tl tc] 41))
  clear h
  go_enter Try.func14, Try.ntmps14
  go_upto_region 1 with fail
  obtain ⟨M, hM⟩ : ∃ M, M = w.heap.size := ⟨_, rfl⟩
  rw [← hM] at HV ⊢
  clear hM
  generalize w.alloc (.cells #[.int .i64 13, .string snm, .string stn, .slice pao pl pc, .int .i64 n, .int .i64 dir, .slice tao tl tc] 41) = wv at *
  have v0 : wv.cell? ⟨M, 0, none⟩ = some (.int .i64 13) := HV.out.cell 0
  generalize LA.length = ln at *
  go_wp2_with (first
    | (go_at_call 30; refine (HDU.out _ HBV.out).mono ?_; rintro e w1 ⟨bao, bcap, us, rfl, o1, f1, b1⟩; have HO1 := hide o1; have HF1 := hide f1; have HB1 := hide b1; clear o1 f1 b1)
    | (go_at_call 40; refine (HLF.out _ (HBV.out.trans (HB1.out.mono HBV.out.size))).mono ?_; rintro e w2 ⟨cao, ccap, rfl, o2, b2⟩; have HO2 := hide o2; have HB2 := hide b2; clear o2 b2)
    | (go_at_call 34; refine (HFI.out _ _ _ _ _ (HO1.out.keep HB2.out).see HO2.out).mono ?_; rintro e w3 ⟨rfl, b3⟩; have HB3 := hide b3; clear b3)
    | (go_at_call 35; refine (HSP.out _ _ _ _ ((HO1.out.keep HB2.out).keep HB3.out) HF1.out).mono ?_; rintro e w4 ⟨rfl, f4⟩; have HF4 := hide f4; clear f4) | fail)
  go_ret
  exact ⟨rfl, HBV.out.trans ((spoilt_out ((HO1.out.keep HB2.out).keep HB3.out) ((HB1.out.trans (HB2.out.mono HB1.out.size)).trans (HB3.out.mono (Nat.le_trans HB1.out.size HB2.out.size))) HF4.out).mono HBV.out.size)⟩
end Go.Proofs.Yticbfcognnofbaa
/- The contract of asks at a Left. -/
namespace Go.Proofs.Yticbfcognnofbaa
open Go.RowKit Go.Maps

set_option maxHeartbeats 8000000 in
set_option maxRecDepth 100000 in
theorem asks_left {w0 w : World} {dp rp : Nat} {S : DS} (snm stn : ByteArray) (pao tao : Option Addr) (pl pc tl tc : Nat) (n dir : Int) (ts : List Int) (h : Both NoK w0 w dp rp S S) (ht : IRow w tao ts) (htn : tl = ts.length) (htl : tl * 8 ≤ 140737488351232) :
    Calls Try.prog 14 #[.pointer (some ⟨dp, 0, none⟩), .pointer (some ⟨rp, 0, none⟩), .agg #[.int .i64 12, .string snm, .string stn, .slice pao pl pc, .int .i64 n, .int .i64 dir, .slice tao tl tc]] w fun e w' => e = .returned (.bool true) ∧ Below w.heap.size w w' := by
  have HTL := hide htl
  have HTN := hide htn
  have HLD : Hid (∀ W vao cap, Below w.heap.size w W → IRow W vao ts → Calls Try.prog 22 #[.pointer (some ⟨dp, 0, none⟩), .agg #[.int .i64 dir, .slice vao tl cap]] W fun e w' => ∃ vao cap us, e = .returned (.slice vao (left S dir ts).length cap) ∧ FOwn w' W.heap.size (.slice vao (left S dir ts).length cap) (left S dir ts) us ∧ FOne us ∧ Below W.heap.size W w') := fun W vao cap hW hI => (left_one (h.below hW).dsk dir vao tl cap ts hI htn (by omega)).mono fun e w' ⟨a, b, c, us, d, f, i, j, g⟩ => by rw [j] at d f; exact ⟨a, c, us, d, f, i, g⟩
  have HLF : Hid (∀ W, Below w.heap.size w W → Calls Try.prog 40 #[.pointer (some ⟨rp, 0, none⟩), .int .i64 dir, .slice tao tl tc] W fun e w' => ∃ vao cap, e = .returned (.slice vao (left S dir ts).length cap) ∧ FSee w' vao (left S dir ts) ∧ Below W.heap.size W w') := fun W hW => (both_left3 (h.below hW) dir tao tl tc ts (ht.keep hW) htn (by omega)).mono fun e w' ⟨a, m, c, d, f, hn, g⟩ => ⟨a, c, by rw [← hn]; exact d, f, g⟩
  have HLN := hide (left_many h.oka dir ts)
  have HSP : Hid (∀ W v us B, FOwn W B v (left S dir ts) us → FOne us → Calls Try.prog 35 #[v] W fun e w' => e = .returned (.tuple #[]) ∧ Fr (vb v ++ us.flatMap vb) W w') := fun W v us B hF hO => spoil_any v _ us W (SP.first hF (left_bys h.oka dir ts)) ⟨hO, fun i c g h1 h2 => (hF.new i c g h1 h2).2⟩ hF.len (by have := HLN.out; omega)
  have HCR : Hid (∀ W, Below w.heap.size w W → Calls Try.prog 23 #[.agg #[.int .i64 dir, .slice tao tl tc]] W fun e w' => ∃ cao cap, e = .returned (.agg #[.int .i64 dir, .slice cao tl cap]) ∧ IRow w' cao ts ∧ Below W.heap.size W w') := fun W hW => (crash_any dir tao tl tc ts W (ht.keep hW) htn htl).mono fun e w' ⟨a, m, c, he, hi, hm, hb⟩ => ⟨a, c, by rw [htn, ← hm]; exact he, hi, hb⟩
  have HIN : Hid (∀ W cao cap, Below w.heap.size w W → IRow W cao ts → Calls Try.prog 51 #[.slice cao tl cap, .slice tao tl tc] W fun e w' => e = .returned (.bool true) ∧ Below W.heap.size W w') := fun W cao cap hW hI => (ints_true cao tao tl cap tc ts W hI (ht.keep hW) htn (by omega)).mono fun e w' ⟨he, m, hm⟩ => ⟨he, by rw [hm]; exact below_drewN (Below.refl _ _) m⟩
  generalize left S dir ts = LA at *
  have HFI : Hid (∀ W a b lc wc, FSee W a LA → FSee W b LA → Calls Try.prog 34 #[.slice a LA.length lc, .slice b LA.length wc] W fun e w' => e = .returned (.bool true) ∧ Below W.heap.size W w') := fun W a b lc wc h1 h2 => (files_true a b LA.length lc wc LA W h1 h2 rfl (by have := HLN.out; omega)).mono fun e w' ⟨he, m, hm⟩ => ⟨he, by rw [hm]; exact below_drewN (Below.refl _ _) m⟩
  have HV := hide (Bl.new w #[.int .i64 12, .string snm, .string stn, .slice pao pl pc, .int .i64 n, .int .i64 dir, .slice tao tl tc] 41)
  have HBV := hide (below_new w (.cells #[.int .i64 12, .string snm, .string stn, .slice pao pl pc, .int .i64 n, .int .i64 dir, .slice tao tl tc] 41))
  clear h ht htn htl
  go_enter Try.func14, Try.ntmps14
  go_upto_region 1 with fail
  obtain ⟨M, hM⟩ : ∃ M, M = w.heap.size := ⟨_, rfl⟩
  rw [← hM] at HV ⊢
  clear hM
  generalize w.alloc (.cells #[.int .i64 12, .string snm, .string stn, .slice pao pl pc, .int .i64 n, .int .i64 dir, .slice tao tl tc] 41) = wv at *
  have v0 : wv.cell? ⟨M, 0, none⟩ = some (.int .i64 12) := HV.out.cell 0
  have v5 : wv.cell? ⟨M, 5, none⟩ = some (.int .i64 dir) := HV.out.cell 5
  have v6 : wv.cell? ⟨M, 6, none⟩ = some (.slice tao tl tc) := HV.out.cell 6
  generalize LA.length = ln at *
  go_upto_region 25 with (first
    | (go_at_call 23; refine (HCR.out _ HBV.out).mono ?_; rintro e w1 ⟨cao, ccap, rfl, i1, b1⟩; have HI1 := hide i1; have HB1 := hide b1; have d5 := cell_kept v5 b1; have d6 := cell_kept v6 b1; clear i1 b1) | fail)
  have HC := hide (Bl.new w1 #[.int .i64 dir, .slice cao tl ccap] 39)
  have HBC := hide (below_new w1 (.cells #[.int .i64 dir, .slice cao tl ccap] 39))
  obtain ⟨N, hN⟩ : ∃ N, N = w1.heap.size := ⟨_, rfl⟩
  rw [← hN] at HC ⊢
  clear hN
  have HW1 : Hid (Below wv.heap.size wv (w1.alloc (.cells #[.int .i64 dir, .slice cao tl ccap] 39))) := HB1.out.trans (HBC.out.mono HB1.out.size)
  have HI2 := hide (HI1.out.keep HBC.out)
  have k5 := cell_kept d5 HBC.out
  have k6 := cell_kept d6 HBC.out
  generalize w1.alloc (.cells #[.int .i64 dir, .slice cao tl ccap] 39) = wc at *
  have n0 : wc.cell? ⟨N, 0, none⟩ = some (.int .i64 dir) := HC.out.cell 0
  have n1 : wc.cell? ⟨N, 1, none⟩ = some (.slice cao tl ccap) := HC.out.cell 1
  have HWW : Hid (∀ W, Below wv.heap.size wv W → Below w.heap.size w W) := fun W hW => HBV.out.trans (hW.mono HBV.out.size)
  clear v0 v5 v6 d5 d6 HB1 HBC HI1 HC HV HCR
  go_wp2_with (first
    | (go_at_call 22; refine (HLD.out _ _ _ (HWW.out _ HW1.out) HI2.out).mono ?_; rintro e w2 ⟨bao, bcap, us, rfl, o2, f2, b2⟩; have HO2 := hide o2; have HF2 := hide f2; have HB2 := hide b2; have HW2 := hide (HW1.out.trans (b2.mono HW1.out.size)); have HI3 := hide (HI2.out.keep b2); have p5 := cell_kept k5 b2; have p6 := cell_kept k6 b2; have p1 := cell_kept n1 b2; clear o2 f2 b2)
    | (go_at_call 40; refine (HLF.out _ (HWW.out _ HW2.out)).mono ?_; rintro e w3 ⟨dao, dcap, rfl, o3, b3⟩; have HO3 := hide o3; have HB3 := hide b3; have HW3 := hide (HW2.out.trans (b3.mono HW2.out.size)); have HI4 := hide (HI3.out.keep b3); have q6 := cell_kept p6 b3; have q1 := cell_kept p1 b3; clear o3 b3)
    | (go_at_call 34; refine (HFI.out _ _ _ _ _ (HO2.out.keep HB3.out).see HO3.out).mono ?_; rintro e w4 ⟨rfl, b4⟩; have HB4 := hide b4; have HW4 := hide (HW3.out.trans (b4.mono HW3.out.size)); have HI5 := hide (HI4.out.keep b4); have r6 := cell_kept q6 b4; have r1 := cell_kept q1 b4; clear b4)
    | (go_at_call 51; refine (HIN.out _ _ _ (HWW.out _ HW4.out) HI5.out).mono ?_; rintro e w5 ⟨rfl, b5⟩; have HB5 := hide b5; clear b5)
    | (go_at_call 35; refine (HSP.out _ _ _ _ (((HO2.out.keep HB3.out).keep HB4.out).keep HB5.out) HF2.out).mono ?_; rintro e w6 ⟨rfl, f6⟩; have HF6 := hide f6; clear f6) | fail)
  go_ret
  exact ⟨rfl, HWW.out _ (HW1.out.trans ((spoilt_out (((HO2.out.keep HB3.out).keep HB4.out).keep HB5.out) (((HB2.out.trans (HB3.out.mono HB2.out.size)).trans (HB4.out.mono (Nat.le_trans HB2.out.size HB3.out.size))).trans (HB5.out.mono (Nat.le_trans (Nat.le_trans HB2.out.size HB3.out.size) HB4.out.size))) HF6.out).mono HW1.out.size))⟩
end Go.Proofs.Yticbfcognnofbaa
/- The walk of the law DiskPlays. -/
namespace Go.Proofs.Yticbfcognnofbaa
open Go.RowKit Go.Maps

theorem asks_any {w0 w : World} {dp rp : Nat} {S : DS} (x : Ac) (stn : ByteArray) (pao tao : Option Addr) (pl pc tl tc : Nat) (h : Both NoK w0 w dp rp S S) (hx : AOk x) (htl : tl = x.ts.length) (ht : IRow w tao x.ts) :
    Calls Try.prog 14 #[.pointer (some ⟨dp, 0, none⟩), .pointer (some ⟨rp, 0, none⟩), .agg #[.int .i64 x.kind, .string (str x.nm), .string stn, .slice pao pl pc, .int .i64 x.n, .int .i64 x.dir, .slice tao tl tc]] w fun e w' => e = .returned (.bool true) ∧ Below w.heap.size w w' := by
  by_cases h7 : x.kind = 7
  · rw [h7]; exact asks_read x.nm stn pao tao pl pc tl tc x.n x.dir h hx.nm
  by_cases h8 : x.kind = 8
  · rw [h8]; exact asks_list (str x.nm) stn pao tao pl pc tl tc x.n x.dir h
  by_cases h12 : x.kind = 12
  · rw [h12]; exact asks_left (str x.nm) stn pao tao pl pc tl tc x.n x.dir x.ts h ht htl (by rw [htl]; exact hx.tl)
  by_cases h13 : x.kind = 13
  · rw [h13]; exact asks_durable (str x.nm) stn pao tao pl pc tl tc x.n x.dir h
  exact asks_small x.kind (str x.nm) stn pao tao pl pc tl tc x.n x.dir h h7 h8 h12 h13
set_option maxHeartbeats 4000000 in
set_option maxRecDepth 100000 in
theorem diskPlays_walk (fao : Option Addr) (fn fc : Nat) (fs : List Fi) (room : Int) (aao : Option Addr) (an ac : Nat) (l : List Ac) (w : World) (hf : FSee w fao fs) (hfn : fn = fs.length) (hfl : fn * 40 ≤ 140737488351232) (hfs : ∀ f ∈ fs, f.1.length ≤ maxLen ∧ f.1.length ≤ 281474976710656 ∧ f.2.length ≤ 140737488355328) (hfx : ∀ f ∈ fs, f.2.length ≤ 140737488351232) (hfb : ∀ f ∈ fs, ∀ x ∈ f.2, x < 256) (hr : room ≤ 9223372036854775807)
    (ha : ASee w aao l) (han : an = l.length) (hal : an * 104 ≤ 140737488351232) (hao : ∀ x ∈ l, AOk x) :
    Calls Try.prog 5 #[.agg #[.slice fao fn fc, .int .i64 room, .slice aao an ac]] w fun e w' => e = .returned (.bool true) ∧ Below w.heap.size w w' := by
  have HB := hide (Bl.new w #[.slice fao fn fc, .int .i64 room, .slice aao an ac] 28)
  have HU := hide (below_new w (.cells #[.slice fao fn fc, .int .i64 room, .slice aao an ac] 28))
  have HA := hide (ha.keep HU.out)
  have HBG := hide (begin_any fao fn fc fs room (.slice aao an ac) aao an ac rfl (w.alloc (.cells #[.slice fao fn fc, .int .i64 room, .slice aao an ac] 28)) (hf.keep HU.out) hfn hfl hfs hfx hfb hr)
  have HLV : Hid (∀ W, Calls Try.prog 10 #[] W fun e w' => e = .returned (.bool true) ∧ Below W.heap.size W w') := fun W => live_true W
  have HAN := hide han
  have HAL := hide hal
  have HAO := hide hao
  clear hf hfn hfl hfs hfx hfb hr ha han hal hao
  by_cases h0 : newErr fs room = 0
  · simp only [if_pos h0] at HBG
    generalize born fs room.toNat = S0 at *
    clear h0
    go_enter Try.func5, Try.ntmps5
    go_upto_region 1 with fail
    obtain ⟨N, hN⟩ : ∃ N, N = w.heap.size := ⟨_, rfl⟩
    rw [← hN] at HB ⊢
    clear hN
    generalize w.alloc (.cells #[.slice fao fn fc, .int .i64 room, .slice aao an ac] 28) = u at *
    have c0 : u.cell? ⟨N, 0, none⟩ = some (.slice fao fn fc) := HB.out.cell 0
    have c1 : u.cell? ⟨N, 1, none⟩ = some (.int .i64 room) := HB.out.cell 1
    have c2 : u.cell? ⟨N, 2, none⟩ = some (.slice aao an ac) := HB.out.cell 2
    go_wp2_with (first | (go_at_call 11; refine HBG.out.mono ?_; rintro e w2 ⟨dp, rp, rfl, h2⟩; have H2 := hide h2; clear h2) | (go_at_call 10; refine (HLV.out _).mono ?_; rintro e w3 ⟨rfl, b3⟩; have H3 := hide (H2.out.below b3); clear b3) | fail)
    clear c0 c1 H2 HBG HLV
    go_loopw [6] (fun i wr => ∃ k : Nat, k ≤ an ∧ i = .int .i64 (k : Int) ∧ Hid (Both NoK u wr dp rp (acts S0 (l.take k)) (acts S0 (l.take k)))) (fun i _ => an - (intOf i).toNat)
    case atStart => exact ⟨0, Nat.zero_le _, rfl, H3.out⟩
    case round =>
      clear H3
      obtain ⟨k, hk, rfl, HK⟩ := hrel
      have n2 := cell_kept c2 HK.out.bel
      by_cases hlt : k < an
      · obtain ⟨x, hx⟩ : ∃ x, l[k]? = some x := ⟨_, List.getElem?_eq_getElem (by rw [← HAN.out]; exact hlt)⟩
        obtain ⟨ab, aoff, pao, pc, tao, tc, rfl, y0, y1, y2, y3, y4, y5, y6, y8, y9⟩ := HA.out.cell k x hx
        have HX := hide (HAO.out x (List.mem_of_getElem? hx))
        have HCH := hide (changes_any x pao tao x.p.length pc x.ts.length tc HK.out HX.out rfl y8)
        have HTK : Hid (acts S0 (l.take (k + 1)) = act (acts S0 (l.take k)) x) := acts_take hx
        generalize act (acts S0 (l.take k)) x = T at *
        have HAS : Hid (∀ W, Both NoK u W dp rp T T → Calls Try.prog 14 #[.pointer (some ⟨dp, 0, none⟩), .pointer (some ⟨rp, 0, none⟩), .agg #[.int .i64 x.kind, .string (str x.nm), .string (str x.tn), .slice pao x.p.length pc, .int .i64 x.n, .int .i64 x.dir, .slice tao x.ts.length tc]] W fun e w' => e = .returned (.bool true) ∧ Below W.heap.size W w') := fun W hW => asks_any x (str x.tn) pao tao x.p.length pc x.ts.length tc hW HX.out rfl (y9.keep hW.bel)
        have x0 := cell_kept y0 HK.out.bel
        have x1 := cell_kept y1 HK.out.bel
        have x2 := cell_kept y2 HK.out.bel
        have x3 := cell_kept y3 HK.out.bel
        have x4 := cell_kept y4 HK.out.bel
        have x5 := cell_kept y5 HK.out.bel
        have x6 := cell_kept y6 HK.out.bel
        generalize str x.nm = snm at *
        generalize str x.tn = stn at *
        generalize x.p.length = pl at *
        generalize x.ts.length = tl at *
        have hki : (k : Int) < (an : Int) := by omega
        have HKB : Hid ((k : Int) + 1 ≤ 4611686018427387904) := by show _ ≤ _; have := HAL.out; omega
        clear hx y8 y9 HK
        go_upto_region 6 with (first | (go_at_call 13; refine HCH.out.mono ?_; rintro e w4 ⟨rfl, b4⟩; have H4 := hide b4; have z0 := cell_kept y0 b4.bel; have z1 := cell_kept y1 b4.bel; have z2 := cell_kept y2 b4.bel; have z3 := cell_kept y3 b4.bel; have z4 := cell_kept y4 b4.bel; have z5 := cell_kept y5 b4.bel; have z6 := cell_kept y6 b4.bel; have m2 := cell_kept c2 b4.bel; clear b4) | (go_at_call 14; refine (HAS.out _ H4.out).mono ?_; rintro e w5 ⟨rfl, b5⟩; have H5 := hide (H4.out.below b5); clear b5) | fail)
        clear x0 x1 x2 x3 x4 x5 x6 y0 y1 y2 y3 y4 y5 y6 z0 z1 z2 z3 z4 z5 z6 hki n2 m2
        have hkb := HKB.out
        go_wp2_with fail
        go_roundw
        case rel => exact ⟨k + 1, by omega, by simp, by rw [HTK.out]; exact H5.out⟩
        case measure => simp [intOf]; omega
      · have hki : ¬ (k : Int) < (an : Int) := by omega
        have HWX : Hid (∀ W, Below wr.heap.size wr W → Below w.heap.size w W) := fun W hW => HU.out.trans ((HK.out.bel.trans (hW.mono HK.out.bel.size)).mono HU.out.size)
        have HAT := hide (all_true HK.out)
        go_wp2_with (first | (go_at_call 12; refine HAT.out.mono ?_; rintro e w7 ⟨rfl, b7⟩; have HY := hide (HWX.out _ b7); clear b7) | fail)
        go_ret
        exact ⟨rfl, HY.out⟩
  · simp only [if_neg h0] at HBG
    clear h0
    go_enter Try.func5, Try.ntmps5
    go_wp2_with (first | (go_at_call 11; refine HBG.out.mono ?_; rintro e w2 ⟨rfl, b2⟩; have B2 := hide b2; clear b2) | (go_at_call 10; refine (HLV.out _).mono ?_; rintro e w3 ⟨rfl, b3⟩; have B3 := hide (B2.out.trans (b3.mono B2.out.size)); clear b3) | fail)
    go_wp2_with (first | (go_at_call 10; refine (HLV.out _).mono ?_; rintro e w4 ⟨rfl, b4⟩; have B4 := hide (B3.out.trans (b4.mono B3.out.size)); clear b4) | fail)
    go_ret
    exact ⟨rfl, HU.out.trans (B4.out.mono HU.out.size)⟩
end Go.Proofs.Yticbfcognnofbaa
/- DiskPlays answers true for every story: each call answers as the document's disk does, whatever is done with what was handed out, and it leaves its argument as it was. -/
namespace Go.Proofs.Yticbfcognnofbaa
open Go.ChangeShapes Go.WideShapes Go.ChangeAt Go.RowKit
open Go.ChangeMaps (open_string shut_string)

set_option maxRecDepth 100000 in
theorem diskPlays_contract (H : Type) (enc : TypeId × Value → H) (W : World) (base : Nat) (args : Array Value) (ds gs : List (DataW H)) (before : List MemPlace)
    (hval : ∀ (j : Nat) t v, Try.f5.params[j]? = some t → args[j]? = some v → Value.okWide Try.prog W .any base t v)
    (hW : DataW.Whole enc Try.prog Try.f5.params.toList Rows.diskPlaysSpec.vars false W args.toList ds gs before) (hsz : (DataW.weightsEach Try.prog (Try.f5.params.toList ++ Rows.diskPlaysSpec.plain.varTypes Try.prog) (ds ++ gs)).all (fun x => decide (x ≤ reachBytes)) = true) :
    Calls Try.prog 5 args W fun e W' => ∃ v, e = .returned v ∧ Rows.diskPlaysSpec.post enc Try.prog Try.f5 false true false false W args v W' := by
  have hW' := hW
  obtain ⟨p, q, hA0, hV, rfl, hfz, hnd⟩ := hW
  have hA : DataW.TrodAll enc Try.prog W 0 (fun _ => true) true Try.f5.params.toList args.toList ds p := hA0
  rw [Try.params5] at hA hval hsz
  obtain ⟨v0, vs0, d0, ds0, p0, q0, hargs, rfl, rfl, h0, r0⟩ := trodAll_cons hA
  obtain ⟨rfl, rfl, rfl⟩ := trodAll_nil r0
  obtain rfl : args = #[v0] := by cases args; simp_all
  obtain ⟨rfl, rfl⟩ := trodVars_none hV
  have k0 := h0
  have wt0 : Wt 28 d0 := wt_param hsz (j := 0) rfl rfl
  obtain ⟨fao0, fs0, fc0, room0, aao0, l0, ac0, rfl, fsee0, fb0, hr0, asee0, lt0, wf0⟩ := open_story2 (hval 0 28 v0 rfl rfl) h0
  obtain ⟨⟨fl0, ff0⟩, al0, aok0⟩ := wf0 wt0
  clear hA0
  refine (diskPlays_walk fao0 fs0.length fc0 fs0 room0 aao0 l0.length ac0 l0 W fsee0 rfl fl0 (fun f h => ⟨(ff0 f h).1, (ff0 f h).2.1, (ff0 f h).2.2.1⟩) (fun f h => (ff0 f h).2.2.2) fb0 hr0 asee0 rfl al0 aok0).mono fun e W' ⟨he, bel⟩ => ?_
  subst he
  exact ⟨_, rfl, _, _, _, [], _, [], hW', trodAll_mk1 (shut_bool Try.underlying4 _), (trodAll_cons_mk (Below.trod laidOut (by kernel_rfl) (of_decide_eq_true (by kernel_rfl)) k0 bel lt0) trodAll_mk0), rfl, bel.frame _, fun h => by cases h⟩

set_option maxRecDepth 100000 in
theorem diskPlays_lifted (os : Os) (started : os.Started) (H : Type) (enc : TypeId × Value → H) :
    ReturnsInHanded {} Try.checked os 5 .any (Rows.diskPlaysSpec.pre6 enc Try.prog Try.f5 Rows.diskPlaysRow.domain false) (Rows.diskPlaysSpec.post enc Try.prog Try.f5 false true false false) := by
  refine returnsInHanded_of_change_sized (C := Try.checked) ownKnobs started (by kernel_rfl) Try.func5
    (ChangeSpec.witness6 (enc := enc) (C := Try.checked) false ⟨#[], #[.agg #[.slice none 0 0, .int .i64 0, .slice none 0 0]], []⟩ 8 (by kernel_rfl) (by kernel_rfl) (by kernel_rfl) (by kernel_rfl)) ?_
  intro W base args ds gs before hval hW _ hsz _
  exact diskPlays_contract H enc W base args ds gs before hval hW hsz

theorem diskPlays_holds : Rows.DiskPlaysSaid :=
  OpenClaim.holds_of_wide 5 Try.f5 rfl rfl rfl rfl rfl rfl rfl ⟨rfl, rfl, rfl, rfl, rfl⟩ rfl rfl rfl rfl rfl (by kernel_rfl) Try.func5 (by kernel_rfl)
    (of_decide_eq_true (by kernel_rfl)) (by unfold Func.isWrapper; first | (rw [if_pos (by decide +kernel)]; kernel_rfl) | (rw [if_neg (by decide +kernel)]; exact ⟨rfl, rfl⟩))
    (fun os started H enc _ => diskPlays_lifted os started H enc)
#print axioms diskPlays_holds
end Go.Proofs.Yticbfcognnofbaa
