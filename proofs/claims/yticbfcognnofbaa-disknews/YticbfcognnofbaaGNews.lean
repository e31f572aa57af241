/- copied: files in memory of their own, each in a block of its own; spoil writes over what was handed out, and nothing else. -/
import Derived.Test.YticbfcognnofbaaDCopied
import Derived.Test.YticbfcognnofbaaDRows
import Derived.Test.YticbfcognnofbaaGBoth
import Derived.Test.YticbfcognnofbaaGOpen
namespace Go.Proofs.Yticbfcognnofbaa
open Go.RowKit Go.Maps

/-- No two of these rows share a block. -/
def FOne (us : List Value) : Prop := ∀ (i j : Nat) u u' g, us[i]? = some u → us[j]? = some u' → u.ownBlock = some g → u'.ownBlock = some g → i = j
theorem fone_nil : FOne [] := fun i j u u' g h1 _ _ _ => by simp at h1
theorem fone_step {wr : World} {B : Nat} {v u : Value} {l : List Fi} {us : List Value} (h : FOwn wr B v l us) (ho : FOne us) (hn : ∀ g, u.ownBlock = some g → wr.heap.size ≤ g) : FOne (us ++ [u]) := by
  have old : ∀ (i : Nat) c g, us[i]? = some c → c.ownBlock = some g → g < wr.heap.size := fun i c g h1 h2 => by
    have hi : i < us.length := by
      rcases Nat.lt_or_ge i us.length with h3 | h3
      · exact h3
      · rw [List.getElem?_eq_none h3] at h1; cases h1
    obtain ⟨x, hx⟩ : ∃ x, l[i]? = some x := ⟨_, List.getElem?_eq_getElem (by rw [← h.len]; exact hi)⟩
    exact (World.ownsRow.lt (h.own i c x h1 hx) g h2).2
  have last : ∀ (i : Nat) c, (us ++ [u])[i]? = some c → (us[i]? = some c) ∨ (i = us.length ∧ c = u) := fun i c h1 => by
    by_cases hi : i < us.length
    · rw [List.getElem?_append_left hi] at h1; exact .inl h1
    · have hil : i = us.length := by
        rcases Nat.lt_or_ge i (us ++ [u]).length with h3 | h3
        · simp at h3; omega
        · rw [List.getElem?_eq_none h3] at h1; cases h1
      subst hil
      rw [List.getElem?_concat_length] at h1
      injection h1 with h1
      exact .inr ⟨rfl, h1.symm⟩
  intro i j c c' g h1 h2 h3 h4
  rcases last i c h1 with a | ⟨a1, a2⟩ <;> rcases last j c' h2 with b | ⟨b1, b2⟩
  · exact ho i j c c' g a b h3 h4
  · rw [b2] at h4
    have := old i c g a h3
    have := hn g h4
    omega
  · rw [a2] at h3
    have := old j c' g b h4
    have := hn g h3
    omega
  · omega
set_option maxHeartbeats 4000000 in
set_option maxRecDepth 100000 in
theorem copied_one (ao : Option Addr) (n c : Nat) (fs : List Fi) (w : World) (hs : FSee w ao fs) (hn : n = fs.length) (hnl : n * 40 ≤ 140737488351232) (hl : ∀ f ∈ fs, f.2.length ≤ 140737488355328) :
    Calls Try.prog 31 #[.slice ao n c] w fun e w' => ∃ vao m cap, e = .returned (.slice vao m cap) ∧ (∃ us, FOwn w' w.heap.size (.slice vao m cap) fs us ∧ FOne us) ∧ Below w.heap.size w w' := by
  have HS := hide hs
  have HN := hide hn
  have HNL := hide hnl
  have HL := hide hl
  obtain ⟨B, hB⟩ : ∃ B, B = w.heap.size := ⟨_, rfl⟩
  rw [← hB]
  have HB := hide hB
  clear hs hn hnl hl hB
  go_enter Try.func31, Try.ntmps31
  go_wp2_with fail
  go_loopw [3, 4] (fun v i wr => ∃ (q : Nat) (us : List Value), q ≤ n ∧ i = .int .i64 (q : Int) ∧ Hid (FOwn wr B v (fs.take q) us) ∧ Hid (FOne us) ∧ Hid (Below B w wr)) (fun _ i _ => n - (intOf i).toNat)
  case atStart => exact ⟨0, [], Nat.zero_le _, rfl, by rw [List.take_zero]; exact fown_nil _ _, fone_nil, Below.refl _ _⟩
  case round =>
    obtain ⟨q, us, hq, rfl, HFO, HON, HBF⟩ := hrel
    have hltk : (fs.take q).length = q := by rw [List.length_take]; have := HN.out; omega
    obtain ⟨vao, vcap, hv⟩ := ownsRow_slice HFO.out.row
    rw [hltk] at hv
    subst hv
    have HS5 : Hid (B ≤ wr.heap.size) := by have := HBF.out.size; have := HB.out; show _ ≤ _; omega
    by_cases hqn : q < n
    · obtain ⟨x, hx⟩ : ∃ x, fs[q]? = some x := ⟨_, List.getElem?_eq_getElem (by rw [← HN.out]; exact hqn)⟩
      obtain ⟨ab, aoff, bao, bc, rfl, x1, x2, x3⟩ := HS.out.cell q x hx
      have hbw : Below w.heap.size w wr := by rw [← HB.out]; exact HBF.out
      have y1 := cell_kept x1 hbw
      have y2 := cell_kept x2 hbw
      have HY3 := hide (x3.keep hbw)
      have hxl := HL.out x (List.mem_of_getElem? hx)
      have HSTEP : Hid (∀ (W w' : World) (uao : Option Addr) (un ucap : Nat) (ao9 : Option Addr) (cap9 : Nat) (o : Obj), Below wr.heap.size wr W → Own W 0 (.slice uao un ucap) x.2 → (∀ g, (Value.slice uao un ucap).ownBlock = some g → wr.heap.size ≤ g) → w'.ownsRow B 54 2 (.slice ao9 (q + 1) cap9) (q + 1) (fcells (fs.take q) us ++ [.string (str x.1), .slice uao un ucap]) → (W.alloc o).grownBy w' (Value.slice vao q vcap).ownBlock → (Value.ownBlock (.slice ao9 (q + 1) cap9) = (Value.slice vao q vcap).ownBlock ∨ Value.ownBlock (.slice ao9 (q + 1) cap9) = some (W.alloc o).heap.size) → FOwn w' B (.slice ao9 (q + 1) cap9) (fs.take (q + 1)) (us ++ [.slice uao un ucap]) ∧ Below B w w' ∧ FOne (us ++ [.slice uao un ucap])) := fun W w' uao un ucap ao9 cap9 o g1 g2 g3 g4 g5 g6 => by
        have := fown_step (x := x) HFO.out HS5.out g1 g2 g3 (by rw [hltk]; exact g4) g5 (by rw [hltk]; exact g6)
        rw [hltk] at this
        rw [List.take_add_one, hx]
        exact ⟨this.1, HBF.out.trans this.2, fone_step HFO.out HON.out g3⟩
      have HROW := hide HFO.out.row
      rw [hltk] at HROW
      obtain ⟨nm, xs⟩ := x
      simp only at y1 y2 HY3 hxl HSTEP
      obtain ⟨bl, hbl⟩ : ∃ bl, bl = xs.length := ⟨_, rfl⟩
      have HBL := hide hbl
      rw [← hbl] at y2
      have HXL := hide hxl
      have HE := hide (own_new wr 0 [] (Nat.zero_le _) (Nat.zero_le _))
      have HYE := hide (HY3.out.keep (below_new wr (.cells #[] 5)))
      have z1 := cell_kept y1 (below_new wr (.cells #[] 5))
      have z2 := cell_kept y2 (below_new wr (.cells #[] 5))
      have hqi : (q : Int) < (n : Int) := by omega
      have hqb : (q : Int) + 1 ≤ 4611686018427387904 := by have := HNL.out; omega
      have hq40 : (q + 1) * 40 ≤ 140737488355328 := by have := HNL.out; omega
      generalize str nm = s at *
      clear hx x1 x2 x3 hbw hbl hxl hltk HFO HY3
      go_wp2_with fail
      go_region_law (first
        | (refine law_appB rfl (.tmp 17) (.tmp 22) rfl (.slice (some ⟨wr.heap.size, 0, none⟩) 0 0) [] rfl HE.out bao bl bc xs HBL.out rfl HYE.out (by have := HXL.out; simpa using this) ?_; intro uao un ucap w2 h2 g2 l2; have HOU := hide (show Own w2 0 (.slice uao un ucap) xs from h2); have han := app_new (grown_undrew g2) l2; have HCUR := hide han.1; have HNG := hide han.2; have zz1 := cell_kept y1 han.1; clear h2 g2 l2 han)
        | (refine law_appF rfl (.tmp 11) (.tmp 25) rfl B (.slice vao q vcap) q (fcells (fs.take q) us) [.string s, .slice uao un ucap] rfl (World.ownsRow.alloc (owns_same HROW.out fun g hg => HCUR.out.block g (World.ownsRow.lt HROW.out g hg).2) _) _ rfl (Bl.new _ _ _) rfl (by intro x hx; simp only [List.mem_cons, List.not_mem_nil, or_false] at hx; rcases hx with rfl | rfl <;> rfl) hq40 (by have := HCUR.out.size; have := HS5.out; simp; omega) ?_; intro ao9 cap9 w9 hn9 hg9 ho9; have HFI := hide (HSTEP.out _ w9 uao un ucap ao9 cap9 _ HCUR.out HOU.out HNG.out hn9 hg9 ho9); clear hn9 hg9 ho9))
      all_goals
        clear HSTEP HROW HOU HNG HCUR HE HYE y1 y2 z1 z2 zz1
        go_wp2_with fail
        go_roundw
        case rel => exact ⟨q + 1, us ++ [.slice uao un ucap], by omega, by simp, hide HFI.out.1, hide HFI.out.2.2, hide HFI.out.2.1⟩
        case measure => simp [intOf]; omega
    · have hqi : ¬ (q : Int) < (n : Int) := by omega
      have hte : fs.take q = fs := List.take_of_length_le (by have := HN.out; omega)
      rw [hte] at HFO
      clear hte hltk
      go_wp2_with fail
      go_ret
      exact ⟨_, _, _, rfl, ⟨us, HFO.out, HON.out⟩, by rw [HB.out] at HBF ⊢; exact HBF.out⟩
end Go.Proofs.Yticbfcognnofbaa
/- The contract of spoil. -/
namespace Go.Proofs.Yticbfcognnofbaa
open Go.RowKit Go.Maps

/-- A list of files that is being written over, from place k on. -/
structure SP (w0 w : World) (v : Value) (n : Nat) (us : List Value) (k : Nat) : Prop where
  row : ∃ cs, w.ownsRow 0 54 2 v n cs ∧ ∀ (j : Nat) u, k ≤ j → us[j]? = some u → cs[j * 2 + 1]? = some u ∧ ∃ s, cs[j * 2]? = some (.string s)
  own : ∀ (j : Nat) u, k ≤ j → us[j]? = some u → ∃ xs, Own w 0 u xs ∧ xs.length ≤ 140737488351232
  fr : Fr (vb v ++ us.flatMap vb) w0 w
structure SF (v : Value) (us : List Value) : Prop where
  one : FOne us
  off : ∀ (i : Nat) u g, us[i]? = some u → u.ownBlock = some g → v.ownBlock ≠ some g
theorem us_mem {us : List Value} {v u : Value} {i g : Nat} (h : us[i]? = some u) (hg : u.ownBlock = some g) : g ∈ vb v ++ us.flatMap vb := List.mem_append.2 (.inr (List.mem_flatMap.2 ⟨u, List.mem_of_getElem? h, mem_vb.2 hg⟩))
theorem SP.first {w : World} {B : Nat} {v : Value} {l : List Fi} {us : List Value} (h : FOwn w B v l us) (hl : ∀ f ∈ l, f.2.length ≤ 140737488351232) : SP w w v l.length us 0 := by
  have at' : ∀ (j : Nat) u, us[j]? = some u → ∃ x, l[j]? = some x := fun j u hu => by
    have hj : j < us.length := by
      rcases Nat.lt_or_ge j us.length with h1 | h1
      · exact h1
      · rw [List.getElem?_eq_none h1] at hu; cases hu
    exact ⟨_, List.getElem?_eq_getElem (by rw [← h.len]; exact hj)⟩
  refine ⟨⟨fcells l us, ⟨h.row.1, ?_⟩, fun j u _ hu => ?_⟩, fun j u _ hu => ?_, Fr.refl _ _⟩
  · rcases h.row.2 with e | ⟨g, cap, cur, e, hg, r⟩
    · exact .inl e
    · exact .inr ⟨g, cap, cur, e, Nat.zero_le _, r⟩
  · obtain ⟨x, hx⟩ := at' j u hu
    obtain ⟨c1, c2⟩ := fcells_get j hx hu
    exact ⟨c2, _, c1⟩
  · obtain ⟨x, hx⟩ := at' j u hu
    exact ⟨x.2, h.own j u x hu hx, hl x (List.mem_of_getElem? hx)⟩
/-- A byte of a file's written over. -/
theorem SP.poke {w0 w : World} {v : Value} {n : Nat} {us : List Value} {k i g m cap : Nat} (h : SP w0 w v n us k) (hf : SF v us) (hu : us[i]? = some (.slice (some ⟨g, 0, none⟩) m cap)) (j x : Nat) : SP w0 (w.setCell ⟨g, j, none⟩ (.int .u8 (x : Int))) v n us k := by
  have hug : Value.ownBlock (.slice (some ⟨g, 0, none⟩) m cap) = some g := rfl
  have hvg : v.ownBlock ≠ some g := hf.off i _ g hu hug
  obtain ⟨cs, hr, hc⟩ := h.row
  refine ⟨⟨cs, owns_same hr fun b hb => heap_setCell_other w ⟨g, j, none⟩ b _ (fun e => hvg (by rw [hb]; exact congrArg some e)), hc⟩, fun q u hk hq => ?_, h.fr.trans (Fr.setCell _ w g j _ (us_mem hu hug)) (fun y hy => .inl hy)⟩
  obtain ⟨xs, ho, hl⟩ := h.own q u hk hq
  by_cases hqi : q = i
  · subst hqi
    rw [hu] at hq
    injection hq with hq
    subst hq
    obtain ⟨ao, c, e, _, _⟩ := ho.read
    injection e with e1 e2 e3
    subst e1; subst e2; subst e3
    have := (World.ownsRow.stored ho j (.int .u8 (x : Int))).1
    refine ⟨xs.set j x, ?_, by rw [List.length_set]; exact hl⟩
    unfold Own
    rw [List.length_set, List.map_set]
    exact this
  · exact ⟨xs, owns_same ho fun b hb => heap_setCell_other w ⟨g, j, none⟩ b _ (fun e => hqi (hf.one q i u _ g hq hu (by rw [hb]; exact congrArg some e) hug)), hl⟩
/-- A file's row grown. -/
theorem SP.grow {w0 w w2 w3 : World} {v u b : Value} {n : Nat} {us : List Value} {k : Nat} (h : SP w0 w v n us (k + 1)) (hf : SF v us) (hu : us[k]? = some u) (hb : ∀ g, b.ownBlock = some g → u.ownBlock = some g ∨ w0.heap.size ≤ g ∧ (∀ x, v.ownBlock = some x → x ≠ g) ∧ ∀ (j : Nat) c, us[j]? = some c → c.ownBlock ≠ some g) (h2 : Below w.heap.size w w2) (hg : w2.grownBy w3 b.ownBlock) : SP w0 w3 v n us (k + 1) := by
  have keep : ∀ x, x < w.heap.size → b.ownBlock ≠ some x → w3.heap[x]? = w.heap[x]? := fun x hx hne => by
    rw [hg.block x (by have := h2.size; omega) (fun e => hne e.symm), h2.block x hx]
  obtain ⟨cs, hr, hc⟩ := h.row
  refine ⟨⟨cs, owns_same hr fun x hx => keep x (World.ownsRow.lt hr x hx).2 (fun e => ?_), hc⟩, fun q c hk hq => ?_, ?_⟩
  · rcases hb x e with e1 | e1
    · exact hf.off k u x hu e1 hx
    · exact e1.2.1 x hx rfl
  · obtain ⟨xs, ho, hl⟩ := h.own q c hk hq
    refine ⟨xs, owns_same ho fun x hx => keep x (World.ownsRow.lt ho x hx).2 (fun e => ?_), hl⟩
    rcases hb x e with e1 | e1
    · have := hf.one q k c u x hq hu hx e1
      omega
    · exact e1.2.2 q c hq hx
  · have f3 : Fr (vb b) w w3 := (Fr.of (fp := vb b) h2).trans (Fr.grown (fp := vb b) hg (fun j hj => mem_vb.2 hj)) (fun x hx => .inl hx)
    exact h.fr.trans f3 (fun y hy => (hb y (mem_vb.1 hy)).imp (fun e => us_mem hu e) (fun e => e.1))
theorem SP.cell {w0 w : World} {vao : Option Addr} {n vcap : Nat} {us : List Value} {k j : Nat} {u : Value} (h : SP w0 w (.slice vao n vcap) n us k) (hk : k ≤ j) (hu : us[j]? = some u) : ∃ g, vao = some ⟨g, 0, none⟩ ∧ w.cell? ⟨g, j * 2 + 1, none⟩ = some u ∧ (∃ s, w.cell? ⟨g, j * 2, none⟩ = some (.string s)) ∧ n ≤ vcap ∧ ∀ i, w.frozen? ⟨g, i, none⟩ = false := by
  obtain ⟨cs, hr, hc⟩ := h.row
  obtain ⟨c1, s, c2⟩ := hc j u hk hu
  rcases hr.2 with ⟨e, e2⟩ | ⟨g, cap, cur, e, _, hgg, hle, _⟩
  · have hl := hr.1
    rw [e2] at hl
    have : j * 2 + 1 < cs.length := by
      rcases Nat.lt_or_ge (j * 2 + 1) cs.length with h1 | h1
      · exact h1
      · rw [List.getElem?_eq_none h1] at c1; cases c1
    omega
  · injection e with e1 e2 e3
    subst e1; subst e3
    have hcell := World.ownsRow.cells hr (g := g) rfl
    have k1 := hcell _ _ c1
    have k2 := hcell _ _ c2
    rw [add_none, Nat.zero_add] at k1 k2
    exact ⟨g, rfl, k1, ⟨s, k2⟩, hle, fun i => frozen_of_row w g i _ _ hgg⟩
/-- A file's place in the list written over. -/
theorem SP.next {w0 w : World} {g n vcap : Nat} {us : List Value} {k : Nat} (h : SP w0 w (.slice (some ⟨g, 0, none⟩) n vcap) n us (k + 1)) (hf : SF (.slice (some ⟨g, 0, none⟩) n vcap) us) (a b : Value) : SP w0 ((w.setCell ⟨g, k * 2, none⟩ a).setCell ⟨g, k * 2 + 1, none⟩ b) (.slice (some ⟨g, 0, none⟩) n vcap) n us (k + 1) := by
  obtain ⟨cs, hr, hc⟩ := h.row
  have h1 := (World.ownsRow.stored hr (k * 2) a).1
  have h2 := (World.ownsRow.stored h1 (k * 2 + 1) b).1
  have hvg : Value.ownBlock (.slice (some ⟨g, 0, none⟩) n vcap) = some g := rfl
  have hm : g ∈ vb (.slice (some ⟨g, 0, none⟩) n vcap) ++ us.flatMap vb := List.mem_append.2 (.inl (mem_vb.2 hvg))
  refine ⟨⟨_, h2, fun j u hk hu => ?_⟩, fun j u hk hu => ?_, (h.fr.trans (Fr.setCell _ w g _ _ hm) (fun y hy => .inl hy)).trans (Fr.setCell _ _ g _ _ hm) (fun y hy => .inl hy)⟩
  · obtain ⟨c1, s, c2⟩ := hc j u hk hu
    refine ⟨?_, s, ?_⟩
    · rw [List.getElem?_set_ne (by omega), List.getElem?_set_ne (by omega)]; exact c1
    · rw [List.getElem?_set_ne (by omega), List.getElem?_set_ne (by omega)]; exact c2
  · obtain ⟨xs, ho, hl⟩ := h.own j u hk hu
    have hne : ∀ x, u.ownBlock = some x → x ≠ g := fun x hx e => hf.off j u x hu hx (by rw [e]; exact hvg)
    exact ⟨xs, owns_same ho fun x hx => (heap_setCell_other _ ⟨g, k * 2 + 1, none⟩ x _ (hne x hx)).trans (heap_setCell_other w ⟨g, k * 2, none⟩ x _ (hne x hx)), hl⟩
theorem SP.up {w0 w : World} {v : Value} {n : Nat} {us : List Value} {k : Nat} (h : SP w0 w v n us k) : SP w0 w v n us (k + 1) := by
  obtain ⟨cs, hr, hc⟩ := h.row
  exact ⟨⟨cs, hr, fun j u hk hu => hc j u (by omega) hu⟩, fun j u hk hu => h.own j u (by omega) hu, h.fr⟩
theorem row_byte {w : World} {g m cap : Nat} {xs : List Nat} (h : Own w 0 (.slice (some ⟨g, 0, none⟩) m cap) xs) {q : Nat} (hq : q < m) : (∃ x : Nat, w.cell? ⟨g, q, none⟩ = some (.int .u8 (x : Int))) ∧ w.frozen? ⟨g, q, none⟩ = false ∧ m ≤ cap := by
  obtain ⟨ao, c, e, hle, hr⟩ := h.read
  injection e with e1 e2 e3
  subst e1; subst e2; subst e3
  refine ⟨⟨_, by have := hr.cell q hq; rwa [Nat.zero_add] at this⟩, ?_, hle⟩
  rcases h.2 with ⟨e, _⟩ | ⟨g', cap', cur, e, _, hgg, _⟩
  · cases e
  · injection e with e _ _
    injection e with e
    injection e with e _ _
    subst e
    exact frozen_of_row w g _ _ _ hgg
end Go.Proofs.Yticbfcognnofbaa
/- The walk of spoil. -/
namespace Go.Proofs.Yticbfcognnofbaa
open Go.RowKit Go.Maps

set_option maxHeartbeats 4000000 in
set_option maxRecDepth 100000 in
theorem spoil_any (v : Value) (n : Nat) (us : List Value) (w : World) (h : SP w w v n us 0) (hf : SF v us) (hul : us.length = n) (hn : n ≤ 4000000000000) :
    Calls Try.prog 35 #[v] w fun e w' => e = .returned (.tuple #[]) ∧ Fr (vb v ++ us.flatMap vb) w w' := by
  obtain ⟨vao, vcap, rfl⟩ : ∃ ao cap, v = .slice ao n cap := by
    obtain ⟨cs, hr, _⟩ := h.row
    exact ownsRow_slice hr
  have H := hide h
  have HF := hide hf
  have HUL := hide hul
  have HN := hide hn
  have HGET : Hid (∀ k, k < n → ∃ u, us[k]? = some u) := fun k hk => ⟨_, List.getElem?_eq_getElem (by rw [hul]; exact hk)⟩
  have HUB0 : Hid (∀ (j : Nat) c g, us[j]? = some c → c.ownBlock = some g → g < w.heap.size) := fun j c g hc hg => by
    obtain ⟨xs, ho, _⟩ := h.own j c (Nat.zero_le _) hc
    exact (World.ownsRow.lt ho g hg).2
  clear h hf hul hn
  go_enter Try.func35, Try.ntmps35
  go_wp2_with fail
  go_loopw [2] (fun i wr => ∃ k : Nat, k ≤ n ∧ i = .int .i64 (k : Int) ∧ Hid (SP w wr (.slice vao n vcap) n us 0)) (fun i _ => n - (intOf i).toNat)
  case atStart => exact ⟨0, Nat.zero_le _, rfl, H⟩
  case round =>
    obtain ⟨k, hk, rfl, HS⟩ := hrel
    by_cases hlt : k < n
    · obtain ⟨u, hu⟩ := HGET.out k hlt
      obtain ⟨xs, ho, hxl⟩ := HS.out.own k u (Nat.zero_le _) hu
      obtain ⟨uao, ucap, rfl, -, -⟩ := ho.read
      obtain ⟨m, hm⟩ : ∃ m, m = xs.length := ⟨_, rfl⟩
      rw [← hm] at hu hxl
      have HU := hide hu
      have HM := hide hxl
      obtain ⟨gv, rfl, x1, ⟨sn, x2⟩, hcap, -⟩ := HS.out.cell (Nat.zero_le k) hu
      have hki : (k : Int) < (n : Int) := by omega
      clear hu ho hm hxl x1 x2
      generalize wr = w1 at *
      go_wp2_with fail
      go_loopw [3] (fun i wr => ∃ q : Nat, q ≤ m ∧ i = .int .i64 (q : Int) ∧ Hid (SP w wr (.slice (some ⟨gv, 0, none⟩) n vcap) n us 0)) (fun i _ => m - (intOf i).toNat)
      case atStart => exact ⟨0, Nat.zero_le _, rfl, HS⟩
      case round =>
        clear HS
        obtain ⟨q, hq, rfl, HS⟩ := hrel
        obtain ⟨gv', e, x1, -, -, -⟩ := HS.out.cell (Nat.zero_le k) HU.out
        injection e with e
        injection e with e _ _
        subst e
        by_cases hqm : q < m
        · obtain ⟨xs, ho, -⟩ := HS.out.own k _ (Nat.zero_le _) HU.out
          have hne : xs ≠ [] := by
            intro e
            obtain ⟨ao, c, e2, -, -⟩ := ho.read
            rw [e] at e2
            injection e2 with _ e3 _
            simp at e3
            omega
          obtain ⟨gu, c2, e2, -, -, -⟩ := ho.readSome hne
          injection e2 with e2 e3 e4
          clear e3 e4
          subst e2
          obtain ⟨⟨x, k1⟩, k2, k3⟩ := row_byte ho hqm
          have HP : Hid (SP w (wr.setCell ⟨gu, q, none⟩ (.int .u8 204)) (.slice (some ⟨gv, 0, none⟩) n vcap) n us 0) := HS.out.poke HF.out HU.out q 204
          have hqi : (q : Int) < (m : Int) := by omega
          have hqb : (q : Int) + 1 ≤ 4611686018427387904 := by have := HM.out; omega
          have HQB := hide hqb
          clear ho hne hqb
          go_upto_region 5 with fail
          clear hki hqi k1 k2 k3 x1
          have hqb := HQB.out
          go_wp2_with fail
          go_roundw
          case rel => exact ⟨q + 1, by omega, by simp, HP⟩
          case measure => simp [intOf]; omega
        · have hqi : ¬ (q : Int) < (m : Int) := by omega
          have hkb : (k : Int) + 1 ≤ 4611686018427387904 := by have := HN.out; omega
          go_wp2_with fail
          go_roundw
          case rel => exact ⟨k + 1, by omega, by simp, HS⟩
          case measure => simp [intOf]; omega
    · have hki : ¬ (k : Int) < (n : Int) := by omega
      clear H hlt hk
      generalize wr = w1 at *
      go_wp2_with fail
      go_loopw [4] (fun i wr => ∃ k : Nat, k ≤ n ∧ i = .int .i64 (k : Int) ∧ Hid (SP w wr (.slice vao n vcap) n us k)) (fun i _ => n - (intOf i).toNat)
      case atStart => exact ⟨0, Nat.zero_le _, rfl, HS⟩
      case round =>
        clear HS hki
        obtain ⟨k, hk, rfl, HS⟩ := hrel
        by_cases hlt : k < n
        · obtain ⟨u, hu⟩ := HGET.out k hlt
          obtain ⟨xs, ho, hxl⟩ := HS.out.own k u (Nat.le_refl _) hu
          obtain ⟨uao, ucap, rfl, -, -⟩ := ho.read
          obtain ⟨gv, rfl, x1, -, hcap, -⟩ := HS.out.cell (Nat.le_refl k) hu
          have hki : (k : Int) < (n : Int) := by omega
          have HO := hide ho
          obtain ⟨m, hm⟩ : ∃ m, m = xs.length := ⟨_, rfl⟩
          have HM := hide hm
          have HXL := hide hxl
          rw [← hm] at hu HO x1 HXL
          have HU := hide hu
          have HS1 := hide HS.out.up
          have HUB : Hid (∀ (j : Nat) c g, us[j]? = some c → c.ownBlock = some g → g < w.heap.size) := HUB0
          have HSW := hide HS.out.fr.size
          have HVLT : Hid (∀ x, Value.ownBlock (.slice (some ⟨gv, 0, none⟩) n vcap) = some x → x < wr.heap.size) := fun x hx => by
            obtain ⟨cs, hr, _⟩ := HS.out.row
            exact (World.ownsRow.lt hr x hx).2
          clear hu ho hm hxl HS
          generalize wr = w2 at *
          go_wp2_with fail
          clear x1
          go_loopw [5, 6] (fun b i wr => ∃ (q : Nat) (ys : List Nat), q ≤ 16 ∧ i = .int .i64 (q : Int) ∧ Hid (SP w wr (.slice (some ⟨gv, 0, none⟩) n vcap) n us (k + 1)) ∧ Hid (Own wr 0 b ys) ∧ Hid (ys.length ≤ 140737488351232 + q) ∧ Hid (∀ g, b.ownBlock = some g → Value.ownBlock (.slice uao m ucap) = some g ∨ w.heap.size ≤ g ∧ (∀ x, Value.ownBlock (.slice (some ⟨gv, 0, none⟩) n vcap) = some x → x ≠ g) ∧ ∀ (j : Nat) c, us[j]? = some c → c.ownBlock ≠ some g)) (fun _ i _ => 16 - (intOf i).toNat)
          case atStart => exact ⟨0, xs, Nat.zero_le _, rfl, HS1, by rw [HM.out] at HO ⊢; exact HO, by rw [← HM.out]; exact HXL, fun g hg => .inl hg⟩
          case round =>
            clear HS1 HO
            obtain ⟨q, ys, hq, rfl, HS1, HO, HYL, HBB⟩ := hrel
            by_cases hq16 : q < 16
            · have hqi : (q : Int) < 16 := by omega
              have hqb : (q : Int) + 1 ≤ 4611686018427387904 := by omega
              obtain ⟨bao, bn, bcap, hb⟩ := own_shape HO.out
              subst hb
              have HRW := hide (row_one wr 187)
              have HOA : Hid (Own (wr.alloc (.cells #[.int .u8 187] 5)) 0 (.slice bao bn bcap) ys) := Own.alloc HO.out _
              have HST : Hid (∀ v' w3, Own w3 0 v' (ys ++ [187]) → (wr.alloc (.cells #[.int .u8 187] 5)).grownBy w3 (Value.ownBlock (.slice bao bn bcap)) → (v'.ownBlock = Value.ownBlock (.slice bao bn bcap) ∨ v'.ownBlock = some (wr.alloc (.cells #[.int .u8 187] 5)).heap.size) → SP w w3 (.slice (some ⟨gv, 0, none⟩) n vcap) n us (k + 1) ∧ (ys ++ [187]).length ≤ 140737488351232 + (q + 1) ∧ ∀ g, v'.ownBlock = some g → Value.ownBlock (.slice uao m ucap) = some g ∨ w.heap.size ≤ g ∧ (∀ x, Value.ownBlock (.slice (some ⟨gv, 0, none⟩) n vcap) = some x → x ≠ g) ∧ ∀ (j : Nat) c, us[j]? = some c → c.ownBlock ≠ some g) := fun v' w3 g1 g2 g3 => by
                refine ⟨HS1.out.grow HF.out HU.out HBB.out (below_new wr _) g2, by have := HYL.out; simp; omega, fun g hg => ?_⟩
                rcases g3 with e | e
                · rw [e] at hg; exact HBB.out g hg
                · rw [e] at hg
                  injection hg with hg
                  have hz : (wr.alloc (.cells #[.int .u8 187] 5)).heap.size = wr.heap.size + 1 := by simp
                  have hsz := HS1.out.fr.size
                  refine .inr ⟨by omega, fun x hx e2 => ?_, fun j c hc e2 => ?_⟩
                  · obtain ⟨cs, hr, _⟩ := HS1.out.row
                    have := (World.ownsRow.lt hr x hx).2
                    omega
                  · have := HUB.out j c g hc e2
                    omega
              clear hq
              go_wp2_with (first | (at_builtin; refine wpList_append_bytes_at rfl _ _ rfl _ ys rfl HOA.out (some ⟨wr.heap.size, 0, none⟩) 1 1 [187] rfl rfl HRW.out (by have := HYL.out; simp; omega) ?_; intro v' w3 g1 g2 g3; obtain ⟨vao3, vn3, vcap3, rfl⟩ := own_shape g1; have HS3 := hide (HST.out _ w3 g1 g2 g3); have HO3 := hide g1; clear g1 g2 g3) | fail)
              go_roundw
              case rel => exact ⟨q + 1, ys ++ [187], by omega, by simp, hide HS3.out.1, HO3, hide HS3.out.2.1, hide HS3.out.2.2⟩
              case measure => simp [intOf]; omega
            · have hqi : ¬ (q : Int) < 16 := by omega
              obtain ⟨bao, bn, bcap, hb⟩ := own_shape HO.out
              subst hb
              have HPL : Hid (∃ a b, wr.cell? ⟨gv, k * 2, none⟩ = some a ∧ wr.cell? ⟨gv, k * 2 + 1, none⟩ = some b ∧ ∀ i, wr.frozen? ⟨gv, i, none⟩ = false) := by
                obtain ⟨cs, hr, _⟩ := HS1.out.row
                have hl := hr.1
                obtain ⟨a, ha⟩ : ∃ a, cs[k * 2]? = some a := ⟨_, List.getElem?_eq_getElem (by omega)⟩
                obtain ⟨b, hb⟩ : ∃ b, cs[k * 2 + 1]? = some b := ⟨_, List.getElem?_eq_getElem (by omega)⟩
                have hcell := World.ownsRow.cells hr (g := gv) rfl
                have k1 := hcell _ _ ha
                have k2 := hcell _ _ hb
                rw [add_none, Nat.zero_add] at k1 k2
                refine ⟨a, b, k1, k2, fun i => ?_⟩
                rcases hr.2 with ⟨e, _⟩ | ⟨g', cap', cur, e, _, hgg, _⟩
                · cases e
                · injection e with e _ _
                  injection e with e
                  injection e with e _ _
                  subst e
                  exact frozen_of_row wr gv i _ _ hgg
              obtain ⟨a, b, k1, k2, k3⟩ := HPL.out
              have k4 := k3 (k * 2)
              have k5 := k3 (k * 2 + 1)
              have HP := hide (HS1.out.next HF.out (.string { data := #[63] }) (.slice bao bn bcap))
              have HKB : Hid ((k : Int) + 1 ≤ 4611686018427387904) := by have := HN.out; show _ ≤ _; omega
              clear k3 HPL
              go_upto_region 9 with fail
              clear hki hqi k1 k2 k4 k5
              have hkb := HKB.out
              go_wp2_with fail
              go_roundw
              case rel => exact ⟨k + 1, by omega, by simp, HP⟩
              case measure => simp [intOf]; omega
        · have hki : ¬ (k : Int) < (n : Int) := by omega
          go_wp2_with fail
          go_end0
          exact ⟨rfl, HS.out.fr⟩
end Go.Proofs.Yticbfcognnofbaa
/- The contract of begin: both disks of a story. -/
namespace Go.Proofs.Yticbfcognnofbaa
open Go.RowKit Go.Maps

def NoK : Nat → Prop := fun _ => False
/-- The files that were handed in are written over: both disks stay. -/
theorem both_spoilt {w u w1 w2 w3 w4 w6 w7 : World} {dp rp : Nat} {S : DS} {L : RL} {v : Value} {fs : List Fi} {us : List Value} (hu : Below w.heap.size w u) (hF : FOwn w1 u.heap.size v fs us) (h1 : Below u.heap.size u w1) (hD : Dsk w1 w2 dp S) (h3 : Below w2.heap.size w2 w3) (h4 : Below w3.heap.size w3 w4) (hR : RRep w4 rp S L) (hL : ∀ b ∈ L.mut rp ++ L.imm, w3.heap.size ≤ b) (h6 : Below w4.heap.size w4 w6) (h7 : Fr (vb v ++ us.flatMap vb) w6 w7) : Both NoK w w7 dp rp S S := by
  obtain ⟨LA, k1, k2⟩ := hD.rep
  have s1 := hu.size; have s2 := h1.size; have s3 := hD.bel.size; have s4 := h3.size; have s5 := h4.size; have s6 := h6.size
  have hfp : ∀ b ∈ vb v ++ us.flatMap vb, u.heap.size ≤ b ∧ b < w1.heap.size := fun b hb => by
    rcases List.mem_append.1 hb with e | e
    · have := World.ownsRow.lt hF.row b (mem_vb.1 e)
      exact this
    · obtain ⟨c, hc, hb2⟩ := List.mem_flatMap.1 e
      obtain ⟨i, hi, rfl⟩ := List.getElem_of_mem hc
      have hx : fs[i]? = some (fs[i]'(by rw [← hF.len]; exact hi)) := List.getElem?_eq_getElem _
      exact ⟨(hF.new i _ b (List.getElem?_eq_getElem hi) (mem_vb.1 hb2)).1, (World.ownsRow.lt (hF.own i _ _ (List.getElem?_eq_getElem hi) hx) b (mem_vb.1 hb2)).2⟩
  have r6 : Rep w6 dp S LA S.files.length := ((k1.below h3).below h4).below h6
  have rr6 : RRep w6 rp S L := hR.below h6
  refine ⟨⟨LA, L, r6.apart h7 (fun b hb hm => by have := k2 b hb; have := hfp b hm; omega), rr6.keep (fun b hb => h7.block b (rr6.lt b hb) (fun hm => by have := hL b hb; have := hfp b hm; omega)), fun b hb => ⟨by have := k2 b hb; omega, id⟩, fun b hb => ⟨by have := hL b hb; omega, id, fun hm => by have := hL b hb; have := (k1.lt b hm); omega⟩⟩, hD.ok, hD.ok, ?_, fun g hg => hg.elim⟩
  have b6 : Below w.heap.size w w6 := ((((hu.trans (h1.mono s1)).trans (hD.bel.mono (by omega))).trans (h3.mono (by omega))).trans (h4.mono (by omega))).trans (h6.mono (by omega))
  exact b6.trans (h7.below w.heap.size (by omega) (fun x hx => by have := hfp x hx; omega))
theorem spoilt_below {w u w1 w6 w7 : World} {v : Value} {fs : List Fi} {us : List Value} (hu : Below w.heap.size w u) (hF : FOwn w1 u.heap.size v fs us) (b6 : Below w.heap.size w w6) (h7 : Fr (vb v ++ us.flatMap vb) w6 w7) : Below w.heap.size w w7 :=
  b6.trans (h7.below w.heap.size b6.size (fun b hb => by
    have := hu.size
    rcases List.mem_append.1 hb with e | e
    · have := (World.ownsRow.lt hF.row b (mem_vb.1 e)).1
      omega
    · obtain ⟨c, hc, hb2⟩ := List.mem_flatMap.1 e
      obtain ⟨i, hi, rfl⟩ := List.getElem_of_mem hc
      have := (hF.new i _ b (List.getElem?_eq_getElem hi) (mem_vb.1 hb2)).1
      omega))
set_option maxHeartbeats 8000000 in
set_option maxRecDepth 100000 in
theorem begin_any (fao : Option Addr) (fn fc : Nat) (fs : List Fi) (room : Int) (av : Value) (aao : Option Addr) (an ac : Nat) (hav : av = .slice aao an ac) (w : World) (hf : FSee w fao fs) (hfn : fn = fs.length) (hfl : fn * 40 ≤ 140737488351232) (hfs : ∀ f ∈ fs, f.1.length ≤ maxLen ∧ f.1.length ≤ 281474976710656 ∧ f.2.length ≤ 140737488355328) (hfx : ∀ f ∈ fs, f.2.length ≤ 140737488351232) (hfb : ∀ f ∈ fs, ∀ x ∈ f.2, x < 256) (hr : room ≤ 9223372036854775807) :
    Calls Try.prog 11 #[.agg #[.slice fao fn fc, .int .i64 room, av]] w fun e w' => if newErr fs room = 0 then ∃ dp rp, e = .returned (.tuple #[.pointer (some ⟨dp, 0, none⟩), .pointer (some ⟨rp, 0, none⟩), .bool true]) ∧ Both NoK w w' dp rp (born fs room.toNat) (born fs room.toNat) else e = .returned (.tuple #[.pointer none, .pointer none, .bool true]) ∧ Below w.heap.size w w' := by
  subst hav
  have HU := hide (below_new w (.cells #[.slice fao fn fc, .int .i64 room, .slice aao an ac] 28))
  have HBN := hide (Bl.new w #[.slice fao fn fc, .int .i64 room, .slice aao an ac] 28)
  obtain ⟨u, hu⟩ : ∃ u, u = w.alloc (.cells #[.slice fao fn fc, .int .i64 room, .slice aao an ac] 28) := ⟨_, rfl⟩
  rw [← hu] at HU HBN
  have HCP : Hid (Calls Try.prog 31 #[.slice fao fn fc] u fun e w' => ∃ vao m cap, e = .returned (.slice vao m cap) ∧ (∃ us, FOwn w' u.heap.size (.slice vao m cap) fs us ∧ FOne us) ∧ Below u.heap.size u w') := copied_one fao fn fc fs u (hf.keep HU.out) hfn hfl (fun f hf => (hfs f hf).2.2)
  have HOU : Hid (∀ W, Below u.heap.size u W → Calls Try.prog 33 #[.slice fao fn fc] W fun e w' => ∃ vao m cap, e = .returned (.slice vao m cap) ∧ (∃ us, ROwn w' W.heap.size (.slice vao m cap) fs us) ∧ Below W.heap.size W w') := fun W g => ours_any fao fn fc fs W ((hf.keep HU.out).keep g) hfn hfl (fun f hf => (hfs f hf).2.2)
  have hsl : ∀ {W : World} {B : Nat} {t : TypeId} {ao : Option Addr} {m cap : Nat} {xs : List Value}, W.ownsRow B t 2 (.slice ao m cap) fs.length xs → m = fs.length ∧ m ≤ cap := fun h => by
    rcases h.2 with ⟨e, e2⟩ | ⟨g, cap', cur, e, _, _, h3, _⟩
    · injection e with _ e3 e4; omega
    · injection e with _ e3 e4; omega
  have HNM : Hid (∀ W vao m cap us B, FOwn W B (.slice vao m cap) fs us → Calls Try.prog 27 #[.slice vao m cap, .int .i64 room] W fun e w' => if newErr fs room = 0 then ∃ dp, e = .returned (.tuple #[.pointer (some ⟨dp, 0, none⟩), .int .i64 0]) ∧ Dsk W w' dp (born fs room.toNat) else e = .returned (.tuple #[.pointer none, .int .i64 (newErr fs room : Int)]) ∧ Below W.heap.size W w') := fun W vao m cap us B hF => by
    have hm := hsl hF.row
    by_cases h0 : newErr fs room = 0
    · simp only [if_pos h0]
      exact new_dsk vao m cap fs room W hF.see hm.1 hm.2 hfs hfb hr h0
    · simp only [if_neg h0]
      exact new_none vao m cap fs room W hF.see hm.1 hm.2 hfs hr h0
  have HRN : Hid (∀ W vao m cap us B, ROwn W B (.slice vao m cap) fs us → Calls Try.prog 32 #[.slice vao m cap, .int .i64 room] W fun e w' => if newErr fs room = 0 then ∃ rp L, e = .returned (.tuple #[.pointer (some ⟨rp, 0, none⟩), .int .i64 0]) ∧ RRep w' rp (born fs room.toNat) L ∧ (∀ b ∈ L.mut rp ++ L.imm, W.heap.size ≤ b) ∧ Below W.heap.size W w' else e = .returned (.tuple #[.pointer none, .int .i64 (newErr fs room : Int)]) ∧ Below W.heap.size W w') := fun W vao m cap us B hF => by
    have hm := hsl hF.row
    refine (enew_any vao m cap fs room W hF.see hm.1 hm.2 hfs).mono fun e w' ⟨_, hp⟩ => ?_
    unfold ENewPost at hp
    by_cases h0 : newErr fs room = 0
    · simp only [if_pos h0] at hp ⊢
      obtain ⟨⟨rp, L, a, b, c⟩, d⟩ := hp
      exact ⟨rp, L, a, b, c, d⟩
    · simp only [if_neg h0] at hp ⊢
      exact hp
  have HFI : Hid (∀ W lao m lc us B wao m2 wc vs B2, FOwn W B (.slice lao m lc) fs us → ROwn W B2 (.slice wao m2 wc) fs vs → Calls Try.prog 34 #[.slice lao m lc, .slice wao m2 wc] W fun e w' => e = .returned (.bool true) ∧ Below W.heap.size W w') := fun W lao m lc us B wao m2 wc vs B2 h1 h2 => by
    have e1 := (hsl h1.row).1
    have e2 := (hsl h2.row).1
    subst e1; subst e2
    exact (files_true lao wao fs.length lc wc fs W h1.see h2.see rfl (by omega)).mono fun e w' ⟨he, q, hq⟩ => ⟨he, by rw [hq]; exact below_drewN (Below.refl _ _) q⟩
  have HSP : Hid (∀ W v us B, FOwn W B v fs us → FOne us → Calls Try.prog 35 #[v] W fun e w' => e = .returned (.tuple #[]) ∧ Fr (vb v ++ us.flatMap vb) W w') := fun W v us B hF hO => spoil_any v fs.length us W (SP.first hF hfx) ⟨hO, fun i c g h1 h2 => (hF.new i c g h1 h2).2⟩ hF.len (by omega)
  obtain ⟨N, hN⟩ : ∃ N, N = w.heap.size := ⟨_, rfl⟩
  rw [← hN] at HBN
  clear hf hfn hfl hfs hfx hfb hr hsl
  by_cases h0 : newErr fs room = 0
  · simp only [if_pos h0] at HRN HNM ⊢
    generalize born fs room.toNat = S at *
    clear h0
    go_enter Try.func11, Try.ntmps11
    go_upto_region 1 with fail
    rw [← hu, ← hN]
    have HNW := hide hN
    clear hu hN
    have c0 : u.cell? ⟨N, 0, none⟩ = some (.slice fao fn fc) := HBN.out.cell 0
    have c1 : u.cell? ⟨N, 1, none⟩ = some (.int .i64 room) := HBN.out.cell 1
    go_upto_region 3 with (first | (go_at_call 31; refine HCP.out.mono ?_; rintro e w1 ⟨vao, m, cap, rfl, ⟨us, hF, hO⟩, b1⟩; have HF1 := hide hF; have HO1 := hide hO; have B1 := hide b1; have d0 := cell_kept c0 b1; have d1 := cell_kept c1 b1; clear hF hO b1) | (go_at_call 27; refine (HNM.out _ _ _ _ _ _ HF1.out).mono ?_; rintro e w2 ⟨dp, rfl, hD⟩; have HD := hide hD; have B2 := hide hD.bel; have e0 := cell_kept d0 hD.bel; have e1 := cell_kept d1 hD.bel; clear hD) | fail)
    have HBU2 : Hid (Below u.heap.size u w2) := B1.out.trans (B2.out.mono B1.out.size)
    go_region_held (fun W => W.cell? ⟨N, 0, none⟩ = some (.slice fao fn fc) ∧ W.cell? ⟨N, 1, none⟩ = some (.int .i64 room)) (go_keep) (first
      | (go_at_call 33; refine (HOU.out _ (below_drewN HBU2.out 1)).mono ?_; rintro e w3 ⟨vao3, m3, cap3, rfl, ⟨us3, hR3⟩, b3⟩; have hb3 := below_undrew b3; have HR3 := hide hR3; have B3 := hide hb3; have f0 := cell_kept e0 hb3; have f1 := cell_kept e1 hb3; clear b3 hR3 hb3)
      | (go_at_call 32; refine (HRN.out _ _ _ _ _ _ HR3.out).mono ?_; rintro e w4 ⟨rp, L, rfl, hr4, hl4, b4⟩; have HR4 := hide hr4; have HL4 := hide hl4; have B4 := hide b4; have g0 := cell_kept f0 b4; have g1 := cell_kept f1 b4; clear hr4 hl4 b4))
    have HBU4 : Hid (Below u.heap.size u w4) := (HBU2.out.trans (B3.out.mono HBU2.out.size)).trans (B4.out.mono (Nat.le_trans HBU2.out.size B3.out.size))
    clear d0 d1 e0 e1 f0 f1 c0 c1
    have HF6 : Hid (∀ W, Below w4.heap.size w4 W → FOwn W u.heap.size (.slice vao m cap) fs us) := fun W hW => HF1.out.keep ((B2.out.trans (B3.out.mono B2.out.size)).trans ((B4.out.trans (hW.mono B4.out.size)).mono (Nat.le_trans B2.out.size B3.out.size)))
    go_upto_region 6 with (first | (go_at_call 9; refine (num_any _ _).mono ?_; rintro e wx ⟨rfl, hwx⟩; have hwy := hwx.symm; subst hwy; clear hwx) | (go_at_call 33; refine (HOU.out _ HBU4.out).mono ?_; rintro e w5 ⟨vao5, m5, cap5, rfl, ⟨us5, hR5⟩, b5⟩; have HR5 := hide hR5; have B5 := hide b5; clear b5 hR5) | (go_at_call 34; refine (HFI.out _ _ _ _ _ _ _ _ _ _ _ (HF6.out _ B5.out) HR5.out).mono ?_; rintro e w6 ⟨rfl, b6⟩; have B6 := hide (B5.out.trans (b6.mono B5.out.size)); clear b6) | (go_at_call 35; refine (HSP.out _ _ us _ (HF6.out _ B6.out) HO1.out).mono ?_; rintro e w7 ⟨rfl, f7⟩; have F7 := hide f7; clear f7) | fail)
    have HE := hide (both_spoilt HU.out HF1.out B1.out HD.out B3.out B4.out HR4.out HL4.out B6.out F7.out)
    clear HF6 HF1 HO1 HD HR4 HL4 HCP HOU HNM HRN HFI HSP
    go_wp2_with fail
    go_ret3
    exact ⟨dp, rp, rfl, HE.out⟩
  · simp only [if_neg h0] at HRN HNM ⊢
    generalize (newErr fs room : Int) = er at *
    clear h0
    go_enter Try.func11, Try.ntmps11
    go_upto_region 1 with fail
    rw [← hu, ← hN]
    have HNW := hide hN
    clear hu hN
    have c0 : u.cell? ⟨N, 0, none⟩ = some (.slice fao fn fc) := HBN.out.cell 0
    have c1 : u.cell? ⟨N, 1, none⟩ = some (.int .i64 room) := HBN.out.cell 1
    go_upto_region 3 with (first | (go_at_call 31; refine HCP.out.mono ?_; rintro e w1 ⟨vao, m, cap, rfl, ⟨us, hF, hO⟩, b1⟩; have HF1 := hide hF; have HO1 := hide hO; have B1 := hide b1; have d0 := cell_kept c0 b1; have d1 := cell_kept c1 b1; clear hF hO b1) | (go_at_call 27; refine (HNM.out _ _ _ _ _ _ HF1.out).mono ?_; rintro e w2 ⟨rfl, b2⟩; have B2 := hide b2; have e0 := cell_kept d0 b2; have e1 := cell_kept d1 b2; clear b2) | fail)
    have HBU2 : Hid (Below u.heap.size u w2) := B1.out.trans (B2.out.mono B1.out.size)
    go_region_held (fun W => W.cell? ⟨N, 0, none⟩ = some (.slice fao fn fc) ∧ W.cell? ⟨N, 1, none⟩ = some (.int .i64 room)) (go_keep) (first
      | (go_at_call 33; refine (HOU.out _ (below_drewN HBU2.out 1)).mono ?_; rintro e w3 ⟨vao3, m3, cap3, rfl, ⟨us3, hR3⟩, b3⟩; have hb3 := below_undrew b3; have HR3 := hide hR3; have B3 := hide hb3; have f0 := cell_kept e0 hb3; have f1 := cell_kept e1 hb3; clear b3 hR3 hb3)
      | (go_at_call 32; refine (HRN.out _ _ _ _ _ _ HR3.out).mono ?_; rintro e w4 ⟨rfl, b4⟩; have B4 := hide b4; have g0 := cell_kept f0 b4; have g1 := cell_kept f1 b4; clear b4))
    have HBU4 : Hid (Below u.heap.size u w4) := (HBU2.out.trans (B3.out.mono HBU2.out.size)).trans (B4.out.mono (Nat.le_trans HBU2.out.size B3.out.size))
    clear d0 d1 e0 e1 f0 f1 c0 c1
    have HF6 : Hid (∀ W, Below w4.heap.size w4 W → FOwn W u.heap.size (.slice vao m cap) fs us) := fun W hW => HF1.out.keep ((B2.out.trans (B3.out.mono B2.out.size)).trans ((B4.out.trans (hW.mono B4.out.size)).mono (Nat.le_trans B2.out.size B3.out.size)))
    go_upto_region 6 with (first | (go_at_call 9; refine (num_any _ _).mono ?_; rintro e wx ⟨rfl, hwx⟩; have hwy := hwx.symm; subst hwy; clear hwx) | (go_at_call 33; refine (HOU.out _ HBU4.out).mono ?_; rintro e w5 ⟨vao5, m5, cap5, rfl, ⟨us5, hR5⟩, b5⟩; have HR5 := hide hR5; have B5 := hide b5; clear b5 hR5) | (go_at_call 34; refine (HFI.out _ _ _ _ _ _ _ _ _ _ _ (HF6.out _ B5.out) HR5.out).mono ?_; rintro e w6 ⟨rfl, b6⟩; have B6 := hide (B5.out.trans (b6.mono B5.out.size)); clear b6) | (go_at_call 35; refine (HSP.out _ _ us _ (HF6.out _ B6.out) HO1.out).mono ?_; rintro e w7 ⟨rfl, f7⟩; have F7 := hide f7; clear f7) | fail)
    have HE := hide (spoilt_below HU.out HF1.out (HU.out.trans ((HBU4.out.trans (B6.out.mono HBU4.out.size)).mono HU.out.size)) F7.out)
    clear HF6 HF1 HO1 HCP HOU HNM HRN HFI HSP
    go_wp2_with fail
    go_ret3
    exact ⟨rfl, HE.out⟩
end Go.Proofs.Yticbfcognnofbaa
/- The walk of the law DiskNews. -/
namespace Go.Proofs.Yticbfcognnofbaa
open Go.RowKit Go.Maps

set_option maxHeartbeats 4000000 in
set_option maxRecDepth 100000 in
theorem diskNews_walk (fao : Option Addr) (fn fc : Nat) (fs : List Fi) (room : Int) (aao : Option Addr) (an ac : Nat) (w : World) (hf : FSee w fao fs) (hfn : fn = fs.length) (hfl : fn * 40 ≤ 140737488351232) (hfs : ∀ f ∈ fs, f.1.length ≤ maxLen ∧ f.1.length ≤ 281474976710656 ∧ f.2.length ≤ 140737488355328) (hfx : ∀ f ∈ fs, f.2.length ≤ 140737488351232) (hfb : ∀ f ∈ fs, ∀ x ∈ f.2, x < 256) (hr : room ≤ 9223372036854775807) :
    Calls Try.prog 4 #[.agg #[.slice fao fn fc, .int .i64 room, .slice aao an ac]] w fun e w' => e = .returned (.bool true) ∧ Below w.heap.size w w' := by
  have HU := hide (below_new w (.cells #[.slice fao fn fc, .int .i64 room, .slice aao an ac] 28))
  have HBG := hide (begin_any fao fn fc fs room (.slice aao an ac) aao an ac rfl (w.alloc (.cells #[.slice fao fn fc, .int .i64 room, .slice aao an ac] 28)) (hf.keep HU.out) hfn hfl hfs hfx hfb hr)
  have HLV : Hid (∀ W, Calls Try.prog 10 #[] W fun e w' => e = .returned (.bool true) ∧ Below W.heap.size W w') := fun W => live_true W
  clear hf hfn hfl hfs hfx hfb hr
  by_cases h0 : newErr fs room = 0
  · simp only [if_pos h0] at HBG
    generalize born fs room.toNat = S at *
    clear h0
    go_enter Try.func4, Try.ntmps4
    go_wp2_with (first | (go_at_call 11; refine HBG.out.mono ?_; rintro e w2 ⟨dp, rp, rfl, h2⟩; have H2 := hide h2; clear h2) | (go_at_call 10; refine (HLV.out _).mono ?_; rintro e w3 ⟨rfl, b3⟩; have H3 := hide (H2.out.below b3); clear b3) | (go_at_call 12; refine (all_true H3.out).mono ?_; rintro e w4 ⟨rfl, b4⟩; have B4 := hide b4; clear b4) | fail)
    go_ret
    exact ⟨rfl, HU.out.trans ((H3.out.bel.trans (B4.out.mono H3.out.bel.size)).mono HU.out.size)⟩
  · simp only [if_neg h0] at HBG
    clear h0
    go_enter Try.func4, Try.ntmps4
    go_wp2_with (first | (go_at_call 11; refine HBG.out.mono ?_; rintro e w2 ⟨rfl, b2⟩; have B2 := hide b2; clear b2) | (go_at_call 10; refine (HLV.out _).mono ?_; rintro e w3 ⟨rfl, b3⟩; have B3 := hide (B2.out.trans (b3.mono B2.out.size)); clear b3) | fail)
    go_ret
    exact ⟨rfl, HU.out.trans (B3.out.mono HU.out.size)⟩
end Go.Proofs.Yticbfcognnofbaa
/- DiskNews answers true for every story: a new disk answers as the document's does, and leaves its argument as it was. -/
namespace Go.Proofs.Yticbfcognnofbaa
open Go.ChangeShapes Go.WideShapes Go.ChangeAt Go.RowKit
open Go.ChangeMaps (open_string shut_string)

set_option maxRecDepth 100000 in
theorem diskNews_contract (H : Type) (enc : TypeId × Value → H) (W : World) (base : Nat) (args : Array Value) (ds gs : List (DataW H)) (before : List MemPlace)
    (hval : ∀ (j : Nat) t v, Try.f4.params[j]? = some t → args[j]? = some v → Value.okWide Try.prog W .any base t v)
    (hW : DataW.Whole enc Try.prog Try.f4.params.toList Rows.diskNewsSpec.vars false W args.toList ds gs before) (hsz : (DataW.weightsEach Try.prog (Try.f4.params.toList ++ Rows.diskNewsSpec.plain.varTypes Try.prog) (ds ++ gs)).all (fun x => decide (x ≤ reachBytes)) = true) :
    Calls Try.prog 4 args W fun e W' => ∃ v, e = .returned v ∧ Rows.diskNewsSpec.post enc Try.prog Try.f4 false true false false W args v W' := by
  have hW' := hW
  obtain ⟨p, q, hA0, hV, rfl, hfz, hnd⟩ := hW
  have hA : DataW.TrodAll enc Try.prog W 0 (fun _ => true) true Try.f4.params.toList args.toList ds p := hA0
  rw [Try.params4] at hA hval hsz
  obtain ⟨v0, vs0, d0, ds0, p0, q0, hargs, rfl, rfl, h0, r0⟩ := trodAll_cons hA
  obtain ⟨rfl, rfl, rfl⟩ := trodAll_nil r0
  obtain rfl : args = #[v0] := by cases args; simp_all
  obtain ⟨rfl, rfl⟩ := trodVars_none hV
  have k0 := h0
  have wt0 : Wt 28 d0 := wt_param hsz (j := 0) rfl rfl
  obtain ⟨fao0, fs0, fc0, room0, aao0, l0, ac0, rfl, fsee0, fb0, hr0, asee0, lt0, wf0⟩ := open_story2 (hval 0 28 v0 rfl rfl) h0
  obtain ⟨⟨fl0, ff0⟩, al0, aok0⟩ := wf0 wt0
  clear hA0
  refine (diskNews_walk fao0 fs0.length fc0 fs0 room0 aao0 l0.length ac0 W fsee0 rfl fl0 (fun f h => ⟨(ff0 f h).1, (ff0 f h).2.1, (ff0 f h).2.2.1⟩) (fun f h => (ff0 f h).2.2.2) fb0 hr0).mono fun e W' ⟨he, bel⟩ => ?_
  subst he
  exact ⟨_, rfl, _, _, _, [], _, [], hW', trodAll_mk1 (shut_bool Try.underlying4 _), (trodAll_cons_mk (Below.trod laidOut (by kernel_rfl) (of_decide_eq_true (by kernel_rfl)) k0 bel lt0) trodAll_mk0), rfl, bel.frame _, fun h => by cases h⟩

set_option maxRecDepth 100000 in
theorem diskNews_lifted (os : Os) (started : os.Started) (H : Type) (enc : TypeId × Value → H) :
    ReturnsInHanded {} Try.checked os 4 .any (Rows.diskNewsSpec.pre6 enc Try.prog Try.f4 Rows.diskNewsRow.domain false) (Rows.diskNewsSpec.post enc Try.prog Try.f4 false true false false) := by
  refine returnsInHanded_of_change_sized (C := Try.checked) ownKnobs started (by kernel_rfl) Try.func4
    (ChangeSpec.witness6 (enc := enc) (C := Try.checked) false ⟨#[], #[.agg #[.slice none 0 0, .int .i64 0, .slice none 0 0]], []⟩ 8 (by kernel_rfl) (by kernel_rfl) (by kernel_rfl) (by kernel_rfl)) ?_
  intro W base args ds gs before hval hW _ hsz _
  exact diskNews_contract H enc W base args ds gs before hval hW hsz

theorem diskNews_holds : Rows.DiskNewsSaid :=
  OpenClaim.holds_of_wide 4 Try.f4 rfl rfl rfl rfl rfl rfl rfl ⟨rfl, rfl, rfl, rfl, rfl⟩ rfl rfl rfl rfl rfl (by kernel_rfl) Try.func4 (by kernel_rfl)
    (of_decide_eq_true (by kernel_rfl)) (by unfold Func.isWrapper; first | (rw [if_pos (by decide +kernel)]; kernel_rfl) | (rw [if_neg (by decide +kernel)]; exact ⟨rfl, rfl⟩))
    (fun os started H enc _ => diskNews_lifted os started H enc)
#print axioms diskNews_holds
end Go.Proofs.Yticbfcognnofbaa
