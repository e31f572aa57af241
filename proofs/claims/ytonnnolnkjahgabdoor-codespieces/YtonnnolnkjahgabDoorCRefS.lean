/- The document's source: Byte, Feed, NewSource. -/
import Derived.Test.YtonnnolnkjahgabDoorCFeed
import Derived.Test.YtonnnolnkjahgabDoorCUser
namespace Go.Proofs.YtonnnolnkjahgabDoor
open Go.RowKit

theorem Own.lef {w : World} {B : Nat} {v : Value} {xs : List Nat} (h : Own w B v xs) : Lef w v xs := by
  rcases h.2 with ⟨rfl, hn⟩ | ⟨g, cap, cur, rfl, hb, hg, hle, hm, hc, ht⟩
  · exact .inl ⟨none, rfl, List.length_eq_zero_iff.1 hn⟩
  · refine .inr ⟨g, 0, cap, cur.toList, rfl, hg, hle, by simp; omega, hm, fun i hi => ?_⟩
    rw [Nat.mul_one] at ht
    have : (cur.toList.take xs.length)[i]? = (xs.map bv)[i]? := by rw [ht]
    rw [List.getElem?_take, if_pos hi] at this
    rw [Nat.zero_add, this, List.getElem?_map, List.getElem?_eq_getElem hi]
    simp [List.getD, List.getElem?_eq_getElem hi]
/-- What a source becomes when its bytes are laid anew. -/
theorem Src.made {T : TypeId} {w w1 : World} {sp : Nat} {xs ys bs : List Nat} {v : Value} (h : Src T w sp xs bs) (hT : T ≠ 5) (hf : Fr [sp] w w1) (hb : Bl w1 sp [v] T) (u : Value) (hl : Lef w1 u ys) (hy : ∀ y ∈ ys, y < 256) (hu : ∀ g, u.ownBlock = some g → w.heap.size ≤ g ∧ g < w1.heap.size) :
    ∃ bs', Src T (w1.setCell ⟨sp, 0, none⟩ u) sp ys bs' ∧ Aft [sp] bs' w (w1.setCell ⟨sp, 0, none⟩ u) := by
  have hlt := h.lt
  have hne : u.ownBlock ≠ some sp := fun e => by have := (hu sp e).1; omega
  refine ⟨sp :: u.ownBlock.toList, ⟨⟨u, hb.set 0 u, hl.set hb hT 0 u, hne, rfl⟩, hy, fun b hb2 => ?_⟩, hf.trans (Fr.setCell [sp] w1 sp 0 _ (by simp)) (fun x hx => .inl hx), fun b hb2 => ?_⟩
  · have hgoal : b < w1.heap.size := by
      rcases List.mem_cons.1 hb2 with e | e
      · have := hf.size; omega
      · exact (hu b (by simpa using e)).2
    simpa [World.setCell] using hgoal
  · rcases List.mem_cons.1 hb2 with e | e
    · exact .inl (by rw [e]; simp)
    · exact .inr (hu b (by simpa using e)).1
theorem Aft.up {sp : Nat} {bs bs' : List Nat} {w w' : World} (h : Aft [sp] bs' w w') (hs : sp ∈ bs) : Aft bs bs' w w' :=
  ⟨⟨h.fr.os, h.fr.tape, h.fr.output, h.fr.size, fun k hk hn => h.fr.block k hk (fun e => hn (by rw [List.mem_singleton.1 e]; exact hs))⟩, fun b hb => (h.new b hb).elim (fun e => .inl (by rw [List.mem_singleton.1 e]; exact hs)) .inr⟩
theorem rbyteDry_any (sp : Nat) (bs : List Nat) (w : World) (h : Src 31 w sp [] bs) : Calls Tryd.prog 21 #[pf sp] w fun e w' => e = .returned (.tuple #[.int .u8 0, .int .i64 90]) ∧ w' = w := by
  obtain ⟨v, hb, hl, -, -⟩ := h.ex
  obtain ⟨ao, cap, rfl, hle, hr⟩ := hl.read
  have c0 : w.cell? ⟨sp, 0, none⟩ = some (.slice ao 0 cap) := hb.cell 0
  clear h hb hl hr hle
  unfold pf
  go_enter Tryd.func21, Tryd.ntmps21
  go_wp2
  go_ret2
  exact ⟨rfl, rfl⟩
set_option maxHeartbeats 1000000 in
set_option maxRecDepth 100000 in
theorem rbyte_any (sp x : Nat) (xs bs : List Nat) (w : World) (h : Src 31 w sp (x :: xs) bs) (hx : xs.length ≤ 4096) : Calls Tryd.prog 21 #[pf sp] w fun e w' => e = .returned (.tuple #[.int .u8 (x : Int), .int .i64 0]) ∧ ∃ bs', Src 31 w' sp xs bs' ∧ Aft [sp] bs' w w' := by
  have HS := hide h
  obtain ⟨v, hb, hl, hne, hbs⟩ := h.ex
  have hby := h.byte
  obtain ⟨g, off, cap, rfl, hle, hm, hcell, hcut⟩ := hl.one
  obtain ⟨o', hsl, ho'⟩ := cut_from g off (xs.length + 1) cap xs.length (cap - 1) 1 1 rfl (by omega) rfl rfl
  have HLE := hcut (some ⟨g, o', none⟩) (cap - 1) (fun h0 => by rw [ho' (by omega)]) (by omega)
  have c0 : w.cell? ⟨sp, 0, none⟩ = some (.slice (some ⟨g, off, none⟩) (xs.length + 1) cap) := hb.cell 0
  have HB := hide hb
  obtain ⟨ao2, cap2, e2, -, hrow⟩ := HLE.read
  have HR : Hid (Row (w.alloc (.cells #[] 5)) (some ⟨g, o', none⟩) xs) := hide (by cases e2; exact hrow.keep (below_new w _))
  have HBY : Hid (∀ y ∈ xs, y < 256) := hide fun y hy => hby y (by simp [hy])
  have HX := hide hx
  have HO : Hid (Own (w.alloc (.cells #[] 5)) w.heap.size (.slice (some ⟨w.heap.size, 0, none⟩) 0 0) []) := hide (own_new w w.heap.size [] (Nat.le_refl _) (by simp))
  have hn0 : (((xs.length + 1 : Nat) : Int) == 0) = false := by simp; omega
  have hn1 : (0 : Int) < ((xs.length + 1 : Nat) : Int) := by omega
  have cA : (w.alloc (.cells #[] 5)).cell? ⟨sp, 0, none⟩ = some (.slice (some ⟨g, off, none⟩) (xs.length + 1) cap) := cell_kept c0 (below_new w _)
  obtain ⟨m, hml⟩ : ∃ m, m = xs.length := ⟨_, rfl⟩
  have HM := hide hml
  obtain ⟨m1, hm1⟩ : ∃ m1, m1 = xs.length + 1 := ⟨_, rfl⟩
  obtain ⟨c1, hc1⟩ : ∃ c1, c1 = cap - 1 := ⟨_, rfl⟩
  rw [← hm1] at c0 cA hsl hn0 hn1 HB
  rw [← hml, ← hc1] at hsl
  clear h hb hl hne hby hbs hcut hle hm HLE ho' hrow e2 hx hml hm1 hc1
  unfold pf
  go_enter Tryd.func21, Tryd.ntmps21
  go_wp2_with (first
    | (at_builtin; refine wpList_append_bytes rfl _ _ rfl w.heap.size _ [] rfl HO.out (some ⟨g, o', none⟩) m c1 xs HM.out rfl HR.out (by have := HX.out; simp; omega) (by simp) ?_))
  rintro v1 w3 hown1 hgr1
  have hB3 : Bl w3 sp [.slice (some ⟨g, off, none⟩) m1 cap] 31 := (HB.out.keep (below_new w _)).grown hgr1 (fun e => by
    have := HS.out.lt
    have e2 : w.heap.size = sp := by simpa [Value.ownBlock] using e
    omega)
  have c3 : w3.cell? ⟨sp, 0, none⟩ = some (.slice (some ⟨g, off, none⟩) m1 cap) := hB3.cell 0
  have f3 := hB3.frozen 0
  have HB3 := hide hB3
  have HO3 := hide hown1
  have HF3 : Hid (Fr [sp] w w3) := hide (Fr.own HO.out hgr1 (Fr.alloc [sp] w _) (Nat.le_refl _))
  obtain ⟨vo, vc, rfl, -, -⟩ := hown1.read
  rw [← HM.out] at HO3 ⊢
  clear hB3 hown1 hgr1
  go_wp2
  go_ret2
  refine ⟨rfl, ?_⟩
  have := HS.out.made (by decide) HF3.out HB3.out _ HO3.out.lef HBY.out (fun k hk => World.ownsRow.lt HO3.out k hk)
  exact this
theorem Src.parts {T : TypeId} {w : World} {sp : Nat} {xs bs : List Nat} (h : Src T w sp xs bs) : ∃ vo vc, Bl w sp [.slice vo xs.length vc] T ∧ Lef w (.slice vo xs.length vc) xs ∧ (Value.slice vo xs.length vc).ownBlock ≠ some sp ∧ bs = sp :: (Value.slice vo xs.length vc).ownBlock.toList := by
  obtain ⟨v, hb, hl, hne, hbs⟩ := h.ex
  obtain ⟨vo, vc, rfl, -, -⟩ := hl.read
  exact ⟨vo, vc, hb, hl, hne, hbs⟩
/-- What a source becomes when bytes are appended to its own and laid back. -/
theorem Src.grew {T : TypeId} {w w1 : World} {sp : Nat} {ys bs : List Nat} {v u : Value} (hT : T ≠ 5) (hsp : sp < w.heap.size) (hlts : ∀ b ∈ sp :: v.ownBlock.toList, b < w.heap.size) (hbs : bs = sp :: v.ownBlock.toList) (hne : v.ownBlock ≠ some sp) (hg : w.grownBy w1 v.ownBlock) (hb : Bl w1 sp [v] T) (hl : Lef w1 u ys) (hy : ∀ y ∈ ys, y < 256) (hu : ∀ k, u.ownBlock = some k → v.ownBlock = some k ∨ (w.heap.size ≤ k ∧ k < w1.heap.size)) :
    ∃ bs', Src T (w1.setCell ⟨sp, 0, none⟩ u) sp ys bs' ∧ Aft bs bs' w (w1.setCell ⟨sp, 0, none⟩ u) := by
  subst hbs
  have hsz := hg.size
  refine ⟨sp :: u.ownBlock.toList, ⟨⟨u, hb.set 0 u, hl.set hb hT 0 u, ?_, rfl⟩, hy, fun b hb2 => ?_⟩, (Fr.grown (fp := _) hg (fun j hj => by rw [hj]; simp)).trans (Fr.setCell [sp] w1 sp 0 _ (by simp)) (fun x hx => .inl (by rw [List.mem_singleton.1 hx]; simp)), fun b hb2 => ?_⟩
  · intro e
    rcases hu sp e with e2 | ⟨e2, -⟩
    · exact hne e2
    · omega
  · have hgoal : b < w1.heap.size := by
      rcases List.mem_cons.1 hb2 with e | e
      · omega
      · rcases hu b (by simpa using e) with e2 | ⟨-, e2⟩
        · have := hlts b (List.mem_cons_of_mem _ (by rw [e2]; simp))
          omega
        · exact e2
    simpa [World.setCell] using hgoal
  · rcases List.mem_cons.1 hb2 with e | e
    · exact .inl (by rw [e]; simp)
    · rcases hu b (by simpa using e) with e2 | ⟨e2, -⟩
      · exact .inl (List.mem_cons_of_mem _ (by rw [e2]; simp))
      · exact .inr e2
theorem own_or {u v : Value} {B s t : Nat} (h : u.ownBlock = v.ownBlock ∨ (u.ownBlock = some s ∧ s < t)) (hB : B ≤ s) : ∀ k, u.ownBlock = some k → v.ownBlock = some k ∨ (B ≤ k ∧ k < t) := fun k hk => by
  rcases h with e | ⟨e, e2⟩
  · exact .inl (e ▸ hk)
  · rw [e] at hk
    injection hk with hk
    subst hk
    exact .inr ⟨hB, e2⟩
theorem Row.fr {fp : List Nat} {w w' : World} {ao : Option Addr} {xs : List Nat} (h : Row w ao xs) (hf : Fr fp w w') (hn : ∀ a, ao = some a → a.block ∉ fp) : Row w' ao xs := by
  rcases h with h | ⟨b, off, rfl, hc⟩
  · exact .inl h
  · refine .inr ⟨b, off, rfl, fun i hi => ?_⟩
    rw [World.cell?_of_block (hf.block b (World.block_lt_of_cell? w _ (hc i hi)) (hn ⟨b, off, none⟩ rfl))]
    exact hc i hi
theorem grown_alloc {w w' : World} {o : Obj} {row : Option Nat} (h : (w.drew.alloc o).grownBy w' row) : w.grownBy w' row :=
  ⟨h.os, h.tape, h.output, by have := h.size; simp at this; omega, fun k hk hn => (h.block k (by simp; omega) hn).trans (Below.heap_alloc w.drew _ k hk)⟩
set_option maxHeartbeats 1000000 in
set_option maxRecDepth 100000 in
theorem rfeed_any (sp n c : Nat) (xs bs ds : List Nat) (ao : Option Addr) (w : World) (h : Src 31 w sp xs bs) (hr : Row w ao ds) (hao : ds ≠ [] → ∀ a, ao = some a → a.block ∉ bs) (hb : ∀ y ∈ ds, y < 256) (hn : n = ds.length) (hn2 : n ≤ 140737488355328) (hx : xs.length ≤ 4096) :
    Calls Tryd.prog 20 #[pf sp, .slice ao n c] w fun e w' => e = .returned (.tuple #[]) ∧ ∃ bs', Src 31 w' sp (xs ++ ds.take (4096 - xs.length)) bs' ∧ Aft bs bs' w w' := by
  have HS := hide h
  have HR := hide hr
  have HAO := hide hao
  have HB := hide hb
  have HN := hide hn
  have HX := hide hx
  have HN2 := hide hn2
  clear h hr hao hb hn hx hn2
  unfold pf
  go_enter Tryd.func20, Tryd.ntmps20
  go_wp2_with fail
  go_loopw [4] (fun a wr => ∃ i : Nat, a = .int .i64 (i : Int) ∧ i ≤ n ∧ Hid (∃ bs', Src 31 wr sp (xs ++ ds.take i) bs' ∧ Aft bs bs' w wr ∧ xs.length + i ≤ 4096)) (fun a _ => n - (intOf a).toNat)
  case atStart => exact ⟨0, rfl, by omega, hide ⟨bs, by rw [List.take_zero, List.append_nil]; exact HS.out, Aft.refl _ _, HX.out⟩⟩
  case round =>
    obtain ⟨i, rfl, hi, hs⟩ := hrel
    obtain ⟨bs', hs1, hs2, hs3⟩ := hs.out
    have hlen : (xs ++ ds.take i).length = xs.length + i := by have := HN.out; simp; omega
    obtain ⟨vo, vc, hbl, hl, hne, hbs⟩ := hs1.parts
    have c0 : wr.cell? ⟨sp, 0, none⟩ = some (.slice vo (xs ++ ds.take i).length vc) := hbl.cell 0
    obtain ⟨m, hm⟩ : ∃ m, m = (xs ++ ds.take i).length := ⟨_, rfl⟩
    have HS1 := hide hs1
    have HA := hide hs2
    have HBL := hide hbl
    have HL := hide hl
    have HNE := hide hne
    have HBS := hide hbs
    have HM := hide (hm.trans hlen)
    have hwri : IntKind.i64.wrap ((i : Int) + 1) = ((i + 1 : Nat) : Int) := by have := HN2.out; rw [IntKind.wrap_i64]; omega
    rw [← hm] at c0 HBL HL HNE HBS
    clear hs hs1 hs2 hlen hbl hl hne hbs hm
    by_cases hin : i < n
    · have hin' : (i : Int) < (n : Int) := by omega
      by_cases hfull : m < 4096
      · have hfull' : (m : Int) < 4096 := by omega
        obtain ⟨b, off, hao⟩ := HR.out.form (by rw [← HN.out]; omega)
        have hrow := HR.out.fr HA.out.fr (HAO.out (fun e => by have := HN.out; rw [e] at this; simp at this; omega))
        subst hao
        have hcell : wr.cell? ⟨b, off + i, none⟩ = some (.int .u8 ((ds.getD i 0 : Nat) : Int)) := hrow.cell i (by rw [← HN.out]; exact hin)
        have HTK : Hid (xs ++ ds.take (i + 1) = (xs ++ ds.take i) ++ [ds.getD i 0]) := hide (by rw [stake_getD (by rw [← HN.out]; exact hin), List.append_assoc])
        have HXB : Hid (ds.getD i 0 < 256) := hide (lt_get HB.out i)
        have HIN := hide hin
        have HFU := hide hfull
        have H3 := hide hs3
        have HBY := hide HS1.out.byte
        generalize ds.getD i 0 = x at *
        have cA : (wr.alloc (.cells #[.int .u8 (x : Int)] 5)).cell? ⟨sp, 0, none⟩ = some (.slice vo m vc) := cell_kept c0 (below_new wr _)
        clear hi hin hfull hs3 hrow
        go_wp2_with fail
        go_region_law (first
          | (refine law_append_lef rfl (.tmp 23) (.tmp 28) rfl (.slice vo m vc) (xs ++ ds.take i) rfl (Lef.keep (w := wr.drew) HL.out (below_new _ _)) (some ⟨wr.heap.size, 0, none⟩) 1 1 [x] rfl rfl (row_one _ _) (by have := HFU.out; have := HM.out; have := H3.out; simp; omega) ?_; intro v' w4 hl4 hg4 ho4; obtain ⟨vo', vn', vc', hv'⟩ := hl4.shape; subst hv'; have HL4 := hide hl4; have HG4 := hide (grown_alloc hg4); have HO4 := hide ho4; have hB4 := HBL.out.grown HG4.out HNE.out; have c4 : w4.cell? ⟨sp, 0, none⟩ = some (.slice vo m vc) := hB4.cell 0; have f4 := hB4.frozen 0; have HB4 := hide hB4; clear hl4 hg4 ho4 hB4))
        all_goals
          have HG := hide (Src.grew (T := 31) (by decide) HS1.out.lt (by rw [← HBS.out]; exact HS1.out.lts) HBS.out HNE.out HG4.out HB4.out HL4.out (lt_append HBY.out (fun y hy => by rw [List.mem_singleton.1 hy]; exact HXB.out)) (own_or HO4.out (by simp)))
          go_wp2
          go_roundw
          case rel =>
            obtain ⟨bs2, k1, k2⟩ := HG.out
            exact ⟨i + 1, by first | rfl | simp, HIN.out, hide ⟨bs2, by rw [HTK.out]; exact k1, HA.out.trans k2, by have := HM.out; have := HFU.out; omega⟩⟩
          case measure => have := HIN.out; simp [intOf]; omega
      · have hfull' : ¬ (m : Int) < 4096 := by omega
        have HE : Hid (ds.take (4096 - xs.length) = ds.take i) := hide (by have := HM.out; rw [show 4096 - xs.length = i by omega])
        clear hi hin hfull hs3
        go_wp2_with fail
        go_end0
        rw [HE.out]
        exact ⟨rfl, bs', HS1.out, HA.out⟩
    · have hin' : ¬ (i : Int) < (n : Int) := by omega
      have HE : Hid (ds.take (4096 - xs.length) = ds.take i) := hide (by have := HN.out; rw [List.take_of_length_le (by omega), List.take_of_length_le (by omega)])
      clear hi hin hs3
      go_wp2_with fail
      go_end0
      rw [HE.out]
      exact ⟨rfl, bs', HS1.out, HA.out⟩
set_option maxHeartbeats 1000000 in
set_option maxRecDepth 100000 in
theorem rnew_any (n c : Nat) (ds : List Nat) (ao : Option Addr) (w : World) (hr : Row w ao ds) (hb : ∀ y ∈ ds, y < 256) (hn : n = ds.length) (hn2 : n ≤ 140737488355328) :
    Calls Tryd.prog 9 #[.slice ao n c] w fun e w' => ∃ sp, e = .returned (pf sp) ∧ ∃ bs, Src 31 w' sp (ds.take 4096) bs ∧ Below w.heap.size w w' ∧ ∀ b ∈ bs, w.heap.size ≤ b := by
  have hS : Src 31 (w.alloc (.cells #[.slice none 0 0] 31)) w.heap.size [] [w.heap.size] := ⟨⟨.slice none 0 0, Bl.new w _ _, lef_nil _, by simp [Value.ownBlock], rfl⟩, (fun x hx => by cases hx), (fun b hb => by rw [List.mem_singleton.1 hb]; simp)⟩
  have hrow := hr.keep (below_new w (.cells #[.slice none 0 0] 31))
  have HF : Hid (Calls Tryd.prog 20 #[pf w.heap.size, .slice ao n c] (w.alloc (.cells #[.slice none 0 0] 31)) fun e w' => e = .returned (.tuple #[]) ∧ ∃ bs', Src 31 w' w.heap.size (ds.take 4096) bs' ∧ Aft [w.heap.size] bs' (w.alloc (.cells #[.slice none 0 0] 31)) w') := hide (by
    refine rfeed_any w.heap.size n c [] [w.heap.size] ds ao _ hS hrow (fun hne a ha h => ?_) hb hn hn2 (by simp)
    obtain ⟨b, off, rfl⟩ := hr.form (List.length_pos_iff.2 hne)
    injection ha with ha
    subst ha
    have := hr.lt hne
    have e := List.mem_singleton.1 h
    simp only at e
    omega)
  have HBN := hide (below_new w (.cells #[.slice none 0 0] 31))
  clear hr hb hn hS
  generalize ds.take 4096 = ys at *
  unfold pf at *
  go_enter Tryd.func9, Tryd.ntmps9
  go_wp2_with (go_at_call 20; refine HF.out.mono ?_; rintro e w1 ⟨rfl, bs, h1, h2⟩; have H1 := hide h1; have H2 := hide h2; clear h1 h2)
  go_ret
  have e : ∀ x ∈ [w.heap.size], w.heap.size ≤ x := fun x hx => by rw [List.mem_singleton.1 hx]; exact Nat.le_refl _
  refine ⟨_, rfl, bs, H1.out, HBN.out.trans (H2.out.fr.below _ HBN.out.size e), fun b hb => ?_⟩
  rcases H2.out.new b hb with h | h
  · exact e b h
  · exact Nat.le_trans HBN.out.size h
end Go.Proofs.YtonnnolnkjahgabDoor
