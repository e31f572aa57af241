/- The law's spoil, of a list of clients: it writes only into what is the list's own, and into new blocks. -/
import Derived.Test.YtjehbdekipmllaaGreatDoorLScs
import Derived.Test.YtjehbdekipmllaaGreatDoorLLaws
namespace Go.Proofs.YtjehbdekipmllaaGreatDoor
open Go.RowKit

/-- Of what was there only blocks from B up to M may have turned. -/
structure Kb (B M : Nat) (w0 w : World) : Prop where
  os : w.os = w0.os
  tape : w.tape = w0.tape
  output : w.output = w0.output
  size : w0.heap.size ≤ w.heap.size
  block : ∀ k, k < w0.heap.size → (k < B ∨ M ≤ k) → w.heap[k]? = w0.heap[k]?
theorem kb_refl (B M : Nat) (w : World) : Kb B M w w := ⟨rfl, rfl, rfl, Nat.le_refl _, fun _ _ _ => rfl⟩
theorem Kb.grown {B M : Nat} {w0 w w' : World} {row : Option Nat} (h : Kb B M w0 w) (hg : w.grownBy w' row) (hr : ∀ r, row = some r → (B ≤ r ∧ r < M) ∨ w0.heap.size ≤ r) : Kb B M w0 w' :=
  ⟨hg.os.trans h.os, hg.tape.trans h.tape, hg.output.trans h.output, Nat.le_trans h.size hg.size, fun k hk hb => (hg.block k (Nat.lt_of_lt_of_le hk h.size) (fun e => by rcases hr k e.symm with h1 | h1 <;> omega)).trans (h.block k hk hb)⟩
theorem Kb.keep {B M : Nat} {w0 w w' : World} (h : Kb B M w0 w) (hb : Below w.heap.size w w') : Kb B M w0 w' :=
  ⟨hb.os.trans h.os, hb.tape.trans h.tape, hb.output.trans h.output, Nat.le_trans h.size hb.size, fun k hk hc => (hb.block k (Nat.lt_of_lt_of_le hk h.size)).trans (h.block k hk hc)⟩
theorem Kb.below {B M : Nat} {w0 w : World} (h : Kb B M w0 w) (hB : B ≤ w0.heap.size) : Below B w0 w := ⟨h.os, h.tape, h.output, h.size, fun k hk => h.block k (by omega) (.inl hk)⟩
theorem Kb.cell {B M : Nat} {w0 w : World} (h : Kb B M w0 w) {a : Addr} {v : Value} (hc : w0.cell? a = some v) (ha : M ≤ a.block) : w.cell? a = some v :=
  (World.cell?_of_block (w := w0) (h.block a.block (World.block_lt_of_cell? w0 a hc) (.inr ha))).trans hc
theorem SAt.kb {B M : Nat} {w w' : World} {so : Option Addr} {n cp : Nat} {l : List U} (h : SAt w so n cp l) (hk : Kb B M w w') (ha : ∀ a, so = some a → M ≤ a.block) : SAt w' so n cp l := by
  refine ⟨h.1, h.2.1, ?_, ?_⟩
  · rcases h.2.2.1 with h1 | ⟨b, off, rfl, h1⟩
    · exact .inl h1
    · have hb : M ≤ b := ha ⟨b, off, none⟩ rfl
      exact .inr ⟨b, off, rfl, fun i u hi => hk.cell (h1 i u hi) hb⟩
  · rcases h.2.2.2 with h1 | h1
    · exact .inl h1
    · refine .inr (fun a e => ?_)
      obtain ⟨cs, fz, hh⟩ := h1 a e
      exact ⟨cs, fz, (hk.block a.block (Array.getElem?_eq_some_iff.1 hh).1 (.inr (ha a e))).trans hh⟩
theorem Flat.kb {B M : Nat} {w w' : World} {cs : List Value} {l : List Cl} (h : Flat w cs l) (hk : Kb B M w w') (hm : ∀ i so m cp, i < l.length → cs[i * 6 + 5]? = some (.slice so m cp) → ∀ a, so = some a → M ≤ a.block) : Flat w' cs l := by
  refine ⟨h.1, fun i c hi => ?_, h.2.2⟩
  obtain ⟨so, n, cp, h1, h2⟩ := h.2.1 i c hi
  exact ⟨so, n, cp, h1, h2.kb hk (hm i so n cp (List.getElem?_eq_some_iff.1 hi).1 (h1 5 _ rfl))⟩
theorem ownsRow_kb {B M B' e size n : Nat} {w w' : World} {v : Value} {xs : List Value} (h : w.ownsRow B' e size v n xs) (hk : Kb B M w w') (hM : M ≤ B') : w'.ownsRow B' e size v n xs := by
  refine ⟨h.1, ?_⟩
  rcases h.2 with h2 | ⟨g, cap, cur, e, hg, hh, r⟩
  · exact .inl h2
  · exact .inr ⟨g, cap, cur, e, hg, (hk.block g (Array.getElem?_eq_some_iff.1 hh).1 (.inr (by omega))).trans hh, r⟩
theorem COwnS.kb {B M B' M' : Nat} {w w' : World} {v : Value} {l : List Cl} (h : COwnS w B' M' v l) (hk : Kb B M w w') (hM : M ≤ B') : COwnS w' B' M' v l := by
  obtain ⟨cs, ho, hf, hs, hm, hr⟩ := h
  refine ⟨cs, ownsRow_kb ho hk hM, hf.kb hk (fun i so m cp hi hc a ha => ?_), ⟨fun i hi => ?_, hs.2⟩, hm, hr⟩
  · obtain ⟨x, u, h1, h2⟩ := hs.1 i hi
    rw [hc] at h1
    cases h1
    subst ha
    have := h2.ge a.block rfl
    omega
  · obtain ⟨x, u, h1, h2⟩ := hs.1 i hi
    exact ⟨x, u, h1, ownsRow_kb h2 hk hM⟩

/-- Of the clients from i on, the lists of scopes are one's own. -/
def Sp (w : World) (B : Nat) (cs : List Value) (i n : Nat) : Prop := ∀ j, i ≤ j → j < n → ∃ l v, cs[j * 6 + 5]? = some v ∧ SOwn w B v l ∧ l.length ≤ 32
/-- No two of them lie in one block. -/
def Ds (cs : List Value) (n : Nat) : Prop := ∀ i j v v', i ≠ j → i < n → j < n → cs[i * 6 + 5]? = some v → cs[j * 6 + 5]? = some v' → v.ownBlock = none ∨ v.ownBlock ≠ v'.ownBlock
theorem Sp.off {w w' : World} {B i n : Nat} {cs : List Value} {row : Option Nat} (h : Sp w B cs i n) (hg : w.grownBy w' row) (hr : ∀ j v, i ≤ j → j < n → cs[j * 6 + 5]? = some v → v.ownBlock = none ∨ v.ownBlock ≠ row) : Sp w' B cs i n := by
  intro j h1 h2
  obtain ⟨l, v, h3, h4, h5⟩ := h j h1 h2
  exact ⟨l, v, h3, World.ownsRow.kept h4 hg (hr j v h1 h2 h3), h5⟩
theorem Sp.keep {w w' : World} {B i n : Nat} {cs : List Value} (h : Sp w B cs i n) (hb : Below w.heap.size w w') : Sp w' B cs i n := by
  intro j h1 h2
  obtain ⟨l, v, h3, h4, h5⟩ := h j h1 h2
  exact ⟨l, v, h3, h4.keep hb, h5⟩
theorem Sp.from {w : World} {B i i' n : Nat} {cs : List Value} (h : Sp w B cs i n) (hi : i ≤ i') : Sp w B cs i' n := fun j h1 h2 => h j (by omega) h2
theorem Sp.put {w : World} {B n j k g m c : Nat} {cs : List Value} {u : U} (h : Sp w B cs 0 n) (hd : Ds cs n) (hj : j < n) (hv : cs[j * 6 + 5]? = some (.slice (some ⟨g, 0, none⟩) m c)) : Sp (w.setCell ⟨g, k, none⟩ (encStr u)) B cs 0 n := by
  intro i h1 h2
  obtain ⟨l, v, h3, h4, h5⟩ := h i h1 h2
  by_cases hij : i = j
  · subst hij
    rw [hv] at h3
    cases h3
    obtain ⟨a', c', e, _⟩ := h4.shape
    cases e
    exact ⟨_, _, hv, h4.put (u := u) (k := k), by rw [List.length_set]; exact h5⟩
  · exact ⟨l, v, h3, World.ownsRow.kept h4 (grown_set _ _ _ _) (hd i j v _ hij h2 hj h3 hv), h5⟩
/-- The row of the clients in its block: from the i-th on as it was. -/
def RowC (w : World) (g : Nat) (cs : List Value) (i : Nat) : Prop := ∃ cur, w.heap[g]? = some (.cells cur 47 (0, 0)) ∧ ∀ p v, i * 6 ≤ p → cs[p]? = some v → cur[p]? = some v
theorem RowC.lt {w : World} {g i : Nat} {cs : List Value} (h : RowC w g cs i) : g < w.heap.size := by
  obtain ⟨cur, h1, _⟩ := h
  exact (Array.getElem?_eq_some_iff.1 h1).1
theorem RowC.cell {w : World} {g i p : Nat} {cs : List Value} {v : Value} (h : RowC w g cs i) (hp : i * 6 ≤ p) (hv : cs[p]? = some v) : w.cell? ⟨g, p, none⟩ = some v := by
  obtain ⟨cur, h1, h2⟩ := h
  rw [cell_of_row w g p _ _ _ h1]
  exact h2 p v hp hv
theorem RowC.fz {w : World} {g i : Nat} {cs : List Value} (h : RowC w g cs i) (p : Nat) : w.frozen? ⟨g, p, none⟩ = false := by
  obtain ⟨cur, h1, _⟩ := h
  exact frozen_of_row w g p _ _ h1
theorem RowC.same {w w' : World} {g i : Nat} {cs : List Value} (h : RowC w g cs i) (he : w'.heap[g]? = w.heap[g]?) : RowC w' g cs i := by
  obtain ⟨cur, h1, h2⟩ := h
  exact ⟨cur, he.trans h1, h2⟩
theorem RowC.from {w : World} {g i i' : Nat} {cs : List Value} (h : RowC w g cs i) (hi : i ≤ i') : RowC w g cs i' := by
  obtain ⟨cur, h1, h2⟩ := h
  exact ⟨cur, h1, fun p v hp hv => h2 p v (by omega) hv⟩
theorem RowC.put {w : World} {g i p : Nat} {cs : List Value} {v : Value} (h : RowC w g cs i) (hp : p < i * 6) : RowC (w.setCell ⟨g, p, none⟩ v) g cs i := by
  obtain ⟨cur, h1, h2⟩ := h
  refine ⟨cur.setIfInBounds p v, ?_, fun q u hq hu => ?_⟩
  · rw [setCell_eq_setRow w g p _ _ _ _ h1, setRow_heap w g _ _ _ _ h1]
  · rw [Array.getElem?_setIfInBounds_ne (by omega)]
    exact h2 q u hq hu
theorem RowC.off {w : World} {g i B : Nat} {cs : List Value} {v : Value} {l : List U} (h : RowC w g cs i) (ho : SOwn w B v l) : some g ≠ v.ownBlock := by
  obtain ⟨cur, h1, _⟩ := h
  rcases ho.2 with ⟨rfl, _⟩ | ⟨g', cap', cur', rfl, _, hh, _⟩
  · simp [Value.ownBlock]
  · intro e
    simp only [Value.ownBlock, Option.some.injEq] at e
    rw [← e, h1] at hh
    simp at hh
/-- Six cells written from a place on. -/
def putR (w : World) (g o : Nat) (v0 v1 v2 v3 v4 v5 : Value) : World := (((((w.setCell ⟨g, o, none⟩ v0).setCell ⟨g, o + 1, none⟩ v1).setCell ⟨g, o + 2, none⟩ v2).setCell ⟨g, o + 3, none⟩ v3).setCell ⟨g, o + 4, none⟩ v4).setCell ⟨g, o + 5, none⟩ v5
theorem putR_grown (w : World) (g o : Nat) (v0 v1 v2 v3 v4 v5 : Value) : w.grownBy (putR w g o v0 v1 v2 v3 v4 v5) (some g) :=
  (((((grown_set w g o v0).trans (grown_set _ g (o + 1) v1)).trans (grown_set _ g (o + 2) v2)).trans (grown_set _ g (o + 3) v3)).trans (grown_set _ g (o + 4) v4)).trans (grown_set _ g (o + 5) v5)
theorem RowC.putR {w : World} {g i : Nat} {cs : List Value} (h : RowC w g cs i) (v0 v1 v2 v3 v4 v5 : Value) : RowC (putR w g (i * 6) v0 v1 v2 v3 v4 v5) g cs (i + 1) :=
  ((((((h.from (Nat.le_succ i)).put (by omega)).put (by omega)).put (by omega)).put (by omega)).put (by omega)).put (by omega)
/-- What spoil keeps on its way. -/
structure Spo (B M : Nat) (w0 : World) (g : Nat) (cs : List Value) (n i j : Nat) (w : World) : Prop where
  sp : Sp w B cs i n
  row : RowC w g cs j
  kb : Kb B M w0 w
set_option linter.unusedSimpArgs false in
set_option maxHeartbeats 4000000 in
set_option maxRecDepth 100000 in
theorem spoil_some (n c B M g : Nat) (cs : List Value) (w : World) (hn : n ≤ 256) (hcs : cs.length = n * 6) (hS : Sp w B cs 0 n) (hD : Ds cs n) (hR : RowC w g cs 0) (hg : B ≤ g ∧ g < M) (hM : M ≤ w.heap.size) (hB : B ≤ w.heap.size)
    (hbl : ∀ j v k, j < n → cs[j * 6 + 5]? = some v → v.ownBlock = some k → B ≤ k ∧ k < M) :
    Calls Tryz.prog 10 #[.slice (some ⟨g, 0, none⟩) n c] w fun e w' => e = .returned (.tuple #[]) ∧ Kb B M w w' := by
  have HD : Hid (Ds cs n) := hD
  have HBL : Hid (∀ j v k, j < n → cs[j * 6 + 5]? = some v → v.ownBlock = some k → B ≤ k ∧ k < M) := hbl
  have HCS : Hid (cs.length = n * 6) := hcs
  have H0 : Hid (Spo B M w g cs n 0 0 w) := ⟨hS, hR, kb_refl _ _ _⟩
  have HG := hide hg
  have HMW := hide hM
  have HBW := hide hB
  obtain ⟨i0, hi, hz0, hz1, hz2⟩ := info_parts infoStr
  clear hD hbl hcs hS hR hg hM hB
  go_enter Tryz.func10, Tryz.ntmps10
  go_wp2
  go_loopw [2] (fun i wr => ∃ j : Nat, j ≤ n ∧ i = .int .i64 (j : Int) ∧ Hid (Spo B M w g cs n 0 0 wr)) (fun i _ => n - (intOf i).toNat)
  case atStart => exact ⟨0, by omega, rfl, H0⟩
  case round =>
    obtain ⟨j, hj, rfl, HS⟩ := hrel
    by_cases hlt : j < n
    · obtain ⟨l1, v1, hv1, ho1, hl1⟩ := HS.out.sp j (by omega) hlt
      obtain ⟨so, cp, rfl, -, -, -⟩ := ho1.shape
      obtain ⟨m, hm⟩ : ∃ m, m = l1.length := ⟨_, rfl⟩
      rw [← hm] at hv1
      have hm32 : m ≤ 32 := by omega
      have HV := hide hv1
      have hji : (j : Int) < (n : Int) := by omega
      have hjd : decide ((j : Int) < (n : Int)) = true := decide_eq_true hji
      clear hv1 ho1 hl1 hm
      go_wp2
      generalize wr = wa at *
      go_loopw [3] (fun i wr => ∃ k : Nat, k ≤ m ∧ i = .int .i64 (k : Int) ∧ Hid (Spo B M w g cs n 0 0 wr)) (fun i _ => m - (intOf i).toNat)
      case atStart => exact ⟨0, by omega, rfl, HS⟩
      case round =>
        obtain ⟨k, hk, rfl, HS2⟩ := hrel
        have c5 := HS2.out.row.cell (p := j * 6 + 5) (by omega) HV.out
        by_cases hlk : k < m
        · obtain ⟨l2, v2, hv2, ho2, hl2⟩ := HS2.out.sp j (by omega) hlt
          rw [HV.out] at hv2
          cases hv2
          have hml : m = l2.length := by
            obtain ⟨a', c', e, _⟩ := ho2.shape
            injection e
          obtain ⟨u, hu⟩ : ∃ u, l2[k]? = some u := ⟨_, List.getElem?_eq_getElem (by rw [← hml]; exact hlk)⟩
          obtain ⟨g2, rfl, hgb, e0, e1, -⟩ := ho2.at hu
          have HS3 : Hid (Spo B M w g cs n 0 0 (wr.setCell ⟨g2, k, none⟩ (.string { data := #[63] }))) := by
            have hb2 := HBL.out j _ g2 hlt HV.out rfl
            refine ⟨HS2.out.sp.put (u := [63]) HD.out hlt HV.out, HS2.out.row.same ?_, HS2.out.kb.grown (grown_set _ _ _ _) (fun r hr => .inl (by cases hr; exact hb2))⟩
            exact (grown_set wr g2 k (.string { data := #[63] })).block g HS2.out.row.lt (by have := HS2.out.row.off ho2; exact this)
          clear hu hml ho2 hl2
          go_wp2
          go_roundw
          case rel => exact ⟨k + 1, by omega, by go_num, HS3⟩
          case measure => simp [intOf]; omega
        · go_wp2
          go_roundw
          case rel => exact ⟨j + 1, by omega, by go_num, HS2⟩
          case measure => simp [intOf]; omega
    · have hji : ¬ (j : Int) < (n : Int) := by omega
      have hjd : decide ((j : Int) < (n : Int)) = false := decide_eq_false hji
      go_wp2
      generalize wr = wa at *
      go_loopw [4] (fun i wr => ∃ j : Nat, j ≤ n ∧ i = .int .i64 (j : Int) ∧ Hid (Spo B M w g cs n j j wr)) (fun i _ => n - (intOf i).toNat)
      case atStart => exact ⟨0, by omega, rfl, HS⟩
      case round =>
        obtain ⟨j, hj, rfl, HT⟩ := hrel
        by_cases hlt : j < n
        · obtain ⟨l1, v1, hv1, ho1, hl1⟩ := HT.out.sp j (by omega) hlt
          obtain ⟨so, cp, rfl, -, -, -⟩ := ho1.shape
          obtain ⟨m, hm⟩ : ∃ m, m = l1.length := ⟨_, rfl⟩
          rw [← hm] at hv1 ho1
          have hm32 : m ≤ 32 := by omega
          have HV := hide hv1
          have c5 := HT.out.row.cell (p := j * 6 + 5) (by omega) hv1
          have HO1 := hide ho1
          have HL1 := hide hm
          have HT0 : Hid (Spo B M w g cs n (j + 1) j wr) := ⟨HT.out.sp.from (by omega), HT.out.row, HT.out.kb⟩
          have hji : (j : Int) < (n : Int) := by omega
          have hjd : decide ((j : Int) < (n : Int)) = true := decide_eq_true hji
          clear hv1 ho1 hl1 hm HT HS
          go_wp2
          generalize wr = wb at *
          go_loopw [5, 6] (fun v i wr => ∃ (k p fc : Nat) (fo : Option Addr), k ≤ 16 ∧ v = .slice fo p fc ∧ i = .int .i64 (k : Int) ∧ ∃ l', Hid (p = l'.length ∧ p = m + k) ∧ Hid (SOwn wr B (.slice fo p fc) l') ∧ Hid (∀ r, (Value.slice fo p fc).ownBlock = some r → (Value.slice so m cp).ownBlock = some r ∨ w.heap.size ≤ r) ∧ Hid (Spo B M w g cs n (j + 1) j wr)) (fun _ i _ => 16 - (intOf i).toNat)
          case atStart => exact ⟨0, m, cp, so, by omega, rfl, rfl, l1, ⟨HL1.out, rfl⟩, HO1, fun r hr => .inl hr, HT0⟩
          case round =>
            obtain ⟨k, p, fc, fo, hk, rfl, rfl, l4, HP, HO4, HF4, HS4⟩ := hrel
            by_cases hlk : k < 16
            · have hki : (k : Int) < 16 := by omega
              have hkd : decide ((k : Int) < 16) = true := decide_eq_true hki
              have HBX : Hid (Below wr.heap.size wr (wr.alloc (.cells #[.string { data := #[63, 63] }] 9))) := below_new wr _
              have hsx := HBX.out.size
              have hcl := HS4.out.row.lt
              have hkb := HS4.out.kb.size
              have HR : Hid (SRow (wr.alloc (.cells #[.string { data := #[63, 63] }] 9)) (some ⟨wr.heap.size, 0, none⟩) [[63, 63]]) := by
                refine .inr ⟨_, _, rfl, fun i u hi => ?_⟩
                match i, hi with
                | 0, hi => simp at hi; subst hi; simp
              go_wp2_with (first | (at_builtin; refine wpList_append_one (i0 := i0) rfl (.tmp 45) (.tmp 46) rfl hi hz0 hz1 hz2 B _ l4 [63, 63] rfl (HO4.out.keep HBX.out) ⟨wr.heap.size, 0, none⟩ 1 rfl HR.out (by have h1 := HP.out.1; have h2 := HP.out.2; rw [← h1]; omega) (by have := HBW.out; omega) ?_))
              intro v' w5 hown5 hgr5 hwh5
              obtain ⟨ao', cap', hv', _, _, _⟩ := hown5.shape
              have hlen : (l4 ++ [[63, 63]]).length = p + 1 := by rw [List.length_append, ← HP.out.1]; rfl
              rw [hlen] at hv'
              subst hv'
              have HP5 : Hid (p + 1 = (l4 ++ [[63, 63]]).length ∧ p + 1 = m + (k + 1)) := ⟨hlen.symm, by have := HP.out.2; omega⟩
              have HO5 := hide hown5
              have HF5 : Hid (∀ r, (Value.slice ao' (p + 1) cap').ownBlock = some r → (Value.slice so m cp).ownBlock = some r ∨ w.heap.size ≤ r) := by
                intro r hr
                rcases hwh5 with h | h
                · exact HF4.out r (by rw [← h]; exact hr)
                · rw [h] at hr
                  have e := Option.some.inj hr
                  refine .inr ?_
                  omega
              have HS5 : Hid (Spo B M w g cs n (j + 1) j w5) := by
                have hb := HO4.out.keep HBX.out
                refine ⟨(HS4.out.sp.keep HBX.out).off hgr5 (fun j' v h1 h2 h3 => ?_), (HS4.out.row.same ?_), (HS4.out.kb.keep HBX.out).grown hgr5 (fun r hr => ?_)⟩
                · cases hv : v.ownBlock with
                  | none => exact .inl rfl
                  | some r =>
                    refine .inr (fun e => ?_)
                    rcases HF4.out r e.symm with h4 | h4
                    · rcases HD.out j' j v _ (by omega) h2 hlt h3 HV.out with h5 | h5
                      · rw [hv] at h5; cases h5
                      · exact h5 (by rw [hv, h4])
                    · have := (HBL.out j' v r h2 h3 hv).2
                      have := HMW.out
                      omega
                · have hrow := HS4.out.row.same (w' := wr.alloc (.cells #[.string { data := #[63, 63] }] 9)) (HBX.out.block g hcl)
                  exact (hgr5.block g hrow.lt (hrow.off hb)).trans (HBX.out.block g hcl)
                · rcases HF4.out r hr with h4 | h4
                  · exact .inl (HBL.out j _ r hlt HV.out h4)
                  · exact .inr h4
              clear hown5 hgr5 hwh5 hlen
              go_wp2
              go_roundw
              case rel => exact ⟨k + 1, p + 1, cap', ao', by omega, rfl, by go_num, _, HP5, HO5, HF5, HS5⟩
              case measure => simp [intOf]; omega
            · have hki : ¬ (k : Int) < 16 := by omega
              have hkd : decide ((k : Int) < 16) = false := decide_eq_false hki
              have hcell : ∀ t, t < 6 → ∃ v, wr.cell? ⟨g, j * 6 + t, none⟩ = some v := fun t ht => ⟨_, HS4.out.row.cell (p := j * 6 + t) (by omega) (List.getElem?_eq_getElem (by rw [HCS.out]; omega))⟩
              obtain ⟨x0, q0⟩ := hcell 0 (by omega)
              obtain ⟨x1, q1⟩ := hcell 1 (by omega)
              obtain ⟨x2, q2⟩ := hcell 2 (by omega)
              obtain ⟨x3, q3⟩ := hcell 3 (by omega)
              obtain ⟨x4, q4⟩ := hcell 4 (by omega)
              obtain ⟨x5, q5⟩ := hcell 5 (by omega)
              rw [Nat.add_zero] at q0
              have z0 := HS4.out.row.fz (j * 6)
              have z1 := HS4.out.row.fz (j * 6 + 1)
              have z2 := HS4.out.row.fz (j * 6 + 2)
              have z3 := HS4.out.row.fz (j * 6 + 3)
              have z4 := HS4.out.row.fz (j * 6 + 4)
              have z5 := HS4.out.row.fz (j * 6 + 5)
              have HNX : Hid (∀ y0 y1 y2 y3 y4 y5, Spo B M w g cs n (j + 1) (j + 1) (putR wr g (j * 6) y0 y1 y2 y3 y4 y5)) := fun y0 y1 y2 y3 y4 y5 => by
                refine ⟨HS4.out.sp.off (putR_grown _ _ _ _ _ _ _ _ _) (fun j' v h1 h2 h3 => ?_), HS4.out.row.putR _ _ _ _ _ _, HS4.out.kb.grown (putR_grown _ _ _ _ _ _ _ _ _) (fun r hr => .inl (by cases hr; exact HG.out))⟩
                obtain ⟨l', v', h4, h5, -⟩ := HS4.out.sp j' h1 h2
                rw [h3] at h4
                cases h4
                exact .inr (fun e => HS4.out.row.off h5 e.symm)
              clear hcell c5
              go_wp2
              go_roundw
              case rel => exact ⟨j + 1, by omega, by go_num, HNX.out _ _ _ _ _ _⟩
              case measure => simp [intOf]; omega
        · have hji2 : ¬ (j : Int) < (n : Int) := by omega
          have hjd2 : decide ((j : Int) < (n : Int)) = false := decide_eq_false hji2
          go_wp2
          first | go_end0 | ((try simp only [Exit.inBlock, Exit.then]); refine bodyPost_ret (results_none rfl _ _ _) rfl ?_)
          exact ⟨rfl, HT.out.kb⟩
set_option maxHeartbeats 1000000 in
set_option maxRecDepth 100000 in
theorem spoil_none (w : World) : Calls Tryz.prog 10 #[.slice none 0 0] w fun e w' => e = .returned (.tuple #[]) ∧ w' = w := by
  go_enter Tryz.func10, Tryz.ntmps10
  go_wp2
  go_loopw [2] (fun i wr => i = .int .i64 0 ∧ wr = w) (fun _ _ => 0)
  case atStart => exact ⟨rfl, rfl⟩
  case round =>
    obtain ⟨rfl, rfl⟩ := hrel
    go_wp2
    go_loopw [4] (fun i w2 => i = .int .i64 0 ∧ w2 = wr) (fun _ _ => 0)
    case atStart => exact ⟨rfl, rfl⟩
    case round =>
      obtain ⟨rfl, rfl⟩ := hrel
      go_wp2
      first | go_end0 | ((try simp only [Exit.inBlock, Exit.then]); refine bodyPost_ret (results_none rfl _ _ _) rfl ?_)
      exact ⟨rfl, rfl⟩
theorem spoil_any (n c B M : Nat) (ao : Option Addr) (L : List Cl) (w : World) (h : COwnS w B M (.slice ao n c) L) (hn : n = L.length) (hl : n ≤ 256) (hs : ∀ c ∈ L, c.scopes.length ≤ 32) (hM : M ≤ w.heap.size) (hB : B ≤ w.heap.size) :
    Calls Tryz.prog 10 #[.slice ao n c] w fun e w' => e = .returned (.tuple #[]) ∧ Kb B M w w' := by
  obtain ⟨cs, ho, hf, hsc, hm, hr⟩ := h
  have hsp : Sp w B cs 0 n := fun j _ hj => by
    obtain ⟨l, v, h1, h2⟩ := hsc.1 j (by omega)
    refine ⟨l, v, h1, h2, ?_⟩
    obtain ⟨so, m, cp, h3, h4⟩ := hf.2.1 j L[j] (List.getElem?_eq_getElem (by omega))
    have h5 := h3 5 _ rfl
    rw [h1] at h5
    cases h5
    obtain ⟨a', c', e, _⟩ := h2.shape
    injection e with e1 e2
    rw [← e2, h4.1]
    exact hs _ (List.getElem_mem _)
  have hds : Ds cs n := fun i j v v' hij hi hj hv hv' => by
    rcases Nat.lt_or_gt_of_ne hij with h | h
    · exact hsc.2 i j v v' h (by omega) hv hv'
    · rcases hsc.2 j i v' v h (by omega) hv' hv with h2 | h2
      · cases hk : v.ownBlock with
        | none => exact .inl rfl
        | some k => exact .inr (by rw [h2]; simp)
      · exact .inr (fun e => h2 e.symm)
  have hbl : ∀ j v k, j < n → cs[j * 6 + 5]? = some v → v.ownBlock = some k → B ≤ k ∧ k < M := fun j v k hj hv hk => by
    obtain ⟨l, u, h1, h2⟩ := hsc.1 j (by omega)
    rw [hv] at h1
    cases h1
    exact ⟨h2.ge k hk, hm j v k (by omega) hv hk⟩
  rcases ho.2 with ⟨e, h0⟩ | ⟨g, cap, cur, e, hb, hh, hle, hcm, hsz, ht⟩
  · injection e with e1 e2 e3
    subst e1 e2 e3
    refine (spoil_none w).mono ?_
    rintro e w' ⟨rfl, rfl⟩
    exact ⟨rfl, kb_refl _ _ _⟩
  · injection e with e1 e2 e3
    subst e1 e3
    have hrow : RowC w g cs 0 := by
      refine ⟨cur, hh, fun p v _ hp => ?_⟩
      rw [← ht, List.getElem?_take] at hp
      split at hp
      · rw [← Array.getElem?_toList]; exact hp
      · cases hp
    exact spoil_some n c B M g cs w hl (by rw [hf.1, ← hn]) hsp hds hrow ⟨hb, hr g rfl⟩ hM hB hbl
end Go.Proofs.YtjehbdekipmllaaGreatDoor
