/- What a reading of a client gives: its texts and numbers, its list of scopes in memory, and how much it is. What a reading gives of a list of clients: rows of six cells, each with its list of scopes in memory, and how much it is. -/
import Derived.Test.YtjehbdekipmllaaGreatDoorOpen3
import Derived.Test.YtjehbdekipmllaaGreatDoorLCheck
import Derived.Test.YtjehbdekipmllaaGreatDoorLRow
import Derived.SliceStrings
import Derived.Deep.Slices
namespace Go.Proofs.YtjehbdekipmllaaGreatDoor
open Go.ChangeShapes Go.WideShapes Go.ChangeAt Go.RowKit

section
variable {H : Type} {enc : TypeId × Value → H} {P : Program} {w : World} {base : Nat} {sp : Nat → Bool} {hd : Bool}
theorem six_of {α : Type} {cs : Array α} (h : cs.size = 6) : ∃ a b c d e f, cs = #[a, b, c, d, e, f] := by
  obtain ⟨l⟩ := cs
  match l, h with
  | [a, b, c, d, e, f], _ => exact ⟨a, b, c, d, e, f, rfl⟩
theorem open_agg6 {r : Reach} {b0 : Nat} {t t0 t1 t2 t3 t4 t5 : TypeId} {f0 f1 f2 f3 f4 f5 : Field} {v : Value} {d : DataW H} {p : List MemPlace} (hs : P.underlying t = some (.struct #[f0, f1, f2, f3, f4, f5])) (hC : P.cellsOf t = 6)
    (e0 : f0.type = t0 ∧ f0.offset = 0 ∧ P.cellsOf t0 = 1) (e1 : f1.type = t1 ∧ f1.offset = 1 ∧ P.cellsOf t1 = 1) (e2 : f2.type = t2 ∧ f2.offset = 2 ∧ P.cellsOf t2 = 1) (e3 : f3.type = t3 ∧ f3.offset = 3 ∧ P.cellsOf t3 = 1) (e4 : f4.type = t4 ∧ f4.offset = 4 ∧ P.cellsOf t4 = 1) (e5 : f5.type = t5 ∧ f5.offset = 5 ∧ P.cellsOf t5 = 1)
    (hv : Value.okWide P w r b0 t v) (h : DataW.Trod enc P w base sp hd t v d p) :
    ∃ (v0 v1 v2 v3 v4 v5 : Value) (y0 y1 y2 y3 y4 y5 : DataW H × List MemPlace) (n : Nat), v = .agg #[v0, v1, v2, v3, v4, v5] ∧ d = .agg [y0.1, y1.1, y2.1, y3.1, y4.1, y5.1] ∧ (∀ x ∈ p, x.block < w.heap.size) ∧
      DataW.trod enc P w base sp hd n t0 [v0] = some y0 ∧ DataW.trod enc P w base sp hd n t1 [v1] = some y1 ∧ DataW.trod enc P w base sp hd n t2 [v2] = some y2 ∧ DataW.trod enc P w base sp hd n t3 [v3] = some y3 ∧ DataW.trod enc P w base sp hd n t4 [v4] = some y4 ∧ DataW.trod enc P w base sp hd n t5 [v5] = some y5 := by
  obtain ⟨cs, rfl, hsz⟩ := okWide_struct hs hv
  obtain ⟨c0, c1, c2, c3, c4, c5, rfl⟩ := six_of (hsz.trans hC)
  obtain ⟨fuel, hf⟩ := h
  have hlt := DataW.trod_lt fuel _ _ _ hf
  obtain ⟨ys, n, _, hx, _, hlen, hfs⟩ := DataW.trod_struct hs hf
  obtain ⟨rfl, a0, k0⟩ := e0
  obtain ⟨rfl, a1, k1⟩ := e1
  obtain ⟨rfl, a2, k2⟩ := e2
  obtain ⟨rfl, a3, k3⟩ := e3
  obtain ⟨rfl, a4, k4⟩ := e4
  obtain ⟨rfl, a5, k5⟩ := e5
  match ys, hlen with
  | [y0, y1, y2, y3, y4, y5], _ =>
    simp only [Prod.mk.injEq] at hx
    exact ⟨c0, c1, c2, c3, c4, c5, y0, y1, y2, y3, y4, y5, n, rfl, by simpa using hx.1, hlt, by simpa [Value.cells, a0, k0] using hfs 0 f0 rfl, by simpa [Value.cells, a1, k1] using hfs 1 f1 rfl, by simpa [Value.cells, a2, k2] using hfs 2 f2 rfl,
      by simpa [Value.cells, a3, k3] using hfs 3 f3 rfl, by simpa [Value.cells, a4, k4] using hfs 4 f4 rfl, by simpa [Value.cells, a5, k5] using hfs 5 f5 rfl⟩
end

def sizes (ts : List ByteArray) : Nat := (ts.map fun s => s.size + 1).sum
theorem sizes_cons (s : ByteArray) (ts : List ByteArray) : sizes (s :: ts) = s.size + 1 + sizes ts := by simp [sizes]
theorem sizes_len (ts : List ByteArray) : ts.length ≤ sizes ts := by
  induction ts with
  | nil => simp
  | cons x r ih => rw [sizes_cons, List.length_cons]; omega
theorem sizes_lens (ts : List ByteArray) : Lib.lens (ts.map fun s => s.data.toList) + ts.length = sizes ts := by
  induction ts with
  | nil => rfl
  | cons x r ih =>
    rw [sizes_cons, ← ih]
    have e : x.data.toList.length = x.size := (by rw [Array.length_toList]; rfl)
    simp only [Lib.lens, List.map_cons, List.sum_cons, List.length_cons, e]
    omega
theorem joinS_sizes (ts : List ByteArray) : (joinS (ts.map fun s => s.data.toList)).length ≤ sizes ts := by
  have h := sizes_lens ts
  cases ts with
  | nil => simp [joinS, Lib.join_nil]
  | cons x r =>
    rw [← h]
    unfold joinS
    rw [List.map_cons, Lib.join_length]
    simp
    omega
theorem bulk_strs {H : Type} (ss : List ByteArray) : Rows.uptoBulkAll (strs (H := H) ss) = sizes ss := by
  induction ss with
  | nil => rfl
  | cons s r ih =>
    rw [sizes_cons, ← ih]
    show Rows.uptoBulk (DataW.lit (H := H) (.string s.data.toList)) + Rows.uptoBulkAll (strs r) = _
    have e : s.data.toList.length = s.size := (by rw [Array.length_toList]; rfl)
    simp only [Rows.uptoBulk, e]
set_option maxRecDepth 100000 in
theorem field_texts {H : Type} {enc : TypeId × Value → H} {W : World} {n : Nat} {v : Value} {y : DataW H × List MemPlace} (h : DataW.trod enc Tryz.prog W 0 (fun _ => true) true n 44 [v] = some y) :
    ∃ so l cap, v = .slice so l.length cap ∧ l.length ≤ cap ∧ SRow W so l ∧ l.length ≤ Rows.uptoBulk y.1 ∧ (joinS l).length ≤ Rows.uptoBulk y.1 := by
  rcases open_strings Tryz.underlying44 Tryz.underlying9 (by kernel_rfl) h with ⟨hcs, hx⟩ | ⟨a, len, cap, ss, hcs, _, hl, hm, hz, hx, hcell, hsz⟩
  · simp only [List.cons.injEq, and_true] at hcs
    subst hcs
    subst hx
    exact ⟨none, [], 0, rfl, Nat.le_refl _, .inl rfl, by simp, by simp [joinS, Lib.join_nil]⟩
  · simp only [List.cons.injEq, and_true] at hcs
    subst hcs
    subst hx
    have hzl : ss.length = cap := by simpa using hz
    have hlen : (ss.take len).length = len := by rw [List.length_take]; omega
    have hb : sizes (ss.take len) ≤ Rows.uptoBulk (DataW.slice (H := H) (strs (ss.take len)) (strs (ss.drop len))) := by
      simp only [Rows.uptoBulk, bulk_strs]
      omega
    have hs1 := sizes_len (ss.take len)
    have hs2 := joinS_sizes (ss.take len)
    refine ⟨some a, (ss.take len).map (fun s => s.data.toList), cap, by rw [List.length_map, hlen], by rw [List.length_map]; omega, ?_, ?_, ?_⟩
    · by_cases h0 : len = 0
      · exact .inl (by rw [h0]; rfl)
      · have h00 := hcell 0 (by omega)
        obtain ⟨b, off, q⟩ := a
        have hq : q = none := by simpa [Addr.add] using World.cell?_spot h00
        subst hq
        refine .inr ⟨b, off, rfl, fun i u hi => ?_⟩
        rw [List.getElem?_map] at hi
        obtain ⟨s, hs, rfl⟩ := Option.map_eq_some_iff.1 hi
        have hil : i < len := by
          have := (List.getElem?_eq_some_iff.1 hs).1
          omega
        have hc := hcell i (by omega)
        rw [add_none] at hc
        rw [hc, ← str_u]
        rw [List.getElem?_take, if_pos hil] at hs
        simp [List.getD_eq_getElem?_getD, hs]
    · rw [List.length_map]; exact Nat.le_trans hs1 hb
    · exact Nat.le_trans hs2 hb
set_option maxRecDepth 100000 in
theorem open_client {H : Type} {enc : TypeId × Value → H} {W : World} {base : Nat} {v : Value} {d : DataW H} {p : List MemPlace} (hval : Value.okWide Tryz.prog W .any base 47 v) (h : DataW.Trod enc Tryz.prog W 0 (fun _ => true) true 47 v d p) :
    ∃ id secret url gr pg so l cap, v = .agg #[.string id, .string secret, .int .i64 gr, .bool pg, .string url, .slice so l.length cap] ∧ l.length ≤ cap ∧ SRow W so l ∧ (∀ x ∈ p, x.block < W.heap.size) ∧ (id.size ≤ maxLen ∧ secret.size ≤ maxLen ∧ url.size ≤ maxLen) ∧ l.length ≤ Rows.uptoBulk d ∧ (joinS l).length ≤ Rows.uptoBulk d := by
  obtain ⟨v0, v1, v2, v3, v4, v5, y0, y1, y2, y3, y4, y5, fuel, rfl, rfl, lt, h0, h1, h2, h3, h4, h5⟩ := open_agg6 (t0 := 9) (t1 := 9) (t2 := 3) (t3 := 4) (t4 := 9) (t5 := 44) Tryz.underlying47 (by kernel_rfl) ⟨rfl, rfl, by kernel_rfl⟩ ⟨rfl, rfl, by kernel_rfl⟩ ⟨rfl, rfl, by kernel_rfl⟩ ⟨rfl, rfl, by kernel_rfl⟩ ⟨rfl, rfl, by kernel_rfl⟩ ⟨rfl, rfl, by kernel_rfl⟩ hval h
  obtain ⟨s0, e0, rfl, hs0⟩ := DataW.trod_string Tryz.underlying9 h0
  obtain ⟨s1, e1, rfl, hs1⟩ := DataW.trod_string Tryz.underlying9 h1
  obtain ⟨i2, e2, rfl, w2⟩ := DataW.trod_int Tryz.underlying3 h2
  obtain ⟨b3, e3, rfl⟩ := DataW.trod_bool Tryz.underlying4 h3
  obtain ⟨s4, e4, rfl, hs4⟩ := DataW.trod_string Tryz.underlying9 h4
  obtain ⟨so, l, cap, rfl, hcap, hrow, hb1, hb2⟩ := field_texts h5
  simp only [List.cons.injEq, and_true] at e0 e1 e2 e3 e4
  subst e0 e1 e2 e3 e4
  refine ⟨s0, s1, s4, i2, b3, so, l, cap, rfl, hcap, hrow, lt, ⟨hs0, hs1, hs4⟩, ?_, ?_⟩
  · simp only [Rows.uptoBulk, Rows.uptoBulkAll]; omega
  · simp only [Rows.uptoBulk, Rows.uptoBulkAll]; omega
end Go.Proofs.YtjehbdekipmllaaGreatDoor
namespace Go.Proofs.YtjehbdekipmllaaGreatDoor
open Go.ChangeShapes Go.WideShapes Go.ChangeAt Go.RowKit

theorem cellsCl : Tryz.prog.cellsOf 47 = 6 := by kernel_rfl
theorem cellsStr : Tryz.prog.cellsOf 9 = 1 := by kernel_rfl
theorem cellsInt : Tryz.prog.cellsOf 3 = 1 := by kernel_rfl
theorem cellsBool : Tryz.prog.cellsOf 4 = 1 := by kernel_rfl
theorem cellsStrs : Tryz.prog.cellsOf 44 = 1 := by kernel_rfl
theorem bulk_mem {H : Type} {d : DataW H} : ∀ {l : List (DataW H)}, d ∈ l → Rows.uptoBulk d ≤ Rows.uptoBulkAll l
  | x :: l, h => by
    simp only [Rows.uptoBulkAll]
    rcases List.mem_cons.1 h with rfl | h
    · omega
    · have := bulk_mem h
      omega
theorem bulk_many {H : Type} (D : Nat → DataW H) (n : Nat) (h : ∀ i, i < n → 1 ≤ Rows.uptoBulk (D i)) : n ≤ Rows.uptoBulkAll ((List.range n).map D) := by
  induction n with
  | zero => exact Nat.zero_le _
  | succ k ih =>
    have h1 := ih (fun i hi => h i (by omega))
    have h2 := h k (by omega)
    have e : Rows.uptoBulkAll ((List.range (k + 1)).map D) = Rows.uptoBulkAll ((List.range k).map D) + Rows.uptoBulk (D k) := by
      rw [List.range_succ, List.map_append]
      have : ∀ (l : List (DataW H)) (x : DataW H), Rows.uptoBulkAll (l ++ [x]) = Rows.uptoBulkAll l + Rows.uptoBulk x := by
        intro l x
        induction l with
        | nil => simp [Rows.uptoBulkAll]
        | cons y r ihr => simp only [List.cons_append, Rows.uptoBulkAll, ihr]; omega
      exact this _ _
    omega
/-- How great a client's parts are. -/
def ClUp (b : Nat) (c : Cl) : Prop := c.id.size ≤ maxLen ∧ c.secret.size ≤ maxLen ∧ c.url.size ≤ maxLen ∧ c.scopes.length ≤ b ∧ (joinS c.scopes).length ≤ b ∧ c.id.size ≤ b ∧ c.secret.size ≤ b ∧ c.url.size ≤ b
theorem six_ofL {α : Type} {l : List α} (h : l.length = 6) : ∃ a b c d e f, l = [a, b, c, d, e, f] := by
  match l, h with
  | [a, b, c, d, e, f], _ => exact ⟨a, b, c, d, e, f, rfl⟩
set_option maxRecDepth 100000 in
theorem cells_client {H : Type} {enc : TypeId × Value → H} {W : World} {n : Nat} {cs : List Value} {x : DataW H × List MemPlace} (hl : cs.length = 6) (h : DataW.trod enc Tryz.prog W 0 (fun _ => true) true n 47 cs = some x) :
    ∃ (c : Cl) (so : Option Addr) (cap : Nat), cs = clCells c so c.scopes.length cap ∧ c.scopes.length ≤ cap ∧ SRow W so c.scopes ∧ ClUp (Rows.uptoBulk x.1) c ∧ 1 ≤ Rows.uptoBulk x.1 := by
  obtain ⟨ys, k, _, hx, _, hlen, hfs⟩ := DataW.trod_struct Tryz.underlying47 h
  obtain ⟨v0, v1, v2, v3, v4, v5, rfl⟩ := six_ofL hl
  obtain ⟨y0, y1, y2, y3, y4, y5, rfl⟩ := six_ofL (l := ys) (by rw [hlen]; rfl)
  have g0 := hfs 0 _ rfl
  have g1 := hfs 1 _ rfl
  have g2 := hfs 2 _ rfl
  have g3 := hfs 3 _ rfl
  have g4 := hfs 4 _ rfl
  have g5 := hfs 5 _ rfl
  simp [cellsStr, cellsInt, cellsBool, cellsStrs] at g0 g1 g2 g3 g4 g5
  obtain ⟨s0, e0, x0, h0⟩ := DataW.trod_string Tryz.underlying9 g0
  obtain ⟨s1, e1, x1, h1⟩ := DataW.trod_string Tryz.underlying9 g1
  obtain ⟨i2, e2, x2, -⟩ := DataW.trod_int Tryz.underlying3 g2
  obtain ⟨b3, e3, x3⟩ := DataW.trod_bool Tryz.underlying4 g3
  obtain ⟨s4, e4, x4, h4⟩ := DataW.trod_string Tryz.underlying9 g4
  obtain ⟨so, l, cap, e5, hcap, hrow, hb1, hb2⟩ := field_texts g5
  simp only [List.cons.injEq, and_true] at e0 e1 e2 e3 e4
  subst e0 e1 e2 e3 e4 e5
  have z0 : s0.data.toList.length = s0.size := by rw [Array.length_toList]; rfl
  have z1 : s1.data.toList.length = s1.size := by rw [Array.length_toList]; rfl
  have z4 : s4.data.toList.length = s4.size := by rw [Array.length_toList]; rfl
  have hbk : Rows.uptoBulk x.1 = (s0.size + 1) + ((s1.size + 1) + (1 + (1 + ((s4.size + 1) + (Rows.uptoBulk y5.1 + 0))))) + 1 := by
    rw [hx, x0, x1, x2, x3, x4]
    simp only [List.map_cons, List.map_nil, Rows.uptoBulk, Rows.uptoBulkAll, z0, z1, z4]
  refine ⟨⟨s0, s1, i2, b3, s4, l⟩, so, cap, rfl, hcap, hrow, ⟨h0, h1, h4, ?_, ?_, ?_, ?_, ?_⟩, ?_⟩ <;> (try dsimp only) <;> omega
set_option maxRecDepth 100000 in
theorem open_clients {H : Type} {enc : TypeId × Value → H} {W : World} {base : Nat} {v : Value} {d : DataW H} {p : List MemPlace} (hval : Value.okWide Tryz.prog W .any base 22 v)
    (h : DataW.Trod enc Tryz.prog W 0 (fun _ => true) true 22 v d p) :
    ∃ ao L cap, v = .slice ao L.length cap ∧ L.length ≤ cap ∧ CRow0 W ao L ∧ (∀ x ∈ p, x.block < W.heap.size) ∧ L.length ≤ Rows.uptoBulk d ∧ ∀ c ∈ L, ClUp (Rows.uptoBulk d) c := by
  obtain ⟨a0, len0, cap0, rfl⟩ := okWide_slice Tryz.underlying22 hval
  obtain ⟨fuel, hf⟩ := h
  have lt0 : ∀ x ∈ p, x.block < W.heap.size := DataW.trod_lt fuel _ _ _ hf
  rcases Deep.open_slice Tryz.underlying22 hf with ⟨hcs, hx⟩ | ⟨a, len, cap, m, n, D, Pl, hcs, _, hl, hm, hmm, hx, hc⟩
  · simp [Value.cells] at hcs
    obtain ⟨rfl, rfl, rfl⟩ := hcs
    simp only [Prod.mk.injEq] at hx
    obtain ⟨rfl, _⟩ := hx
    exact ⟨none, [], 0, rfl, Nat.le_refl _, .inl rfl, lt0, by simp, by simp⟩
  · simp [Value.cells] at hcs
    obtain ⟨rfl, rfl, rfl⟩ := hcs
    simp only [Prod.mk.injEq] at hx
    obtain ⟨rfl, _⟩ := hx
    have hlm : len0 ≤ m := by rw [hmm]; split <;> omega
    have each : ∀ i, i < len0 → ∃ q : Cl, (∃ so cp, (∀ j, j < 6 → W.cell? (a.add (i * 6 + j)) = (clCells q so q.scopes.length cp)[j]?) ∧ q.scopes.length ≤ cp ∧ SRow W so q.scopes) ∧ ClUp (Rows.uptoBulk (D i)) q ∧ 1 ≤ Rows.uptoBulk (D i) := fun i hi => by
      obtain ⟨cs', h1, h2⟩ := hc i (by omega)
      rw [cellsCl] at h1
      obtain ⟨_, hlen, hcell⟩ := World.cells?_some h1
      obtain ⟨q, so, cp, rfl, hcp, hrow, hup, h1b⟩ := cells_client hlen h2
      refine ⟨q, ⟨so, cp, fun j hj => ?_, hcp, hrow⟩, hup, h1b⟩
      rw [← Deep.add_add]
      exact hcell j hj
    have hinh : Inhabited Cl := ⟨zeroCl⟩
    obtain ⟨f, hfi⟩ := Deep.choose_lt each
    have hbk : Rows.uptoBulkAll ((List.range len0).map D) ≤ Rows.uptoBulk (DataW.slice ((List.range len0).map D) ((List.range (m - len0)).map fun j => D (len0 + j))) := by
      simp only [Rows.uptoBulk]; omega
    refine ⟨some a, (List.range len0).map f, cap0, by simp, by simpa using hl, ?_, lt0, ?_, ?_⟩
    · by_cases h0 : len0 = 0
      · exact .inl (by rw [h0]; rfl)
      · obtain ⟨so0, cp0, h00, -⟩ := (hfi 0 (by omega)).1
        have h00 := h00 0 (by omega)
        obtain ⟨b, off, q⟩ := a
        have hq : q = none := by
          have : W.cell? ((⟨b, off, q⟩ : Addr).add 0) = some _ := h00.trans (by rfl)
          simpa [Addr.add] using World.cell?_spot this
        subst hq
        refine .inr ⟨b, off, rfl, fun i q hiq => ?_⟩
        rw [List.getElem?_map] at hiq
        obtain ⟨i', hi', rfl⟩ := Option.map_eq_some_iff.1 hiq
        obtain ⟨hil, e⟩ := List.getElem?_eq_some_iff.1 hi'
        rw [List.length_range] at hil
        rw [List.getElem_range] at e
        subst e
        obtain ⟨so, cp, hcell, hcp, hrow⟩ := (hfi i hil).1
        have g : ∀ j, j < 6 → W.cell? ⟨b, off + i * 6 + j, none⟩ = (clCells (f i) so (f i).scopes.length cp)[j]? := fun j hj => by
          have := hcell j hj
          rw [Go.WideShapes.add_plain, ← Nat.add_assoc] at this
          exact this
        exact ⟨so, _, cp, g 0 (by omega), g 1 (by omega), g 2 (by omega), g 3 (by omega), g 4 (by omega), g 5 (by omega), rfl, hcp, hrow⟩
    · rw [List.length_map, List.length_range]
      exact Nat.le_trans (bulk_many D len0 (fun i hi => (hfi i hi).2.2)) hbk
    · intro c hcm
      obtain ⟨i, hi, rfl⟩ := List.mem_map.1 hcm
      have hil := List.mem_range.1 hi
      obtain ⟨u0, u1, u2, u3, u4, u5, u6, u7⟩ := (hfi i hil).2.1
      have hm1 : D i ∈ (List.range len0).map D := List.mem_map.2 ⟨i, hi, rfl⟩
      have hb1 := bulk_mem hm1
      exact ⟨u0, u1, u2, by omega, by omega, by omega, by omega, by omega⟩
theorem mem_joinS {l : List U} {u : U} (h : u ∈ l) : u.length ≤ (joinS l).length := by
  unfold joinS
  cases l with
  | nil => simp at h
  | cons x r =>
    rw [Lib.join_length]
    have h2 : ∀ {l : List U} {u : U}, u ∈ l → u.length ≤ Lib.lens l := by
      intro l u h
      induction l with
      | nil => simp at h
      | cons y r ih =>
        simp only [Lib.lens, List.map_cons, List.sum_cons] at ih ⊢
        rcases List.mem_cons.1 h with rfl | h
        · omega
        · have := ih h
          omega
    have := h2 h
    omega
theorem ClUp.small {b : Nat} {c : Cl} (h : ClUp b c) (hb : b ≤ 1048576) : ClSmall c := by
  obtain ⟨h0, h1, h2, h3, h4, h5, h6, h7⟩ := h
  refine ⟨by omega, by omega, by omega, by omega, fun u hu => ?_⟩
  have := mem_joinS hu
  omega
end Go.Proofs.YtjehbdekipmllaaGreatDoor
