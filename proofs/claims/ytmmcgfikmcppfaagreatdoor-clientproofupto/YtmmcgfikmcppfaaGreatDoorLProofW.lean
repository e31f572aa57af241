/- The walk of the law ClientProof: whoever gets in, gets in by its secret: true, and nothing old turns. -/
import Derived.Test.YtmmcgfikmcppfaaGreatDoorLProofM
import Derived.Test.YtmmcgfikmcppfaaGreatDoorLShowsW
import Derived.Deep.RegionHeldLaw
import Derived.Deep.RegionHeld3
namespace Go.Proofs.YtmmcgfikmcppfaaGreatDoor
open Go.RowKit

/-- Five cells in a block: a try. -/
def T5 (w : World) (N : Nat) (v0 v1 v2 v3 v4 : Value) : Prop := w.heap[N]? = some (.cells #[v0, v1, v2, v3, v4] 66 (0, 0))
theorem T5.lt {w : World} {N : Nat} {v0 v1 v2 v3 v4 : Value} (h : T5 w N v0 v1 v2 v3 v4) : N < w.heap.size := (Array.getElem?_eq_some_iff.1 h).1
theorem T5.keep {w w' : World} {N B : Nat} {v0 v1 v2 v3 v4 : Value} (h : T5 w N v0 v1 v2 v3 v4) (hb : Below B w w') (hB : N < B) : T5 w' N v0 v1 v2 v3 v4 := (hb.block N hB).trans h
theorem T5.cells {w : World} {N : Nat} {v0 v1 v2 v3 v4 : Value} (h : T5 w N v0 v1 v2 v3 v4) : w.cell? ⟨N, 0, none⟩ = some v0 ∧ w.cell? ⟨N, 1, none⟩ = some v1 ∧ w.cell? ⟨N, 2, none⟩ = some v2 ∧ w.cell? ⟨N, 3, none⟩ = some v3 ∧ w.cell? ⟨N, 4, none⟩ = some v4 := by
  refine ⟨?_, ?_, ?_, ?_, ?_⟩ <;> (rw [cell_of_row w N _ _ 66 (0, 0) h]; rfl)
theorem pown_block {w : World} {B e : Nat} (h : POwn 63 w B (.slice (some ⟨e, 0, none⟩) 0 0) []) : ∃ cs fz, w.heap[e]? = some (.cells cs 63 fz) := by
  rcases h.2 with ⟨h2, _⟩ | ⟨g, cap, cur, h2, _, hh, _⟩
  · cases h2
  · cases h2; exact ⟨_, _, hh⟩
/-- What lies in blocks of other types stays. -/
theorem COwn.grownP {w w' : World} {B e : Nat} {v : Value} {L : List Cl} (h : COwn w B v L) (hg : w.grownBy w' (some e)) (he : ∃ cs fz, w.heap[e]? = some (.cells cs 63 fz)) : COwn w' B v L := by
  obtain ⟨cs, ho, hf⟩ := h
  obtain ⟨ce, fe, hce⟩ := he
  refine ⟨cs, ⟨ho.1, ?_⟩, hf.sats fun so n cp l hs => ?_⟩
  · rcases ho.2 with h2 | ⟨g, cap, cur, e2, hg2, hh, r⟩
    · exact .inl h2
    · refine .inr ⟨g, cap, cur, e2, hg2, (hg.block g (Array.getElem?_eq_some_iff.1 hh).1 (fun e3 => ?_)).trans hh, r⟩
      injection e3 with e3
      rw [e3, hce] at hh
      simp at hh
  · have hne : ∀ a, so = some a → l ≠ [] → some a.block ≠ some e := by
      intro a ha h0 e3
      rcases hs.2.2.2 with h2 | h2
      · exact h0 h2
      · obtain ⟨xs, fz, hx⟩ := h2 a ha
        injection e3 with e3
        rw [e3, hce] at hx
        simp at hx
    exact ⟨hs.1, hs.2.1, hs.2.2.1.grownR hg hne, hs.2.2.2.grown hg hne⟩
theorem C6.grownP {w w' : World} {N e : Nat} {v0 v1 v2 v3 v4 v5 : Value} (h : C6 w N v0 v1 v2 v3 v4 v5) (hg : w.grownBy w' (some e)) (he : ∃ cs fz, w.heap[e]? = some (.cells cs 63 fz)) : C6 w' N v0 v1 v2 v3 v4 v5 := by
  obtain ⟨ce, fe, hce⟩ := he
  refine (hg.block N h.lt (fun e3 => ?_)).trans h
  injection e3 with e3
  have hh : w.heap[N]? = _ := h
  rw [e3, hce] at hh
  simp at hh
theorem law_appP {w : World} {ops : Array Oper} {o : Oper} {a : Act} {K : Act → World → Prop} {Q : Exit → Act → World → Prop} {E : Prop} {i0 : TypeInfo} (hgd : o.guard = none) (s x : Operand)
    (ho : o.op = .call { callee := .builtin .append, args := #[s, x], argTypes := #[55, 55] }) (hi : Tryz.prog.info? 63 = some i0) (hz0 : i0.zero = some (.agg #[.string { data := #[] }, .string { data := #[] }])) (hz1 : i0.size = 2) (hz2 : i0.bytes = 32)
    (B e : Nat) (r : List Two) (hs : a.eval s = .slice (some ⟨e, 0, none⟩) 0 0) (hown : POwn 63 w B (.slice (some ⟨e, 0, none⟩) 0 0) [])
    (ao : Option Addr) (n c : Nat) (hn : n = r.length) (hx : a.eval x = .slice ao n c) (hr : PRow w ao r) (hsz : n * 32 ≤ 140737488355328) (hB : B ≤ w.heap.size)
    (h : ∀ fo fc w', POwn 63 w' B (.slice fo n fc) r → Below B w w' → (∀ B2 v2 L2, COwn w B2 v2 L2 → COwn w' B2 v2 L2) → (∀ N v0 v1 v2 v3 v4 v5, C6 w N v0 v1 v2 v3 v4 v5 → C6 w' N v0 v1 v2 v3 v4 v5) → K (a.put o.dst (.slice fo n fc)) w') : if Region.wanted o (yielded ops a.tmps) = true then Oper.wp Tryz.prog o a w K Q else E := by
  rw [if_pos (by simp [Region.wanted, hgd])]
  obtain ⟨v', w', hrun, h1, h2⟩ := run_append_pairs (l := []) Tryz.underlying55 hi hz0 hz1 hz2 hown ao c hr (by rw [List.length_nil, Nat.zero_add, ← hn]; exact hsz) hB o.type
  rw [List.nil_append] at h1
  obtain ⟨fo, fc, e2, _⟩ := h1.shape
  rw [← hn] at e2
  subst e2
  subst hn
  have hbk := pown_block hown
  have hge : B ≤ e := (World.ownsRow.lt hown e rfl).1
  unfold Oper.wp
  simp [execOp, ho, resolve, invoke, builtin, hs, hx, hrun, Result.andThen]
  exact h fo fc w' h1 (below_of_grown h2 hge hB) (fun _ _ _ hc => hc.grownP h2 hbk) (fun _ _ _ _ _ _ _ hc => hc.grownP h2 hbk)
theorem SOwn.putT {w : World} {B N : Nat} {v : Value} {l : List U} {v0 v1 v2 v3 v4 v5 : Value} (h : SOwn w B v l) (hd : C6 w N v0 v1 v2 v3 v4 v5) (u0 u1 u2 u3 u4 u5 : Value) : SOwn (putC w N u0 u1 u2 u3 u4 u5) B v l := by
  refine ⟨h.1, ?_⟩
  rcases h.2 with h2 | ⟨g, cap, cur, e2, hg2, hh, r⟩
  · exact .inl h2
  · refine .inr ⟨g, cap, cur, e2, hg2, ((putC_grown w N u0 u1 u2 u3 u4 u5).block g (Array.getElem?_eq_some_iff.1 hh).1 (fun e3 => ?_)).trans hh, r⟩
    injection e3 with e3
    have h3 : w.heap[N]? = _ := hd
    rw [← e3, hh] at h3
    simp at h3
theorem c6_up {W : World} {N : Nat} {v0 v1 v2 v3 v4 v5 : Value} (h : C6 W N v0 v1 v2 v3 v4 v5) (o : Obj) : C6 (W.alloc o) N v0 v1 v2 v3 v4 v5 := h.keep (below_new W o) h.lt
theorem pe_up {W : World} {B : Nat} {v : Value} {l : List Two} (h : POwn 63 W B v l) (o : Obj) : POwn 63 (W.alloc o) B v l := World.ownsRow.alloc h o
theorem pe_keep {W W' : World} {B : Nat} {v : Value} {l : List Two} (h : POwn 63 W B v l) (hb : Below W.heap.size W W') : POwn 63 W' B v l := by
  refine ⟨h.1, ?_⟩
  rcases h.2 with h2 | ⟨g, cap, cur, e, hg, hh, r⟩
  · exact .inl h2
  · exact .inr ⟨g, cap, cur, e, hg, (hb.block g (Array.getElem?_eq_some_iff.1 hh).1).trans hh, r⟩
theorem bl_up {u W : World} (h : Below u.heap.size u W) (o : Obj) : Below u.heap.size u (W.alloc o) := h.trans ((below_new W o).mono h.size)
theorem bl_drew {u W : World} (h : Below u.heap.size u W) : Below u.heap.size u W.drew := below_drewN h 1
theorem bl_go {u W W' : World} (h : Below u.heap.size u W) (hb : Below W.heap.size W W') : Below u.heap.size u W' := h.trans (hb.mono h.size)
theorem cV0 (u : World) : C6 (u.alloc (.cells #[.string { data := #[] }, .string { data := #[] }, .int .i64 0, .bool false, .string { data := #[] }, .slice none 0 0] 43)) u.heap.size (.string { data := #[] }) (.string { data := #[] }) (.int .i64 0) (.bool false) (.string { data := #[] }) (.slice none 0 0) := C6.new u
theorem cV1 (u : World) (o : Obj) : C6 ((u.alloc o).alloc (.cells #[.string { data := #[] }, .string { data := #[] }, .int .i64 0, .bool false, .string { data := #[] }, .slice none 0 0] 43)) (u.heap.size + 1) (.string { data := #[] }) (.string { data := #[] }) (.int .i64 0) (.bool false) (.string { data := #[] }) (.slice none 0 0) := by
  have h := C6.new (u.alloc o)
  rw [show (u.alloc o).heap.size = u.heap.size + 1 by simp] at h
  exact h
theorem cV2 (u : World) (o : Obj) : C6 ((u.alloc (.cells #[.string { data := #[] }, .string { data := #[] }, .int .i64 0, .bool false, .string { data := #[] }, .slice none 0 0] 43)).alloc o) u.heap.size (.string { data := #[] }) (.string { data := #[] }) (.int .i64 0) (.bool false) (.string { data := #[] }) (.slice none 0 0) := c6_up (C6.new u) o
theorem cV0D (u : World) : C6 (u.alloc (.cells #[.string { data := #[] }, .string { data := #[] }, .int .i64 0, .bool false, .string { data := #[] }, .slice none 0 0] 43)).drew u.heap.size (.string { data := #[] }) (.string { data := #[] }) (.int .i64 0) (.bool false) (.string { data := #[] }) (.slice none 0 0) := C6.new u
theorem cV1D (u : World) (o : Obj) : C6 ((u.alloc o).alloc (.cells #[.string { data := #[] }, .string { data := #[] }, .int .i64 0, .bool false, .string { data := #[] }, .slice none 0 0] 43)).drew (u.heap.size + 1) (.string { data := #[] }) (.string { data := #[] }) (.int .i64 0) (.bool false) (.string { data := #[] }) (.slice none 0 0) := cV1 u o
theorem cV2D (u : World) (o : Obj) : C6 ((u.alloc (.cells #[.string { data := #[] }, .string { data := #[] }, .int .i64 0, .bool false, .string { data := #[] }, .slice none 0 0] 43)).alloc o).drew u.heap.size (.string { data := #[] }) (.string { data := #[] }) (.int .i64 0) (.bool false) (.string { data := #[] }) (.slice none 0 0) := cV2 u o
theorem pE0 (u : World) (B : Nat) (hB : B ≤ u.heap.size) : POwn 63 (u.alloc (.cells #[] 63)) B (.slice (some ⟨u.heap.size, 0, none⟩) 0 0) [] := pown_new 63 u B hB
theorem pE1 (u : World) (o : Obj) (B : Nat) (hB : B ≤ u.heap.size) : POwn 63 ((u.alloc o).alloc (.cells #[] 63)) B (.slice (some ⟨u.heap.size + 1, 0, none⟩) 0 0) [] := by
  have h := pown_new 63 (u.alloc o) B (by simp; omega)
  rw [show (u.alloc o).heap.size = u.heap.size + 1 by simp] at h
  exact h
theorem pE2 (u : World) (o : Obj) (B : Nat) (hB : B ≤ u.heap.size) : POwn 63 ((u.alloc (.cells #[] 63)).alloc o) B (.slice (some ⟨u.heap.size, 0, none⟩) 0 0) [] := pe_up (pE0 u B hB) o
theorem pE0D (u : World) : POwn 63 (u.alloc (.cells #[] 63)).drew u.heap.size (.slice (some ⟨u.heap.size, 0, none⟩) 0 0) [] := pE0 u _ (Nat.le_refl _)
theorem pE1D (u : World) (o : Obj) : POwn 63 ((u.alloc o).alloc (.cells #[] 63)).drew u.heap.size (.slice (some ⟨u.heap.size + 1, 0, none⟩) 0 0) [] := pE1 u o _ (Nat.le_refl _)
theorem pE2D (u : World) (o : Obj) : POwn 63 ((u.alloc (.cells #[] 63)).alloc o).drew u.heap.size (.slice (some ⟨u.heap.size, 0, none⟩) 0 0) [] := pE2 u o _ (Nat.le_refl _)
theorem co_up {W : World} {B : Nat} {v : Value} {l : List Cl} (h : COwn W B v l) (o : Obj) : COwn (W.alloc o) B v l := h.keep (below_new W o)
theorem pr_up {W : World} {ao : Option Addr} {l : List Two} (h : PRow W ao l) (o : Obj) : PRow (W.alloc o) ao l := h.keep (below_new W o)
theorem al_size (W : World) (o : Obj) : (W.alloc o).heap.size = W.heap.size + 1 := by simp
/-- A client's block written over. -/
def GotCl (w : World) (N : Nat) (R : Aut) (Tv : World → Prop) (v3 v4 v5 : Value) (wx : World) : Prop := ∃ (V : Nat) (q : Cl) (so : Option Addr) (k cp : Nat), v3 = .pointer (some ⟨V, 0, none⟩) ∧ v4 = .int .i64 R.how ∧ v5 = .int .i64 (R.er : Int) ∧
  C6 wx V (.string q.id) (.string q.secret) (.int .i64 q.grants) (.bool q.ping) (.string q.url) (.slice so k cp) ∧ N ≤ V ∧ R.cl.getD zeroCl = q ∧ k = q.scopes.length ∧ SRow wx so q.scopes ∧ Tv wx ∧ Below w.heap.size w wx
theorem leaf_new {w w1 w3 : World} {B : Nat} {R : Aut} {q : Cl} {so : Option Addr} {k cp : Nat} {t0 t1 t2 t3 t4 : Value} (hs1 : w.heap.size < w1.heap.size) (hT : T5 w1 w.heap.size t0 t1 t2 t3 t4) (hB : Below w.heap.size w w1) (ha : Below w1.heap.size w1 w3) (hq : R.cl.getD zeroCl = q) (hk : k = q.scopes.length) (ho : SOwn w3 B (.slice so k cp) q.scopes) :
    GotCl w w1.heap.size R (fun W => T5 W w.heap.size t0 t1 t2 t3 t4) (.pointer (some ⟨w3.heap.size, 0, none⟩)) (.int .i64 R.how) (.int .i64 (R.er : Int)) (w3.alloc (.cells #[.string q.id, .string q.secret, .int .i64 q.grants, .bool q.ping, .string q.url, .slice so k cp] 43)) := by
  have hsz := ha.size
  exact ⟨_, q, so, k, cp, rfl, rfl, rfl, heap_alloc_new w3 _, hsz, hq, hk, (ho.keep (below_new _ _)).row, (hT.keep ha hs1).keep (below_new _ _) (by omega), (hB.trans (ha.mono (by omega))).trans ((below_new _ _).mono (by omega))⟩
theorem leaf_old {w w1 w3 : World} {B V : Nat} {R : Aut} {q : Cl} {so : Option Addr} {k cp : Nat} {t0 t1 t2 t3 t4 z0 z1 z2 z3 z4 z5 : Value} (hs1 : w.heap.size < w1.heap.size) (hT : T5 w1 w.heap.size t0 t1 t2 t3 t4) (hB : Below w.heap.size w w1) (ha : Below w1.heap.size w1 w3) (hq : R.cl.getD zeroCl = q) (hk : k = q.scopes.length) (ho : SOwn w3 B (.slice so k cp) q.scopes) (hV : C6 w3 V z0 z1 z2 z3 z4 z5) (hle : w1.heap.size ≤ V) :
    GotCl w w1.heap.size R (fun W => T5 W w.heap.size t0 t1 t2 t3 t4) (.pointer (some ⟨V, 0, none⟩)) (.int .i64 R.how) (.int .i64 (R.er : Int)) ((((((w3.setCell ⟨V, 0, none⟩ (.string q.id)).setCell ⟨V, 1, none⟩ (.string q.secret)).setCell ⟨V, 2, none⟩ (.int .i64 q.grants)).setCell ⟨V, 3, none⟩ (.bool q.ping)).setCell ⟨V, 4, none⟩ (.string q.url)).setCell ⟨V, 5, none⟩ (.slice so k cp)) := by
  have hsz := ha.size
  have hlt := hV.lt
  refine ⟨V, q, so, k, cp, rfl, rfl, rfl, hV.put _ _ _ _ _ _, hle, hq, hk, (ho.putT hV _ _ _ _ _ _).row, (hT.keep ha hs1).keep (below_of_grown (putC_grown _ _ _ _ _ _ _ _) (Nat.le_refl _) (by omega)) (by omega), (hB.trans (ha.mono (by omega))).trans (below_of_grown (putC_grown _ _ _ _ _ _ _ _) (by omega) (by omega))⟩
/-- What the law holds behind the document's Find: its try, the client answered, the client found, and nothing old turned. -/
def GotDoc (u : World) (q : Cl) (k : Nat) (v6 v7 : Value) (wx : World) : Prop := ∃ (V : Nat) (so2 : Option Addr) (cp2 : Nat), v6 = .pointer (some ⟨V, 0, none⟩) ∧ v7 = .bool true ∧ D6 wx V (.string q.id) (.string q.secret) (.int .i64 q.grants) (.bool q.ping) (.string q.url) (.slice so2 k cp2) ∧ u.heap.size ≤ V ∧ SRow wx so2 q.scopes ∧ Below u.heap.size u wx
theorem SRow.up {w w' : World} {so : Option Addr} {l : List U} (h : SRow w so l) (hb : Below w.heap.size w w') : SRow w' so l := h.keep hb
theorem d6_up {W : World} {N : Nat} {v0 v1 v2 v3 v4 v5 : Value} (h : D6 W N v0 v1 v2 v3 v4 v5) (o : Obj) : D6 (W.alloc o) N v0 v1 v2 v3 v4 v5 := h.keep (below_new W o) h.lt
theorem docl_new {u w3 : World} {q : Cl} {so2 : Option Addr} {k cp2 : Nat} (ha : Below u.heap.size u w3) (hs : SAt w3 so2 k cp2 q.scopes) :
    GotDoc u q k (.pointer (some ⟨w3.heap.size, 0, none⟩)) (.bool true) (w3.alloc (.cells #[.string q.id, .string q.secret, .int .i64 q.grants, .bool q.ping, .string q.url, .slice so2 k cp2] 46)) :=
  ⟨_, so2, cp2, rfl, rfl, heap_alloc_new w3 _, ha.size, (hs.keep (below_new _ _)).2.2.1, bl_up ha _⟩
theorem docl_old {u w3 : World} {q : Cl} {so2 : Option Addr} {k cp2 V : Nat} {z0 z1 z2 z3 z4 z5 : Value} (ha : Below u.heap.size u w3) (hs : SAt w3 so2 k cp2 q.scopes) (hV : D6 w3 V z0 z1 z2 z3 z4 z5) (hle : u.heap.size ≤ V) :
    GotDoc u q k (.pointer (some ⟨V, 0, none⟩)) (.bool true) ((((((w3.setCell ⟨V, 0, none⟩ (.string q.id)).setCell ⟨V, 1, none⟩ (.string q.secret)).setCell ⟨V, 2, none⟩ (.int .i64 q.grants)).setCell ⟨V, 3, none⟩ (.bool q.ping)).setCell ⟨V, 4, none⟩ (.string q.url)).setCell ⟨V, 5, none⟩ (.slice so2 k cp2)) :=
  ⟨V, so2, cp2, rfl, rfl, hV.put _ _ _ _ _ _, hle, (hs.put hV _ _ _ _ _ _).2.2.1, ha.trans (below_of_grown (putD_grown _ _ _ _ _ _ _ _) hle ha.size)⟩
theorem dV0 (u : World) : D6 (u.alloc (.cells #[.string { data := #[] }, .string { data := #[] }, .int .i64 0, .bool false, .string { data := #[] }, .slice none 0 0] 46)) u.heap.size (.string { data := #[] }) (.string { data := #[] }) (.int .i64 0) (.bool false) (.string { data := #[] }) (.slice none 0 0) := D6.new u
theorem dV0D (u : World) : D6 (u.alloc (.cells #[.string { data := #[] }, .string { data := #[] }, .int .i64 0, .bool false, .string { data := #[] }, .slice none 0 0] 46)).drew u.heap.size (.string { data := #[] }) (.string { data := #[] }) (.int .i64 0) (.bool false) (.string { data := #[] }) (.slice none 0 0) := D6.new u
set_option maxHeartbeats 20000000 in
set_option maxRecDepth 100000 in
theorem clientProof_walk (n c m d : Nat) (ao po : Option Addr) (L : List Cl) (l : List Two) (N : Int) (sec x : ByteArray) (w : World) (hn : n = L.length) (hl : n ≤ 1048576) (hr : CRow0 w ao L) (hz : ClBound L)
    (hm : m = l.length) (hml : m ≤ 1048576) (hp : PRow w po l) (hb : ∀ q ∈ l, bytes2 q) (hq : ∀ q ∈ l, q.2.length ≤ 1048576) (hM : MaxL w) :
    Calls Tryz.prog 9 #[.agg #[.slice ao n c, .int .i64 N, .string sec, .string x, .slice po m d]] w fun e w' => e = .returned (.bool true) ∧ Below w.heap.size w w' := by
  have HN : Hid (n = L.length) := hn
  have HR : Hid (CRow0 w ao L) := hr
  have HM : Hid (MaxL w) := hM
  have HZS : Hid (∀ c ∈ L, ClSmall c) := fun c hc => (hz c hc).1
  have HZ16 : Hid (∀ c ∈ L, c.scopes.length * 16 ≤ 140737488355328) := fun c hc => by have := (hz c hc).2; omega
  have HZL : Hid (∀ c ∈ L, c.scopes.length ≤ 140737488355328) := fun c hc => by have := (hz c hc).2; omega
  have HML : Hid (m = l.length) := hm
  have HP : Hid (PRow w po l) := hp
  have HBY : Hid (∀ q ∈ l, bytes2 q) := hb
  have HQL : Hid (∀ q ∈ l, q.2.length ≤ 1048576) := hq
  obtain ⟨i0, hi, hz0, hz1, hz2⟩ := info_parts infoAP
  obtain ⟨t, HTT⟩ : ∃ t, Hid (t = claimT x l) := ⟨_, hide rfl⟩
  obtain ⟨R, HRR⟩ : ∃ R, Hid (R = authR L t) := ⟨_, hide rfl⟩
  have HCF : Hid ((t.how = 0 ∨ t.how = 1 ∨ t.how = 2) ∧ t.sec.size ≤ 1048576) := by rw [HTT.out]; exact claimT_facts x l hq
  have HB0 : Hid (Below w.heap.size w (w.alloc (.cells #[.slice ao n c, .int .i64 N, .string sec, .string x, .slice po m d] 66))) := below_new w _
  have HT0 : Hid (T5 (w.alloc (.cells #[.slice ao n c, .int .i64 N, .string sec, .string x, .slice po m d] 66)) w.heap.size (.slice ao n c) (.int .i64 N) (.string sec) (.string x) (.slice po m d)) := heap_alloc_new w _
  have cC : ∀ W, Below w.heap.size w W → Calls Tryz.prog 17 #[.slice ao n c] W fun e w' => True ∧ COwnEnd W n L e w' := fun W hW => lcopied_any n c ao L W hn (by omega) HZ16.out (hr.keep hW)
  have cA : ∀ W fo fc qo qc, Below w.heap.size w W → CRow W fo L → PRow W qo l → Calls Tryz.prog 26 #[.slice fo n fc, .string x, .slice qo m qc] W fun e w' => True ∧ AuOwn W R e w' := fun W fo fc qo qc hW h1 h2 => by
    have := auth_own n fc m qc fo qo L x t W HN.out (by omega) h1 HZS.out (fun W' hW' => by rw [HTT.out]; exact claimT_any x m qc qo l W' HML.out (by omega) HBY.out (fun q hq => by have := HQL.out q hq; omega) (h2.keep hW') (HM.out.keep (hW.trans (hW'.mono hW.size)))) HCF.out.1 (by have := HCF.out.2; omega)
    rw [← HRR.out] at this
    exact this
  obtain ⟨X, i, hI⟩ : ∃ X i, ones nId l = (X, i) := ⟨_, _, rfl⟩
  obtain ⟨Y, j, hJ⟩ : ∃ Y j, ones nSec l = (Y, j) := ⟨_, _, rfl⟩
  have HPF := hide (proof_facts L x l X Y i j hI hJ)
  rw [← HTT.out, ← HRR.out] at HPF
  have HO1 : Hid (∀ W ho hc, PRow W ho l → Calls Tryz.prog 29 #[.slice ho m hc, .string { data := #[99, 108, 105, 101, 110, 116, 95, 105, 100] }] W fun e w' => e = .returned (oneRes (X, i)) ∧ w' = W) := fun W ho hc hW => by
    have h := refOne_any m hc ho l { data := #[99, 108, 105, 101, 110, 116, 95, 105, 100] } W HML.out (by omega) HBY.out hW
    rw [show sbytes { data := #[99, 108, 105, 101, 110, 116, 95, 105, 100] } = nId from rfl, hI] at h
    exact h
  have HO2 : Hid (∀ W ho hc, PRow W ho l → Calls Tryz.prog 29 #[.slice ho m hc, .string { data := #[99, 108, 105, 101, 110, 116, 95, 115, 101, 99, 114, 101, 116] }] W fun e w' => e = .returned (oneRes (Y, j)) ∧ w' = W) := fun W ho hc hW => by
    have h := refOne_any m hc ho l { data := #[99, 108, 105, 101, 110, 116, 95, 115, 101, 99, 114, 101, 116] } W HML.out (by omega) HBY.out hW
    rw [show sbytes { data := #[99, 108, 105, 101, 110, 116, 95, 115, 101, 99, 114, 101, 116] } = nSec from rfl, hJ] at h
    exact h
  have HFM : Hid (∀ W, Below w.heap.size w W → Calls Tryz.prog 28 #[.slice po m d] W fun e w' => ∃ fo fc, e = .returned (.slice fo m fc) ∧ Hid (POwn 108 w' W.heap.size (.slice fo m fc) l ∧ Below W.heap.size W w')) := fun W hW => form_m m d po l W HML.out (by omega) (HP.out.keep hW)
  have HALL : Hid (∀ W, Below w.heap.size w W → Calls Tryz.prog 20 #[.slice ao n c] W fun e w' => True ∧ DOwnEnd W n L e w') := fun W hW => all_any n c ao L W HN.out (by omega) HZ16.out (HR.out.keep hW)
  have HRB : Hid (∀ W, Calls Tryz.prog 25 #[.string x] W fun e w' => e = .returned (basV (basT (sbytes x))) ∧ Below W.heap.size W w') := fun W => rbasic_any x W
  clear hn hr hM hz hm hp hb hq hI hJ
  go_enter Tryz.func9, Tryz.ntmps9
  go_upto_region 1 with fail
  generalize (w.alloc (.cells #[.slice ao n c, .int .i64 N, .string sec, .string x, .slice po m d] 66)) = w1 at *
  have hs1 := HT0.out.lt
  have hs0 := HB0.out.size
  obtain ⟨c0, c1, c2, c3, c4⟩ := HT0.out.cells
  have HACC : Hid (Below w1.heap.size w1 w1) := Below.refl _ _
  have nz0 : ¬ w1.heap.size = w.heap.size := (by omega)
  have nz1 : ¬ w.heap.size = w1.heap.size := (by omega)
  have nz2 : ¬ w1.heap.size + 1 = w.heap.size := (by omega)
  have nz3 : ¬ w.heap.size = w1.heap.size + 1 := (by omega)
  go_cut [3, 4, 5] (fun v3 v4 v5 wx => True ∧ GotCl w w1.heap.size R (fun W => T5 W w.heap.size (.slice ao n c) (.int .i64 N) (.string sec) (.string x) (.slice po m d)) v3 v4 v5 wx)
  case first =>
    go_region_held_law (fun W => W.cell? ⟨w.heap.size, 0, none⟩ = some (.slice ao n c) ∧ W.cell? ⟨w.heap.size, 3, none⟩ = some (.string x) ∧ W.cell? ⟨w.heap.size, 4, none⟩ = some (.slice po m d)) (go_keep) (first
      | (go_at_call 17
         refine (cC _ (by refine HB0.out.trans (Below.mono ?_ hs0); repeat (first | exact HACC.out | exact bl_up HACC.out _ | exact bl_drew HACC.out | refine bl_up ?_ _ | refine bl_drew ?_))).mono ?_
         rintro e wa ⟨-, fo, fc, rfl, hown, hba⟩
         have hacc := bl_go (u := w1) (by repeat (first | exact HACC.out | refine bl_up ?_ _ | refine bl_drew ?_)) hba
         have hsa := hacc.size
         have na0 : ¬ wa.heap.size = w.heap.size := (by omega); have na1 : ¬ w.heap.size = wa.heap.size := (by omega); have na2 : ¬ wa.heap.size + 1 = w.heap.size := (by omega); have na3 : ¬ w.heap.size = wa.heap.size + 1 := (by omega)
         have HRW := hide hown
         first
           | (have hv : C6 wa w1.heap.size (.string { data := #[] }) (.string { data := #[] }) (.int .i64 0) (.bool false) (.string { data := #[] }) (.slice none 0 0) := by with_reducible exact C6.keep (cV0D w1) hba (cV0D w1).lt)
           | (have hv : C6 wa (w1.heap.size + 1) (.string { data := #[] }) (.string { data := #[] }) (.int .i64 0) (.bool false) (.string { data := #[] }) (.slice none 0 0) := by with_reducible exact C6.keep (cV1D w1 _) hba (cV1D w1 _).lt)
           | (have hv : C6 wa w1.heap.size (.string { data := #[] }) (.string { data := #[] }) (.int .i64 0) (.bool false) (.string { data := #[] }) (.slice none 0 0) := by with_reducible exact C6.keep (cV2D w1 _) hba (cV2D w1 _).lt)
           | (have hv := trivial)
         first
           | (have hpe : POwn 63 wa w1.heap.size (.slice (some ⟨w1.heap.size, 0, none⟩) 0 0) [] := by with_reducible exact pe_keep (pE0D w1) hba)
           | (have hpe : POwn 63 wa w1.heap.size (.slice (some ⟨w1.heap.size + 1, 0, none⟩) 0 0) [] := by with_reducible exact pe_keep (pE1D w1 _) hba)
           | (have hpe : POwn 63 wa w1.heap.size (.slice (some ⟨w1.heap.size, 0, none⟩) 0 0) [] := by with_reducible exact pe_keep (pE2D w1 _) hba)
           | (have hpe := trivial)
         have HACC := hide hacc
         have HV := hide hv
         have HPE := hide hpe
         clear hown hba hacc hv hpe
         obtain ⟨x0, x1, x2, x3, x4⟩ := (HT0.out.keep HACC.out hs1).cells)
      | (refine law_appP rfl (.tmp 23) (.tmp 25) rfl hi hz0 hz1 hz2 w1.heap.size _ l rfl (by first | with_reducible exact HPE.out | with_reducible exact pe_up HPE.out _ | with_reducible exact pE0 wa _ hsa | with_reducible exact pE1 wa _ _ hsa | with_reducible exact pE2 wa _ _ hsa | exact HPE.out | exact pe_up HPE.out _) po m d HML.out rfl (by refine HP.out.keep (HB0.out.trans (Below.mono ?_ hs0)); repeat (first | exact HACC.out | refine bl_up ?_ _ | refine bl_drew ?_)) (by omega) (by have := HACC.out.size; simp <;> omega) ?_
         intro qo qc wq hown hbel hco hc6
         have hacc := Below.trans (by repeat (first | exact HACC.out | refine bl_up ?_ _ | refine bl_drew ?_)) hbel
         have hsq := hacc.size
         have nq0 : ¬ wq.heap.size = w.heap.size := (by omega); have nq1 : ¬ w.heap.size = wq.heap.size := (by omega); have nq2 : ¬ wq.heap.size + 1 = w.heap.size := (by omega); have nq3 : ¬ w.heap.size = wq.heap.size + 1 := (by omega)
         have hrw := hco _ _ _ (by first | with_reducible exact HRW.out | with_reducible exact co_up HRW.out _ | with_reducible exact co_up (co_up HRW.out _) _)
         first
           | (have hv : C6 wq wa.heap.size (.string { data := #[] }) (.string { data := #[] }) (.int .i64 0) (.bool false) (.string { data := #[] }) (.slice none 0 0) := hc6 _ _ _ _ _ _ _ (by with_reducible exact cV0 wa))
           | (have hv : C6 wq (wa.heap.size + 1) (.string { data := #[] }) (.string { data := #[] }) (.int .i64 0) (.bool false) (.string { data := #[] }) (.slice none 0 0) := hc6 _ _ _ _ _ _ _ (by with_reducible exact cV1 wa _))
           | (have hv : C6 wq wa.heap.size (.string { data := #[] }) (.string { data := #[] }) (.int .i64 0) (.bool false) (.string { data := #[] }) (.slice none 0 0) := hc6 _ _ _ _ _ _ _ (by with_reducible exact cV2 wa _))
           | (have hv := hc6 _ _ _ _ _ _ _ (by with_reducible exact HV.out))
           | (have hv := hc6 _ _ _ _ _ _ _ (by with_reducible exact c6_up HV.out _))
           | (have hv := trivial)
         have hpq := hown.row
         have HACC := hide hacc
         have HRW := hide hrw
         have HV := hide hv
         have HPQ := hide hpq
         clear hown hbel hco hc6 hacc hrw hv hpq
         obtain ⟨x0, x1, x2, x3, x4⟩ := (HT0.out.keep HACC.out hs1).cells)
      | (go_at_call 26
         refine (cA _ _ _ _ _ (by refine HB0.out.trans (Below.mono ?_ hs0); repeat (first | exact HACC.out | refine bl_up ?_ _ | refine bl_drew ?_)) (by first | with_reducible exact HRW.out.rowS | with_reducible exact (co_up HRW.out _).rowS) (by first | with_reducible exact HPQ.out | with_reducible exact pr_up HPQ.out _)).mono ?_
         rintro e w3 ⟨-, B3, q, so, k, cp, rfl, hqq, hBB, hkk, hown3, hb3⟩
         have hacc := bl_go (u := w1) (by repeat (first | exact HACC.out | refine bl_up ?_ _ | refine bl_drew ?_)) hb3
         have hsw := hacc.size
         have nt0 : ¬ w3.heap.size = w.heap.size := (by omega); have nt1 : ¬ w.heap.size = w3.heap.size := (by omega); have nt2 : ¬ w3.heap.size + 1 = w.heap.size := (by omega); have nt3 : ¬ w.heap.size = w3.heap.size + 1 := (by omega)
         first
           | (have hv : C6 w3 wq.heap.size (.string { data := #[] }) (.string { data := #[] }) (.int .i64 0) (.bool false) (.string { data := #[] }) (.slice none 0 0) := by with_reducible exact C6.keep (cV0 wq) hb3 (cV0 wq).lt)
           | (have hv := by with_reducible exact C6.keep HV.out hb3 HV.out.lt)
           | (have hv := trivial)
         have HACC := hide hacc
         have HV := hide hv
         have HQQ := hide hqq
         have HKK := hide hkk
         have HO3 := hide hown3
         clear hacc hv hqq hBB hkk hown3 hb3
         obtain ⟨x0, x1, x2, x3, x4⟩ := (HT0.out.keep HACC.out hs1).cells
         first | (obtain ⟨y0, y1, y2, y3, y4, y5⟩ := HV.out.cells; obtain ⟨z0, z1, z2, z3, z4, z5⟩ := HV.out.thaw) | skip))
    all_goals
      (try go_wp2_with fail)
      go_meet
      case rel =>
        first
        | with_reducible exact ⟨trivial, leaf_new hs1 HT0.out HB0.out HACC.out HQQ.out HKK.out HO3.out⟩
        | exact ⟨trivial, leaf_old hs1 HT0.out HB0.out HACC.out HQQ.out HKK.out HO3.out HV.out (by omega)⟩
  case rest =>
    obtain ⟨-, V, q, so, k, cp, rfl, rfl, rfl, hc6, hNV, hqq, hkk, hrow, ht5, hbel⟩ := hcut
    have HC := hide hc6
    have HQ := hide hqq
    have HK := hide hkk
    have HSR := hide hrow
    have HT : Hid (T5 wc w.heap.size (.slice ao n c) (.int .i64 N) (.string sec) (.string x) (.slice po m d)) := ht5
    have HB := hide hbel
    have hsb := hbel.size
    have hVlt := hc6.lt
    clear hc6 hqq hkk hrow ht5 hbel cC cA HT0 HB0 HCF HRR HTT c0 c1 c2 c3 c4 hs0 nz0 nz1 nz2 nz3
    have HLV := live_true wc (HM.out.keep HB.out)
    go_wp2_with fail
    refine HLV.mono ?_
    rintro e w5 ⟨rfl, hb5⟩
    have HB5 := hide (HB.out.trans (hb5.mono hsb))
    have HC5 := hide (HC.out.keep hb5 hVlt)
    have HS5 := hide (HSR.out.keep hb5)
    have HT5 := hide (HT.out.keep hb5 (by omega))
    have hs5 := HB5.out.size
    have hV5 := HC5.out.lt
    clear hb5 HLV HB HC HSR HT
    rcases HPF.out with ⟨e0, he0, hR⟩ | ⟨q', g1, g2, hfq, hcase⟩
    · subst hR
      obtain rfl : zeroCl = q := HQ.out
      obtain rfl : k = 0 := HK.out
      have HCZ : Hid (C6 w5 V (.string { data := #[] }) (.string { data := #[] }) (.int .i64 0) (.bool false) (.string { data := #[] }) (.slice so 0 cp)) := HC5
      obtain ⟨y0, y1, y2, y3, y4, y5⟩ := HCZ.out.cells
      have hei : ((e0 : Int) != 0) = true := bne_iff_ne.2 (by omega)
      clear HPF HQ HK HC5
      go_wp2_with fail
      refine (num_any _ _).mono ?_
      rintro e w6 ⟨rfl, hw6⟩
      have hw6b := hw6.symm
      subst hw6b
      clear hw6
      go_wp2
      go_ret
      exact ⟨rfl, HB5.out⟩
    · obtain ⟨rc, rh, re⟩ := R
      have hre : re = 0 := by
        rcases hcase with ⟨h, _⟩ | ⟨h, _⟩ | ⟨h, _⟩ <;> (injection h)
      have hrc : rc = some q' := by
        rcases hcase with ⟨h, _⟩ | ⟨h, _⟩ | ⟨h, _⟩ <;> (injection h)
      subst hre
      subst hrc
      have hqe : q' = q := HQ.out
      subst hqe
      have HCASE := hide hcase
      have HMEM : Hid (q' ∈ L) := by
        have h0 := hfq
        unfold findR at h0
        cases hp0 : posOf L q'.id with
        | none => rw [hp0] at h0; cases h0
        | some i0 => rw [hp0] at h0; exact List.mem_of_getElem? h0
      have HFND : Hid (∀ W go gc, CRow W go L → Calls Tryz.prog 22 #[.slice go n gc, .string q'.id] W fun e w' => ∃ so2 cp2, e = .returned (.tuple #[.agg #[.string q'.id, .string q'.secret, .int .i64 q'.grants, .bool q'.ping, .string q'.url, .slice so2 k cp2], .bool true]) ∧ SAt w' so2 k cp2 q'.scopes ∧ Below W.heap.size W w') := fun W go gc hW => by
        refine (rfind_any n gc go L q'.id W HN.out (by omega) hW).mono ?_
        rintro e w' ⟨-, q2, so2, k2, cp2, rfl, h2, hsat, hbb⟩
        rw [hfq] at h2 ⊢
        have h3 : q' = q2 := h2
        subst h3
        obtain rfl : k2 = k := by rw [hsat.1, HK.out]
        exact ⟨so2, cp2, rfl, hsat, hbb⟩
      obtain ⟨x0, x1, x2, x3, x4⟩ := HT5.out.cells
      obtain ⟨y0, y1, y2, y3, y4, y5⟩ := HC5.out.cells
      clear hcase hfq HPF HQ
      go_wp2_with fail
      refine (num_any _ _).mono ?_
      rintro e w6 ⟨rfl, hw6⟩
      have hw6b := hw6.symm
      subst hw6b
      clear hw6
      go_upto_region 6 with fail
      have HACC : Hid (Below w5.heap.size w5 w5) := Below.refl _ _
      have hw5 : w.heap.size < w5.heap.size := by omega
      have nz0 : ¬ w5.heap.size = w.heap.size := by omega
      have nz1 : ¬ w.heap.size = w5.heap.size := by omega
      have nz2 : ¬ w5.heap.size = V := by omega
      have nz3 : ¬ V = w5.heap.size := by omega
      go_cut [6, 7] (fun v6 v7 wx => True ∧ GotDoc w5 q' k v6 v7 wx)
      case first =>
        go_region_held_law (fun W => W.cell? ⟨w.heap.size, 0, none⟩ = some (.slice ao n c) ∧ W.cell? ⟨V, 0, none⟩ = some (.string q'.id)) (go_keep) (first
          | (go_at_call 20
             refine (HALL.out _ (by refine HB5.out.trans (Below.mono ?_ hs5); repeat (first | exact HACC.out | refine bl_up ?_ _ | refine bl_drew ?_))).mono ?_
             rintro e wa ⟨-, go, gc, rfl, hdown, hba⟩
             have hacc := bl_go (u := w5) (by repeat (first | exact HACC.out | refine bl_up ?_ _ | refine bl_drew ?_)) hba
             have hsa := hacc.size
             have na0 : ¬ wa.heap.size = w.heap.size := (by omega)
             have na1 : ¬ w.heap.size = wa.heap.size := (by omega)
             have na2 : ¬ wa.heap.size = V := (by omega)
             have na3 : ¬ V = wa.heap.size := (by omega)
             first
               | (have hv : D6 wa w5.heap.size (.string { data := #[] }) (.string { data := #[] }) (.int .i64 0) (.bool false) (.string { data := #[] }) (.slice none 0 0) := by with_reducible exact D6.keep (dV0D w5) hba (dV0D w5).lt)
               | (have hv := trivial)
             have HACC := hide hacc
             have HV := hide hv
             have HDA := hide hdown.rowS
             clear hdown hba hacc hv
             obtain ⟨k0, k1, k2, k3, k4⟩ := (HT5.out.keep HACC.out hw5).cells
             obtain ⟨l0, l1, l2, l3, l4, l5⟩ := (HC5.out.keep HACC.out hV5).cells)
          | (go_at_call 22
             refine (HFND.out _ _ _ (by first | with_reducible exact HDA.out | exact HDA.out.keep (below_new _ _))).mono ?_
             rintro e w3 ⟨so2, cp2, rfl, hsat, hb3⟩
             have hacc := bl_go (u := w5) (by repeat (first | exact HACC.out | refine bl_up ?_ _ | refine bl_drew ?_)) hb3
             have hsw := hacc.size
             have nt0 : ¬ w3.heap.size = w.heap.size := (by omega)
             have nt1 : ¬ w.heap.size = w3.heap.size := (by omega)
             have nt2 : ¬ w3.heap.size = V := (by omega)
             have nt3 : ¬ V = w3.heap.size := (by omega)
             first
               | (have hv : D6 w3 wa.heap.size (.string { data := #[] }) (.string { data := #[] }) (.int .i64 0) (.bool false) (.string { data := #[] }) (.slice none 0 0) := by with_reducible exact D6.keep (dV0 wa) hb3 (dV0 wa).lt)
               | (have hv := D6.keep HV.out hb3 HV.out.lt)
               | (have hv := trivial)
             have HACC := hide hacc
             have HV := hide hv
             have HSAT := hide hsat
             clear hacc hv hsat hb3
             obtain ⟨k0, k1, k2, k3, k4⟩ := (HT5.out.keep HACC.out hw5).cells
             obtain ⟨l0, l1, l2, l3, l4, l5⟩ := (HC5.out.keep HACC.out hV5).cells
             first | (obtain ⟨o0, o1, o2, o3, o4, o5⟩ := HV.out.cells; obtain ⟨z0, z1, z2, z3, z4, z5⟩ := HV.out.thaw) | skip))
        all_goals
          (try go_wp2_with fail)
          go_meet
          case rel =>
            first
            | with_reducible exact ⟨trivial, docl_new HACC.out HSAT.out⟩
            | exact ⟨trivial, docl_old HACC.out HSAT.out HV.out (by omega)⟩
      case rest =>
        obtain ⟨-, V2, so2, cp2, rfl, rfl, hd6, hle, hrow2, hbd⟩ := hcut
        have HD := hide hd6
        have HR2 := hide hrow2
        have HB6 := hide (HB5.out.trans (hbd.mono hs5))
        have HT6 := hide (HT5.out.keep hbd hw5)
        have HC6 := hide (HC5.out.keep hbd hV5)
        have HS6 := hide (HS5.out.keep hbd)
        have hs6 := HB6.out.size
        have hV6 := HC6.out.lt
        obtain ⟨a0, a1, a2, a3, a4, a5⟩ := HC6.out.cells
        obtain ⟨b0, b1, b2, b3, b4, b5⟩ := HD.out.cells
        have HSM := same_true q'.id q'.secret q'.url q'.grants q'.ping q'.scopes so so2 k cp cp2 wc HK.out (by rw [HK.out]; exact HZL.out q' HMEM.out) HS6.out HR2.out
        clear hd6 hrow2 hbd
        go_wp2_with fail
        refine HSM.mono ?_
        rintro e w8 ⟨rfl, hb8⟩
        have HB8 := hide (HB6.out.trans (hb8.mono hs6))
        have HT8 := hide (HT6.out.keep hb8 (by omega))
        have HC8 := hide (HC6.out.keep hb8 hV6)
        have hs8 := HB8.out.size
        have hV8 := HC8.out.lt
        obtain ⟨k0, k1, k2, k3, k4⟩ := HT8.out.cells
        clear hb8 HSM x0 x1 x2 x3 x4 y0 y1 y2 y3 y4 y5 a0 a1 a2 a3 a4 a5 b0 b1 b2 b3 b4 b5
        have HO1x := HO1.out
        have HO2x := HO2.out
        rw [show oneRes (X, i) = .tuple #[.string (bstr X), .bool (!X.isEmpty), .int .i64 0] by unfold oneRes; rw [if_neg g1]] at HO1x
        rw [show oneRes (Y, j) = .tuple #[.string (bstr Y), .bool (!Y.isEmpty), .int .i64 0] by unfold oneRes; rw [if_neg g2]] at HO2x
        have hqq1 : (q'.id.toList == q'.id.toList) = true := by simp
        have hqq2 : (q'.secret.toList == q'.secret.toList) = true := by simp
        have HRBX := HRB.out
        rcases HCASE.out with ⟨hR, c1, c2, c3, c4⟩ | ⟨hR, c1, c2, c3, c4, c5⟩ | ⟨hR, c1, ⟨ba, bs, c2, c3, c4⟩, c5, c6⟩
        · obtain rfl : rh = 0 := by injection hR
          have e1 : (q'.secret.toList == ([] : List UInt8)) = true := by rw [empty_of c1, Lib.toList_data]; rfl
          have e2 : (x.toList == ([] : List UInt8)) = true := by rw [empty_of c4, Lib.toList_data]; rfl
          obtain ⟨ua, ub, uc, hbas⟩ : ∃ (a b : ByteArray) (c : Int), basV (basT (sbytes x)) = .tuple #[.string a, .string b, .int .i64 c] := by
            cases basT (sbytes x) with
            | none => exact ⟨_, _, _, rfl⟩
            | some ab => exact ⟨_, _, _, rfl⟩
          rw [hbas] at HRBX
          rw [c3] at HO1x
          rw [show (!Y.isEmpty) = false by rw [c2]; rfl] at HO2x
          generalize (!X.isEmpty) = hx at *
          generalize bstr Y = yb at *
          clear hR c1 c2 c3 c4 hbas HCASE HRB HO1 HO2
          go_wp2_with fail
          refine (HFM.out w8 HB8.out).mono ?_
          rintro e w9 ⟨f1, g1c, rfl, hh⟩
          have HB9 := hide (HB8.out.trans (hh.out.2.mono hs8))
          have HBA9 := hide hh.out.2
          have hO1 := HO1x w9 f1 g1c hh.out.1.row
          clear hh
          go_wp2_with fail
          refine hO1.mono ?_
          rintro e wx ⟨rfl, hwx⟩
          have hwxb := hwx.symm
          subst hwxb
          clear hwx hO1
          have hs9 := HB9.out.size
          obtain ⟨n0, n1, n2, n3, n4⟩ := (HT8.out.keep HBA9.out (by omega)).cells
          go_wp2_with fail
          refine (HFM.out w9 HB9.out).mono ?_
          rintro e w10 ⟨f2, g2c, rfl, hh⟩
          have HB10 := hide (HB9.out.trans (hh.out.2.mono hs9))
          have HBA10 := hide (HBA9.out.trans (hh.out.2.mono HBA9.out.size))
          have hO2 := HO2x w10 f2 g2c hh.out.1.row
          clear hh
          go_wp2_with fail
          refine hO2.mono ?_
          rintro e wx ⟨rfl, hwx⟩
          have hwxb := hwx.symm
          subst hwxb
          clear hwx hO2
          have hs10 := HB10.out.size
          obtain ⟨m0, m1, m2, m3, m4⟩ := (HT8.out.keep HBA10.out (by omega)).cells
          go_wp2_with fail
          refine (HRBX w10).mono ?_
          rintro e w11 ⟨rfl, hb11⟩
          have HB11 := hide (HB10.out.trans (hb11.mono hs10))
          have HBA11 := hide (HBA10.out.trans (hb11.mono HBA10.out.size))
          obtain ⟨p0, p1, p2, p3, p4⟩ := (HT8.out.keep HBA11.out (by omega)).cells
          obtain ⟨r0, r1, r2, r3, r4, r5⟩ := (HC8.out.keep HBA11.out (by omega)).cells
          clear hb11
          go_wp2
          go_ret
          exact ⟨rfl, HB11.out⟩
        · obtain rfl : rh = 2 := by injection hR
          have e1 := ne_of_size c1
          have e2 : (x.toList == ([] : List UInt8)) = true := by rw [empty_of c5, Lib.toList_data]; rfl
          obtain ⟨ua, ub, uc, hbas⟩ : ∃ (a b : ByteArray) (c : Int), basV (basT (sbytes x)) = .tuple #[.string a, .string b, .int .i64 c] := by
            cases basT (sbytes x) with
            | none => exact ⟨_, _, _, rfl⟩
            | some ab => exact ⟨_, _, _, rfl⟩
          rw [hbas] at HRBX
          rw [c4] at HO1x
          rw [show (!Y.isEmpty) = true by cases Y with | nil => exact absurd rfl c2 | cons => rfl, c3] at HO2x
          generalize (!X.isEmpty) = hx at *
          clear hR c1 c2 c3 c4 c5 hbas HCASE HRB HO1 HO2
          go_wp2_with fail
          refine (HFM.out w8 HB8.out).mono ?_
          rintro e w9 ⟨f1, g1c, rfl, hh⟩
          have HB9 := hide (HB8.out.trans (hh.out.2.mono hs8))
          have HBA9 := hide hh.out.2
          have hO1 := HO1x w9 f1 g1c hh.out.1.row
          clear hh
          go_wp2_with fail
          refine hO1.mono ?_
          rintro e wx ⟨rfl, hwx⟩
          have hwxb := hwx.symm
          subst hwxb
          clear hwx hO1
          have hs9 := HB9.out.size
          obtain ⟨n0, n1, n2, n3, n4⟩ := (HT8.out.keep HBA9.out (by omega)).cells
          go_wp2_with fail
          refine (HFM.out w9 HB9.out).mono ?_
          rintro e w10 ⟨f2, g2c, rfl, hh⟩
          have HB10 := hide (HB9.out.trans (hh.out.2.mono hs9))
          have HBA10 := hide (HBA9.out.trans (hh.out.2.mono HBA9.out.size))
          have hO2 := HO2x w10 f2 g2c hh.out.1.row
          clear hh
          go_wp2_with fail
          refine hO2.mono ?_
          rintro e wx ⟨rfl, hwx⟩
          have hwxb := hwx.symm
          subst hwxb
          clear hwx hO2
          have hs10 := HB10.out.size
          obtain ⟨m0, m1, m2, m3, m4⟩ := (HT8.out.keep HBA10.out (by omega)).cells
          go_wp2_with fail
          refine (HRBX w10).mono ?_
          rintro e w11 ⟨rfl, hb11⟩
          have HB11 := hide (HB10.out.trans (hb11.mono hs10))
          have HBA11 := hide (HBA10.out.trans (hb11.mono HBA10.out.size))
          obtain ⟨p0, p1, p2, p3, p4⟩ := (HT8.out.keep HBA11.out (by omega)).cells
          obtain ⟨r0, r1, r2, r3, r4, r5⟩ := (HC8.out.keep HBA11.out (by omega)).cells
          clear hb11
          go_wp2
          go_ret
          exact ⟨rfl, HB11.out⟩
        · obtain rfl : rh = 1 := by injection hR
          have e1 := ne_of_size c1
          rw [show basV (basT (sbytes x)) = .tuple #[.string q'.id, .string q'.secret, .int .i64 0] by rw [c2]; show Value.tuple #[.string (bstr ba), .string (bstr bs), .int .i64 0] = _; rw [c3, c4]] at HRBX
          rw [show (!Y.isEmpty) = false by rw [c5]; rfl] at HO2x
          generalize bstr Y = yb at *
          have hA : (bstr X).toList = [] ∨ ((bstr X) = q'.id ∧ ((q'.id.toList == ([] : List UInt8)) = true ∨ (q'.id.toList == ([] : List UInt8)) = false)) := by
            rcases c6 with h | h
            · left; rw [h, Lib.toList_data]; rfl
            · exact .inr ⟨h, by cases (q'.id.toList == ([] : List UInt8)) <;> simp⟩
          generalize (!X.isEmpty) = hx at *
          clear hR c1 c2 c3 c4 c5 c6 HCASE HRB HO1 HO2
          rcases hA with hA | ⟨hA, hA2 | hA2⟩
          · have hA3 : ((bstr X).toList == ([] : List UInt8)) = true := by rw [hA]; rfl
            generalize bstr X = xb at *
            clear hA
            go_wp2_with fail
            refine (HFM.out w8 HB8.out).mono ?_
            rintro e w9 ⟨f1, g1c, rfl, hh⟩
            have HB9 := hide (HB8.out.trans (hh.out.2.mono hs8))
            have HBA9 := hide hh.out.2
            have hO1 := HO1x w9 f1 g1c hh.out.1.row
            clear hh
            go_wp2_with fail
            refine hO1.mono ?_
            rintro e wx ⟨rfl, hwx⟩
            have hwxb := hwx.symm
            subst hwxb
            clear hwx hO1
            have hs9 := HB9.out.size
            obtain ⟨n0, n1, n2, n3, n4⟩ := (HT8.out.keep HBA9.out (by omega)).cells
            go_wp2_with fail
            refine (HFM.out w9 HB9.out).mono ?_
            rintro e w10 ⟨f2, g2c, rfl, hh⟩
            have HB10 := hide (HB9.out.trans (hh.out.2.mono hs9))
            have HBA10 := hide (HBA9.out.trans (hh.out.2.mono HBA9.out.size))
            have hO2 := HO2x w10 f2 g2c hh.out.1.row
            clear hh
            go_wp2_with fail
            refine hO2.mono ?_
            rintro e wx ⟨rfl, hwx⟩
            have hwxb := hwx.symm
            subst hwxb
            clear hwx hO2
            have hs10 := HB10.out.size
            obtain ⟨m0, m1, m2, m3, m4⟩ := (HT8.out.keep HBA10.out (by omega)).cells
            go_wp2_with fail
            refine (HRBX w10).mono ?_
            rintro e w11 ⟨rfl, hb11⟩
            have HB11 := hide (HB10.out.trans (hb11.mono hs10))
            have HBA11 := hide (HBA10.out.trans (hb11.mono HBA10.out.size))
            obtain ⟨p0, p1, p2, p3, p4⟩ := (HT8.out.keep HBA11.out (by omega)).cells
            obtain ⟨r0, r1, r2, r3, r4, r5⟩ := (HC8.out.keep HBA11.out (by omega)).cells
            clear hb11
            go_wp2
            go_ret
            exact ⟨rfl, HB11.out⟩
          · rw [hA] at HO1x
            clear hA
            go_wp2_with fail
            refine (HFM.out w8 HB8.out).mono ?_
            rintro e w9 ⟨f1, g1c, rfl, hh⟩
            have HB9 := hide (HB8.out.trans (hh.out.2.mono hs8))
            have HBA9 := hide hh.out.2
            have hO1 := HO1x w9 f1 g1c hh.out.1.row
            clear hh
            go_wp2_with fail
            refine hO1.mono ?_
            rintro e wx ⟨rfl, hwx⟩
            have hwxb := hwx.symm
            subst hwxb
            clear hwx hO1
            have hs9 := HB9.out.size
            obtain ⟨n0, n1, n2, n3, n4⟩ := (HT8.out.keep HBA9.out (by omega)).cells
            go_wp2_with fail
            refine (HFM.out w9 HB9.out).mono ?_
            rintro e w10 ⟨f2, g2c, rfl, hh⟩
            have HB10 := hide (HB9.out.trans (hh.out.2.mono hs9))
            have HBA10 := hide (HBA9.out.trans (hh.out.2.mono HBA9.out.size))
            have hO2 := HO2x w10 f2 g2c hh.out.1.row
            clear hh
            go_wp2_with fail
            refine hO2.mono ?_
            rintro e wx ⟨rfl, hwx⟩
            have hwxb := hwx.symm
            subst hwxb
            clear hwx hO2
            have hs10 := HB10.out.size
            obtain ⟨m0, m1, m2, m3, m4⟩ := (HT8.out.keep HBA10.out (by omega)).cells
            go_wp2_with fail
            refine (HRBX w10).mono ?_
            rintro e w11 ⟨rfl, hb11⟩
            have HB11 := hide (HB10.out.trans (hb11.mono hs10))
            have HBA11 := hide (HBA10.out.trans (hb11.mono HBA10.out.size))
            obtain ⟨p0, p1, p2, p3, p4⟩ := (HT8.out.keep HBA11.out (by omega)).cells
            obtain ⟨r0, r1, r2, r3, r4, r5⟩ := (HC8.out.keep HBA11.out (by omega)).cells
            clear hb11
            go_wp2
            go_ret
            exact ⟨rfl, HB11.out⟩
          · rw [hA] at HO1x
            clear hA
            go_wp2_with fail
            refine (HFM.out w8 HB8.out).mono ?_
            rintro e w9 ⟨f1, g1c, rfl, hh⟩
            have HB9 := hide (HB8.out.trans (hh.out.2.mono hs8))
            have HBA9 := hide hh.out.2
            have hO1 := HO1x w9 f1 g1c hh.out.1.row
            clear hh
            go_wp2_with fail
            refine hO1.mono ?_
            rintro e wx ⟨rfl, hwx⟩
            have hwxb := hwx.symm
            subst hwxb
            clear hwx hO1
            have hs9 := HB9.out.size
            obtain ⟨n0, n1, n2, n3, n4⟩ := (HT8.out.keep HBA9.out (by omega)).cells
            go_wp2_with fail
            refine (HFM.out w9 HB9.out).mono ?_
            rintro e w10 ⟨f2, g2c, rfl, hh⟩
            have HB10 := hide (HB9.out.trans (hh.out.2.mono hs9))
            have HBA10 := hide (HBA9.out.trans (hh.out.2.mono HBA9.out.size))
            have hO2 := HO2x w10 f2 g2c hh.out.1.row
            clear hh
            go_wp2_with fail
            refine hO2.mono ?_
            rintro e wx ⟨rfl, hwx⟩
            have hwxb := hwx.symm
            subst hwxb
            clear hwx hO2
            have hs10 := HB10.out.size
            obtain ⟨m0, m1, m2, m3, m4⟩ := (HT8.out.keep HBA10.out (by omega)).cells
            go_wp2_with fail
            refine (HRBX w10).mono ?_
            rintro e w11 ⟨rfl, hb11⟩
            have HB11 := hide (HB10.out.trans (hb11.mono hs10))
            have HBA11 := hide (HBA10.out.trans (hb11.mono HBA10.out.size))
            obtain ⟨p0, p1, p2, p3, p4⟩ := (HT8.out.keep HBA11.out (by omega)).cells
            obtain ⟨r0, r1, r2, r3, r4, r5⟩ := (HC8.out.keep HBA11.out (by omega)).cells
            clear hb11
            go_wp2
            go_ret
            exact ⟨rfl, HB11.out⟩
end Go.Proofs.YtmmcgfikmcppfaaGreatDoor
