/- The walk of the law ClientProof: whoever gets in, gets in by its secret: true, and nothing old turns. -/
import Derived.Test.YtghmabohodnbpaaGreatDoorLProofM
import Derived.Test.YtghmabohodnbpaaGreatDoorLShowsW
import Derived.Deep.RegionHeldLaw
import Derived.Deep.RegionHeld3
namespace Go.Proofs.YtghmabohodnbpaaGreatDoor
open Go.RowKit

/-- Five cells in a block: a try. -/
def T5 (w : World) (N : Nat) (v0 v1 v2 v3 v4 : Value) : Prop := w.heap[N]? = some (.cells #[v0, v1, v2, v3, v4] 44 (0, 0))
theorem T5.lt {w : World} {N : Nat} {v0 v1 v2 v3 v4 : Value} (h : T5 w N v0 v1 v2 v3 v4) : N < w.heap.size := (Array.getElem?_eq_some_iff.1 h).1
theorem T5.keep {w w' : World} {N B : Nat} {v0 v1 v2 v3 v4 : Value} (h : T5 w N v0 v1 v2 v3 v4) (hb : Below B w w') (hB : N < B) : T5 w' N v0 v1 v2 v3 v4 := (hb.block N hB).trans h
theorem T5.cells {w : World} {N : Nat} {v0 v1 v2 v3 v4 : Value} (h : T5 w N v0 v1 v2 v3 v4) : w.cell? ⟨N, 0, none⟩ = some v0 ∧ w.cell? ⟨N, 1, none⟩ = some v1 ∧ w.cell? ⟨N, 2, none⟩ = some v2 ∧ w.cell? ⟨N, 3, none⟩ = some v3 ∧ w.cell? ⟨N, 4, none⟩ = some v4 := by
  refine ⟨?_, ?_, ?_, ?_, ?_⟩ <;> (rw [cell_of_row w N _ _ 44 (0, 0) h]; rfl)
theorem pown_block {w : World} {B e : Nat} (h : POwn 58 w B (.slice (some ⟨e, 0, none⟩) 0 0) []) : ∃ cs fz, w.heap[e]? = some (.cells cs 58 fz) := by
  rcases h.2 with ⟨h2, _⟩ | ⟨g, cap, cur, h2, _, hh, _⟩
  · cases h2
  · cases h2; exact ⟨_, _, hh⟩
/-- What lies in blocks of other types stays. -/
theorem COwn.grownP {w w' : World} {B e : Nat} {v : Value} {L : List Cl} (h : COwn w B v L) (hg : w.grownBy w' (some e)) (he : ∃ cs fz, w.heap[e]? = some (.cells cs 58 fz)) : COwn w' B v L := by
  obtain ⟨cs, ho, hf⟩ := h
  obtain ⟨ce, fe, hce⟩ := he
  refine ⟨cs, ⟨ho.1, ?_⟩, hf.sats fun so n cp l hs => ?_⟩
  · rcases ho.2 with h2 | ⟨g, cap, cur, e2, hg2, hh, r⟩
    · exact .inl h2
    · refine .inr ⟨g, cap, cur, e2, hg2, (hg.block g (Array.getElem?_eq_some_iff.1 hh).1 (fun e3 => ?_)).trans hh, r⟩
      injection e3 with e3
      rw [e3, hce] at hh
      simp at hh
  · have hne : ∀ a, so = some a → l ≠ [] → some a.block ≠ some e := by
      intro a ha h0 e3
      rcases hs.2.2.2 with h2 | h2
      · exact h0 h2
      · obtain ⟨xs, fz, hx⟩ := h2 a ha
        injection e3 with e3
        rw [e3, hce] at hx
        simp at hx
    exact ⟨hs.1, hs.2.1, hs.2.2.1.grownR hg hne, hs.2.2.2.grown hg hne⟩
theorem C6.grownP {w w' : World} {N e : Nat} {v0 v1 v2 v3 v4 v5 : Value} (h : C6 w N v0 v1 v2 v3 v4 v5) (hg : w.grownBy w' (some e)) (he : ∃ cs fz, w.heap[e]? = some (.cells cs 58 fz)) : C6 w' N v0 v1 v2 v3 v4 v5 := by
  obtain ⟨ce, fe, hce⟩ := he
  refine (hg.block N h.lt (fun e3 => ?_)).trans h
  injection e3 with e3
  have hh : w.heap[N]? = _ := h
  rw [e3, hce] at hh
  simp at hh
theorem law_appP {w : World} {ops : Array Oper} {o : Oper} {a : Act} {K : Act → World → Prop} {Q : Exit → Act → World → Prop} {E : Prop} {i0 : TypeInfo} (hgd : o.guard = none) (s x : Operand)
    (ho : o.op = .call { callee := .builtin .append, args := #[s, x], argTypes := #[42, 42] }) (hi : Tryz.prog.info? 58 = some i0) (hz0 : i0.zero = some (.agg #[.string { data := #[] }, .string { data := #[] }])) (hz1 : i0.size = 2) (hz2 : i0.bytes = 32)
    (B e : Nat) (r : List Two) (hs : a.eval s = .slice (some ⟨e, 0, none⟩) 0 0) (hown : POwn 58 w B (.slice (some ⟨e, 0, none⟩) 0 0) [])
    (ao : Option Addr) (n c : Nat) (hn : n = r.length) (hx : a.eval x = .slice ao n c) (hr : PRow w ao r) (hsz : n * 32 ≤ 140737488355328) (hB : B ≤ w.heap.size)
    (h : ∀ fo fc w', POwn 58 w' B (.slice fo n fc) r → Below B w w' → (∀ B2 v2 L2, COwn w B2 v2 L2 → COwn w' B2 v2 L2) → (∀ N v0 v1 v2 v3 v4 v5, C6 w N v0 v1 v2 v3 v4 v5 → C6 w' N v0 v1 v2 v3 v4 v5) → K (a.put o.dst (.slice fo n fc)) w') : if Region.wanted o (yielded ops a.tmps) = true then Oper.wp Tryz.prog o a w K Q else E := by
  rw [if_pos (by simp [Region.wanted, hgd])]
  obtain ⟨v', w', hrun, h1, h2⟩ := run_append_pairs (l := []) Tryz.underlying42 hi hz0 hz1 hz2 hown ao c hr (by rw [List.length_nil, Nat.zero_add, ← hn]; exact hsz) hB o.type
  rw [List.nil_append] at h1
  obtain ⟨fo, fc, e2, _⟩ := h1.shape
  rw [← hn] at e2
  subst e2
  subst hn
  have hbk := pown_block hown
  have hge : B ≤ e := (World.ownsRow.lt hown e rfl).1
  unfold Oper.wp
  simp [execOp, ho, resolve, invoke, builtin, hs, hx, hrun, Result.andThen]
  exact h fo fc w' h1 (below_of_grown h2 hge hB) (fun _ _ _ hc => hc.grownP h2 hbk) (fun _ _ _ _ _ _ _ hc => hc.grownP h2 hbk)
theorem SOwn.putT {w : World} {B N : Nat} {v : Value} {l : List U} {v0 v1 v2 v3 v4 v5 : Value} (h : SOwn w B v l) (hd : C6 w N v0 v1 v2 v3 v4 v5) (u0 u1 u2 u3 u4 u5 : Value) : SOwn (putC w N u0 u1 u2 u3 u4 u5) B v l := by
  refine ⟨h.1, ?_⟩
  rcases h.2 with h2 | ⟨g, cap, cur, e2, hg2, hh, r⟩
  · exact .inl h2
  · refine .inr ⟨g, cap, cur, e2, hg2, ((putC_grown w N u0 u1 u2 u3 u4 u5).block g (Array.getElem?_eq_some_iff.1 hh).1 (fun e3 => ?_)).trans hh, r⟩
    injection e3 with e3
    have h3 : w.heap[N]? = _ := hd
    rw [← e3, hh] at h3
    simp at h3
theorem c6_up {W : World} {N : Nat} {v0 v1 v2 v3 v4 v5 : Value} (h : C6 W N v0 v1 v2 v3 v4 v5) (o : Obj) : C6 (W.alloc o) N v0 v1 v2 v3 v4 v5 := h.keep (below_new W o) h.lt
theorem pe_up {W : World} {B : Nat} {v : Value} {l : List Two} (h : POwn 58 W B v l) (o : Obj) : POwn 58 (W.alloc o) B v l := World.ownsRow.alloc h o
theorem pe_keep {W W' : World} {B : Nat} {v : Value} {l : List Two} (h : POwn 58 W B v l) (hb : Below W.heap.size W W') : POwn 58 W' B v l := by
  refine ⟨h.1, ?_⟩
  rcases h.2 with h2 | ⟨g, cap, cur, e, hg, hh, r⟩
  · exact .inl h2
  · exact .inr ⟨g, cap, cur, e, hg, (hb.block g (Array.getElem?_eq_some_iff.1 hh).1).trans hh, r⟩
theorem bl_up {u W : World} (h : Below u.heap.size u W) (o : Obj) : Below u.heap.size u (W.alloc o) := h.trans ((below_new W o).mono h.size)
theorem bl_drew {u W : World} (h : Below u.heap.size u W) : Below u.heap.size u W.drew := below_drewN h 1
theorem bl_go {u W W' : World} (h : Below u.heap.size u W) (hb : Below W.heap.size W W') : Below u.heap.size u W' := h.trans (hb.mono h.size)
theorem cV0 (u : World) : C6 (u.alloc (.cells #[.string { data := #[] }, .string { data := #[] }, .int .i64 0, .bool false, .string { data := #[] }, .slice none 0 0] 47)) u.heap.size (.string { data := #[] }) (.string { data := #[] }) (.int .i64 0) (.bool false) (.string { data := #[] }) (.slice none 0 0) := C6.new u
theorem cV1 (u : World) (o : Obj) : C6 ((u.alloc o).alloc (.cells #[.string { data := #[] }, .string { data := #[] }, .int .i64 0, .bool false, .string { data := #[] }, .slice none 0 0] 47)) (u.heap.size + 1) (.string { data := #[] }) (.string { data := #[] }) (.int .i64 0) (.bool false) (.string { data := #[] }) (.slice none 0 0) := by
  have h := C6.new (u.alloc o)
  rw [show (u.alloc o).heap.size = u.heap.size + 1 by simp] at h
  exact h
theorem cV2 (u : World) (o : Obj) : C6 ((u.alloc (.cells #[.string { data := #[] }, .string { data := #[] }, .int .i64 0, .bool false, .string { data := #[] }, .slice none 0 0] 47)).alloc o) u.heap.size (.string { data := #[] }) (.string { data := #[] }) (.int .i64 0) (.bool false) (.string { data := #[] }) (.slice none 0 0) := c6_up (C6.new u) o
theorem cV0D (u : World) : C6 (u.alloc (.cells #[.string { data := #[] }, .string { data := #[] }, .int .i64 0, .bool false, .string { data := #[] }, .slice none 0 0] 47)).drew u.heap.size (.string { data := #[] }) (.string { data := #[] }) (.int .i64 0) (.bool false) (.string { data := #[] }) (.slice none 0 0) := C6.new u
theorem cV1D (u : World) (o : Obj) : C6 ((u.alloc o).alloc (.cells #[.string { data := #[] }, .string { data := #[] }, .int .i64 0, .bool false, .string { data := #[] }, .slice none 0 0] 47)).drew (u.heap.size + 1) (.string { data := #[] }) (.string { data := #[] }) (.int .i64 0) (.bool false) (.string { data := #[] }) (.slice none 0 0) := cV1 u o
theorem cV2D (u : World) (o : Obj) : C6 ((u.alloc (.cells #[.string { data := #[] }, .string { data := #[] }, .int .i64 0, .bool false, .string { data := #[] }, .slice none 0 0] 47)).alloc o).drew u.heap.size (.string { data := #[] }) (.string { data := #[] }) (.int .i64 0) (.bool false) (.string { data := #[] }) (.slice none 0 0) := cV2 u o
theorem pE0 (u : World) (B : Nat) (hB : B ≤ u.heap.size) : POwn 58 (u.alloc (.cells #[] 58)) B (.slice (some ⟨u.heap.size, 0, none⟩) 0 0) [] := pown_new 58 u B hB
theorem pE1 (u : World) (o : Obj) (B : Nat) (hB : B ≤ u.heap.size) : POwn 58 ((u.alloc o).alloc (.cells #[] 58)) B (.slice (some ⟨u.heap.size + 1, 0, none⟩) 0 0) [] := by
  have h := pown_new 58 (u.alloc o) B (by simp; omega)
  rw [show (u.alloc o).heap.size = u.heap.size + 1 by simp] at h
  exact h
theorem pE2 (u : World) (o : Obj) (B : Nat) (hB : B ≤ u.heap.size) : POwn 58 ((u.alloc (.cells #[] 58)).alloc o) B (.slice (some ⟨u.heap.size, 0, none⟩) 0 0) [] := pe_up (pE0 u B hB) o
theorem pE0D (u : World) : POwn 58 (u.alloc (.cells #[] 58)).drew u.heap.size (.slice (some ⟨u.heap.size, 0, none⟩) 0 0) [] := pE0 u _ (Nat.le_refl _)
theorem pE1D (u : World) (o : Obj) : POwn 58 ((u.alloc o).alloc (.cells #[] 58)).drew u.heap.size (.slice (some ⟨u.heap.size + 1, 0, none⟩) 0 0) [] := pE1 u o _ (Nat.le_refl _)
theorem pE2D (u : World) (o : Obj) : POwn 58 ((u.alloc (.cells #[] 58)).alloc o).drew u.heap.size (.slice (some ⟨u.heap.size, 0, none⟩) 0 0) [] := pE2 u o _ (Nat.le_refl _)
theorem co_up {W : World} {B : Nat} {v : Value} {l : List Cl} (h : COwn W B v l) (o : Obj) : COwn (W.alloc o) B v l := h.keep (below_new W o)
theorem pr_up {W : World} {ao : Option Addr} {l : List Two} (h : PRow W ao l) (o : Obj) : PRow (W.alloc o) ao l := h.keep (below_new W o)
theorem al_size (W : World) (o : Obj) : (W.alloc o).heap.size = W.heap.size + 1 := by simp
/-- A client's block written over. -/
def GotCl (w : World) (N : Nat) (R : Aut) (Tv : World → Prop) (v3 v4 v5 : Value) (wx : World) : Prop := ∃ (V : Nat) (q : Cl) (so : Option Addr) (k cp : Nat), v3 = .pointer (some ⟨V, 0, none⟩) ∧ v4 = .int .i64 R.how ∧ v5 = .int .i64 (R.er : Int) ∧
  C6 wx V (.string q.id) (.string q.secret) (.int .i64 q.grants) (.bool q.ping) (.string q.url) (.slice so k cp) ∧ N ≤ V ∧ R.cl.getD zeroCl = q ∧ k = q.scopes.length ∧ SRow wx so q.scopes ∧ Tv wx ∧ Below w.heap.size w wx
theorem leaf_new {w w1 w3 : World} {B : Nat} {R : Aut} {q : Cl} {so : Option Addr} {k cp : Nat} {t0 t1 t2 t3 t4 : Value} (hs1 : w.heap.size < w1.heap.size) (hT : T5 w1 w.heap.size t0 t1 t2 t3 t4) (hB : Below w.heap.size w w1) (ha : Below w1.heap.size w1 w3) (hq : R.cl.getD zeroCl = q) (hk : k = q.scopes.length) (ho : SOwn w3 B (.slice so k cp) q.scopes) :
    GotCl w w1.heap.size R (fun W => T5 W w.heap.size t0 t1 t2 t3 t4) (.pointer (some ⟨w3.heap.size, 0, none⟩)) (.int .i64 R.how) (.int .i64 (R.er : Int)) (w3.alloc (.cells #[.string q.id, .string q.secret, .int .i64 q.grants, .bool q.ping, .string q.url, .slice so k cp] 47)) := by
  have hsz := ha.size
  exact ⟨_, q, so, k, cp, rfl, rfl, rfl, heap_alloc_new w3 _, hsz, hq, hk, (ho.keep (below_new _ _)).row, (hT.keep ha hs1).keep (below_new _ _) (by omega), (hB.trans (ha.mono (by omega))).trans ((below_new _ _).mono (by omega))⟩
theorem leaf_old {w w1 w3 : World} {B V : Nat} {R : Aut} {q : Cl} {so : Option Addr} {k cp : Nat} {t0 t1 t2 t3 t4 z0 z1 z2 z3 z4 z5 : Value} (hs1 : w.heap.size < w1.heap.size) (hT : T5 w1 w.heap.size t0 t1 t2 t3 t4) (hB : Below w.heap.size w w1) (ha : Below w1.heap.size w1 w3) (hq : R.cl.getD zeroCl = q) (hk : k = q.scopes.length) (ho : SOwn w3 B (.slice so k cp) q.scopes) (hV : C6 w3 V z0 z1 z2 z3 z4 z5) (hle : w1.heap.size ≤ V) :
    GotCl w w1.heap.size R (fun W => T5 W w.heap.size t0 t1 t2 t3 t4) (.pointer (some ⟨V, 0, none⟩)) (.int .i64 R.how) (.int .i64 (R.er : Int)) ((((((w3.setCell ⟨V, 0, none⟩ (.string q.id)).setCell ⟨V, 1, none⟩ (.string q.secret)).setCell ⟨V, 2, none⟩ (.int .i64 q.grants)).setCell ⟨V, 3, none⟩ (.bool q.ping)).setCell ⟨V, 4, none⟩ (.string q.url)).setCell ⟨V, 5, none⟩ (.slice so k cp)) := by
  have hsz := ha.size
  have hlt := hV.lt
  refine ⟨V, q, so, k, cp, rfl, rfl, rfl, hV.put _ _ _ _ _ _, hle, hq, hk, (ho.putT hV _ _ _ _ _ _).row, (hT.keep ha hs1).keep (below_of_grown (putC_grown _ _ _ _ _ _ _ _) (Nat.le_refl _) (by omega)) (by omega), (hB.trans (ha.mono (by omega))).trans (below_of_grown (putC_grown _ _ _ _ _ _ _ _) (by omega) (by omega))⟩
/-- What the law holds behind the document's Find: its try, the client answered, the client found, and nothing old turned. -/
def GotDoc (u : World) (q : Cl) (k : Nat) (v6 v7 : Value) (wx : World) : Prop := ∃ (V : Nat) (so2 : Option Addr) (cp2 : Nat), v6 = .pointer (some ⟨V, 0, none⟩) ∧ v7 = .bool true ∧ D6 wx V (.string q.id) (.string q.secret) (.int .i64 q.grants) (.bool q.ping) (.string q.url) (.slice so2 k cp2) ∧ u.heap.size ≤ V ∧ SRow wx so2 q.scopes ∧ Below u.heap.size u wx
theorem SRow.up {w w' : World} {so : Option Addr} {l : List U} (h : SRow w so l) (hb : Below w.heap.size w w') : SRow w' so l := h.keep hb
theorem d6_up {W : World} {N : Nat} {v0 v1 v2 v3 v4 v5 : Value} (h : D6 W N v0 v1 v2 v3 v4 v5) (o : Obj) : D6 (W.alloc o) N v0 v1 v2 v3 v4 v5 := h.keep (below_new W o) h.lt
theorem docl_new {u w3 : World} {q : Cl} {so2 : Option Addr} {k cp2 : Nat} (ha : Below u.heap.size u w3) (hs : SAt w3 so2 k cp2 q.scopes) :
    GotDoc u q k (.pointer (some ⟨w3.heap.size, 0, none⟩)) (.bool true) (w3.alloc (.cells #[.string q.id, .string q.secret, .int .i64 q.grants, .bool q.ping, .string q.url, .slice so2 k cp2] 48)) :=
  ⟨_, so2, cp2, rfl, rfl, heap_alloc_new w3 _, ha.size, (hs.keep (below_new _ _)).2.2.1, bl_up ha _⟩
theorem docl_old {u w3 : World} {q : Cl} {so2 : Option Addr} {k cp2 V : Nat} {z0 z1 z2 z3 z4 z5 : Value} (ha : Below u.heap.size u w3) (hs : SAt w3 so2 k cp2 q.scopes) (hV : D6 w3 V z0 z1 z2 z3 z4 z5) (hle : u.heap.size ≤ V) :
    GotDoc u q k (.pointer (some ⟨V, 0, none⟩)) (.bool true) ((((((w3.setCell ⟨V, 0, none⟩ (.string q.id)).setCell ⟨V, 1, none⟩ (.string q.secret)).setCell ⟨V, 2, none⟩ (.int .i64 q.grants)).setCell ⟨V, 3, none⟩ (.bool q.ping)).setCell ⟨V, 4, none⟩ (.string q.url)).setCell ⟨V, 5, none⟩ (.slice so2 k cp2)) :=
  ⟨V, so2, cp2, rfl, rfl, hV.put _ _ _ _ _ _, hle, (hs.put hV _ _ _ _ _ _).2.2.1, ha.trans (below_of_grown (putD_grown _ _ _ _ _ _ _ _) hle ha.size)⟩
theorem dV0 (u : World) : D6 (u.alloc (.cells #[.string { data := #[] }, .string { data := #[] }, .int .i64 0, .bool false, .string { data := #[] }, .slice none 0 0] 48)) u.heap.size (.string { data := #[] }) (.string { data := #[] }) (.int .i64 0) (.bool false) (.string { data := #[] }) (.slice none 0 0) := D6.new u
theorem dV0D (u : World) : D6 (u.alloc (.cells #[.string { data := #[] }, .string { data := #[] }, .int .i64 0, .bool false, .string { data := #[] }, .slice none 0 0] 48)).drew u.heap.size (.string { data := #[] }) (.string { data := #[] }) (.int .i64 0) (.bool false) (.string { data := #[] }) (.slice none 0 0) := D6.new u
end Go.Proofs.YtghmabohodnbpaaGreatDoor
