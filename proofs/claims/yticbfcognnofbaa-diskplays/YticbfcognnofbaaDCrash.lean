/- The contract of crash: numbers in rows of the call's own. -/
import Derived.Test.YticbfcognnofbaaDCopied
namespace Go.Proofs.Yticbfcognnofbaa
open Go.RowKit Go.Maps

/-- Numbers in a row of the call's own. -/
def IOwn (w : World) (v : Value) (ts : List Int) : Prop := w.ownsRow 0 3 1 v ts.length (ts.map (Value.int .i64))
theorem IOwn.row {w : World} {ao : Option Addr} {n cap : Nat} {ts : List Int} (h : IOwn w (.slice ao n cap) ts) : IRow w ao ts := by
  rcases h.2 with ⟨_, e⟩ | ⟨g, cap', cur, e, _⟩
  · exact .inl (List.length_eq_zero_iff.1 e)
  · injection e with e _ _
    subst e
    refine .inr ⟨g, 0, rfl, fun i hi => ?_⟩
    have := World.ownsRow.cells h (g := g) rfl i (.int .i64 (ts.getD i 0)) (by simp [List.getD, hi])
    rwa [add_none] at this
theorem IOwn.len {w : World} {ao : Option Addr} {n cap : Nat} {ts : List Int} (h : IOwn w (.slice ao n cap) ts) : n = ts.length := by
  rcases h.2 with ⟨e, e2⟩ | ⟨g, cap', cur, e, _⟩
  · injection e with _ e _; omega
  · injection e
theorem IRow.cells {w : World} {a : Addr} {ts : List Int} (h : IRow w (some a) ts) : ∀ j u, (ts.map (Value.int .i64))[j]? = some u → w.cell? (a.add j) = some u := by
  intro j u hu
  rcases h with rfl | ⟨b, off, ha, hc⟩
  · simp at hu
  · cases ha
    have hj : j < ts.length := by
      rcases Nat.lt_or_ge j ts.length with h | h
      · exact h
      · rw [List.getElem?_eq_none (by simpa using h)] at hu; cases hu
    rw [add_none, hc j hj]
    simp only [List.getElem?_map, List.getElem?_eq_getElem hj, Option.map_some, Option.some.injEq] at hu
    subst hu
    simp [List.getD, List.getElem?_eq_getElem hj]
theorem infoI : (Try.prog.info? 3).map (fun i => (i.zero, i.size, i.bytes)) = some (some (.int .i64 0), 1, 8) := by kernel_rfl
theorem wpList_append_ints_at {w : World} {ops : Array Oper} {rest : List Oper} {o : Oper} {a : Act} {Q : Exit → Act → World → Prop} (hgd : o.guard = none) (s x : Operand)
    (ho : o.op = .call { callee := .builtin .append, args := #[s, x], argTypes := #[37, 37] }) (v : Value) (xs : List Int) (hs : a.eval s = v) (hown : IOwn w v xs)
    (ao : Option Addr) (n c : Nat) (ys : List Int) (hn : n = ys.length) (hx : a.eval x = .slice ao n c) (hy : IRow w ao ys) (hsz : (xs.length + ys.length) * 8 ≤ 140737488355328)
    (h : ∀ uao un ucap w', IOwn w' (.slice uao un ucap) (xs ++ ys) → w.grownBy w' v.ownBlock → (Value.ownBlock (.slice uao un ucap) = v.ownBlock ∨ Value.ownBlock (.slice uao un ucap) = some w.heap.size) → wpList Try.prog ops Q rest (a.put o.dst (.slice uao un ucap)) w') : wpList Try.prog ops Q (o :: rest) a w := by
  refine wpList_plain hgd fun K hK => ?_
  obtain ⟨i0, hi, hz0, hz1, hz2⟩ := info_parts infoI
  subst hn
  cases ao with
  | none =>
    obtain rfl : ys = [] := by
      rcases hy with e | ⟨b, off, e, _⟩
      · exact e
      · cases e
    have hrun : (Builtin.append_ #[37, 37] o.type #[v, .slice none 0 c]).run Try.prog w = .ok v w := by
      have hc0 : (Builtin.append_ #[37, 37] o.type #[v, .slice none 0 c]).run Try.prog w = (Builtin.append_ #[37, 37] o.type #[v, .slice none 0 0]).run Try.prog w := rfl
      rw [hc0]
      exact run_append_owned_none (P := Try.prog) (w := w) 0 37 o.type 3 i0 1 Try.underlying37 hi v _ _ hown
    obtain ⟨vao, vcap, rfl⟩ := ownsRow_slice hown
    unfold Oper.wp
    simp only [List.length_nil] at hx
    simp [execOp, ho, resolve, invoke, builtin, hs, hx, hrun, Result.andThen]
    exact hK _ _ (h vao _ vcap w (by rw [List.append_nil]; exact hown) (World.grownBy.refl _ _) (.inl rfl))
  | some ad =>
    obtain ⟨v', w', hrun, h1, h2, _, h5⟩ := run_append_own_at (P := Try.prog) w 0 37 o.type 3 i0 (.int .i64 0) 1 8 Try.underlying37 hi hz0 hz1 hz2 rfl (by decide) v xs.length (xs.map (Value.int .i64)) hown ad ys.length c (ys.map (Value.int .i64)) (by simp) hy.cells (by intro u hu; obtain ⟨z, _, rfl⟩ := List.mem_map.1 hu; rfl) (by unfold maxLen; omega) (by omega) (Nat.zero_le _)
    have h1' : IOwn w' v' (xs ++ ys) := by unfold IOwn; rw [List.length_append, List.map_append]; exact h1
    obtain ⟨vao, vcap, rfl⟩ := ownsRow_slice h1
    unfold Oper.wp
    simp [execOp, ho, resolve, invoke, builtin, hs, hx, hrun, Result.andThen]
    exact hK _ _ (h vao _ vcap w' h1' h2 h5)
theorem iown_empty (w : World) : IOwn (w.alloc (.cells #[] 3)) (.slice (some ⟨w.heap.size, 0, none⟩) 0 0) [] := World.ownsRow_made w #[] 0 (Nat.zero_le _) (Nat.zero_le _) rfl
theorem app_newI {wr w' : World} {C : Array Value} {t : TypeId} {uao : Option Addr} {un ucap : Nat} (hg : (wr.alloc (.cells C t)).grownBy w' (some wr.heap.size)) (hl : Value.ownBlock (.slice uao un ucap) = some wr.heap.size ∨ Value.ownBlock (.slice uao un ucap) = some (wr.alloc (.cells C t)).heap.size) :
    Below wr.heap.size wr w' ∧ ∀ g, Value.ownBlock (.slice uao un ucap) = some g → wr.heap.size ≤ g := by
  refine ⟨(below_new wr _).grown hg (by simp) (fun j hj => by injection hj with hj; omega), fun g hgv => ?_⟩
  rcases hl with e | e
  · rw [e] at hgv; injection hgv with hgv; omega
  · rw [e] at hgv; injection hgv with hgv; rw [← hgv]; simp
set_option maxHeartbeats 2000000 in
set_option maxRecDepth 100000 in
theorem crash_any (dir : Int) (ao : Option Addr) (n c : Nat) (ts : List Int) (w : World) (hr : IRow w ao ts) (hn : n = ts.length) (hnl : n * 8 ≤ 140737488351232) :
    Calls Try.prog 23 #[.agg #[.int .i64 dir, .slice ao n c]] w fun e w' => ∃ tao m cap, e = .returned (.agg #[.int .i64 dir, .slice tao m cap]) ∧ IRow w' tao ts ∧ m = ts.length ∧ Below w.heap.size w w' := by
  have HN := hide hn
  have HNL := hide hnl
  have HB := hide (Bl.new w #[.int .i64 dir, .slice ao n c] 39)
  have HU := hide (below_new w (.cells #[.int .i64 dir, .slice ao n c] 39))
  have HR := hide (hr.keep HU.out)
  clear hn hnl hr
  go_enter Try.func23, Try.ntmps23
  go_upto_region 1 with fail
  obtain ⟨N, hN⟩ : ∃ N, N = w.heap.size := ⟨_, rfl⟩
  rw [← hN] at HB ⊢
  have HNW := hide hN
  have HUS : Hid ((w.alloc (.cells #[.int .i64 dir, .slice ao n c] 39)).heap.size = N + 1) := by show _ = _; rw [hN]; simp
  clear hN
  generalize w.alloc (.cells #[.int .i64 dir, .slice ao n c] 39) = u at *
  have HB2 := hide (HB.out.alloc (.cells #[.int .i64 0, .slice none 0 0] 39))
  have HU2 := hide (HU.out.alloc (by have := HU.out.size; exact this) (.cells #[.int .i64 0, .slice none 0 0] 39))
  have HR2 := hide (HR.out.keep (below_new u (.cells #[.int .i64 0, .slice none 0 0] 39)))
  have HM := hide (Bl.new u #[.int .i64 0, .slice none 0 0] 39)
  rw [HUS.out] at HM
  have HGE : Hid (N + 2 ≤ (u.alloc (.cells #[.int .i64 0, .slice none 0 0] 39)).heap.size) := by have := HUS.out; show _ ≤ _; simp; omega
  clear HB HU HR HUS
  generalize u.alloc (.cells #[.int .i64 0, .slice none 0 0] 39) = u2 at *
  have HE := hide (iown_empty u2)
  have HR3 := hide (HR2.out.keep (below_new u2 (.cells #[] 3)))
  have a1 : (u2.alloc (.cells #[] 3)).cell? ⟨N, 1, none⟩ = some (.slice ao n c) := (HB2.out.alloc _).cell 1
  go_wp2_with (first | (at_builtin; refine wpList_append_ints_at rfl _ _ rfl _ [] rfl HE.out ao n c ts HN.out rfl HR3.out (by have := HNL.out; have := HN.out; simp; omega) ?_; intro uao un ucap w3 h3 g3 l3; have han := app_newI g3 l3; have HI := hide (show IOwn w3 (.slice uao un ucap) ts from h3); have HB3 := hide han.1; have HN3 := hide (HB2.out.keep han.1); have HM3 := hide (HM.out.keep han.1); have HNG := hide han.2; have b0 : w3.cell? ⟨N, 0, none⟩ = some (.int .i64 dir) := HN3.out.cell 0; have b1 : w3.cell? ⟨N, 1, none⟩ = some (.slice ao n c) := HN3.out.cell 1; have f1 := HN3.out.frozen 1; have m0 : w3.cell? ⟨N + 1, 0, none⟩ = some (.int .i64 0) := HM3.out.cell 0; have m1 : w3.cell? ⟨N + 1, 1, none⟩ = some (.slice none 0 0) := HM3.out.cell 1; have fm0 := HM3.out.frozen 0; have fm1 := HM3.out.frozen 1; clear h3 g3 l3 han a1) | fail)
  have hW : Below w.heap.size w (((w3.setCell ⟨N, 1, none⟩ (.slice uao un ucap)).setCell ⟨N + 1, 0, none⟩ (.int .i64 dir)).setCell ⟨N + 1, 1, none⟩ (.slice uao un ucap)) := by
    have h1 : Below w.heap.size w w3 := HU2.out.trans (HB3.out.mono HU2.out.size)
    have hn := HNW.out
    exact ((h1.setCell (by show _ ≤ N; omega) _).setCell (by show _ ≤ N + 1; omega) _).setCell (by show _ ≤ N + 1; omega) _
  have hI : IRow (((w3.setCell ⟨N, 1, none⟩ (.slice uao un ucap)).setCell ⟨N + 1, 0, none⟩ (.int .i64 dir)).setCell ⟨N + 1, 1, none⟩ (.slice uao un ucap)) uao ts := by
    rcases HI.out.row with e | ⟨g, off, rfl, hc⟩
    · exact .inl e
    · refine .inr ⟨g, off, rfl, fun i hi => ?_⟩
      have hg := HNG.out g rfl
      have := HGE.out
      rw [World.cell?_setCell_other, World.cell?_setCell_other, World.cell?_setCell_other]
      · exact hc i hi
      all_goals
        intro e
        have := congrArg Addr.block e
        simp only at this
        omega
  have hmm := HI.out.len
  refine bodyPost_ret (v := .agg #[.int .i64 dir, .slice uao un ucap]) (by simp [results, Try.results23, go_sem, m0, m1]) rfl ⟨uao, un, ⟨ucap, rfl⟩, hI, hmm, hW⟩
end Go.Proofs.Yticbfcognnofbaa
