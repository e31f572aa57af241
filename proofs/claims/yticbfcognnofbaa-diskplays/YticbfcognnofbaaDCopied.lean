/- The contracts of copied and crash. -/
import Derived.Test.YticbfcognnofbaaDLive
namespace Go.Proofs.Yticbfcognnofbaa
open Go.RowKit Go.Maps

theorem law_appB {w : World} {ops : Array Oper} {o : Oper} {a : Act} {K : Act → World → Prop} {Q : Exit → Act → World → Prop} {E : Prop} (hgd : o.guard = none) (s x : Operand)
    (ho : o.op = .call { callee := .builtin .append, args := #[s, x], argTypes := #[36, 36] }) (v : Value) (xs : List Nat) (hs : a.eval s = v) (hown : Own w 0 v xs)
    (ao : Option Addr) (n c : Nat) (ys : List Nat) (hn : n = ys.length) (hx : a.eval x = .slice ao n c) (hy : Row w ao ys) (hsz : xs.length + ys.length ≤ 140737488355328)
    (h : ∀ uao un ucap w', Own w' 0 (.slice uao un ucap) (xs ++ ys) → w.grownBy w' v.ownBlock → (Value.ownBlock (.slice uao un ucap) = v.ownBlock ∨ Value.ownBlock (.slice uao un ucap) = some w.heap.size) → K (a.put o.dst (.slice uao un ucap)) w') : if Region.wanted o (yielded ops a.tmps) = true then Oper.wp Try.prog o a w K Q else E := by
  rw [if_pos (by simp [Region.wanted, hgd])]
  obtain ⟨v', w', hrun, h1, h2, h3⟩ := run_append_bytes_at hown ao c hy hsz o.type
  subst hn
  unfold Oper.wp
  simp [execOp, ho, resolve, invoke, builtin, hs, hx, hrun, Result.andThen]
  obtain ⟨uao, un, ucap, rfl⟩ := own_shape h1
  exact h uao un ucap w' h1 h2 h3
/-- append([]byte{}, ys...) lies in memory of its own. -/
theorem app_new {wr w' : World} {C : Array Value} {uao : Option Addr} {un ucap : Nat} (hg : (wr.alloc (.cells C 5)).grownBy w' (some wr.heap.size)) (hl : Value.ownBlock (.slice uao un ucap) = some wr.heap.size ∨ Value.ownBlock (.slice uao un ucap) = some (wr.alloc (.cells C 5)).heap.size) :
    Below wr.heap.size wr w' ∧ ∀ g, Value.ownBlock (.slice uao un ucap) = some g → wr.heap.size ≤ g := by
  refine ⟨(below_new wr _).grown hg (by simp) (fun j hj => by injection hj with hj; omega), fun g hgv => ?_⟩
  rcases hl with e | e
  · rw [e] at hgv; injection hgv with hgv; omega
  · rw [e] at hgv; injection hgv with hgv; rw [← hgv]; simp
set_option maxHeartbeats 4000000 in
set_option maxRecDepth 100000 in
theorem copied_any (ao : Option Addr) (n c : Nat) (fs : List Fi) (w : World) (hs : FSee w ao fs) (hn : n = fs.length) (hnl : n * 40 ≤ 140737488351232) (hl : ∀ f ∈ fs, f.2.length ≤ 140737488355328) :
    Calls Try.prog 31 #[.slice ao n c] w fun e w' => ∃ vao m cap, e = .returned (.slice vao m cap) ∧ (∃ us, FOwn w' w.heap.size (.slice vao m cap) fs us) ∧ Below w.heap.size w w' := by
  have HS := hide hs
  have HN := hide hn
  have HNL := hide hnl
  have HL := hide hl
  obtain ⟨B, hB⟩ : ∃ B, B = w.heap.size := ⟨_, rfl⟩
  rw [← hB]
  have HB := hide hB
  clear hs hn hnl hl hB
  go_enter Try.func31, Try.ntmps31
  go_wp2_with fail
  go_loopw [3, 4] (fun v i wr => ∃ (q : Nat) (us : List Value), q ≤ n ∧ i = .int .i64 (q : Int) ∧ Hid (FOwn wr B v (fs.take q) us) ∧ Hid (Below B w wr)) (fun _ i _ => n - (intOf i).toNat)
  case atStart => exact ⟨0, [], Nat.zero_le _, rfl, by rw [List.take_zero]; exact fown_nil _ _, Below.refl _ _⟩
  case round =>
    obtain ⟨q, us, hq, rfl, HFO, HBF⟩ := hrel
    have hltk : (fs.take q).length = q := by rw [List.length_take]; have := HN.out; omega
    obtain ⟨vao, vcap, hv⟩ := ownsRow_slice HFO.out.row
    rw [hltk] at hv
    subst hv
    have HS5 : Hid (B ≤ wr.heap.size) := by have := HBF.out.size; have := HB.out; show _ ≤ _; omega
    by_cases hqn : q < n
    · obtain ⟨x, hx⟩ : ∃ x, fs[q]? = some x := ⟨_, List.getElem?_eq_getElem (by rw [← HN.out]; exact hqn)⟩
      obtain ⟨ab, aoff, bao, bc, rfl, x1, x2, x3⟩ := HS.out.cell q x hx
      have hbw : Below w.heap.size w wr := by rw [← HB.out]; exact HBF.out
      have y1 := cell_kept x1 hbw
      have y2 := cell_kept x2 hbw
      have HY3 := hide (x3.keep hbw)
      have hxl := HL.out x (List.mem_of_getElem? hx)
      have HSTEP : Hid (∀ (W w' : World) (uao : Option Addr) (un ucap : Nat) (ao9 : Option Addr) (cap9 : Nat) (o : Obj), Below wr.heap.size wr W → Own W 0 (.slice uao un ucap) x.2 → (∀ g, (Value.slice uao un ucap).ownBlock = some g → wr.heap.size ≤ g) → w'.ownsRow B 54 2 (.slice ao9 (q + 1) cap9) (q + 1) (fcells (fs.take q) us ++ [.string (str x.1), .slice uao un ucap]) → (W.alloc o).grownBy w' (Value.slice vao q vcap).ownBlock → (Value.ownBlock (.slice ao9 (q + 1) cap9) = (Value.slice vao q vcap).ownBlock ∨ Value.ownBlock (.slice ao9 (q + 1) cap9) = some (W.alloc o).heap.size) → FOwn w' B (.slice ao9 (q + 1) cap9) (fs.take (q + 1)) (us ++ [.slice uao un ucap]) ∧ Below B w w') := fun W w' uao un ucap ao9 cap9 o g1 g2 g3 g4 g5 g6 => by
        have := fown_step (x := x) HFO.out HS5.out g1 g2 g3 (by rw [hltk]; exact g4) g5 (by rw [hltk]; exact g6)
        rw [hltk] at this
        rw [List.take_add_one, hx]
        exact ⟨this.1, HBF.out.trans this.2⟩
      have HROW := hide HFO.out.row
      rw [hltk] at HROW
      obtain ⟨nm, xs⟩ := x
      simp only at y1 y2 HY3 hxl HSTEP
      obtain ⟨bl, hbl⟩ : ∃ bl, bl = xs.length := ⟨_, rfl⟩
      have HBL := hide hbl
      rw [← hbl] at y2
      have HXL := hide hxl
      have HE := hide (own_new wr 0 [] (Nat.zero_le _) (Nat.zero_le _))
      have HYE := hide (HY3.out.keep (below_new wr (.cells #[] 5)))
      have z1 := cell_kept y1 (below_new wr (.cells #[] 5))
      have z2 := cell_kept y2 (below_new wr (.cells #[] 5))
      have hqi : (q : Int) < (n : Int) := by omega
      have hqb : (q : Int) + 1 ≤ 4611686018427387904 := by have := HNL.out; omega
      have hq40 : (q + 1) * 40 ≤ 140737488355328 := by have := HNL.out; omega
      generalize str nm = s at *
      clear hx x1 x2 x3 hbw hbl hxl hltk HFO HY3
      go_wp2_with fail
      go_region_law (first
        | (refine law_appB rfl (.tmp 17) (.tmp 22) rfl (.slice (some ⟨wr.heap.size, 0, none⟩) 0 0) [] rfl HE.out bao bl bc xs HBL.out rfl HYE.out (by have := HXL.out; simpa using this) ?_; intro uao un ucap w2 h2 g2 l2; have HOU := hide (show Own w2 0 (.slice uao un ucap) xs from h2); have han := app_new (grown_undrew g2) l2; have HCUR := hide han.1; have HNG := hide han.2; have zz1 := cell_kept y1 han.1; clear h2 g2 l2 han)
        | (refine law_appF rfl (.tmp 11) (.tmp 25) rfl B (.slice vao q vcap) q (fcells (fs.take q) us) [.string s, .slice uao un ucap] rfl (World.ownsRow.alloc (owns_same HROW.out fun g hg => HCUR.out.block g (World.ownsRow.lt HROW.out g hg).2) _) _ rfl (Bl.new _ _ _) rfl (by intro x hx; simp only [List.mem_cons, List.not_mem_nil, or_false] at hx; rcases hx with rfl | rfl <;> rfl) hq40 (by have := HCUR.out.size; have := HS5.out; simp; omega) ?_; intro ao9 cap9 w9 hn9 hg9 ho9; have HFI := hide (HSTEP.out _ w9 uao un ucap ao9 cap9 _ HCUR.out HOU.out HNG.out hn9 hg9 ho9); clear hn9 hg9 ho9))
      all_goals
        clear HSTEP HROW HOU HNG HCUR HE HYE y1 y2 z1 z2 zz1
        go_wp2_with fail
        go_roundw
        case rel => exact ⟨q + 1, us ++ [.slice uao un ucap], by omega, by simp, hide HFI.out.1, hide HFI.out.2⟩
        case measure => simp [intOf]; omega
    · have hqi : ¬ (q : Int) < (n : Int) := by omega
      have hte : fs.take q = fs := List.take_of_length_le (by have := HN.out; omega)
      rw [hte] at HFO
      clear hte hltk
      go_wp2_with fail
      go_ret
      exact ⟨_, _, _, rfl, ⟨us, HFO.out⟩, by rw [HB.out] at HBF ⊢; exact HBF.out⟩
end Go.Proofs.Yticbfcognnofbaa
