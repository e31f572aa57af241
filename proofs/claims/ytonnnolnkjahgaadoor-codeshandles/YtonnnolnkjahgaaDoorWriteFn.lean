/- The contract of the Hash's Write: it takes the bytes behind those that it took; nothing else turns. -/
import Derived.Test.YtonnnolnkjahgaaDoorTurnFn
import Derived.Test.YtonnnolnkjahgaaDoorWriteMath
namespace Go.Proofs.YtonnnolnkjahgaaDoor
open Go.RowKit

def slLen : Value → Nat
  | .slice _ n _ => n
  | _ => 0
/-- copy of a row of bytes into a block, as one step of a region that draws, and of one that does not. -/
theorem law_copy {ops : Array Oper} {o : Oper} {a : Act} {w : World} {K : Act → World → Prop} {Q : Exit → Act → World → Prop} {E : Prop} (hgd : o.guard = none) (d s : Operand)
    (ho : o.op = .call { callee := .builtin .copy, args := #[d, s], argTypes := #[25, 25] }) (g off dLen dCap sLen sCap : Nat) (dp sp : Option Addr) (hd : a.eval d = .slice dp dLen dCap) (hs : a.eval s = .slice sp sLen sCap)
    (cs : List Nat) (hn : cs.length = Nat.min sLen dLen) (hdp : 0 < cs.length → dp = some ⟨g, off, none⟩) (hsrc : Row w sp cs) (ht : w.there g off cs.length) (h : K (a.put o.dst (goInt cs.length)) (w.setCells g off (cs.map bv))) :
    if Region.wanted o (yielded ops a.tmps) = true then Oper.wp Tryd.prog o a w K Q else E := by
  have hw : Region.wanted o (yielded ops a.tmps) = true := by simp [Region.wanted, hgd]
  rw [if_pos hw]
  by_cases h0 : cs.length = 0
  · obtain rfl : cs = [] := List.eq_nil_of_length_eq_zero h0
    have hrun := run_copy_none (P := Tryd.prog) w 25 25 o.type 5 dp sp dLen dCap sLen sCap Tryd.underlying25 size8 (by simpa using hn.symm)
    unfold Oper.wp
    simp [execOp, ho, resolve, invoke, builtin, hd, hs, hrun, Result.andThen]
    exact h
  · obtain rfl := hdp (by omega)
    rcases hsrc with rfl | ⟨b, o', rfl, hc⟩
    · simp at h0
    · have hrun := run_copy_cells (P := Tryd.prog) w 25 25 o.type 5 g off dLen dCap ⟨b, o', none⟩ sLen sCap (cs.map bv) Tryd.underlying25 size8 (by simpa using hn) (Row.cells (.inr ⟨b, o', rfl, hc⟩)) (fun j hj => (ht j (by simpa using hj)).1) (fun j hj => (ht j (by simpa using hj)).2) (bv_one cs)
      unfold Oper.wp
      simp [execOp, ho, resolve, invoke, builtin, hd, hs, hrun, Result.andThen]
      exact h
theorem wpList_copy_at {ops : Array Oper} {rest : List Oper} {o : Oper} {a : Act} {w : World} {Q : Exit → Act → World → Prop} (hgd : o.guard = none) (d s : Operand)
    (ho : o.op = .call { callee := .builtin .copy, args := #[d, s], argTypes := #[25, 25] }) (g off dLen dCap sLen sCap : Nat) (dp sp : Option Addr) (hd : a.eval d = .slice dp dLen dCap) (hs : a.eval s = .slice sp sLen sCap)
    (cs : List Nat) (hn : cs.length = Nat.min sLen dLen) (hdp : 0 < cs.length → dp = some ⟨g, off, none⟩) (hsrc : Row w sp cs) (ht : w.there g off cs.length) (h : wpList Tryd.prog ops Q rest (a.put o.dst (goInt cs.length)) (w.setCells g off (cs.map bv))) :
    wpList Tryd.prog ops Q (o :: rest) a w := by
  refine wpList_plain hgd fun K hK => ?_
  have := law_copy (ops := #[]) (Q := Q) (E := True) hgd d s ho g off dLen dCap sLen sCap dp sp hd hs cs hn hdp hsrc ht (hK _ _ h)
  rw [if_pos (by simp [Region.wanted, hgd])] at this
  exact this
theorem step_copy {ops : Array Oper} {i : Nat} {o : Oper} {fuel : Nat} {listed : Array Bool} {md : Region.Mode} {a : Act} {w : World} {Q : Exit → Act → World → Prop} (hi : ops[i]? = some o) (hr : Region.ready md ops listed = [i]) (hgd : o.guard = none) (d s : Operand)
    (ho : o.op = .call { callee := .builtin .copy, args := #[d, s], argTypes := #[25, 25] }) (g off dLen dCap sLen sCap : Nat) (dp sp : Option Addr) (hd : a.eval d = .slice dp dLen dCap) (hs : a.eval s = .slice sp sLen sCap)
    (cs : List Nat) (hn : cs.length = Nat.min sLen dLen) (hdp : 0 < cs.length → dp = some ⟨g, off, none⟩) (hsrc : Row w sp cs) (ht : w.there g off cs.length) (h : wpAny Tryd.prog md ops Q fuel (listed.setIfInBounds i true) (a.put o.dst (goInt cs.length)) (w.setCells g off (cs.map bv))) :
    wpAny Tryd.prog md ops Q (fuel + 1) listed a w :=
  wpAny_ready (rs := [i]) hr (by simp) (AllReady.cons hi (fun _ hK => law_copy hgd d s ho g off dLen dCap sLen sCap dp sp hd hs cs hn hdp hsrc ht (hK _ _ h)) AllReady.nil)
theorem slice_on (g off n cap lo : Nat) (i : Int) (hi : i = (lo : Int)) (hlo : lo ≤ n) :
    ∃ ao, (∀ w, (Instr.slice 25 (.slice (some ⟨g, off, none⟩) n cap) (some (.int .i64 i)) none none).run Tryd.prog w = .ok (.slice ao (n - lo) (cap - lo)) w) ∧ (∀ a, ao = some a → a.block = g) ∧ (∀ W xs, xs.length = n → n ≤ cap → Row W (some ⟨g, off, none⟩) xs → Row W ao (xs.drop lo)) := by
  subst hi
  refine ⟨if cap = lo then some ⟨g, off, none⟩ else some ⟨g, off + lo, none⟩, fun w => ?_, fun a ha => ?_, fun W xs hl hc hr => ?_⟩
  · rw [run_slice_l w 25 (some ⟨g, off, none⟩) n cap underBytes .i64 (lo : Int) (by omega) (by omega), sizeRun]
    simp [Result.andThen, sliced, add_none]
  · split at ha <;> (cases ha; rfl)
  · split
    · exact .inl (List.drop_of_length_le (by omega))
    · exact hr.dropN lo
theorem slice_hm (ao : Option Addr) (n cap m : Nat) (i : Int) (hi : i = (m : Int)) (hm : m ≤ cap) (h0 : 0 < m) (b off : Nat) (hao : ao = some ⟨b, off, none⟩) (w : World) : (Instr.slice 25 (.slice ao n cap) none (some (.int .i64 i)) (some (.int .i64 i))).run Tryd.prog w = .ok (.slice ao m m) w := by
  subst hi
  rw [run_slice_hm w 25 ao n cap underBytes .i64 .i64 (m : Int) (m : Int) (by omega) (by omega) (by omega), sizeRun]
  subst hao
  simp [Result.andThen, sliced, add_none, show ¬ m = 0 by omega]

theorem Hsh.setSize {w : World} {g : Nat} {reg blk : List Nat} {n : Nat} (h : Hsh w g reg blk n) (m : Nat) (i : Int) (hi : i = (m : Int)) : Hsh (w.setCell ⟨g, 72, none⟩ (.int .u64 i)) g reg blk m := by
  subst hi
  refine ⟨?_, h.2⟩
  have := h.1.set 72 (.int .u64 (m : Int))
  rw [List.set_append_right _ _ (by simp [h.2.1]), List.set_append_right _ _ (by simp [h.2.1, h.2.2])] at this
  simp only [List.length_map, h.2.1, h.2.2] at this
  exact this
theorem Hsh.copyIn {w : World} {g : Nat} {reg blk : List Nat} {n : Nat} (h : Hsh w g reg blk n) (hd : Nat) (c : List Nat) (hf : hd + c.length ≤ 64) : Hsh (w.setCells g (8 + hd) (c.map bv)) g reg (blk.take hd ++ c ++ blk.drop (hd + c.length)) n := by
  refine ⟨?_, h.2.1, by simp [h.2.2]; omega⟩
  have e : reg.map wv ++ (blk.map bv ++ [.int .u64 (n : Int)]) = (reg.map wv ++ (blk.take hd).map bv) ++ (((blk.drop hd).take c.length).map bv ++ ((blk.drop (hd + c.length)).map bv ++ [.int .u64 (n : Int)])) := by
    have : blk = blk.take hd ++ ((blk.drop hd).take c.length ++ blk.drop (hd + c.length)) := by rw [← List.drop_drop, List.take_append_drop, List.take_append_drop]
    conv => lhs; rw [this]
    simp
  have hb := h.1
  rw [e] at hb
  have := hb.setCells (vs := c.map bv) (by simp [h.2.2]; omega)
  simp only [List.length_append, List.length_map, List.length_take, h.2.1, h.2.2, Nat.min_eq_left (show hd ≤ 64 by omega)] at this
  simpa using this
theorem Hsh.there {w : World} {g : Nat} {reg blk : List Nat} {n : Nat} (h : Hsh w g reg blk n) (o m : Nat) (hm : o + m ≤ 73) : w.there g o m := h.1.there o m (by simp [h.2.1, h.2.2]; omega)

set_option linter.unusedSimpArgs false in
set_option maxHeartbeats 1000000 in
set_option maxRecDepth 100000 in
theorem write_any (g n cap s : Nat) (ao : Option Addr) (xs reg t : List Nat) (w : World) (hh : Hsh w g reg (hold t) s) (htl : t.length = s % 64) (hs : s + xs.length < 9223372036854775808) (hx : ∀ x ∈ xs, x < 256) (htb : ∀ x ∈ t, x < 256) (hr : Row w ao xs) (hao : 0 < n → ∀ a, ao = some a → a.block ≠ g) (hn : n = xs.length) (hnc : n ≤ cap) (hT : Roots w 2) (hg : 2 ≠ g) :
    Calls Tryd.prog 50 #[.pointer (some ⟨g, 0, none⟩), .slice ao n cap] w fun e w' => e = .returned (.tuple #[]) ∧ Hid (Hsh w' g (absorb reg (t ++ xs)) (hold (t ++ xs)) (s + xs.length) ∧ But g w w') := by
  have HH : Hid (Hsh w g (absorb reg (t ++ xs.take 0)) (hold (t ++ xs.take 0)) (s + 0)) := by rw [List.take_zero, List.append_nil, absorb_short reg t (by omega)]; exact hh
  have HX : Hid (∀ x ∈ xs, x < 256) := hx
  have HTB : Hid (∀ x ∈ t, x < 256) := htb
  have HT : Hid (Roots w 2) := hT
  have HR : Hid (Row w ao (xs.drop 0)) := hr
  have HAO : Hid (0 < n → ∀ a, ao = some a → a.block ≠ g) := hao
  have HN : Hid (n = xs.length) := hn
  have HTL : Hid (t.length = s % 64) := htl
  have hns : s + n < 9223372036854775808 := by omega
  clear hh hx htb hT hr hao hn htl hs
  go_enter Tryd.func50, Tryd.ntmps50
  go_wp2
  go_loopw [1] (fun v wr => ∃ k m c : Nat, ∃ ak, k + m = n ∧ m ≤ c ∧ c ≤ cap ∧ v = .slice ak m c ∧ Hid (Row wr ak (xs.drop k)) ∧ Hid (0 < n → ∀ a, ak = some a → a.block ≠ g) ∧ Hid (Hsh wr g (absorb reg (t ++ xs.take k)) (hold (t ++ xs.take k)) (s + k)) ∧ Hid (But g w wr)) (fun v _ => slLen v)
  case atStart => exact ⟨0, n, cap, ao, by omega, hnc, Nat.le_refl _, rfl, HR, HAO, HH, But.refl _ _⟩
  case round =>
    clear HH HR HAO
    obtain ⟨k, m, c, ak, hkm, hmc, hcc, rfl, HR, HAO, HH, HB⟩ := hrel
    by_cases hlt : 0 < m
    · obtain ⟨b, off, rfl⟩ := HR.out.form (by rw [List.length_drop, ← HN.out]; omega)
      have hsz := HH.out.size
      have hsz2 : wr.cell? ⟨g, 72, none⟩ = some (.int .u64 ((s : Int) + (k : Int))) := by rw [hsz]; simp
      clear hsz
      go_wp2_with fail
      refine (held_any g (s + k) wr HH.out.size).mono ?_
      rintro e w' ⟨rfl, rfl⟩
      obtain ⟨hd, hhd⟩ : ∃ hd, hd = (s + k) % 64 := ⟨_, rfl⟩
      rw [← hhd]
      have HHD : Hid (hd = (s + k) % 64) := hhd
      have hd64 : hd < 64 := by omega
      clear hhd
      obtain ⟨q, hq⟩ : ∃ q, q = 64 - hd := ⟨_, rfl⟩
      have hB : (64 : Int) - (hd : Int) = (q : Int) := by omega
      have hq1 : hd + q ≤ 64 ∧ 64 ≤ hd + q := by omega
      clear hq
      by_cases hA : m < q
      · have hrow : Hid (Row w' (some ⟨b, off, none⟩) ((xs.drop k).take m)) := HR.out.takeN m
        have hcl : Hid (((xs.drop k).take m).length = m) := by show _ = _; rw [List.length_take, List.length_drop, ← HN.out]; omega
        have hsl1 : ∀ W, (Instr.sliceAt 84 (.pointer (some ⟨g, 8, none⟩)) (some (.int .i64 (hd : Int))) none none).run Tryd.prog W = .ok (.slice (some ⟨g, 8 + hd, none⟩) (64 - hd) (64 - hd)) W := fun W => arr_from 84 64 underArr64 g 8 hd _ rfl hd64 W
        have hsl2 : ∀ W, (Instr.slice 25 (.slice (some ⟨b, off, none⟩) m c) none (some (.int .i64 (m : Int))) (some (.int .i64 (m : Int)))).run Tryd.prog W = .ok (.slice (some ⟨b, off, none⟩) m m) W := fun W => slice_hm _ m c m _ rfl (by omega) (by omega) b off rfl W
        obtain ⟨ak, hsl3, HAK⟩ := slice_on b off m c m ((m : Nat) : Int) rfl (by omega)
        replace HAK := hide HAK
        go_wp2
        go_cut [] (fun wx => Hid (Hsh wx g (absorb reg (t ++ xs.take k)) ((hold (t ++ xs.take k)).take hd ++ ((xs.drop k).take m) ++ (hold (t ++ xs.take k)).drop (hd + m)) (s + k)) ∧ Hid (But g w' wx))
        case first =>
          rename_i J KK hJ hKK
          refine region_any_var (by kernel_rfl) ?_
          intro A hA
          have hsz : A.tmps.size = 46 := by rw [hA]; rfl
          have e0 : A.eval (.tmp 0) = .pointer (some ⟨g, 0, none⟩) := by rw [hA]; rfl
          have e1 : A.eval (.tmp 1) = .slice (some ⟨b, off, none⟩) m c := by rw [hA]; rfl
          have e4 : A.eval (.tmp 4) = .int .i64 (hd : Int) := by rw [hA]; rfl
          have e5 : A.eval (.tmp 5) = .int .i64 (m : Int) := by rw [hA]; rfl
          refine take_move (i := 0) 18 0 (.pointer (some ⟨g, 0, none⟩)) rfl rfl rfl (by kernel_rfl) (by kernel_rfl) (by kernel_rfl) (fun _ _ _ h => h) rfl (by simp [ev_put, hsz, sz_put, e0, e1, e4, e5]) ?_
          refine take_run (i := 1) 19 (.pointer (some ⟨g, 0, none⟩)) rfl rfl (by kernel_rfl) (by kernel_rfl) (by kernel_rfl) (fun _ _ _ h => h) rfl (fun w => by unfold execOp; simp [ev_put, hsz, sz_put] <;> go_simp) ?_
          refine take_run (i := 2) 20 (.pointer (some ⟨g, 8, none⟩)) rfl rfl (by kernel_rfl) (by kernel_rfl) (by kernel_rfl) (fun _ _ _ h => h) rfl (fun w => by unfold execOp; simp [ev_put, hsz, sz_put] <;> go_simp) ?_
          refine take_move (i := 3) 21 4 (.int .i64 (hd : Int)) rfl rfl rfl (by kernel_rfl) (by kernel_rfl) (by kernel_rfl) (fun _ _ _ h => h) rfl (by simp [ev_put, hsz, sz_put, e0, e1, e4, e5]) ?_
          refine take_run (i := 4) 22 (.slice (some ⟨g, 8 + hd, none⟩) (64 - hd) (64 - hd)) rfl rfl (by kernel_rfl) (by kernel_rfl) (by kernel_rfl) (fun _ _ _ h => h) rfl (fun w => by unfold execOp; simp [ev_put, hsz, sz_put] <;> go_simp) ?_
          refine take_move (i := 5) 23 1 (.slice (some ⟨b, off, none⟩) m c) rfl rfl rfl (by kernel_rfl) (by kernel_rfl) (by kernel_rfl) (fun _ _ _ h => h) rfl (by simp [ev_put, hsz, sz_put, e0, e1, e4, e5]) ?_
          refine take_move (i := 6) 24 5 (.int .i64 (m : Int)) rfl rfl rfl (by kernel_rfl) (by kernel_rfl) (by kernel_rfl) (fun _ _ _ h => h) rfl (by simp [ev_put, hsz, sz_put, e0, e1, e4, e5]) ?_
          refine take_move (i := 7) 25 5 (.int .i64 (m : Int)) rfl rfl rfl (by kernel_rfl) (by kernel_rfl) (by kernel_rfl) (fun _ _ _ h => h) rfl (by simp [ev_put, hsz, sz_put, e0, e1, e4, e5]) ?_
          refine take_run (i := 8) 26 (.slice (some ⟨b, off, none⟩) m m) rfl rfl (by kernel_rfl) (by kernel_rfl) (by kernel_rfl) (fun _ _ _ h => h) rfl (fun w => by unfold execOp; simp [ev_put, hsz, sz_put] <;> go_simp) ?_
          refine step_copy (i := 9) rfl (by kernel_rfl) rfl (.tmp 22) (.tmp 26) rfl g (8 + hd) (64 - hd) (64 - hd) m m (some ⟨g, 8 + hd, none⟩) (some ⟨b, off, none⟩) (by simp [ev_put, hsz, sz_put]) (by simp [ev_put, hsz, sz_put]) ((xs.drop k).take m) (by rw [hcl.out]; exact (Nat.min_eq_left (by omega)).symm) (fun _ => rfl) (by exact hrow.out) (by rw [hcl.out]; exact HH.out.there _ _ (by omega)) ?_
          refine wpAny_done (by kernel_rfl) ?_ _
          subst hA
          refine hKK _ _ (Met.intro (hJ _ _ ?_))
          simp only [put_mk, List.set_cons_succ, List.set_cons_zero]
          (repeat apply Exists.intro)
          refine ⟨?_, rfl⟩
          have h1 := (show Hsh w'.drew g (absorb reg (t ++ xs.take k)) (hold (t ++ xs.take k)) (s + k) from HH.out).copyIn hd ((xs.drop k).take m) (by rw [hcl.out]; omega)
          rw [hcl.out] at h1
          exact ⟨h1, (But.drewN g w' 1).trans (But.setCells g _ _ _)⟩
        case rest =>
          obtain ⟨H1, HB1⟩ := hcut
          have e72 : wc.cell? ⟨g, 72, none⟩ = some (.int .u64 ((s : Int) + (k : Int))) := by rw [H1.out.size]; simp
          have f72 : wc.frozen? ⟨g, 72, none⟩ = false := H1.out.1.frozen _
          go_wp2
          go_roundw
          case rel =>
            refine ⟨k + m, 0, c - m, ak, by omega, by omega, by omega, rfl, ?_, ?_, ?_, ?_⟩
            · exact .inl (by rw [List.drop_of_length_le (by rw [← HN.out]; omega)])
            · intro hn0 a ha
              rw [HAK.out.1 a ha]
              exact HAO.out hn0 _ rfl
            · have := H1.out.setSize (s + (k + m)) ((s : Int) + (k : Int) + (m : Int)) (by simp; omega)
              have hw := write_part reg (xs := xs) (m := m) HTL.out HHD.out (by rw [← HN.out]; omega) (by omega)
              rw [hw.1, hw.2]
              exact this
            · exact (HB.out.trans HB1.out).trans (But.setCell g wc _ _)
          case measure => simp [slLen]; omega
      · have hrow : Hid (Row w' (some ⟨b, off, none⟩) ((xs.drop k).take q)) := HR.out.takeN q
        have hcl : Hid (((xs.drop k).take q).length = q) := by show _ = _; rw [List.length_take, List.length_drop, ← HN.out]; omega
        have hsl1 : ∀ W, (Instr.sliceAt 84 (.pointer (some ⟨g, 8, none⟩)) (some (.int .i64 (hd : Int))) none none).run Tryd.prog W = .ok (.slice (some ⟨g, 8 + hd, none⟩) (64 - hd) (64 - hd)) W := fun W => arr_from 84 64 underArr64 g 8 hd _ rfl hd64 W
        have hsl2 : ∀ W, (Instr.slice 25 (.slice (some ⟨b, off, none⟩) m c) none (some (.int .i64 (q : Int))) (some (.int .i64 (q : Int)))).run Tryd.prog W = .ok (.slice (some ⟨b, off, none⟩) q q) W := fun W => slice_hm _ m c q _ rfl (by omega) (by omega) b off rfl W
        obtain ⟨ak, hsl3, HAK⟩ := slice_on b off m c q ((q : Nat) : Int) rfl (by omega)
        replace HAK := hide HAK
        go_wp2
        go_cut [] (fun wx => Hid (Hsh wx g (absorb reg (t ++ xs.take k)) ((hold (t ++ xs.take k)).take hd ++ ((xs.drop k).take q) ++ (hold (t ++ xs.take k)).drop (hd + q)) (s + k)) ∧ Hid (But g w' wx))
        case first =>
          rename_i J KK hJ hKK
          refine region_any_var (by kernel_rfl) ?_
          intro A hA
          have hsz : A.tmps.size = 46 := by rw [hA]; rfl
          have e0 : A.eval (.tmp 0) = .pointer (some ⟨g, 0, none⟩) := by rw [hA]; rfl
          have e1 : A.eval (.tmp 1) = .slice (some ⟨b, off, none⟩) m c := by rw [hA]; rfl
          have e4 : A.eval (.tmp 4) = .int .i64 (hd : Int) := by rw [hA]; rfl
          have e5 : A.eval (.tmp 5) = .int .i64 (q : Int) := by rw [hA]; rfl
          refine take_move (i := 0) 18 0 (.pointer (some ⟨g, 0, none⟩)) rfl rfl rfl (by kernel_rfl) (by kernel_rfl) (by kernel_rfl) (fun _ _ _ h => h) rfl (by simp [ev_put, hsz, sz_put, e0, e1, e4, e5]) ?_
          refine take_run (i := 1) 19 (.pointer (some ⟨g, 0, none⟩)) rfl rfl (by kernel_rfl) (by kernel_rfl) (by kernel_rfl) (fun _ _ _ h => h) rfl (fun w => by unfold execOp; simp [ev_put, hsz, sz_put] <;> go_simp) ?_
          refine take_run (i := 2) 20 (.pointer (some ⟨g, 8, none⟩)) rfl rfl (by kernel_rfl) (by kernel_rfl) (by kernel_rfl) (fun _ _ _ h => h) rfl (fun w => by unfold execOp; simp [ev_put, hsz, sz_put] <;> go_simp) ?_
          refine take_move (i := 3) 21 4 (.int .i64 (hd : Int)) rfl rfl rfl (by kernel_rfl) (by kernel_rfl) (by kernel_rfl) (fun _ _ _ h => h) rfl (by simp [ev_put, hsz, sz_put, e0, e1, e4, e5]) ?_
          refine take_run (i := 4) 22 (.slice (some ⟨g, 8 + hd, none⟩) (64 - hd) (64 - hd)) rfl rfl (by kernel_rfl) (by kernel_rfl) (by kernel_rfl) (fun _ _ _ h => h) rfl (fun w => by unfold execOp; simp [ev_put, hsz, sz_put] <;> go_simp) ?_
          refine take_move (i := 5) 23 1 (.slice (some ⟨b, off, none⟩) m c) rfl rfl rfl (by kernel_rfl) (by kernel_rfl) (by kernel_rfl) (fun _ _ _ h => h) rfl (by simp [ev_put, hsz, sz_put, e0, e1, e4, e5]) ?_
          refine take_move (i := 6) 24 5 (.int .i64 (q : Int)) rfl rfl rfl (by kernel_rfl) (by kernel_rfl) (by kernel_rfl) (fun _ _ _ h => h) rfl (by simp [ev_put, hsz, sz_put, e0, e1, e4, e5]) ?_
          refine take_move (i := 7) 25 5 (.int .i64 (q : Int)) rfl rfl rfl (by kernel_rfl) (by kernel_rfl) (by kernel_rfl) (fun _ _ _ h => h) rfl (by simp [ev_put, hsz, sz_put, e0, e1, e4, e5]) ?_
          refine take_run (i := 8) 26 (.slice (some ⟨b, off, none⟩) q q) rfl rfl (by kernel_rfl) (by kernel_rfl) (by kernel_rfl) (fun _ _ _ h => h) rfl (fun w => by unfold execOp; simp [ev_put, hsz, sz_put] <;> go_simp) ?_
          refine step_copy (i := 9) rfl (by kernel_rfl) rfl (.tmp 22) (.tmp 26) rfl g (8 + hd) (64 - hd) (64 - hd) q q (some ⟨g, 8 + hd, none⟩) (some ⟨b, off, none⟩) (by simp [ev_put, hsz, sz_put]) (by simp [ev_put, hsz, sz_put]) ((xs.drop k).take q) (by rw [hcl.out]; exact (Nat.min_eq_left (by omega)).symm) (fun _ => rfl) (by exact hrow.out) (by rw [hcl.out]; exact HH.out.there _ _ (by omega)) ?_
          refine wpAny_done (by kernel_rfl) ?_ _
          subst hA
          refine hKK _ _ (Met.intro (hJ _ _ ?_))
          simp only [put_mk, List.set_cons_succ, List.set_cons_zero]
          (repeat apply Exists.intro)
          refine ⟨?_, rfl⟩
          have h1 := (show Hsh w'.drew g (absorb reg (t ++ xs.take k)) (hold (t ++ xs.take k)) (s + k) from HH.out).copyIn hd ((xs.drop k).take q) (by rw [hcl.out]; omega)
          rw [hcl.out] at h1
          exact ⟨h1, (But.drewN g w' 1).trans (But.setCells g _ _ _)⟩
        case rest =>
          obtain ⟨H1, HB1⟩ := hcut
          have e72 : wc.cell? ⟨g, 72, none⟩ = some (.int .u64 ((s : Int) + (k : Int))) := by rw [H1.out.size]; simp
          have f72 : wc.frozen? ⟨g, 72, none⟩ = false := H1.out.1.frozen _
          have hw := write_full reg (xs := xs) (m := q) HTL.out HHD.out (by rw [← HN.out]; omega) (by omega)
          have HW : Hid (absorb reg (t ++ xs.take (k + q)) = compress (absorb reg (t ++ xs.take k)) ((hold (t ++ xs.take k)).take hd ++ (xs.drop k).take q ++ (hold (t ++ xs.take k)).drop (hd + q)) ∧ hold (t ++ xs.take (k + q)) = List.replicate 64 0) := hw
          clear hw
          have HBY : Hid (∀ x ∈ (hold (t ++ xs.take k)).take hd ++ (xs.drop k).take q ++ (hold (t ++ xs.take k)).drop (hd + q), x < 256) := by
            have hh := hold_lt (lt_append HTB.out (lt_take HX.out k))
            exact lt_append (lt_append (lt_take hh _) (lt_take (lt_drop HX.out _) _)) (lt_drop hh _)
          have H3 : Hid (Hsh (wc.setCell ⟨g, 72, none⟩ (.int .u64 ((s : Int) + (k : Int) + (q : Int)))) g (absorb reg (t ++ xs.take k)) ((hold (t ++ xs.take k)).take hd ++ (xs.drop k).take q ++ (hold (t ++ xs.take k)).drop (hd + q)) (s + (k + q))) := H1.out.setSize (s + (k + q)) _ (by simp; omega)
          have HB3 : Hid (But g w (wc.setCell ⟨g, 72, none⟩ (.int .u64 ((s : Int) + (k : Int) + (q : Int))))) := (HB.out.trans HB1.out).trans (But.setCell g wc _ _)
          have HR3 : Hid (Row (wc.setCell ⟨g, 72, none⟩ (.int .u64 ((s : Int) + (k : Int) + (q : Int)))) (some ⟨b, off, none⟩) (xs.drop k)) := HR.out.but (HB1.out.trans (But.setCell g wc _ _)) (HAO.out (by omega))
          go_wp2_with fail
          refine (turn_any g (s + (k + q)) _ _ _ H3.out HBY.out (HT.out.but HB3.out hg)).mono ?_
          rintro e w4 ⟨rfl, h4⟩
          go_wp2
          go_roundw
          case rel =>
            refine ⟨k + q, m - q, c - q, ak, by omega, by omega, by omega, rfl, ?_, ?_, ?_, ?_⟩
            · have := HAK.out.2 w4 (xs.drop k) (by rw [List.length_drop, ← HN.out]; omega) hmc (HR3.out.but h4.out.2 (HAO.out (by omega)))
              rw [List.drop_drop] at this
              exact this
            · intro hn0 a ha
              rw [HAK.out.1 a ha]
              exact HAO.out hn0 _ rfl
            · rw [HW.out.1, HW.out.2]
              exact h4.out.1
            · exact HB3.out.trans h4.out.2
          case measure => simp [slLen]; omega
    · go_wp2
      go_returns
      obtain rfl : m = 0 := by omega
      refine ⟨rfl, ?_, HB.out⟩
      have := HH.out
      rw [show k = xs.length by have := HN.out; omega, List.take_length] at this
      exact this
end Go.Proofs.YtonnnolnkjahgaaDoor
