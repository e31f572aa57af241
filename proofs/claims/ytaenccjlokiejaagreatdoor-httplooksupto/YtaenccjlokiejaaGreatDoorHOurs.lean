/- Lists of fields in the law's own form. -/
import Derived.Test.YtaenccjlokiejaaGreatDoorHRefSmall
import Derived.Test.YtaenccjlokiejaaGreatDoorHAdd
namespace Go.Proofs.YtaenccjlokiejaaGreatDoor
open Go.RowKit Go.Shelf

theorem infoField : (Tryz.prog.info? 86).map (fun i => (i.zero, i.size, i.bytes)) = some (some (.agg #[.string { data := #[] }, .string { data := #[] }]), 2, 32) := by kernel_rfl
theorem infoFieldG : ∃ i0, Tryz.prog.info? 86 = some i0 ∧ i0.zero = some (.agg #[.string { data := #[] }, .string { data := #[] }]) ∧ i0.size = 2 ∧ i0.bytes = 32 := info_parts infoField
theorem law_appO {w : World} {ops : Array Oper} {o : Oper} {a : Act} {K : Act → World → Prop} {Q : Exit → Act → World → Prop} {E : Prop} {i0 : TypeInfo} (hgd : o.guard = none) (s x : Operand)
    (ho : o.op = .call { callee := .builtin .append, args := #[s, x], argTypes := #[30, 30] }) (hi : Tryz.prog.info? 86 = some i0) (hz0 : i0.zero = some (.agg #[.string { data := #[] }, .string { data := #[] }])) (hz1 : i0.size = 2) (hz2 : i0.bytes = 32)
    (B : Nat) (v : Value) (l : List Fl) (q : Fl) (hs : a.eval s = v) (hown : FOwn 86 w B v l)
    (ad : Addr) (hx : a.eval x = .slice (some ad) 1 1) (hr : FRow w (some ad) [q]) (hsz : (l.length + 1) * 32 ≤ 140737488355328) (hB : B ≤ w.heap.size)
    (h : ∀ fo fc w', FOwn 86 w' B (.slice fo (l.length + 1) fc) (l ++ [q]) → w.grownBy w' v.ownBlock → K (a.put o.dst (.slice fo (l.length + 1) fc)) w') : if Region.wanted o (yielded ops a.tmps) = true then Oper.wp Tryz.prog o a w K Q else E := by
  rw [if_pos (by simp [Region.wanted, hgd])]
  obtain ⟨v', w', hrun, h1, h2⟩ := run_append_fs (l := l) (r := [q]) Tryz.underlying30 hi hz0 hz1 hz2 hown (some ad) 1 hr (by simpa using hsz) hB o.type
  obtain ⟨fo, fc, e2, _⟩ := h1.shape
  rw [List.length_append] at e2
  subst e2
  have hrun2 : (Builtin.append_ #[30, 30] o.type #[v, .slice (some ad) 1 1]).run Tryz.prog w = .ok (.slice fo (l.length + [q].length) fc) w' := hrun
  unfold Oper.wp
  simp [execOp, ho, resolve, invoke, builtin, hs, hx, hrun2, Result.andThen]
  exact h fo fc w' h1 h2
theorem below_fgrown {t : TypeId} {B : Nat} {w0 w w' : World} {v : Value} {l : List Fl} (h0 : Below B w0 w) (hB0 : B ≤ w0.heap.size) (ho : FOwn t w B v l) (hg : w.grownBy w' v.ownBlock) : Below B w0 w' := by
  have hF := frm_grown (b := B) hg ho (Nat.le_trans hB0 h0.size)
  exact h0.trans ⟨hg.os, hg.tape, hg.output, hF.size, fun j hj => hF.block j hj (by omega)⟩
theorem below_self (w : World) (o : Obj) : Below w.heap.size w (w.drew.alloc o) := Below.alloc (below_drewN (Below.refl _ _) 1) (Nat.le_refl _) _
theorem take_snoc (l : List Fl) (k : Nat) (f : Fl) (h : l[k]? = some f) : l.take (k + 1) = l.take k ++ [f] := by rw [List.take_add_one, h]; rfl
set_option maxHeartbeats 1000000 in
set_option maxRecDepth 100000 in
theorem ours_any (so : Option Addr) (fs : List Fl) (n c : Nat) (w : World) (hn : n = fs.length) (hnl : n * 32 ≤ 140737488355328) (hs : FRow w so fs) :
    Calls Tryz.prog 28 #[.slice so n c] w fun e w' => ∃ v, e = .returned v ∧ FOwn 86 w' w.heap.size v fs ∧ Below w.heap.size w w' := by
  obtain ⟨i0, hi, hz0, hz1, hz2⟩ := infoFieldG
  have HN := hide hn
  have HS := hide hs
  have HNL := hide hnl
  obtain ⟨B, hB⟩ : ∃ B, B = w.heap.size := ⟨_, rfl⟩
  rw [← hB]
  have HB := hide hB
  clear hs hn hnl hB
  go_enter Tryz.func28, Tryz.ntmps28
  go_wp2_with fail
  go_loopw [3, 4] (fun v i wr => ∃ k : Nat, k ≤ n ∧ i = .int .i64 (k : Int) ∧ Hid (FOwn 86 wr B v (fs.take k)) ∧ Hid (Below B w wr)) (fun _ i _ => n - (intOf i).toNat)
  case atStart => exact ⟨0, Nat.zero_le _, rfl, by rw [List.take_zero]; exact fown_nil _ _ _, Below.refl _ _⟩
  case round =>
    obtain ⟨k, hk, rfl, HFO, HBF⟩ := hrel
    obtain ⟨vao, vcap, hv, -, -, -⟩ := HFO.out.shape
    have hltk : (fs.take k).length = k := by rw [List.length_take]; have := HN.out; omega
    rw [hltk] at hv
    subst hv
    by_cases hkn : k < n
    · obtain ⟨f, hf⟩ : ∃ f, fs[k]? = some f := ⟨_, List.getElem?_eq_getElem (by rw [← HN.out]; exact hkn)⟩
      obtain ⟨b, off, rfl⟩ := HS.out.form (by have := HN.out; omega)
      have hbw : Below w.heap.size w wr := by rw [← HB.out]; exact HBF.out
      obtain ⟨y1, y2⟩ := (HS.out.keep hbw).cell hf
      rw [Nat.mul_comm] at y1 y2
      have HFS : Hid (∀ fo fc w', FOwn 86 w' B (.slice fo (k + 1) fc) (fs.take k ++ [f]) → (wr.drew.alloc (.cells #[.string (str f.1), .string (str f.2)] 86)).grownBy w' (Value.slice vao k vcap).ownBlock → FOwn 86 w' B (.slice fo (k + 1) fc) (fs.take (k + 1)) ∧ Below B w w') := by
        intro fo fc w' h1 h2
        rw [take_snoc fs k f hf]
        have hBr : B ≤ wr.heap.size := Nat.le_trans (Nat.le_of_eq HB.out) HBF.out.size
        have hb1 := below_self wr (.cells #[.string (str f.1), .string (str f.2)] 86)
        exact ⟨h1, below_fgrown (HBF.out.trans (hb1.mono hBr)) (Nat.le_of_eq HB.out) (HFO.out.keep hb1) h2⟩
      have HBr : Hid (B ≤ (wr.drew.alloc (.cells #[.string (str f.1), .string (str f.2)] 86)).heap.size) := by
        show _ ≤ _
        have := (below_self wr (.cells #[.string (str f.1), .string (str f.2)] 86)).size
        have h2 := HBF.out.size
        have h3 := HB.out
        omega
      have HFK := hide (HFO.out.keep (below_self wr (.cells #[.string (str f.1), .string (str f.2)] 86)))
      have HFR : Hid (FRow (wr.drew.alloc (.cells #[.string (str f.1), .string (str f.2)] 86)) (some ⟨wr.heap.size, 0, none⟩) [f]) := frow_one wr.drew 86 f
      have HSZ : Hid (((fs.take k).length + 1) * 32 ≤ 140737488355328) := by show _ ≤ _; rw [hltk]; have := HNL.out; omega
      have HLK := hide hltk
      have HKB : Hid ((k : Int) + 1 ≤ 4611686018427387904) := by show _ ≤ _; have := HNL.out; omega
      clear hbw hf hltk HFO
      go_wp2_with fail
      go_region_law (first
        | (refine law_appO rfl (.tmp 11) (.tmp 23) rfl hi hz0 hz1 hz2 B _ (fs.take k) f rfl HFK.out ⟨wr.heap.size, 0, none⟩ rfl HFR.out HSZ.out HBr.out ?_
           intro fo fc w5 hown5 hgr5
           rw [HLK.out] at hown5 ⊢
           have HX := hide (HFS.out fo fc w5 hown5 hgr5)
           clear hown5 hgr5))
      all_goals
        clear HFS HFK HFR y1 y2
        have hkb := HKB.out
        go_wp2_with fail
        go_roundw
        case rel => exact ⟨k + 1, by omega, by go_num, hide HX.out.1, hide HX.out.2⟩
        case measure => simp [intOf]; omega
    · obtain rfl : k = n := by omega
      have hte : fs.take k = fs := List.take_of_length_le (by have := HN.out; omega)
      rw [hte] at HFO
      go_wp2_with fail
      go_ret
      exact ⟨_, rfl, HFO.out, HBF.out⟩
end Go.Proofs.YtaenccjlokiejaaGreatDoor
