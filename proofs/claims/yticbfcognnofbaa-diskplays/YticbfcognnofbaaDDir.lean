/- The laws of a directory's map at the operations; doneOn, fails, find. -/
import Derived.Test.YticbfcognnofbaaDSmall
namespace Go.Proofs.Yticbfcognnofbaa
open Go.RowKit Go.Maps

section
variable {w : World} {ops : Array Oper} {rest : List Oper} {o : Oper} {a : Act} {Q : Exit → Act → World → Prop}
theorem wpList_dir_put (hg : o.guard = none) (m x v : Operand) (hop : o.op = Op.mapUpdate 84 m x v) (bn : Nat) (bs : List Nat) (d : Dir) (nm : Nm) (i b : Nat)
    (hm : a.eval m = .map (some bn)) (h : DirAt w bn bs d) (hx : a.eval x = .string (str nm)) (hv : a.eval v = pf b) (hb : bs[i]? = some b) (hl : nm.length ≤ maxLen) (hd : d.length < maxLen)
    (hK : ∀ w', DirAt w' bn bs (dput nm i d) → Fr [bn] w w' → wpList Try.prog ops Q rest (a.put o.dst undef) w') : wpList Try.prog ops Q (o :: rest) a w := by
  refine wpList_mapUpdate_own w hg m x v 84 hop 9 89 law Try.underlying84 rp bn d.length (DD bs d) hm h hd _ _ _ hx hv (key_str hl) _ _ (rp_pf b) ?_
  intro w' h1 h2
  rw [dd_put bs nm i b d hb] at h1
  exact hK w' (own_exact h1) (Fr.grown h2 (fun j e => by cases e; simp))
theorem wpList_dir_del (hg : o.guard = none) (m x : Operand) (hop : o.op = Op.call { callee := Callee.builtin Builtin.delete, args := #[m, x], argTypes := #[84, 9] }) (bn : Nat) (bs : List Nat) (d : Dir) (nm : Nm)
    (hm : a.eval m = .map (some bn)) (h : DirAt w bn bs d) (hx : a.eval x = .string (str nm)) (hl : nm.length ≤ maxLen)
    (hK : ∀ w', DirAt w' bn bs (ddel nm d) → Fr [bn] w w' → wpList Try.prog ops Q rest (a.put o.dst (.tuple #[])) w') : wpList Try.prog ops Q (o :: rest) a w := by
  refine wpList_plain hg fun K' hK' => ?_
  obtain ⟨w', hrun, r1, r2⟩ := World.ownsMap.drop (t := 84) (e := 89) h law Try.underlying84 (key_str hl) o.type
  rw [dd_del] at r1
  unfold Oper.wp
  simp [execOp, hop, resolve, invoke, builtin, hm, hx, hrun, Result.andThen]
  exact hK' _ _ (hK w' (own_exact r1) (Fr.grown r2.grown (fun j e => by cases e; simp)))
end
theorem Fr.alloc (fp : List Nat) (w : World) (o : Obj) : Fr fp w (w.alloc o) := Fr.of (below_new w o)
theorem DirAt.alloc {w : World} {bn : Nat} {bs : List Nat} {d : Dir} (h : DirAt w bn bs d) (o : Obj) : DirAt (w.alloc o) bn bs d := h.same ((below_new w o).block bn h.lt)
theorem Fr.bl {fp : List Nat} {w w' : World} {g : Nat} {cs : List Value} {t : TypeId} (h : Bl w g cs t) (hf : Fr fp w w') (hg : g ∉ fp) : Bl w' g cs t := (hf.block g h.lt hg).trans h

/-- Three cells of a block. -/
theorem Bl.three {w : World} {g : Nat} {x y z : Value} {t : TypeId} (h : Bl w g [x, y, z] t) : w.cell? ⟨g, 0, none⟩ = some x ∧ w.cell? ⟨g, 1, none⟩ = some y ∧ w.cell? ⟨g, 2, none⟩ = some z := ⟨h.cell 0, h.cell 1, h.cell 2⟩
set_option maxHeartbeats 1000000 in
theorem doneOn_any (c : Ch) (bs : List Nat) (bn : Nat) (d : Dir) (w : World) (h : DirAt w bn bs d) (h1 : c.fr.length ≤ 32) (h2 : c.tn.length ≤ 32) (hf : c.tn ≠ [] → c.fl < bs.length) (hd : d.length ≤ 1000) :
    Calls Try.prog 56 #[.agg (chCells bs c).toArray, .map (some bn)] w fun e w' => e = .returned (.tuple #[]) ∧ DirAt w' bn bs (chd c d) ∧ Fr [bn] w w' := by
  obtain ⟨fr, tn, fl⟩ := c
  simp only at h1 h2 hf
  have H1 : Hid (fr.length ≤ maxLen) := by unfold maxLen; show _ ≤ _; omega
  have H2 : Hid (tn.length ≤ maxLen) := by unfold maxLen; show _ ≤ _; omega
  have HD : Hid ((ddel fr d).length < maxLen) := by have := ddel_length_le fr d; unfold maxLen; show _ < _; omega
  have HH := hide h
  have HF := hide hf
  have HN := hide h.lt
  clear h1 h2 hf h hd
  by_cases ht : tn = []
  · subst ht
    rw [show chCells bs ⟨fr, [], fl⟩ = [.string (str fr), .string (str []), .pointer none] from rfl, show chd ⟨fr, [], fl⟩ d = ddel fr d from rfl, str_nil]
    have HB := hide (Bl.new w #[.string (str fr), .string { data := #[] }, .pointer none] 94)
    have HFA := hide (Fr.alloc [bn] w (.cells #[.string (str fr), .string { data := #[] }, .pointer none] 94))
    have HA := hide (HH.out.alloc (.cells #[.string (str fr), .string { data := #[] }, .pointer none] 94))
    go_enter Try.func56, Try.ntmps56
    go_upto_region 1 with fail
    obtain ⟨N, hN⟩ : ∃ N, N = w.heap.size := ⟨_, rfl⟩
    have HNE : Hid (N ∉ [bn]) := by have := HN.out; show ¬ _; simp; omega
    rw [← hN] at HB ⊢
    clear hN
    generalize w.alloc (.cells #[.string (str fr), .string { data := #[] }, .pointer none] 94) = u at *
    obtain ⟨b0, b1, b2⟩ := HB.out.three
    go_wp2_with (at_delete; refine wpList_dir_del rfl _ _ rfl bn bs d fr rfl HA.out rfl H1.out ?_; intro w2 hd2 hf2; have HD2 := hide hd2; have HF2 := hide (HFA.out.trans hf2 (fun x hx => .inl hx)); obtain ⟨c0, c1, c2⟩ := (Fr.bl HB.out hf2 HNE.out).three; clear hd2 hf2 b0 b1 b2)
    go_end0
    exact ⟨rfl, HD2.out, HF2.out⟩
  · have hb : ∃ b, bs[fl]? = some b := ⟨_, List.getElem?_eq_getElem (HF.out ht)⟩
    obtain ⟨b, hb⟩ := hb
    have e : bs.getD fl 0 = b := by simp [List.getD, hb]
    have HBS := hide hb
    have hne : (str tn).toList.isEmpty = false := by rw [str_toList]; simpa using ht
    have hne2 : ¬ (str tn).toList = [] := by rw [str_toList]; exact ht
    rw [show chCells bs ⟨fr, tn, fl⟩ = [.string (str fr), .string (str tn), pf b] by simp only [chCells, if_neg ht, e], show chd ⟨fr, tn, fl⟩ d = dput tn fl (ddel fr d) by simp only [chd, if_neg ht]]
    have HB := hide (Bl.new w #[.string (str fr), .string (str tn), pf b] 94)
    have HFA := hide (Fr.alloc [bn] w (.cells #[.string (str fr), .string (str tn), pf b] 94))
    have HA := hide (HH.out.alloc (.cells #[.string (str fr), .string (str tn), pf b] 94))
    clear hb e ht
    go_enter Try.func56, Try.ntmps56
    go_upto_region 1 with fail
    obtain ⟨N, hN⟩ : ∃ N, N = w.heap.size := ⟨_, rfl⟩
    have HNE : Hid (N ∉ [bn]) := by have := HN.out; show ¬ _; simp; omega
    rw [← hN] at HB ⊢
    clear hN
    generalize w.alloc (.cells #[.string (str fr), .string (str tn), pf b] 94) = u at *
    obtain ⟨b0, b1, b2⟩ := HB.out.three
    go_wp2_with (first
      | (at_delete; refine wpList_dir_del rfl _ _ rfl bn bs d fr rfl HA.out rfl H1.out ?_; intro w2 hd2 hf2; have HD2 := hide hd2; have HF2 := hide (HFA.out.trans hf2 (fun x hx => .inl hx)); obtain ⟨c0, c1, c2⟩ := (Fr.bl HB.out hf2 HNE.out).three; clear hd2 hf2 b0 b1 b2)
      | (at_mapUpdate; refine wpList_dir_put rfl _ _ _ rfl bn bs (ddel fr d) tn fl b rfl HD2.out rfl rfl HBS.out H2.out HD.out ?_; intro w3 hd3 hf3; have HD3 := hide hd3; have HF3 := hide (HF2.out.trans hf3 (fun x hx => .inl hx)); clear hd3 hf3 c0 c1 c2))
    go_end0
    exact ⟨rfl, HD3.out, HF3.out⟩
end Go.Proofs.Yticbfcognnofbaa
