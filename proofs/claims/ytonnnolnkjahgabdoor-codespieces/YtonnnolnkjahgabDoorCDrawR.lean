/- The document's bytes, coded, Device, Auth, User. -/
import Derived.Test.YtonnnolnkjahgabDoorCDraw
namespace Go.Proofs.YtonnnolnkjahgabDoor
open Go.RowKit Go.Shelf

/-- append to bytes that one owns, in a region of one order. -/
theorem wpList_append_lef {w : World} {ops : Array Oper} {rest : List Oper} {o : Oper} {a : Act} {Q : Exit → Act → World → Prop} (hgd : o.guard = none) (s x : Operand)
    (ho : o.op = .call { callee := .builtin .append, args := #[s, x], argTypes := #[22, 22] }) (v : Value) (xs : List Nat) (hs : a.eval s = v) (hown : Lef w v xs)
    (ao : Option Addr) (n c : Nat) (ys : List Nat) (hn : n = ys.length) (hx : a.eval x = .slice ao n c) (hy : Row w ao ys) (hsz : xs.length + ys.length ≤ 140737488355328)
    (h : ∀ v' w', Lef w' v' (xs ++ ys) → w.grownBy w' v.ownBlock → (v'.ownBlock = v.ownBlock ∨ (v'.ownBlock = some w.heap.size ∧ w.heap.size < w'.heap.size)) → wpList Tryd.prog ops Q rest (a.put o.dst v') w') : wpList Tryd.prog ops Q (o :: rest) a w := by
  refine wpList_plain hgd fun K hK => ?_
  obtain ⟨v', w', hrun, h1, h2, h3⟩ := run_append_lef hown ao c hy hsz o.type
  subst hn
  unfold Oper.wp
  simp [execOp, ho, resolve, invoke, builtin, hs, hx, hrun, Result.andThen]
  exact hK _ _ (h v' w' h1 h2 h3)
/-- Bytes of one's own beside a source. -/
structure Side (w wr : World) (v : Value) (code bs : List Nat) : Prop where
  lef : Lef wr v code
  own : ∀ k, v.ownBlock = some k → w.heap.size ≤ k ∧ k < wr.heap.size ∧ k ∉ bs
theorem Side.after {w wr w2 : World} {v : Value} {code bs bs2 : List Nat} {sp : Nat} (h : Side w wr v code bs) (hs : sp ∈ bs) (ha : Aft [sp] bs2 wr w2) : Side w w2 v code bs2 := by
  refine ⟨h.lef.apart ha.fr (fun g hg e => ?_), fun k hk => ?_⟩
  · exact (h.own g hg).2.2 (by rw [List.mem_singleton.1 e]; exact hs)
  · obtain ⟨h1, h2, h3⟩ := h.own k hk
    refine ⟨h1, Nat.lt_of_lt_of_le h2 ha.fr.size, fun e => ?_⟩
    rcases ha.new k e with e2 | e2
    · exact h3 (by rw [List.mem_singleton.1 e2]; exact hs)
    · omega
theorem Side.grew {T : TypeId} {w w2 w3 : World} {v v' : Value} {code code' bs ys : List Nat} {sp : Nat} {o : Obj} (h : Side w w2 v code bs) (hS : Src T w2 sp ys bs) (hw : w.heap.size ≤ w2.heap.size) (hl : Lef w3 v' code') (hg : (w2.alloc o).grownBy w3 v.ownBlock) (ho : v'.ownBlock = v.ownBlock ∨ (v'.ownBlock = some (w2.heap.size + 1) ∧ w2.heap.size + 1 < w3.heap.size)) : Side w w3 v' code' bs ∧ Src T w3 sp ys bs ∧ Fr v.ownBlock.toList w2 w3 := by
  have hz := hg.size
  simp at hz
  have hf : Fr v.ownBlock.toList w2 w3 := (Fr.alloc _ w2 o).trans (Fr.grown (fp := v.ownBlock.toList) hg (fun j hj => by rw [hj]; simp)) (fun x hx => .inl hx)
  refine ⟨⟨hl, fun k hk => ?_⟩, hS.apart hf (fun b hb e => (h.own b (by simpa using e)).2.2 hb), hf⟩
  rcases ho with e | ⟨e, e2⟩
  · obtain ⟨h1, h2, h3⟩ := h.own k (e ▸ hk)
    exact ⟨h1, by omega, h3⟩
  · rw [e] at hk
    injection hk with hk
    exact ⟨by omega, by omega, fun hb => by have := hS.lts k hb; omega⟩
def RBytes (n : Nat) (xs bs : List Nat) (sp : Nat) (w : World) (e : Ending) (w' : World) : Prop :=
  ∃ ao m c, e = .returned (.tuple #[.slice ao m c, .int .i64 ((drawE n xs : Nat) : Int)]) ∧ (n ≤ xs.length → m = n ∧ Row w' ao (xs.take n)) ∧ ∃ bs', Src 31 w' sp (xs.drop n) bs' ∧ Aft bs bs' w w'
set_option maxHeartbeats 1000000 in
set_option maxRecDepth 100000 in
theorem rbytes_any (sp n : Nat) (xs bs : List Nat) (w : World) (h : Src 31 w sp xs bs) (hn : n ≤ 64) (hx : xs.length ≤ 4096) :
    Calls Tryd.prog 36 #[pf sp, .int .i64 (n : Int)] w fun e w' => RBytes n xs bs sp w e w' := by
  have HS := hide h
  have HN := hide hn
  have HX := hide hx
  have HOK := hide (@draw_ok n xs)
  have HDRY := hide (@draw_dry n xs)
  clear h hn hx
  unfold pf
  go_enter Tryd.func36, Tryd.ntmps36
  go_wp2_with fail
  go_loopw [6, 7] (fun v a wr => ∃ (i m c : Nat) (ao : Option Addr), v = .slice ao m c ∧ a = .int .i64 (i : Int) ∧ i ≤ n ∧ Hid (m = i ∧ i ≤ xs.length ∧ ∃ bs', Side w wr (.slice ao m c) (xs.take i) bs' ∧ Src 31 wr sp (xs.drop i) bs' ∧ Aft bs bs' w wr)) (fun _ a _ => n - (intOf a).toNat)
  case atStart => exact ⟨0, 0, 0, none, rfl, rfl, by omega, hide ⟨rfl, by omega, bs, ⟨lef_nil _, fun k hk => by cases hk⟩, HS.out, Aft.refl _ _⟩⟩
  case round =>
    obtain ⟨i, m, c, ao, rfl, rfl, hi, hr⟩ := hrel
    obtain ⟨hmi, hil, bs1, hsd, hsr, haf⟩ := hr.out
    have HSD := hide hsd
    have HSR := hide hsr
    have HAF := hide haf
    have HIL := hide hil
    have HMI := hide hmi
    have hwri : IntKind.i64.wrap ((i : Int) + 1) = ((i + 1 : Nat) : Int) := by have := HN.out; rw [IntKind.wrap_i64]; omega
    clear hr hsd hsr haf hil hmi
    by_cases hlt : i < n
    · have hlt' : (i : Int) < (n : Int) := by omega
      have HLT2 := hide hlt
      clear hi hlt
      cases hd : xs.drop i with
      | nil =>
        have hsr := HSR.out
        rw [hd] at hsr
        have HBY := hide (rbyteDry_any sp bs1 wr hsr)
        have hxl : xs.length < n := by have := HLT2.out; have := congrArg List.length hd; simp at this; omega
        have HXL := hide hxl
        have HE := hide (HDRY.out hxl)
        have HS2 := hide hsr
        unfold pf at HBY
        clear hsr hd hxl
        go_wp2_with (go_at_call 21; refine HBY.out.mono ?_; rintro e wx ⟨rfl, hwx⟩; have hwy := hwx.symm; subst hwy; clear hwx)
        go_ret2
        obtain ⟨e1, e2, e3⟩ := HE.out
        exact ⟨none, 0, 0, by rw [e2]; rfl, fun h => by have := HXL.out; omega, bs1, by rw [e3]; exact HS2.out, HAF.out⟩
      | cons x ys =>
        obtain ⟨hix, htk, hdr⟩ := drop_cons hd
        have hsr := HSR.out
        rw [hd] at hsr
        have HBY := hide (rbyte_any sp x ys bs1 wr hsr (by have := HX.out; have := congrArg List.length hd; simp at this; omega))
        have HTK := hide htk
        have HDR := hide hdr
        have HIX := hide hix
        have HHD := hide hsr.head
        have HTL : Hid ((xs.take i).length = i) := hide (by simp; omega)
        unfold pf at HBY
        clear hsr hd htk hdr hix
        generalize xs.take i = code at *
        go_wp2_with (first
          | (go_at_call 21; refine HBY.out.mono ?_; rintro e w2 ⟨rfl, bs2, h2, k2⟩; have HS2 := hide h2; have HA2 := hide (HAF.out.trans (k2.up HHD.out)); have HD2 := hide (HSD.out.after HHD.out k2); clear h2 k2)
          | (at_builtin; refine wpList_append_lef rfl _ _ rfl _ code rfl (HD2.out.lef.keep (below_new _ _)) (some ⟨w2.heap.size, 0, none⟩) 1 1 [x] rfl rfl (row_one _ _) (by have := HTL.out; have := HLT2.out; have := HN.out; simp; omega) ?_))
        rintro v1 w3 hown1 hgr1 hor1
        obtain ⟨hD3, hS3, hf3⟩ := HD2.out.grew HS2.out HA2.out.fr.size hown1 hgr1 hor1
        have HA3 : Hid (Aft bs bs2 w w3) := hide ⟨HA2.out.fr.trans hf3 (fun k hk => .inr (HD2.out.own k (by simpa using hk)).1), HA2.out.new⟩
        obtain ⟨ao', c', rfl, -, -⟩ := hown1.read
        have HD3 := hide hD3
        have HS3 := hide hS3
        have HL3 : Hid ((code ++ [x]).length = i + 1) := hide (by rw [List.length_append, HTL.out]; rfl)
        rw [HL3.out] at HD3 ⊢
        clear hown1 hgr1 hor1 hD3 hS3 hf3
        go_wp2
        go_roundw
        case rel => exact ⟨i + 1, i + 1, c', ao', by first | exact rfl | trivial, by first | rfl | simp, HLT2.out, hide ⟨rfl, HIX.out, bs2, by rw [HTK.out]; exact HD3.out, by rw [HDR.out]; exact HS3.out, HA3.out⟩⟩
        case measure => have := HLT2.out; simp [intOf]; omega
    · have hlt' : ¬ (i : Int) < (n : Int) := by omega
      obtain rfl : i = n := by omega
      have HE := hide (HOK.out HIL.out)
      clear hi hlt
      go_wp2_with fail
      go_ret2
      refine ⟨ao, m, c, by rw [HE.out.2]; rfl, fun _ => ⟨HMI.out, ?_⟩, bs1, HSR.out, HAF.out⟩
      obtain ⟨ao', c', hv, hle, hro⟩ := HSD.out.lef.read
      injection hv with h1 _ _
      rw [h1]
      exact hro
set_option maxHeartbeats 1000000 in
set_option maxRecDepth 100000 in
theorem rcoded_any (sp n : Nat) (xs bs : List Nat) (w : World) (h : Src 31 w sp xs bs) (hn : n ≤ 64) (hx : xs.length ≤ 4096) :
    Calls Tryd.prog 30 #[pf sp, .int .i64 (n : Int)] w fun e w' => e = .returned (.tuple #[.string (bstr (drawT n xs)), .int .i64 ((drawE n xs : Nat) : Int)]) ∧ ∃ bs', Src 31 w' sp (xs.drop n) bs' ∧ Aft bs bs' w w' := by
  have HRB := hide (rbytes_any sp n xs bs w h hn hx)
  have HBX := hide h.byte
  have HB64 := hide refBase64_any
  have HN := hide hn
  unfold RBytes at HRB
  by_cases hle : n ≤ xs.length
  · obtain ⟨e1, e2⟩ := draw_ok hle
    have HLE := hide hle
    rw [e1, e2]
    rw [e2] at HRB
    have HTL : Hid (n = (xs.take n).length) := hide (by simp; omega)
    have HTB := hide (lt_take HBX.out n)
    clear h hn hx hle e1 e2
    generalize xs.take n = code at *
    unfold pf at *
    go_enter Tryd.func30, Tryd.ntmps30
    go_wp2_with (first
      | (go_at_call 36; refine HRB.out.mono ?_; rintro e w1 ⟨ao, m, c, rfl, h1, bs1, h2, h3⟩; obtain ⟨hm, hrow⟩ := h1 HLE.out; subst hm; have HR := hide hrow; have HS1 := hide h2; have HA1 := hide h3; clear h1 h2 h3 hrow)
      | (go_at_call 37; refine (HB64.out m c ao code w1 (by have := HN.out; omega) HTL.out HTB.out HR.out).mono ?_; rintro e w2 ⟨rfl, h4⟩; have H4 := hide h4; clear h4))
    go_ret2
    exact ⟨rfl, bs1, HS1.out.keep H4.out, HA1.out.fr.trans (Fr.of (fp := []) H4.out) (fun x hx => by cases hx), HA1.out.new⟩
  · obtain ⟨e1, e2, e3⟩ := draw_dry (show xs.length < n by omega)
    rw [e1, e2, bstr_nil]
    rw [e2] at HRB
    clear h hn hx hle e1 e2 e3 HB64
    unfold pf at *
    go_enter Tryd.func30, Tryd.ntmps30
    go_wp2_with (first
      | (go_at_call 36; refine HRB.out.mono ?_; rintro e w1 ⟨ao, m, c, rfl, -, bs1, h2, h3⟩; have HS1 := hide h2; have HA1 := hide h3; clear h2 h3))
    go_ret2
    exact ⟨rfl, bs1, HS1.out, HA1.out⟩
theorem rdevice_any (sp : Nat) (xs bs : List Nat) (w : World) (h : Src 31 w sp xs bs) (hx : xs.length ≤ 4096) :
    Calls Tryd.prog 22 #[pf sp] w fun e w' => e = .returned (.tuple #[.string (bstr (drawT 32 xs)), .int .i64 ((drawE 32 xs : Nat) : Int)]) ∧ ∃ bs', Src 31 w' sp (xs.drop 32) bs' ∧ Aft bs bs' w w' := by
  have HD := hide (rcoded_any sp 32 xs bs w h (by omega) hx)
  clear h
  unfold pf at *
  go_enter Tryd.func22, Tryd.ntmps22
  go_wp2_with (go_at_call 30; refine HD.out.mono ?_; rintro e w1 ⟨rfl, h1⟩; have H1 := hide h1; clear h1)
  go_ret2
  exact ⟨rfl, H1.out⟩
theorem rauth_any (sp : Nat) (xs bs : List Nat) (w : World) (h : Src 31 w sp xs bs) (hx : xs.length ≤ 4096) :
    Calls Tryd.prog 23 #[pf sp] w fun e w' => e = .returned (.tuple #[.string (bstr (drawT 24 xs)), .int .i64 ((drawE 24 xs : Nat) : Int)]) ∧ ∃ bs', Src 31 w' sp (xs.drop 24) bs' ∧ Aft bs bs' w w' := by
  have HD := hide (rcoded_any sp 24 xs bs w h (by omega) hx)
  clear h
  unfold pf at *
  go_enter Tryd.func23, Tryd.ntmps23
  go_wp2_with (go_at_call 30; refine HD.out.mono ?_; rintro e w1 ⟨rfl, h1⟩; have H1 := hide h1; clear h1)
  go_ret2
  exact ⟨rfl, H1.out⟩
end Go.Proofs.YtonnnolnkjahgabDoor
