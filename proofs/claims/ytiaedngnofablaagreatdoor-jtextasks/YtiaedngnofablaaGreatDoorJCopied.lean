/- The contract of the program's copied: the same Json as new memory. -/
import Derived.Test.YtiaedngnofablaaGreatDoorJTight
import Derived.Test.YtiaedngnofablaaGreatDoorShelf
namespace Go.Proofs.YtiaedngnofablaaGreatDoor
open Go.RowKit

theorem cloned_any (s : ByteArray) (w : World) (hs : s.size ≤ 281474976710656) : Calls Tryz.prog 56 #[.string s] w fun e w' => e = .returned (.string s) ∧ Below w.heap.size w w' := by
  have c : Calls Tryz.prog 82 #[.string s] w fun e w' => e = .returned (.string s) ∧ Below w.heap.size w w' := Any.stringslite_Clone laysM316 s w hs
  go_enter Tryz.func56, Tryz.ntmps56
  go_wp2_with fail
  refine c.mono ?_
  rintro e w' ⟨rfl, hb⟩
  go_wp2
  go_ret
  exact ⟨rfl, hb⟩
/-- The contract of copied at a Json. -/
def CoOk (j : J) : Prop := ∀ (x : JV) (B : Nat) (w : World), JSee w B j x → JTight j → JSmall j → B ≤ w.heap.size →
  Calls Tryz.prog 49 #[x.val] w fun e w' => ∃ y : JV, e = .returned y.val ∧ JRep w' j y (fun b => w.heap.size ≤ b ∧ b < w'.heap.size) ∧ Below w.heap.size w w'

set_option maxHeartbeats 8000000 in
set_option maxRecDepth 100000 in
theorem copied_step (k : Int) (t : By) (ns : List By) (is : List J) (ih : ∀ j ∈ is, CoOk j) : CoOk (.mk k t ns is) := by
  intro x B w hx hf hsm hB
  rw [JSee_mk] at hx
  obtain ⟨a1, a2, a3, a4, an, vs, ai, ajs⟩ := hx
  rw [JTight_mk, jtights_iff] at hf
  obtain ⟨f1, f2, f3, f4, f5⟩ := hf
  rw [JSmall_mk, jsmalls_iff] at hsm
  obtain ⟨m1, m2, m3⟩ := hsm
  obtain ⟨N, hN⟩ : ∃ N, N = w.heap.size := ⟨_, rfl⟩
  have HU : Hid (Below w.heap.size w ((w.alloc (.cells #[.int .i64 x.k, .string x.t, .slice x.an x.ln x.cn, .slice x.ai x.li x.ci] 25)).alloc (.cells #[.int .i64 0, .string ⟨#[]⟩, .slice none 0 0, .slice none 0 0] 25))) := ((Below.refl _ _).alloc (Nat.le_refl _) _).alloc (by simp) _
  have HJ1 : Hid (Jb ((w.alloc (.cells #[.int .i64 x.k, .string x.t, .slice x.an x.ln x.cn, .slice x.ai x.li x.ci] 25)).alloc (.cells #[.int .i64 0, .string ⟨#[]⟩, .slice none 0 0, .slice none 0 0] 25)) N x.k x.t (.slice x.an x.ln x.cn) (.slice x.ai x.li x.ci)) := by
    rw [hN]; exact (Jb.new w x.k x.t (.slice x.an x.ln x.cn) (.slice x.ai x.li x.ci)).alloc _
  have HJ2 : Hid (Jb ((w.alloc (.cells #[.int .i64 x.k, .string x.t, .slice x.an x.ln x.cn, .slice x.ai x.li x.ci] 25)).alloc (.cells #[.int .i64 0, .string ⟨#[]⟩, .slice none 0 0, .slice none 0 0] 25)) (N + 1) 0 ⟨#[]⟩ (.slice none 0 0) (.slice none 0 0)) := by
    have := Jb.new (w.alloc (.cells #[.int .i64 x.k, .string x.t, .slice x.an x.ln x.cn, .slice x.ai x.li x.ci] 25)) 0 ⟨#[]⟩ (.slice none 0 0) (.slice none 0 0)
    rw [show (w.alloc (.cells #[.int .i64 x.k, .string x.t, .slice x.an x.ln x.cn, .slice x.ai x.li x.ci] 25)).heap.size = N + 1 by rw [hN]; simp] at this
    exact this
  have hus : ((w.alloc (.cells #[.int .i64 x.k, .string x.t, .slice x.an x.ln x.cn, .slice x.ai x.li x.ci] 25)).alloc (.cells #[.int .i64 0, .string ⟨#[]⟩, .slice none 0 0, .slice none 0 0] 25)).heap.size = N + 2 := by rw [hN]; simp
  have HLI : Hid (x.li = is.length) := by show _ = _; rw [ai.1]; exact (JSees.get is vs ajs).1
  have HLN : Hid (x.ln = ns.length) := an.1
  have HTS : Hid (x.t.size ≤ 281474976710656) := by show _ ≤ _; rw [a2, bstr_size]; omega
  have HCL : Hid (∀ W : World, Calls Tryz.prog 56 #[.string x.t] W fun e w' => e = .returned (.string x.t) ∧ Below W.heap.size W w') := fun W => cloned_any x.t W HTS.out
  have HCN : Hid (∀ (n : By) (W : World), n ∈ ns → Calls Tryz.prog 56 #[.string (bstr n)] W fun e w' => e = .returned (.string (bstr n)) ∧ Below W.heap.size W w') := fun n W hn => cloned_any (bstr n) W (by rw [bstr_size]; have := f2 n hn; omega)
  have HAN := hide an
  have HAI := hide ai
  have HAJ := hide ajs
  have HA4 := hide a4
  have HIH := hide ih
  have HF5 := hide f5
  have HM3 := hide m3
  have HBw := hide hB
  have HKK := hide a1
  have HTT := hide a2
  have HT3 := hide a3
  rw [show x.val = .agg #[.int .i64 x.k, .string x.t, .slice x.an x.ln x.cn, .slice x.ai x.li x.ci] from rfl]
  clear a1 a2 a3 a4 an ai ajs ih f1 f2 f5 m3 hB
  have HNW := hide hN
  go_enter Tryz.func49, Tryz.ntmps49
  go_upto_region 1 with fail
  rw [← hN]
  clear hN
  generalize (w.alloc (.cells #[.int .i64 x.k, .string x.t, .slice x.an x.ln x.cn, .slice x.ai x.li x.ci] 25)).alloc (.cells #[.int .i64 0, .string ⟨#[]⟩, .slice none 0 0, .slice none 0 0] 25) = u at *
  have p0 := HJ1.out.c0
  have p1 := HJ1.out.c1
  have huz : u.heap.size = N + 2 := hus
  have HV0 : Hid (Jb (u.alloc (.cells #[.int .i64 0, .string ⟨#[]⟩, .slice none 0 0, .slice none 0 0] 25)) (N + 2) 0 ⟨#[]⟩ (.slice none 0 0) (.slice none 0 0)) := by
    have := Jb.new u 0 ⟨#[]⟩ (.slice none 0 0) (.slice none 0 0)
    rw [huz] at this
    exact this
  have HU1 : Hid (Below u.heap.size u (u.alloc (.cells #[.int .i64 0, .string ⟨#[]⟩, .slice none 0 0, .slice none 0 0] 25))) := below_new u _
  have hne1 : N ≠ N + 2 := by omega
  have hne2 : N + 2 ≠ N := by omega
  go_cut [3] (fun v3 wx => ∃ V, v3 = .pointer (some ⟨V, 0, none⟩) ∧ N + 2 ≤ V ∧ Hid (NI (N + 2) V x.k x.t wx []) ∧ Hid (Below (N + 2) u wx))
  case first =>
    go_region_held_law (fun W => W.cell? ⟨N, 0, none⟩ = some (.int .i64 x.k) ∧ W.cell? ⟨N, 1, none⟩ = some (.string x.t)) (go_keep) (first
      | (refine law_call rfl 12 rfl 56 #[.string x.t] (by unfold execOp; simp; go_simp) (HCL.out (u.alloc (.cells #[.int .i64 0, .string ⟨#[]⟩, .slice none 0 0, .slice none 0 0] 25)).drew) ?_; rintro ε w2 ⟨rfl, hb⟩; refine ⟨_, rfl, ?_⟩; have hb4 : Below (u.alloc (.cells #[.int .i64 0, .string ⟨#[]⟩, .slice none 0 0, .slice none 0 0] 25)).heap.size (u.alloc (.cells #[.int .i64 0, .string ⟨#[]⟩, .slice none 0 0, .slice none 0 0] 25)) w2 := below_undrewN1 hb; have hb5 : Below u.heap.size u w2 := below_up HU1.out hb4; have hvj := HV0.out.keep hb4; have t0 := cell_kept p0 hb5; have t1 := cell_kept p1 hb5; have y0 := hvj.c0; have y1 := hvj.c1; have y2 := hvj.c2; have y3 := hvj.c3; have z0 := hvj.fz 0; have z1 := hvj.fz 1; have z2 := hvj.fz 2; have z3 := hvj.fz 3; have HVJ := hide hvj; have HB5 := hide hb5; clear hb hb4 hb5 hvj)
      | (refine law_call rfl 12 rfl 56 #[.string x.t] (by unfold execOp; simp; go_simp) (HCL.out u.drew) ?_; rintro ε w2 ⟨rfl, hb⟩; refine ⟨_, rfl, ?_⟩; have hb5 : Below u.heap.size u w2 := below_undrewN1 hb; have t0 := cell_kept p0 hb5; have t1 := cell_kept p1 hb5; have HB5 := hide hb5; clear hb hb5))
    · go_wp2_with fail
      go_meet
      refine ⟨w2.heap.size, rfl, by have := HB5.out.size; omega, ⟨none, 0, Jb.new w2 x.k x.t _ _, nown_nil _ _, fun b hb => by cases hb⟩, ?_⟩
      have h2 := HB5.out
      have hz := h2.size
      exact ⟨h2.os, h2.tape, h2.output, (by simp; omega), fun k hk => (Below.heap_alloc w2 _ k (by omega)).trans (h2.block k (by omega))⟩
    · go_wp2_with fail
      go_meet
      have hbt := put4_but w2 (N + 2) 0 ⟨x.k, x.t, none, 0, 0, none, 0, 0⟩
      refine ⟨N + 2, rfl, Nat.le_refl _, ⟨none, 0, HVJ.out.put4 x.k x.t _ _, nown_nil _ _, fun b hb => by cases hb⟩, ?_⟩
      have h2 := HB5.out
      have hz := h2.size
      exact ⟨hbt.os.trans h2.os, hbt.tape.trans h2.tape, hbt.output.trans h2.output, Nat.le_trans (by omega) hbt.size, fun k hk => (hbt.block k (by omega) (by omega)).trans (h2.block k (by omega))⟩
  case rest =>
    obtain ⟨V, rfl, hV, HNI, HBV⟩ := hcut
    have hVN : N ≠ V := by omega
    have hVN1 : N + 1 ≠ V := by omega
    have hVN2 : V ≠ N := by omega
    have p2 := HJ1.out.c2
    have p3 := HJ1.out.c3
    clear HV0 HU1 hne1 hne2 p0 p1 HCL
    have HBVU : Hid (∀ a v, u.cell? a = some v → a.block < N + 2 → ∀ W : World, Below (N + 2) u W → W.cell? a = some v) := fun a v ha hb W hW => by rw [World.cell?_of_block (hW.block a.block hb)]; exact ha
    have s2 := HBVU.out _ _ p2 (by show N < N + 2; omega) _ HBV.out
    go_wp2_with fail
    go_loopw [17] (fun v4 wr => ∃ i : Nat, i ≤ ns.length ∧ v4 = .int .i64 (i : Int) ∧ Hid (NI (N + 2) V x.k x.t wr (ns.take i)) ∧ Hid (Below (N + 2) u wr)) (fun v4 _ => ns.length - (intOf v4).toNat)
    case atStart => exact ⟨0, Nat.zero_le _, rfl, by rw [List.take_zero]; exact HNI, HBV⟩
    case round =>
      clear HNI HBV s2
      obtain ⟨i, hi, rfl, HNI, HBV⟩ := hrel
      have HWW : Hid (Below w.heap.size w wr) := HU.out.trans ⟨HBV.out.os, HBV.out.tape, HBV.out.output, HBV.out.size, fun k hk => HBV.out.block k (by have := HNW.out; omega)⟩
      by_cases hin : i < ns.length
      · obtain ⟨an, cn, g3, g4, g8⟩ := HNI.out.rows
        have hlen2 : (ns.take i).length = i := by rw [List.length_take]; omega
        obtain ⟨g2, o2, e2, hg2, hc2⟩ : ∃ g off, x.an = some ⟨g, off, none⟩ ∧ g < B ∧ ∀ i nm, ns[i]? = some nm → w.cell? ⟨g, off + i, none⟩ = some (.string (bstr nm)) := by
          rcases HAN.out.2 with e | e
          · rw [e] at hin; simp at hin
          · exact e
        have k4 : wr.cell? ⟨g2, o2 + i, none⟩ = some (.string (bstr ns[i])) := cell_kept (hc2 i ns[i] (List.getElem?_eq_getElem hin)) HWW.out
        have hil : (i : Int) < (x.ln : Int) := by have := HLN.out; omega
        have y3 := g3.c2
        have hsz10 : (ns.take i).length ≤ 1000000 := by omega
        have HG3 := hide g3
        have HG4 := hide g4
        have hN2 : N + 2 ≤ wr.heap.size := by have := HBV.out.size; omega
        have HSTEP : Hid (∀ (w2 w4 : World) (o : Obj) (ao : Option Addr) (cap : Nat), Below wr.heap.size wr w2 → NOwn w4 (N + 2) (.slice ao ((ns.take i).length + 1) cap) (ns.take i ++ [ns[i]]) → (w2.alloc o).grownBy w4 (Value.ownBlock (.slice an (ns.take i).length cn)) → (Value.ownBlock (.slice ao ((ns.take i).length + 1) cap) = Value.ownBlock (.slice an (ns.take i).length cn) ∨ Value.ownBlock (.slice ao ((ns.take i).length + 1) cap) = some (w2.alloc o).heap.size) → NI (N + 2) V x.k x.t (w4.setCell ⟨V, 2, none⟩ (.slice ao ((ns.take i).length + 1) cap)) (ns.take (i + 1))) := fun w2 w4 o ao cap h1 h3 h4 h5 => by
          rw [show ns.take (i + 1) = ns.take i ++ [ns[i]] by rw [List.take_add_one, List.getElem?_eq_getElem hin]; rfl]
          exact ti_stepN g3 g8 h1 h3 h4 h5
        have HOWN : Hid (∀ b, Value.ownBlock (.slice an (ns.take i).length cn) = some b → N + 2 ≤ b ∧ b ≠ V) := fun b hb => ⟨(ownsRow_own g4 hb).1, g8 b hb⟩
        have HC := hide (HCN.out ns[i] wr.drew (List.getElem_mem hin))
        obtain ⟨pre, HPRE⟩ : ∃ pre : List By, Hid (pre = ns.take i) := ⟨ns.take i, hide rfl⟩
        obtain ⟨nm, HNMM⟩ : ∃ nm : By, Hid (nm = ns[i]) := ⟨ns[i], hide rfl⟩
        rw [← HPRE.out] at HSTEP HOWN HG3 HG4 y3 hsz10
        rw [← HNMM.out] at HSTEP HC k4
        rw [e2]
        clear hc2 g3 g4 g8 hlen2 HNI
        go_wp2_with fail
        go_region_law (first
          | (refine law_call rfl 24 rfl 56 #[.string (bstr nm)] (by unfold execOp; simp; go_simp) HC.out ?_; rintro ε w2 ⟨rfl, hb⟩; refine ⟨_, rfl, ?_⟩; have hb5 : Below wr.heap.size wr w2 := below_undrewN1 hb; have HB5 := hide hb5; have HVJ := hide (HG3.out.keep hb5); have y4 := HVJ.out.c2; have y5 := cell_kept y4 (below_new w2 (.cells #[.string (bstr nm)] 9)); have HBL : Hid ((w2.alloc (.cells #[.string (bstr nm)] 9)).cell? ⟨w2.heap.size, 0, none⟩ = some (tv nm)) := (Bl.new w2 #[.string (bstr nm)] 9).cell 0; have HO6 : Hid (NOwn (w2.alloc (.cells #[.string (bstr nm)] 9)) (N + 2) (.slice an pre.length cn) pre) := (World.ownsRow.alloc (ownsRow_stay HG4.out (fun g hg => hb5.block g (ownsRow_own HG4.out hg).2)) _); have hz5 := hb5.size; clear hb hb5)
          | (refine law_appN1 rfl (.tmp 22) (.tmp 25) rfl (N + 2) (.slice an pre.length cn) pre nm rfl HO6.out w2.heap.size rfl HBL.out hsz10 (by simp; omega) ?_; intro ao3 cap3 w4 hn4 hg4 ho4; have HN4 := hide hn4; have HG44 := hide hg4; have HO4 := hide ho4; have hvj4 : Jb w4 V x.k x.t (.slice an pre.length cn) (.slice none 0 0) := ((hg4.block V (by have := Bl.lt HVJ.out; simp; omega) (fun e => (HOWN.out V e.symm).2 rfl)).trans (Below.heap_alloc w2 _ V (Bl.lt HVJ.out))).trans HVJ.out; have e5 := hvj4.c2; have e6 := hvj4.fz 2; clear hn4 hg4 ho4 hvj4))
        all_goals
          have HT2 := hide (HSTEP.out w2 w4 _ ao3 cap3 HB5.out HN4.out HG44.out HO4.out)
          have HB9 : Hid (Below (N + 2) u (w4.setCell ⟨V, 2, none⟩ (.slice ao3 (pre.length + 1) cap3))) := by
            have hbs : But V w4 (w4.setCell ⟨V, 2, none⟩ (.slice ao3 (pre.length + 1) cap3)) := But.setCell _ _ _ _
            have h2 := HB5.out
            have h4 := HG44.out
            have hz2 := h2.size
            have hz4 := h4.size
            have hzb := HBV.out.size
            have hz3 : (w2.alloc (.cells #[.string (bstr nm)] 9)).heap.size = w2.heap.size + 1 := by simp
            refine HBV.out.trans ⟨hbs.os.trans (h4.os.trans h2.os), hbs.tape.trans (h4.tape.trans h2.tape), hbs.output.trans (h4.output.trans h2.output), Nat.le_trans (by omega) hbs.size, fun k hk => ?_⟩
            rw [hbs.block k (by omega) (by omega), h4.block k (by omega) (fun e => by have := (HOWN.out k e.symm).1; omega), Below.heap_alloc w2 _ k (by omega)]
            exact h2.block k (by omega)
          clear HSTEP HN4 HG44 HO4
          go_wp2_with fail
          go_roundw
        all_goals first
          | exact ⟨i + 1, by omega, by simp, HT2, HB9⟩
          | exact ⟨i + 1, by omega, by simp, HT2⟩
          | (simp [intOf]; omega)
      · have hil : ¬ (i : Int) < (x.ln : Int) := by have := HLN.out; omega
        have HTI : Hid (TI (N + 2) V x.k x.t wr ns []) := by
          have := HNI.out.ti
          rw [List.take_of_length_le (by omega)] at this
          exact this
        have s3 := HBVU.out _ _ p3 (by show N < N + 2; omega) _ HBV.out
        clear HNI HWW hi HCN HAN hin
        go_wp2_with fail
        go_loopw [32] (fun v4 wr => ∃ i : Nat, i ≤ is.length ∧ v4 = .int .i64 (i : Int) ∧ Hid (TI (N + 2) V x.k x.t wr ns (is.take i)) ∧ Hid (Below (N + 2) u wr)) (fun v4 _ => is.length - (intOf v4).toNat)
        case atStart => exact ⟨0, Nat.zero_le _, rfl, by rw [List.take_zero]; exact HTI, HBV⟩
        case round =>
          clear HTI HBV s3 hil
          obtain ⟨i, hi, rfl, HTI, HBV⟩ := hrel
          have HWW : Hid (Below w.heap.size w wr) := HU.out.trans ⟨HBV.out.os, HBV.out.tape, HBV.out.output, HBV.out.size, fun k hk => HBV.out.block k (by have := HNW.out; omega)⟩
          by_cases hin : i < is.length
          · obtain ⟨v1, hv1, hw1⟩ := (JSees.get is vs HAJ.out).2 i is[i] (List.getElem?_eq_getElem hin)
            obtain ⟨g1, o1, e1, hg1, hc1⟩ : ∃ g off, x.ai = some ⟨g, off, none⟩ ∧ g < B ∧ ∀ i v, vs[i]? = some v → ∀ j u, v.cells[j]? = some u → w.cell? ⟨g, off + (4 * i + j), none⟩ = some u := by
              rcases HAI.out.2 with e | e
              · rw [e] at hv1; simp at hv1
              · exact e
            have k0 : wr.cell? ⟨g1, o1 + i * 4, none⟩ = some (.int .i64 v1.k) := by have := cell_kept (hc1 i v1 hv1 0 _ rfl) HWW.out; rw [show o1 + (4 * i + 0) = o1 + i * 4 by omega] at this; exact this
            have k1 : wr.cell? ⟨g1, o1 + i * 4 + 1, none⟩ = some (.string v1.t) := by have := cell_kept (hc1 i v1 hv1 1 _ rfl) HWW.out; rw [show o1 + (4 * i + 1) = o1 + i * 4 + 1 by omega] at this; exact this
            have k2 : wr.cell? ⟨g1, o1 + i * 4 + 2, none⟩ = some (.slice v1.an v1.ln v1.cn) := by have := cell_kept (hc1 i v1 hv1 2 _ rfl) HWW.out; rw [show o1 + (4 * i + 2) = o1 + i * 4 + 2 by omega] at this; exact this
            have k3 : wr.cell? ⟨g1, o1 + i * 4 + 3, none⟩ = some (.slice v1.ai v1.li v1.ci) := by have := cell_kept (hc1 i v1 hv1 3 _ rfl) HWW.out; rw [show o1 + (4 * i + 3) = o1 + i * 4 + 3 by omega] at this; exact this
            have hil : (i : Int) < (x.li : Int) := by have := HLI.out; omega
            have HB1 := hide (below_new wr (.cells #[.int .i64 v1.k, .string v1.t, .slice v1.an v1.ln v1.cn, .slice v1.ai v1.li v1.ci] 25))
            have HQ := hide (Jb.new wr v1.k v1.t (.slice v1.an v1.ln v1.cn) (.slice v1.ai v1.li v1.ci))
            have HTI1 := hide (HTI.out.keep HB1.out)
            have HBV1 : Hid (Below (N + 2) u (wr.alloc (.cells #[.int .i64 v1.k, .string v1.t, .slice v1.an v1.ln v1.cn, .slice v1.ai v1.li v1.ci] 25))) := HBV.out.trans ⟨HB1.out.os, HB1.out.tape, HB1.out.output, HB1.out.size, fun k hk => HB1.out.block k (by have := HBV.out.size; omega)⟩
            have HWW1 : Hid (Below w.heap.size w (wr.alloc (.cells #[.int .i64 v1.k, .string v1.t, .slice v1.an v1.ln v1.cn, .slice v1.ai v1.li v1.ci] 25))) := below_up HWW.out HB1.out
            have HC := hide (HIH.out is[i] (List.getElem_mem hin) v1 B (wr.alloc (.cells #[.int .i64 v1.k, .string v1.t, .slice v1.an v1.ln v1.cn, .slice v1.ai v1.li v1.ci] 25)).drew (JSee.stay _ _ hw1 (fun k hk => HWW1.out.block k (by have := HBw.out; omega))) (HF5.out _ (List.getElem_mem hin)) (HM3.out _ (List.getElem_mem hin)) (by have := HBw.out; have := HWW1.out.size; show B ≤ (wr.alloc (.cells #[.int .i64 v1.k, .string v1.t, .slice v1.an v1.ln v1.cn, .slice v1.ai v1.li v1.ci] 25)).heap.size; omega))
            rw [show v1.val = .agg #[.int .i64 v1.k, .string v1.t, .slice v1.an v1.ln v1.cn, .slice v1.ai v1.li v1.ci] from rfl] at HC
            obtain ⟨M, hM⟩ : ∃ M, M = wr.heap.size := ⟨_, rfl⟩
            rw [e1]
            clear hv1 hw1 hc1 HTI HB1
            go_wp2_with fail
            rw [← hM] at HQ ⊢
            clear k0 k1 k2 k3 hM HBV HWW
            generalize wr.alloc (.cells #[.int .i64 v1.k, .string v1.t, .slice v1.an v1.ln v1.cn, .slice v1.ai v1.li v1.ci] 25) = wr1 at *
            obtain ⟨an, ln, cn, ai2, ci2, vs2, F, g3, g4, g5, g6, g7, g8, g9, g10⟩ := HTI1.out.rows
            have hlen2 : vs2.length = i := by rw [JReps.len g6, List.length_take]; omega
            have q0 := HQ.out.c0
            have q1 := HQ.out.c1
            have q2 := HQ.out.c2
            have q3 := HQ.out.c3
            have y3 := g3.c3
            have hsz10 : vs2.length ≤ 1000000 := by omega
            have HG3 := hide g3
            have HG5 := hide g5
            have hN2 : N + 2 ≤ wr1.heap.size := by have := HBV1.out.size; omega
            have HSTEP : Hid (∀ (y : JV) (w2 w4 : World) (o : Obj) (ao : Option Addr) (cap : Nat), Below wr1.heap.size wr1 w2 → JRep w2 is[i] y (fun b => wr1.heap.size ≤ b ∧ b < w2.heap.size) → JOwn w4 (N + 2) (.slice ao (vs2.length + 1) cap) (vs2 ++ [y]) → (w2.alloc o).grownBy w4 (Value.ownBlock (.slice ai2 vs2.length ci2)) → (Value.ownBlock (.slice ao (vs2.length + 1) cap) = Value.ownBlock (.slice ai2 vs2.length ci2) ∨ Value.ownBlock (.slice ao (vs2.length + 1) cap) = some (w2.alloc o).heap.size) → TI (N + 2) V x.k x.t (w4.setCell ⟨V, 3, none⟩ (.slice ao (vs2.length + 1) cap)) ns (is.take (i + 1))) := fun y w2 w4 o ao cap h1 h2 h3 h4 h5 => by
              rw [show is.take (i + 1) = is.take i ++ [is[i]] by rw [List.take_add_one, List.getElem?_eq_getElem hin]; rfl]
              exact ti_step g3 g4 g5 g6 g7 g8 g9 g10 h1 h2 h3 h4 h5 hN2
            have HOWN : Hid (∀ b, Value.ownBlock (.slice ai2 vs2.length ci2) = some b → N + 2 ≤ b ∧ b ≠ V) := fun b hb => ⟨(ownsRow_own g5 hb).1, (g9 b hb).2⟩
            clear g3 g4 g5 g6 g7 g8 g9 g10 hlen2 HTI1
            go_region_law (first
              | (refine law_call rfl 39 rfl 49 #[.agg #[.int .i64 v1.k, .string v1.t, .slice v1.an v1.ln v1.cn, .slice v1.ai v1.li v1.ci]] (by unfold execOp; simp; go_simp) HC.out ?_; rintro ε w2 ⟨y, rfl, hr, hb⟩; refine ⟨_, rfl, ?_⟩; have hb5 : Below wr1.heap.size wr1 w2 := below_undrewN1 hb; rw [show y.val = .agg #[.int .i64 y.k, .string y.t, .slice y.an y.ln y.cn, .slice y.ai y.li y.ci] from rfl]; have HR5 := hide hr; have HB5 := hide hb5; have HVJ := hide (HG3.out.keep hb5); have y4 := HVJ.out.c3; have y5 := cell_kept y4 (below_new w2 (.cells #[.int .i64 y.k, .string y.t, .slice y.an y.ln y.cn, .slice y.ai y.li y.ci] 25)); have HBL := hide (Bl.new w2 #[.int .i64 y.k, .string y.t, .slice y.an y.ln y.cn, .slice y.ai y.li y.ci] 25); have HO6 : Hid (JOwn (w2.alloc (.cells #[.int .i64 y.k, .string y.t, .slice y.an y.ln y.cn, .slice y.ai y.li y.ci] 25)) (N + 2) (.slice ai2 vs2.length ci2) vs2) := (World.ownsRow.alloc (ownsRow_stay HG5.out (fun g hg => hb5.block g (ownsRow_own HG5.out hg).2)) _); have hz5 := hb5.size; clear hr hb hb5)
              | (refine law_appJ1 rfl (.tmp 37) (.tmp 40) rfl (N + 2) (.slice ai2 vs2.length ci2) vs2 y rfl HO6.out w2.heap.size rfl HBL.out hsz10 (by simp; omega) ?_; intro ao3 cap3 w4 hn4 hg4 ho4; have HN4 := hide hn4; have HG4 := hide hg4; have HO4 := hide ho4; have hvj4 : Jb w4 V x.k x.t (.slice an ln cn) (.slice ai2 vs2.length ci2) := ((hg4.block V (by have := Bl.lt HVJ.out; simp; omega) (fun e => (HOWN.out V e.symm).2 rfl)).trans (Below.heap_alloc w2 _ V (Bl.lt HVJ.out))).trans HVJ.out; have e5 := hvj4.c3; have e6 := hvj4.fz 3; clear hn4 hg4 ho4 hvj4))
            all_goals
              have HT2 := hide (HSTEP.out y w2 w4 _ ao3 cap3 HB5.out HR5.out HN4.out HG4.out HO4.out)
              have HB9 : Hid (Below (N + 2) u (w4.setCell ⟨V, 3, none⟩ (.slice ao3 (vs2.length + 1) cap3))) := by
                have hbs : But V w4 (w4.setCell ⟨V, 3, none⟩ (.slice ao3 (vs2.length + 1) cap3)) := But.setCell _ _ _ _
                have h2 := HB5.out
                have h4 := HG4.out
                have hz2 := h2.size
                have hz4 := h4.size
                have hzb := HBV1.out.size
                have hz3 : (w2.alloc (.cells #[.int .i64 y.k, .string y.t, .slice y.an y.ln y.cn, .slice y.ai y.li y.ci] 25)).heap.size = w2.heap.size + 1 := by simp
                refine HBV1.out.trans ⟨hbs.os.trans (h4.os.trans h2.os), hbs.tape.trans (h4.tape.trans h2.tape), hbs.output.trans (h4.output.trans h2.output), Nat.le_trans (by omega) hbs.size, fun k hk => ?_⟩
                rw [hbs.block k (by omega) (by omega), h4.block k (by omega) (fun e => by have := (HOWN.out k e.symm).1; omega), Below.heap_alloc w2 _ k (by omega)]
                exact h2.block k (by omega)
              clear HSTEP HN4 HG4 HO4
              rw [← e1]
              go_wp2_with fail
              go_roundw
            all_goals first
              | exact ⟨i + 1, by omega, by simp, HT2, HB9⟩
              | exact ⟨i + 1, by omega, by simp, HT2⟩
              | (simp [intOf]; omega)
          · have hil : ¬ (i : Int) < (x.li : Int) := by have := HLI.out; omega
            obtain ⟨an, ln, cn, ai2, ci2, vs2, F, g3, g4, g5, g6, g7, g8, g9, g10⟩ := HTI.out.rows
            have hJ2w : Jb wr (N + 1) 0 ⟨#[]⟩ (.slice none 0 0) (.slice none 0 0) := (HBV.out.block (N + 1) (by omega)).trans HJ2.out
            rw [List.take_of_length_le (by omega)] at g6
            have hzw := HBV.out.size
            have hbp := put4_but wr (N + 1) 0 ⟨x.k, x.t, an, ln, cn, ai2, vs2.length, ci2⟩
            have HFIN : Hid (∃ y : JV, Ending.returned (.agg #[.int .i64 x.k, .string x.t, .slice an ln cn, .slice ai2 vs2.length ci2]) = .returned y.val ∧ JRep (put4 wr (N + 1) 0 ⟨x.k, x.t, an, ln, cn, ai2, vs2.length, ci2⟩) (.mk k t ns is) y (fun b => w.heap.size ≤ b ∧ b < (put4 wr (N + 1) 0 ⟨x.k, x.t, an, ln, cn, ai2, vs2.length, ci2⟩).heap.size) ∧ Below w.heap.size w (put4 wr (N + 1) 0 ⟨x.k, x.t, an, ln, cn, ai2, vs2.length, ci2⟩)) := by
              refine ⟨⟨x.k, x.t, an, ln, cn, ai2, vs2.length, ci2⟩, rfl, ?_, HWW.out.trans ⟨hbp.os, hbp.tape, hbp.output, hbp.size, fun k hk => hbp.block k (by have := HNW.out; omega) (by have := HNW.out; omega)⟩⟩
              rw [JRep_mk]
              have hnN := HNW.out
              refine ⟨HKK.out, HTT.out, HT3.out, HA4.out, vs2, F, ownsRow_lower (ownsRow_stay g4 (fun g hg => hbp.block g (ownsRow_own g4 hg).2 (by have := (ownsRow_own g4 hg).1; omega))) (Nat.zero_le _), ownsRow_lower (ownsRow_stay g5 (fun g hg => hbp.block g (ownsRow_own g5 hg).2 (by have := (ownsRow_own g5 hg).1; omega))) (Nat.zero_le _), JReps.stay _ _ _ g6 (fun b hF => hbp.block b (g7 b hF).2.1 (by have := (g7 b hF).1; omega)), ?_, ?_, ?_, g10⟩
              · intro b hF
                have := g7 b hF
                rw [put4_size]
                exact ⟨by omega, this.2.1⟩
              · intro b hb
                have := ownsRow_own g4 hb
                rw [put4_size]
                exact ⟨⟨by omega, this.2⟩, (g8 b hb).1⟩
              · intro b hb
                have := ownsRow_own g5 hb
                rw [put4_size]
                exact ⟨⟨by omega, this.2⟩, (g9 b hb).1⟩
            have v0 := g3.c0
            have v1 := g3.c1
            have v2 := g3.c2
            have v3 := g3.c3
            have j0 := hJ2w.c0
            have j1 := hJ2w.c1
            have j2 := hJ2w.c2
            have j3 := hJ2w.c3
            have z0 := hJ2w.fz 0
            have z1 := hJ2w.fz 1
            have z2 := hJ2w.fz 2
            have z3 := hJ2w.fz 3
            simp only [put4, Nat.zero_add] at HFIN
            clear g3 g4 g5 g6 g7 g8 g9 g10 hbp hJ2w HTI
            go_wp2_with fail
            refine bodyPost_ret (v := .agg #[.int .i64 x.k, .string x.t, .slice an ln cn, .slice ai2 vs2.length ci2]) (by simp [results, Tryz.results49, go_sem, j0, j1, j2, j3]) rfl ?_
            exact HFIN.out
theorem copied_any (j : J) : CoOk j := (J.both (M1 := CoOk) (M2 := fun js => ∀ j ∈ js, CoOk j) copied_step (fun j h => by cases h) (fun j js h1 h2 j' h => by
    rcases List.mem_cons.1 h with e | e
    · rw [e]; exact h1
    · exact h2 j' e)).1 j
end Go.Proofs.YtiaedngnofablaaGreatDoor
