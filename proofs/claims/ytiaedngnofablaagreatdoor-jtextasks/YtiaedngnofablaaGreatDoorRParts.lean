/- The contract of the document's Parts: it answers some number. -/
import Derived.Test.YtiaedngnofablaaGreatDoorREqual
namespace Go.Proofs.YtiaedngnofablaaGreatDoor
open Go.RowKit

def smallJ (_ : Int) (_ : By) (ns : List By) (is : List J) (smalls : Prop) : Prop := ns.length ≤ 10000 ∧ is.length ≤ 10000 ∧ smalls
def smallC (_ : J) (_ : List J) (a b : Prop) : Prop := a ∧ b
/-- No row has more than ten thousand elements. -/
def JSmall (j : J) : Prop := @J.rec (motive_1 := fun _ => Prop) (motive_2 := fun _ => Prop) smallJ True smallC j
def JSmalls (js : List J) : Prop := @J.rec_1 (motive_1 := fun _ => Prop) (motive_2 := fun _ => Prop) smallJ True smallC js
theorem JSmall_mk (k : Int) (t : By) (ns : List By) (is : List J) : JSmall (.mk k t ns is) = (ns.length ≤ 10000 ∧ is.length ≤ 10000 ∧ JSmalls is) := rfl
theorem JSmalls_nil : JSmalls [] = True := rfl
theorem JSmalls_cons (j : J) (js : List J) : JSmalls (j :: js) = (JSmall j ∧ JSmalls js) := rfl
theorem jsmalls_iff : ∀ js : List J, JSmalls js ↔ ∀ j ∈ js, JSmall j
  | [] => by rw [JSmalls_nil]; simp
  | j :: js => by rw [JSmalls_cons, jsmalls_iff js]; simp
def PaOk (j : J) : Prop := ∀ (x : JV) (B : Nat) (most : Int) (w : World), JSee w B j x → JFit j → B ≤ w.heap.size → 0 ≤ most → most ≤ 10000 →
  Calls Tryz.prog 40 #[x.val, .int .i64 most] w fun e w' => ∃ n : Int, e = .returned (.int .i64 n) ∧ (1 ≤ n ∧ n ≤ most + 4611686018427387905 ∧ (n ≤ most → JSmall j)) ∧ Below w.heap.size w w'

set_option maxHeartbeats 4000000 in
set_option maxRecDepth 100000 in
theorem parts_step (k : Int) (t : By) (ns : List By) (is : List J) (ih : ∀ j ∈ is, PaOk j) : PaOk (.mk k t ns is) := by
  intro x B most w hx hf hB hm0 hm1
  rw [JSee_mk] at hx
  obtain ⟨a1, a2, a3, a4, an, vs, ai, ajs⟩ := hx
  rw [JFit_mk] at hf
  obtain ⟨f1, f2, f3, f4, f5⟩ := hf
  have HLI : Hid (x.li = is.length) := by show _ = _; rw [ai.1]; exact (JSees.get is vs ajs).1
  have HU := hide (below_new w (.cells #[.int .i64 x.k, .string x.t, .slice x.an x.ln x.cn, .slice x.ai x.li x.ci] 25))
  have HJ1 := hide (Jb.new w x.k x.t (.slice x.an x.ln x.cn) (.slice x.ai x.li x.ci))
  have HAI := hide ai
  have HAJ := hide ajs
  have HIH := hide ih
  have HF5 := hide f5
  have HBw := hide hB
  suffices HSU : ∀ PP : Ending → World → Prop, (∀ n w', (1 ≤ n ∧ n ≤ most + 4611686018427387905 ∧ (n ≤ most → JSmall (.mk k t ns is))) → Below w.heap.size w w' → PP (.returned (.int .i64 n)) w') → Calls Tryz.prog 40 #[x.val, .int .i64 most] w fun ε w' => True ∧ PP ε w' from (HSU _ (fun q w' h1 h2 => ⟨q, rfl, h1, h2⟩)).mono fun _ _ h => h.2
  intro PP hPP
  have HPP := hide hPP
  rw [show x.val = .agg #[.int .i64 x.k, .string x.t, .slice x.an x.ln x.cn, .slice x.ai x.li x.ci] from rfl]
  obtain ⟨N, hN⟩ : ∃ N, N = w.heap.size := ⟨_, rfl⟩
  have HLN := hide an.1
  have hwr : IntKind.i64.wrap (1 + (x.ln : Int)) = 1 + (x.ln : Int) := by rw [IntKind.wrap_i64, an.1]; omega
  clear hPP a1 a2 a3 a4 an ai ajs ih f1 f2 f5 hB
  go_enter Tryz.func40, Tryz.ntmps40
  go_upto_region 1 with fail
  rw [← hN] at HJ1 ⊢
  clear hN
  generalize w.alloc (.cells #[.int .i64 x.k, .string x.t, .slice x.an x.ln x.cn, .slice x.ai x.li x.ci] 25) = u at *
  have p2 := HJ1.out.c2
  have p3 := HJ1.out.c3
  go_wp2_with fail
  go_loopw [5, 6] (fun v5 v6 wr => ∃ (i : Nat) (n : Int), i ≤ is.length ∧ v5 = .int .i64 n ∧ v6 = .int .i64 (i : Int) ∧ 1 + (ns.length : Int) + (i : Int) ≤ n ∧ n ≤ most + 4611686018427387905 ∧ Hid (n ≤ most → ∀ j ∈ is.take i, JSmall j) ∧ Hid (Below u.heap.size u wr)) (fun _ v6 _ => is.length - (intOf v6).toNat)
  case atStart => exact ⟨0, _, Nat.zero_le _, rfl, rfl, by have := HLN.out; omega, by have := HLN.out; omega, (fun _ j hj => by rw [List.take_zero] at hj; cases hj), Below.refl _ _⟩
  case round =>
    obtain ⟨i, n, hi, rfl, rfl, hn1, hn2, HSM, HB⟩ := hrel
    have s3 := cell_kept p3 HB.out
    by_cases hin : i < is.length
    · have hil : (i : Int) < (x.li : Int) := by have := HLI.out; omega
      by_cases hle : n ≤ most
      · obtain ⟨v1, hv1, hw1⟩ := (JSees.get is vs HAJ.out).2 i is[i] (List.getElem?_eq_getElem hin)
        obtain ⟨g1, o1, e1, hg1, hc1⟩ : ∃ g off, x.ai = some ⟨g, off, none⟩ ∧ g < B ∧ ∀ i v, vs[i]? = some v → ∀ j u, v.cells[j]? = some u → w.cell? ⟨g, off + (4 * i + j), none⟩ = some u := by
          rcases HAI.out.2 with e | e
          · rw [e] at hv1; simp at hv1
          · exact e
        have k0 : wr.cell? ⟨g1, o1 + i * 4, none⟩ = some (.int .i64 v1.k) := by have := cell_kept (cell_kept (hc1 i v1 hv1 0 _ rfl) HU.out) HB.out; rw [show o1 + (4 * i + 0) = o1 + i * 4 by omega] at this; exact this
        have k1 : wr.cell? ⟨g1, o1 + i * 4 + 1, none⟩ = some (.string v1.t) := by have := cell_kept (cell_kept (hc1 i v1 hv1 1 _ rfl) HU.out) HB.out; rw [show o1 + (4 * i + 1) = o1 + i * 4 + 1 by omega] at this; exact this
        have k2 : wr.cell? ⟨g1, o1 + i * 4 + 2, none⟩ = some (.slice v1.an v1.ln v1.cn) := by have := cell_kept (cell_kept (hc1 i v1 hv1 2 _ rfl) HU.out) HB.out; rw [show o1 + (4 * i + 2) = o1 + i * 4 + 2 by omega] at this; exact this
        have k3 : wr.cell? ⟨g1, o1 + i * 4 + 3, none⟩ = some (.slice v1.ai v1.li v1.ci) := by have := cell_kept (cell_kept (hc1 i v1 hv1 3 _ rfl) HU.out) HB.out; rw [show o1 + (4 * i + 3) = o1 + i * 4 + 3 by omega] at this; exact this
        rw [e1] at s3
        have HLOW : Hid (∀ k, k < B → wr.heap[k]? = w.heap[k]?) := fun k hk => (HB.out.block k (by have := HBw.out; have := HU.out.size; omega)).trans (HU.out.block k (by have := HBw.out; omega))
        have HC : Hid (Calls Tryz.prog 40 #[v1.val, .int .i64 (most - n)] wr fun e w' => ∃ m : Int, e = .returned (.int .i64 m) ∧ (1 ≤ m ∧ m ≤ (most - n) + 4611686018427387905 ∧ (m ≤ most - n → JSmall is[i])) ∧ Below wr.heap.size wr w') := HIH.out is[i] (List.getElem_mem hin) v1 B (most - n) wr (JSee.stay _ _ hw1 HLOW.out) (JFits.get is HF5.out i _ (List.getElem?_eq_getElem hin)) (by have := HBw.out; have := HU.out.size; have := HB.out.size; omega) (by omega) (by omega)
        have hwr2 : IntKind.i64.wrap (most - n) = most - n := by rw [IntKind.wrap_i64]; omega
        have HTK : Hid (is.take (i + 1) = is.take i ++ [is[i]]) := by show _ = _; rw [List.take_add_one, List.getElem?_eq_getElem hin]; rfl
        rw [show v1.val = .agg #[.int .i64 v1.k, .string v1.t, .slice v1.an v1.ln v1.cn, .slice v1.ai v1.li v1.ci] from rfl] at HC
        clear hv1 hw1 hc1 e1 HLOW
        go_wp2_with fail
        refine HC.out.mono ?_
        rintro ε w2 ⟨m, rfl, ⟨hm2, hm3, hm4⟩, hb5⟩
        have hwr3 : IntKind.i64.wrap (n + m) = n + m := by rw [IntKind.wrap_i64]; omega
        have HSM2 : Hid (n + m ≤ most → ∀ j ∈ is.take (i + 1), JSmall j) := fun h j hj => by
          rw [HTK.out] at hj
          rcases List.mem_append.1 hj with h1 | h1
          · exact HSM.out (by omega) j h1
          · rw [List.mem_singleton.1 h1]; exact hm4 (by omega)
        clear hm4
        have HB5 := hide (below_up HB.out hb5)
        clear hb5
        go_wp2_with fail
        go_roundw
        case rel => exact ⟨i + 1, n + m, by omega, rfl, by simp, by push_cast; omega, by omega, HSM2, HB5⟩
        case measure => simp [intOf]; omega
      · have HE := hide (HPP.out n wr ⟨by omega, hn2, fun h => absurd h hle⟩ (below_up HU.out HB.out))
        go_wp2_with fail
        first | (go_ret; exact ⟨trivial, HE.out⟩) | exact HE.out
    · have hil : ¬ (i : Int) < (x.li : Int) := by have := HLI.out; omega
      have HE := hide (HPP.out n wr ⟨by omega, hn2, fun h => by
        rw [JSmall_mk, jsmalls_iff]
        have h2 := HSM.out h
        rw [List.take_of_length_le (by omega)] at h2
        exact ⟨by omega, by omega, h2⟩⟩ (below_up HU.out HB.out))
      go_wp2_with fail
      first | (go_ret; exact ⟨trivial, HE.out⟩) | exact HE.out
theorem parts_any (j : J) : PaOk j := (J.both (M1 := PaOk) (M2 := fun js => ∀ j ∈ js, PaOk j) parts_step (fun j h => by cases h) (fun j js h1 h2 j' h => by
    rcases List.mem_cons.1 h with e | e
    · rw [e]; exact h1
    · exact h2 j' e)).1 j
set_option maxRecDepth 100000 in
theorem large_any (j : J) (x : JV) (B : Nat) (w : World) (hx : JSee w B j x) (hf : JFit j) (hB : B ≤ w.heap.size) : Calls Tryz.prog 14 #[x.val] w fun e w' => ∃ q : Bool, e = .returned (.bool q) ∧ (q = false → JSmall j) ∧ Below w.heap.size w w' := by
  have HU := hide (below_new w (.cells #[.int .i64 x.k, .string x.t, .slice x.an x.ln x.cn, .slice x.ai x.li x.ci] 25))
  have HC := hide (parts_any j x B 10000 (w.alloc (.cells #[.int .i64 x.k, .string x.t, .slice x.an x.ln x.cn, .slice x.ai x.li x.ci] 25)) (JSee.stay _ _ hx (fun k hk => HU.out.block k (by omega))) hf (by have := HU.out.size; omega) (by decide) (by decide))
  rw [show x.val = .agg #[.int .i64 x.k, .string x.t, .slice x.an x.ln x.cn, .slice x.ai x.li x.ci] from rfl] at HC ⊢
  clear hx hf hB
  go_enter Tryz.func14, Tryz.ntmps14
  go_wp2_with fail
  refine HC.out.mono ?_
  rintro ε w2 ⟨m, rfl, ⟨_, _, hm4⟩, hb5⟩
  have HB5 := hide (below_up HU.out hb5)
  have HM4 := hide hm4
  clear hb5 hm4
  go_wp2_with fail
  go_ret
  exact ⟨decide ((10000 : Int) < m), rfl, fun h => HM4.out (by have := of_decide_eq_false h; omega), HB5.out⟩
end Go.Proofs.YtiaedngnofablaaGreatDoor
