/- The contract of Print. The contract of live: a value is read, told, and a fault is told at its place. -/
import Derived.Test.YtlebockgdonceaaGreatDoorKPVal
import Derived.Test.YtlebockgdonceaaGreatDoorKShape
import Derived.Test.YtlebockgdonceaaGreatDoorKBack
import Derived.Test.YtlebockgdonceaaGreatDoorKPEsc
import Derived.Test.YtlebockgdonceaaGreatDoorKWhole
namespace Go.Proofs.YtlebockgdonceaaGreatDoor
open Go.RowKit

/-- What Print answers. -/
def prVal : Pr → Value
  | .ok ys => .tuple #[.string (bstr ys), .int .i64 0]
  | .error e => .tuple #[.string ⟨#[]⟩, .int .i64 (e : Int)]

set_option maxHeartbeats 2000000 in
set_option maxRecDepth 100000 in
theorem written_any (j : J) (x : JV) (B : Nat) (w : World) (hj : JSee w B j x) (hf : JFit j) (hB : B ≤ w.heap.size) (h7 : 6 ≤ w.heap.size) (hT : Tabs w) (hZ : ZT w) :
    Calls Tryz.prog 21 #[x.val, .bool false] w fun ε w' => ε = .returned (prVal (pAt 32 j [])) ∧ Below w.heap.size w w' := by
  obtain ⟨N, hN⟩ : ∃ N, N = w.heap.size := ⟨_, rfl⟩
  have HU : Hid (Below w.heap.size w ((w.alloc (.cells #[.int .i64 x.k, .string x.t, .slice x.an x.ln x.cn, .slice x.ai x.li x.ci] 25)).alloc (.cells #[.pointer none, .slice none 0 0, .bool false] 72))) := ((Below.refl _ _).alloc (Nat.le_refl _) _).alloc (by simp) _
  have HWB : Hid (WB (N + 1) false [] ((w.alloc (.cells #[.int .i64 x.k, .string x.t, .slice x.an x.ln x.cn, .slice x.ai x.li x.ci] 25)).alloc (.cells #[.pointer none, .slice none 0 0, .bool false] 72))) := by
    refine ⟨.pointer none, .slice none 0 0, .inl rfl, ?_, World.ownsRow_nil _ _ _ _⟩
    have := Bl.new (w.alloc (.cells #[.int .i64 x.k, .string x.t, .slice x.an x.ln x.cn, .slice x.ai x.li x.ci] 25)) #[.pointer none, .slice none 0 0, .bool false] 72
    rw [show (w.alloc (.cells #[.int .i64 x.k, .string x.t, .slice x.an x.ln x.cn, .slice x.ai x.li x.ci] 25)).heap.size = N + 1 by rw [hN]; simp] at this
    exact this
  have hV := wvalue_any valid_ok 32 (Nat.le_refl _) (N + 1) B j x [] _ HWB.out (by decide) (JSee.stay j x hj (fun k hk => HU.out.block k (by omega))) hf (by omega) (by omega) (hT.keep HU.out) (hZ.wk (b := 6) ⟨HU.out.os, HU.out.tape, HU.out.output, HU.out.size, fun k hk => HU.out.block k (by omega), fun k o hk _ _ => (HU.out.block k (Array.getElem?_eq_some_iff.1 hk).1).trans hk⟩ (Nat.le_refl _))
  rw [show (32 - ((32 : Nat) : Int)) = 0 from rfl] at hV
  have HV := hide hV
  have HG : Hid (∀ ys, pAt 32 j [] = .ok ys → (∀ c ∈ ys, c < 256) ∧ ys ≠ []) := fun ys hy => ⟨(pAt_asc 32 j [] ys (fun c hc => by cases hc) hy).lt, by obtain ⟨_, c, t, e, _⟩ := pAt_goes 32 j [] ys hy; rw [e]; simp⟩
  generalize pAt 32 j [] = P at HV HG ⊢
  rw [show x.val = .agg #[.int .i64 x.k, .string x.t, .slice x.an x.ln x.cn, .slice x.ai x.li x.ci] from rfl] at HV ⊢
  have HNW := hide hN
  clear hj hf hT hZ hV hN
  suffices HSU : ∀ PP : Ending → World → Prop, (∀ ε w', ε = .returned (prVal P) ∧ Below w.heap.size w w' → PP ε w') → Calls Tryz.prog 21 #[.agg #[.int .i64 x.k, .string x.t, .slice x.an x.ln x.cn, .slice x.ai x.li x.ci], .bool false] w fun ε w' => True ∧ PP ε w' from (HSU _ (fun _ _ h => h)).mono fun _ _ h => h.2
  intro PP hPP
  have HPP := hide hPP
  clear hPP
  go_enter Tryz.func21, Tryz.ntmps21
  go_wp2_with fail
  rw [← HNW.out]
  refine HV.out.mono ?_
  intro ε w3 h3
  obtain ⟨hk, _⟩ := h3.wk
  have HBL : Hid (Below w.heap.size w w3) := HU.out.trans ⟨hk.os, hk.tape, hk.output, hk.size, fun k hk2 => hk.low k (by have := HNW.out; omega)⟩
  clear hk
  cases P with
  | error e =>
    obtain ⟨rfl, _, hne⟩ := h3
    have hne0 : ((e : Int) != 0) = true := by simp; omega
    have HE := hide (HPP.out (.returned (.tuple #[.string ⟨#[]⟩, .int .i64 (e : Int)])) w3 ⟨rfl, HBL.out⟩)
    clear hne
    go_wp2_with fail
    go_ret2
    exact ⟨trivial, HE.out⟩
  | ok ys =>
    obtain ⟨rfl, hwb, _, _⟩ := h3
    obtain ⟨g1, g2⟩ := HG.out ys rfl
    have HST := hide (stringW_any (N + 1) false ys w3 hwb g1 g2)
    clear hwb g1 g2
    go_wp2_with fail
    refine HST.out.mono ?_
    rintro ε w4 ⟨rfl, hb4⟩
    have HE := hide (HPP.out (.returned (.tuple #[.string (bstr ys), .int .i64 0])) w4 ⟨rfl, HBL.out.trans ⟨hb4.os, hb4.tape, hb4.output, hb4.size, fun k hk2 => hb4.block k (by have := HNW.out; omega)⟩⟩)
    clear hb4
    go_wp2_with fail
    go_ret2
    exact ⟨trivial, HE.out⟩
set_option maxHeartbeats 1000000 in
set_option maxRecDepth 100000 in
theorem print_any (j : J) (x : JV) (B : Nat) (w : World) (hj : JSee w B j x) (hf : JFit j) (hB : B ≤ w.heap.size) (h7 : 6 ≤ w.heap.size) (hT : Tabs w) (hZ : ZT w) :
    Calls Tryz.prog 12 #[x.val] w fun ε w' => ε = .returned (prVal (pAt 32 j [])) ∧ Below w.heap.size w w' := by
  have HU := hide (below_new w (.cells #[.int .i64 x.k, .string x.t, .slice x.an x.ln x.cn, .slice x.ai x.li x.ci] 25))
  have HV := hide (written_any j x B _ (JSee.stay j x hj (fun k hk => HU.out.block k (by omega))) hf (by have := HU.out.size; omega) (by have := HU.out.size; omega) (hT.keep HU.out) (hZ.wk (b := 6) ⟨HU.out.os, HU.out.tape, HU.out.output, HU.out.size, fun k hk => HU.out.block k (by omega), fun k o hk _ _ => (HU.out.block k (Array.getElem?_eq_some_iff.1 hk).1).trans hk⟩ (Nat.le_refl _)))
  generalize pAt 32 j [] = P at HV ⊢
  rw [show x.val = .agg #[.int .i64 x.k, .string x.t, .slice x.an x.ln x.cn, .slice x.ai x.li x.ci] from rfl] at HV ⊢
  clear hj hf hT hZ
  have HR : Hid (∃ a b, prVal P = .tuple #[.string a, .int .i64 b]) := by cases P <;> exact ⟨_, _, rfl⟩
  obtain ⟨a, b, hR⟩ := HR.out
  rw [hR] at HV ⊢
  clear HR hR
  go_enter Tryz.func12, Tryz.ntmps12
  go_wp2_with fail
  refine HV.out.mono ?_
  rintro ε w3 ⟨rfl, hb⟩
  have HB := hide (HU.out.trans ⟨hb.os, hb.tape, hb.output, hb.size, fun k hk2 => hb.block k (by have := HU.out.size; omega)⟩)
  clear hb
  go_wp2_with fail
  go_ret2
  exact ⟨rfl, HB.out⟩
end Go.Proofs.YtlebockgdonceaaGreatDoor
namespace Go.Proofs.YtlebockgdonceaaGreatDoor
open Go.RowKit

set_option maxRecDepth 100000 in
theorem num_any (n : Int) (w : World) : Calls Tryz.prog 7 #[.int .i64 n] w fun e w' => e = .returned (.int .i64 n) ∧ w' = w := by
  go_enter Tryz.func7, Tryz.ntmps7
  go_wp2_with fail
  go_ret
  exact ⟨rfl, rfl⟩
def liveJ : J := .mk 6 [] [[97]] [.mk 5 [] [] [.mk 3 [49] [] [], .mk 2 [] [] [], .mk 4 [120] [] []]]
set_option maxRecDepth 100000 in
theorem live_parse : parse (sbytes ⟨#[32, 123, 34, 97, 34, 32, 58, 32, 91, 49, 44, 32, 116, 114, 117, 101, 44, 32, 34, 120, 34, 93, 125, 32]⟩) = (liveJ, 0, 0) := by rfl
set_option maxRecDepth 100000 in
theorem live_bad : parse (sbytes ⟨#[91, 49, 44, 93]⟩) = (J.zero, 40, 3) := by rfl
set_option maxRecDepth 100000 in
theorem live_print : pAt 32 liveJ [] = .ok [123, 34, 97, 34, 58, 91, 49, 44, 116, 114, 117, 101, 44, 34, 120, 34, 93, 125] := by rfl
theorem live_fit : JFit liveJ := by
  unfold liveJ
  simp [JFit_mk, JFits_nil, JFits_cons]
theorem ZT.keep {w w' : World} (h : ZT w) (hb : Below w.heap.size w w') : ZT w' := cell_kept h hb

set_option maxHeartbeats 2000000 in
set_option maxRecDepth 100000 in
theorem live_true (w : World) (hT : Tabs w) (hZ : ZT w) (hz : 6 ≤ w.heap.size) : Calls Tryz.prog 6 #[] w fun e w' => e = .returned (.bool true) ∧ Below w.heap.size w w' := by
  have HP1 := hide (parse_any ⟨#[32, 123, 34, 97, 34, 32, 58, 32, 91, 49, 44, 32, 116, 114, 117, 101, 44, 32, 34, 120, 34, 93, 125, 32]⟩ w hT (by omega) (by decide))
  rw [live_parse] at HP1
  have HT := hide hT
  have HZ := hide hZ
  clear hT hZ
  go_enter Tryz.func6, Tryz.ntmps6
  go_wp2_with fail
  refine HP1.out.mono ?_
  rintro ε w1 ⟨x, rfl, hr, hb⟩
  have HB2 : Hid (Below w.heap.size w (w1.alloc (.cells #[.int .i64 x.k, .string x.t, .slice x.an x.ln x.cn, .slice x.ai x.li x.ci] 25))) := hb.alloc hb.size _
  have HPR := hide (print_any liveJ x w1.heap.size (w1.alloc (.cells #[.int .i64 x.k, .string x.t, .slice x.an x.ln x.cn, .slice x.ai x.li x.ci] 25)) (JSee.stay _ _ (JRep.see _ _ _ hr (fun b h => h.2)) (fun k hk => (below_new w1 _).block k hk)) live_fit (by simp) (by have := hb.size; simp; omega) (HT.out.keep HB2.out) (HZ.out.keep HB2.out))
  rw [live_print] at HPR
  clear hr hb HP1
  rw [show x.val = .agg #[.int .i64 x.k, .string x.t, .slice x.an x.ln x.cn, .slice x.ai x.li x.ci] from rfl] at HPR ⊢
  go_wp2_with fail
  refine HPR.out.mono ?_
  rintro ε w3 ⟨rfl, hb3⟩
  have HB3 : Hid (Below w.heap.size w w3) := HB2.out.trans ⟨hb3.os, hb3.tape, hb3.output, hb3.size, fun k hk => hb3.block k (by have := HB2.out.size; omega)⟩
  have HP3 := hide (parse_any ⟨#[91, 49, 44, 93]⟩ w3 (HT.out.keep HB3.out) (by have := HB3.out.size; omega) (by decide))
  rw [live_bad] at HP3
  clear hb3 HPR HB2
  rw [show prVal (.ok [123, 34, 97, 34, 58, 91, 49, 44, 116, 114, 117, 101, 44, 34, 120, 34, 93, 125]) = .tuple #[.string ⟨#[123, 34, 97, 34, 58, 91, 49, 44, 116, 114, 117, 101, 44, 34, 120, 34, 93, 125]⟩, .int .i64 0] from rfl]
  go_wp2_with fail
  refine HP3.out.mono ?_
  rintro ε w4 ⟨y, rfl, _, hb4⟩
  have HB4 : Hid (Below w.heap.size w (w4.alloc (.cells #[.int .i64 y.k, .string y.t, .slice y.an y.ln y.cn, .slice y.ai y.li y.ci] 25))) := (HB3.out.trans ⟨hb4.os, hb4.tape, hb4.output, hb4.size, fun k hk => hb4.block k (by have := HB3.out.size; omega)⟩).alloc (by have := HB3.out.size; have := hb4.size; omega) _
  clear hb4 HP3
  rw [show y.val = .agg #[.int .i64 y.k, .string y.t, .slice y.an y.ln y.cn, .slice y.ai y.li y.ci] from rfl]
  go_wp2_with fail
  refine (num_any _ _).mono ?_
  rintro e w5 ⟨rfl, rfl⟩
  go_wp2_with fail
  refine (num_any _ _).mono ?_
  rintro e w5 ⟨rfl, rfl⟩
  go_wp2_with fail
  refine (num_any _ _).mono ?_
  rintro e w5 ⟨rfl, rfl⟩
  go_wp2_with fail
  go_ret
  exact ⟨rfl, HB4.out⟩
end Go.Proofs.YtlebockgdonceaaGreatDoor
