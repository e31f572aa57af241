/- wheel.Each on a live wheel: its timers by their rising ids, kept in a row of its own. -/
import Derived.Deep.DeepCutAuto
import Derived.Deep.RegionLaw
import Derived.Test.YtmngmkbiibhmkaaVEach
namespace Go.Proofs.Ytmngmkbiibhmkaa
open Go.RowKit Go.Shelf Go.Maps

theorem rise_fst {L : List Tm} (h : Rise L) : (L.map Prod.fst).Pairwise (· < ·) := List.pairwise_map.2 h
theorem has_fst {L : List Tm} (h : Rise L) (x : Nat) : has (DT L) (.int .u64 (x : Int)) = true ↔ x ∈ L.map Prod.fst := by
  rw [dt_has]
  constructor
  · intro hs
    obtain ⟨a, ha⟩ := Option.isSome_iff_exists.1 hs
    exact List.mem_map.2 ⟨_, tget_some ha, rfl⟩
  · intro hm
    obtain ⟨p, hp, rfl⟩ := List.mem_map.1 hm
    rw [tget_mem h hp]; rfl
/-- What Each keeps between the rounds: the box at N, the timers so far. -/
def EI (w3 wr : World) (N : Nat) (L : List Tm) (i : Nat) : Prop := ∃ ko kc, Bl wr N [.slice ko i kc] 78 ∧ TOwn wr w3.heap.size (.slice ko i kc) (L.take i) ∧ But N w3 wr
theorem rrow_of {w : World} {B i kc : Nat} {ko : Option Addr} {ds : List Tm} (h : TOwn w B (.slice ko i kc) ds) : RRow w ko ds := by
  by_cases h0 : ds = []
  · exact .inl h0
  · obtain ⟨ao, cap, e, hg⟩ := h.shape
    obtain ⟨g, hg⟩ := hg h0
    injection e with e1 e2 e3
    subst e1
    subst hg
    exact .inr ⟨g, 0, rfl, fun j x hx => by rw [Nat.zero_add]; exact h.cell hx⟩
def EK (w' : World) (N : Nat) (L : List Tm) : Prop := ∃ ko kc, Bl w' N [.slice ko L.length kc] 78 ∧ RRow w' ko L ∧ ∀ a, ko = some a → N < a.block
theorem grown_undrewT {w w' : World} {r : Option Nat} (h : w.drew.grownBy w' r) : w.grownBy w' r := ⟨h.os, h.tape, h.output, h.size, h.block⟩
/-- append of one timer, as a step of a region that draws. -/
theorem law_appT {w : World} {ops : Array Oper} {o : Oper} {a : Act} {K : Act → World → Prop} {Q : Exit → Act → World → Prop} {E : Prop} (hgd : o.guard = none) (s x : Operand)
    (ho : o.op = .call { callee := .builtin .append, args := #[s, x], argTypes := #[78, 78] }) (B : Nat) (v : Value) (ds : List Tm) (hs : a.eval s = v) (hown : TOwn w B v ds)
    (g : Nat) (t : Tm) (hx : a.eval x = .slice (some ⟨g, 0, none⟩) 1 1) (hy : Bl w g [.int .u64 (t.1 : Int), .int .u64 (t.2 : Int)] 80) (hsz : ds.length ≤ 1000000) (hB : B ≤ w.heap.size)
    (h : ∀ ao cap w', TOwn w' B (.slice ao (ds.length + 1) cap) (ds ++ [t]) → w.grownBy w' v.ownBlock → K (a.put o.dst (.slice ao (ds.length + 1) cap)) w') : if Region.wanted o (yielded ops a.tmps) = true then Oper.wp Try.prog o a w K Q else E := by
  obtain ⟨i0, hi, hz0, hz1, hz2⟩ := info_parts infoT
  rw [if_pos (by simp [Region.wanted, hgd])]
  obtain ⟨v', w', hrun, h1, h2, h3, h4⟩ := run_append_own_at (P := Try.prog) w B 78 o.type 80 i0 _ 2 16 Try.underlying78 hi hz0 hz1 hz2 rfl (by decide) v ds.length (ds.flatMap encT) hown ⟨g, 0, none⟩ 1 1 (encT t) rfl (fun j u hu => by rw [add_none, Nat.zero_add, hy.cell]; exact hu) (fun u hu => encT_one [t] u (by simpa using hu)) (by unfold maxLen; omega) (by omega) hB
  have k1 : TOwn w' B v' (ds ++ [t]) := by unfold TOwn; rw [List.length_append, List.flatMap_append]; simpa using h1
  unfold Oper.wp
  simp [execOp, ho, resolve, invoke, builtin, hs, hx, hrun, Result.andThen]
  obtain ⟨ao, cap, e, _⟩ := k1.shape
  rw [List.length_append] at e
  subst e
  exact h ao cap w' k1 h2
set_option maxHeartbeats 4000000 in
set_option maxRecDepth 100000 in
theorem each_any (wp now : Nat) (L : List Tm) (Y : Lay) (w : World) (h : Whl w wp now L Y) : Calls Try.prog 39 #[pw wp] w fun e w' => e = .returned (.func (.func 50) #[] #[.pointer (some ⟨w.heap.size, 0, none⟩)]) ∧ Below w.heap.size w w' ∧ EK w' w.heap.size L := by
  obtain ⟨S, h1, h2⟩ := h
  obtain ⟨N, hN⟩ : ∃ N, N = w.heap.size := ⟨_, rfl⟩
  have hwp : wp < w.heap.size := h1.box.lt
  have HLT : Hid (∀ b ∈ Y.blocks wp, b < N) := by intro b hb; rw [hN]; exact h1.lt b hb
  have hmp : Y.mp < w.heap.size := h1.map.lt
  obtain ⟨W0, hW0⟩ : ∃ W0, W0 = w.alloc (.cells #[.slice none 0 0] 78) := ⟨_, rfl⟩
  have hB0 : Bl W0 N [.slice none 0 0] 78 := by rw [hW0, hN]; exact Bl.new _ _ _
  have hb0 : Below w.heap.size w W0 := by rw [hW0]; exact below_new _ _
  have hs0 : W0.heap.size = N + 1 := by rw [hW0, hN]; simp
  have hr0 : Rep W0 wp now L S Y := h1.below hb0
  have hb1 := below_new W0 (.cells #[.map (some Y.mp)] 64)
  have hcol := sorted_any W0.heap.size Y.mp L (rise_fst h2.rise) (has_fst h2.rise) (by have := h2.len; omega) (W0.alloc (.cells #[.map (some Y.mp)] 64)) (by simp) (by rw [(Bl.new W0 #[.map (some Y.mp)] 64).cell 0]; rfl) (hr0.map.same (hb1.block _ (by omega)))
  have c1 : W0.cell? ⟨wp, 1, none⟩ = some (.map (some Y.mp)) := hr0.mapc
  have HC := hide hcol
  have HB0 := hide hB0
  have HBW := hide hb0
  have HR := hide hr0
  have HOK := hide h2
  have HB1 := hide hb1
  obtain ⟨m, hm⟩ : ∃ m, m = L.length := ⟨_, rfl⟩
  have HM := hide hm
  have hml : m ≤ 8192 := by rw [hm]; exact h2.len
  have HWP := hide (show wp < N ∧ Y.mp < N from ⟨by omega, by omega⟩)
  rw [← hN]
  have HN := hide hN
  have HW0 := hide hW0
  have HS0 := hide hs0
  clear hcol hB0 hb0 hr0 h1 h2 hb1 hwp hmp hm
  unfold pw
  go_enter Try.func39, Try.ntmps39
  go_upto_region 3 with fail
  rw [← hW0, ← hN]
  clear hW0 hs0 hN
  go_wp2_with (first | (go_at_call 49; refine (keys_any Y.mp W0).mono ?_; rintro e w1 ⟨rfl, hw⟩; subst hw) | (go_at_call 48; refine HC.out.mono ?_; rintro e w3 ⟨v, rfl, hv, hb3⟩; obtain ⟨ao, k, cap, rfl⟩ := own_shape hv; have HV := hide hv; have HB3 := hide hb3; clear hv hb3))
  have hk : k = m := by
    obtain ⟨ao2, cap2, e, _⟩ := HV.out.read
    injection e with e1 e2 e3
    rw [e2, List.length_map, HM.out]
  subst hk
  have HN3 : Hid (N < w3.heap.size) := by have h1 := HB3.out.size; have h2 := HS0.out; simp only [World.size_alloc] at h1; show N < _; omega
  have HST : Hid (EI w3 w3 N L 0) := ⟨none, 0, (HB0.out.alloc _).below HB3.out (by have := HS0.out; simp; omega), town_nil _ _, But.refl _ _⟩
  have HAL : Hid (∀ wr, But N w3 wr → Rep wr wp now L S Y ∧ Own wr (N + 2) (.slice ao k cap) (L.map Prod.fst)) := by
    intro wr hb
    have hs := HS0.out
    have r3 : Rep w3 wp now L S Y := (HR.out.below HB1.out).keep fun b hm => HB3.out.block b (by have := HLT.out b hm; simp; omega)
    have hs3 := HB3.out.size
    simp only [World.size_alloc] at hs3
    refine ⟨r3.keep fun b hm => hb.block b (by have := HLT.out b hm; omega) (by have := HLT.out b hm; omega), ?_⟩
    have hv := HV.out
    simp only [World.size_alloc, hs] at hv
    exact hv.same fun g hg => hb.block g (hv.lt g hg).2 (by have := (hv.lt g hg).1; omega)
  have HE : Hid (∀ wr, But N w3 wr → Below N w wr) := by
    intro wr hb
    have hs := HS0.out
    have hn := HN.out
    have hs3 := HB3.out.size
    simp only [World.size_alloc] at hs3
    have h1 : Below N w W0 := by rw [hn]; exact HBW.out
    exact ((h1.trans (HB1.out.mono (by omega))).trans (HB3.out.mono (by simp; omega))).trans (hb.below (Nat.le_refl _) (by omega))
  clear HC HB0 HBW HR HB1 HV HB3 HW0 HS0 HLT c1
  go_loopw [15] (fun v15 wr => ∃ i : Nat, i ≤ k ∧ v15 = .int .i64 (i : Int) ∧ Hid (EI w3 wr N L i)) (fun v15 _ => k - (intOf v15).toNat)
  case atStart => exact ⟨0, by omega, rfl, HST⟩
  case round =>
    clear HST
    obtain ⟨i, hi, rfl, HI⟩ := hrel
    obtain ⟨ko, kc, b1, b2, b3⟩ := HI.out
    by_cases hik : i < k
    · have hik' : (i : Int) < (k : Int) := by omega
      obtain ⟨x, hx⟩ : ∃ x, L[i]? = some x := ⟨_, List.getElem?_eq_getElem (by have := HM.out; omega)⟩
      obtain ⟨rr, oo⟩ := HAL.out wr b3
      obtain ⟨ao2, cap2, e, hcap, hrow⟩ := oo.read
      injection e with e1 e2 e3
      subst e1
      have hci : ∃ bb off, ao = some ⟨bb, off, none⟩ ∧ wr.cell? ⟨bb, off + i, none⟩ = some (.int .u64 (x.1 : Int)) := by
        rcases hrow with h0 | ⟨bb, off, h0, hc⟩
        · rw [List.map_eq_nil_iff] at h0; subst h0; simp at hx
        · have hii : i < L.length := by have := HM.out; omega
          refine ⟨bb, off, h0, ?_⟩
          rw [hc i (by rw [List.length_map]; exact hii)]
          have hxe : L[i] = x := by simpa [hii] using hx
          simp [uv, List.getD, hii, hxe]
      obtain ⟨bb, off, rfl, ci⟩ := hci
      have c1 := rr.mapc
      have hmem : x ∈ L := List.mem_of_getElem? hx
      have hlk := (MapAt.same (w' := wr.drew) rr.map rfl).look (HOK.out.big x hmem).1
      rw [tget_mem HOK.out.rise hmem, Option.getD_some] at hlk
      have c0 : wr.cell? ⟨N, 0, none⟩ = some (.slice ko i kc) := by rw [b1.cell 0]; rfl
      have f0 := b1.frozen 0
      have HX := hide hx
      have HT := hide b2
      have HB := hide b3
      have HBX := hide b1
      obtain ⟨x1, x2⟩ := x
      clear rr oo hrow hmem hcap e2 e3 b1 b2 b3 HI hx
      have hlen : (L.take i).length = i := by rw [List.length_take]; have := HM.out; omega
      have HLEN := hide hlen
      have HKB : Hid (∀ w5, (wr.alloc (.cells #[.int .u64 (x1 : Int), .int .u64 (x2 : Int)] 80)).grownBy w5 (Value.ownBlock (.slice ko i kc)) → Bl w5 N [.slice ko i kc] 78 ∧ But N w3 w5) := by
        intro w5 h5
        have hs3 := HB.out.size
        have hN3 : N < w3.heap.size := HN3.out
        have hne : ∀ g, Value.ownBlock (.slice ko i kc) = some g → w3.heap.size ≤ g := fun g hg => (HT.out.lt g hg).1
        have hs5 := h5.size
        simp only [World.size_alloc] at hs5
        have hold : ∀ j, j < w3.heap.size → w5.heap[j]? = wr.heap[j]? := fun j hj => (h5.block j (by simp; omega) (fun e => by have := hne j e.symm; omega)).trans (Below.heap_alloc _ _ j (by omega))
        exact ⟨(hold N hN3).trans HBX.out, h5.os.trans HB.out.os, h5.tape.trans HB.out.tape, h5.output.trans HB.out.output, by omega, fun j hj hjn => (hold j hj).trans (HB.out.block j hj hjn)⟩
      have HT2 : Hid (TOwn (World.drew (wr.alloc (.cells #[.int .u64 (x1 : Int), .int .u64 (x2 : Int)] 80))) w3.heap.size (.slice ko i kc) (L.take i)) := HT.out.keep (below_new wr (.cells #[.int .u64 (x1 : Int), .int .u64 (x2 : Int)] 80)).drew
      have c0a : World.cell? (wr.alloc (.cells #[.int .u64 (x1 : Int), .int .u64 (x2 : Int)] 80)) ⟨N, 0, none⟩ = some (.slice ko i kc) := by rw [(HBX.out.alloc (.cells #[.int .u64 (x1 : Int), .int .u64 (x2 : Int)] 80)).cell 0]; rfl
      have HBN : Hid (Bl (World.drew (wr.alloc (.cells #[.int .u64 (x1 : Int), .int .u64 (x2 : Int)] 80))) wr.heap.size [.int .u64 (x1 : Int), .int .u64 (x2 : Int)] 80) := Bl.new wr #[.int .u64 (x1 : Int), .int .u64 (x2 : Int)] 80
      have HSZ : Hid (w3.heap.size ≤ (World.drew (wr.alloc (.cells #[.int .u64 (x1 : Int), .int .u64 (x2 : Int)] 80))).heap.size) := by have := HB.out.size; show w3.heap.size ≤ (World.heap (wr.alloc (.cells #[.int .u64 (x1 : Int), .int .u64 (x2 : Int)] 80))).size; simp; omega
      clear hlen
      go_wp2_with fail
      go_region_law (first | (refine law_appT rfl (.tmp 19) (.tmp 28) rfl w3.heap.size (.slice ko i kc) (L.take i) rfl HT2.out wr.heap.size (x1, x2) rfl HBN.out (by rw [HLEN.out]; omega) HSZ.out ?_; intro ao5 cap5 w5 h5 g5; rw [HLEN.out] at h5; rw [HLEN.out]; have H5 := hide h5; have G5 := hide (HKB.out w5 (grown_undrewT g5)); have c5 : w5.cell? ⟨N, 0, none⟩ = some (.slice ko i kc) := (by rw [G5.out.1.cell 0]; rfl); have f5 := G5.out.1.frozen 0; clear h5 g5))
      all_goals
        have HNX : Hid (EI w3 (w5.setCell ⟨N, 0, none⟩ (.slice ao5 (i + 1) cap5)) N L (i + 1)) := by
          have hN3 := HN3.out
          refine ⟨ao5, cap5, G5.out.1.set 0 _, ?_, G5.out.2.trans (But.setCell N w5 0 _)⟩
          have e : L.take (i + 1) = L.take i ++ [(x1, x2)] := by rw [List.take_add_one, HX.out]; rfl
          rw [e]
          exact H5.out.same fun g hg => heap_setCell_other w5 ⟨N, 0, none⟩ g _ (by have := (H5.out.lt g hg).1; show g ≠ N; omega)
        clear c5 f5 G5 H5 HSZ HBN HT2 HKB HT HB HBX HX c0 f0 c0a hlk c1 ci HAL
        go_wp2_with fail
        go_roundw
        case rel => exact ⟨i + 1, by omega, by simp, HNX⟩
        case measure => simp [intOf]; omega
    · have hik' : ¬ (i : Int) < (k : Int) := by omega
      obtain rfl : i = k := by omega
      have HF : Hid (Below N w wr ∧ EK wr N L) := by
        refine ⟨HE.out wr b3, ko, kc, by rw [← HM.out]; exact b1, ?_, fun a ha => ?_⟩
        · have := rrow_of b2
          rwa [List.take_of_length_le (by rw [HM.out]; exact Nat.le_refl _)] at this
        · subst ha
          have h1 := (b2.lt a.block (by simp [Value.ownBlock])).1
          have h2 := HN3.out
          omega
      clear HI b1 b2 b3
      go_wp2_with fail
      go_ret
      exact ⟨rfl, HF.out⟩
end Go.Proofs.Ytmngmkbiibhmkaa
