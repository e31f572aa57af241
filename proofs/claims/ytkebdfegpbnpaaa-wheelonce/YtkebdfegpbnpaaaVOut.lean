/- The law's out. -/
import Derived.Test.YtkebdfegpbnpaaaVOnceF
namespace Go.Proofs.Ytkebdfegpbnpaaa
open Go.RowKit Go.Maps

theorem take_snoc {T : List Tm} {i : Nat} {x : Tm} (hx : T[i]? = some x) : T.take (i + 1) = T.take i ++ [x] := by rw [List.take_add_one, hx]; rfl
theorem tdel_snoc (id : Nat) (T : List Tm) (x : Tm) : tdel id (T ++ [x]) = if x.1 = id then tdel id T else tdel id T ++ [x] := by
  unfold tdel
  rw [List.filter_append]
  split
  · next h => simp [h]
  · next h => simp [h]
set_option maxHeartbeats 4000000 in
set_option maxRecDepth 100000 in
theorem out_any (ao : Option Addr) (n c id : Nat) (T : List Tm) (w : World) (hr : RRow w ao T) (hn : n = T.length) (hl : n ≤ 1000000) :
    Calls Try.prog 28 #[.slice ao n c, .int .u64 (id : Int)] w fun e w' => ∃ bo m d, e = .returned (.slice bo m d) ∧ ROwn w' w.heap.size (.slice bo m d) (tdel id T) ∧ Below w.heap.size w w' := by
  have HR := hide hr
  have HN := hide hn
  clear hr hn
  go_enter Try.func28, Try.ntmps28
  go_wp2_with fail
  go_loopw [6, 5] (fun v6 v5 wr => ∃ (i : Nat) (bo : Option Addr) (m d : Nat), i ≤ n ∧ v6 = .int .i64 (i : Int) ∧ v5 = .slice bo m d ∧ Hid (ROwn wr w.heap.size (.slice bo m d) (tdel id (T.take i))) ∧ Hid (Below w.heap.size w wr)) (fun v6 _ _ => n - (intOf v6).toNat)
  case atStart => exact ⟨0, none, 0, 0, by omega, rfl, rfl, rown_nil _ _, Below.refl _ _⟩
  case round =>
    obtain ⟨i, bo, m, d, hi, rfl, rfl, HO, HB⟩ := hrel
    by_cases hin : i < n
    · obtain ⟨x, hx⟩ : ∃ x, T[i]? = some x := ⟨_, List.getElem?_eq_getElem (by have := HN.out; omega)⟩
      obtain ⟨b, off, rfl, k0, k1⟩ := HR.out.at hx
      have c0 := cell_kept k0 HB.out
      have c1 := cell_kept k1 HB.out
      have hil : (i : Int) < (n : Int) := by omega
      have HS := hide (tdel_snoc id (T.take i) x)
      rw [← take_snoc hx] at HS
      have HL : Hid ((tdel id (T.take i)).length ≤ 1000000) := by
        show _ ≤ _
        have h1 := tdel_length_le id (T.take i)
        have h2 : (T.take i).length ≤ i := by simp; omega
        omega
      obtain ⟨x1, x2⟩ := x
      simp only at c0 c1 HS
      clear hx k0 k1
      by_cases hxi : x1 = id
      · have hb : ((x1 : Int) == (id : Int)) = true := by simp; omega
        rw [if_pos hxi] at HS
        go_wp2_with fail
        go_roundw
        case rel => exact ⟨i + 1, bo, m, d, by omega, by simp, rfl, by rw [HS.out]; exact HO, HB⟩
        case measure => simp [intOf]; omega
      · have hb : ((x1 : Int) == (id : Int)) = false := by simp; omega
        rw [if_neg hxi] at HS
        have HT := hide (HO.out.keep (below_new wr (.cells #[.int .u64 (x1 : Int), .int .u64 (x2 : Int)] 60)))
        have HBN := hide (Bl.new wr #[.int .u64 (x1 : Int), .int .u64 (x2 : Int)] 60)
        have HSZ : Hid (w.heap.size ≤ (wr.alloc (.cells #[.int .u64 (x1 : Int), .int .u64 (x2 : Int)] 60)).heap.size) := by show _ ≤ _; have := HB.out.size; simp; omega
        go_wp2_with (at_builtin; refine wpList_append_r rfl _ _ rfl w.heap.size (.slice bo m d) (tdel id (T.take i)) rfl HT.out wr.heap.size (x1, x2) rfl (HBN.out.cell 0) (HBN.out.cell 1) HL.out HSZ.out ?_; intro v3 w3 h3 g3 l3; obtain ⟨ao3, n3, cap3, rfl⟩ := rown_shape h3; rw [← HS.out] at h3; have HT3 := hide h3; have HG3 := hide g3; clear h3 g3 l3)
        go_roundw
        case rel => exact ⟨i + 1, ao3, n3, cap3, by omega, by simp, rfl, HT3, (HB.out.trans ((below_new wr _).mono HB.out.size)).grown HG3.out HSZ.out (fun k hk => (HO.out.lt k hk).1)⟩
        case measure => simp [intOf]; omega
    · have hil : ¬ (i : Int) < (n : Int) := by omega
      have HE : Hid (T.take i = T) := List.take_of_length_le (by have := HN.out; omega)
      rw [HE.out] at HO
      go_wp2_with fail
      go_ret
      exact ⟨_, _, _, rfl, HO.out, HB.out⟩
end Go.Proofs.Ytkebdfegpbnpaaa
