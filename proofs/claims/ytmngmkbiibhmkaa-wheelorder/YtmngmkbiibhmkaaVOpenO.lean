/- What a reading of arguments gives of an Orders: its timers and its numbers in memory, within the reach. -/
import Derived.Test.YtmngmkbiibhmkaaVOpen
import Derived.Test.YtmngmkbiibhmkaaVOnceF
namespace Go.Proofs.Ytmngmkbiibhmkaa
open Go.ChangeShapes Go.WideShapes Go.ChangeAt Go.RowKit

theorem by_timer : Try.prog.bytesOf 58 = 16 := by kernel_rfl
theorem by_u64 : Try.prog.bytesOf 22 = 8 := by kernel_rfl
theorem ce_timers : Try.prog.cellsOf 43 = 1 := by kernel_rfl
theorem ce_nums : Try.prog.cellsOf 48 = 1 := by kernel_rfl
theorem ce_timer : Try.prog.cellsOf 58 = 2 := by kernel_rfl
theorem ce_orders : Try.prog.cellsOf 56 = 4 := by kernel_rfl
def TOk (l : List Tm) : Prop := ∀ x ∈ l, x.1 < 18446744073709551616 ∧ x.2 < 18446744073709551616
section
variable {H : Type} {enc : TypeId × Value → H} {W : World}
set_option maxRecDepth 100000 in
theorem field_timer {n : Nat} {cs : List Value} {x : DataW H × List MemPlace} (hl : cs.length = 2) (h : DataW.trod enc Try.prog W 0 (fun _ => true) true n 58 cs = some x) :
    ∃ f : Tm, cs = [.int .u64 (f.1 : Int), .int .u64 (f.2 : Int)] ∧ f.1 < 18446744073709551616 ∧ f.2 < 18446744073709551616 := by
  obtain ⟨ys, k, _, hx, _, hlen, hfs⟩ := DataW.trod_struct Try.underlying58 h
  match cs, hl, ys, hlen, hx, hfs with
  | [v0, v1], _, [y0, y1], _, hx, hfs =>
    have g0 := hfs 0 _ rfl
    have g1 := hfs 1 _ rfl
    simp [ce_u64] at g0 g1
    obtain ⟨z0, rfl, b0⟩ := field_u64 g0
    obtain ⟨z1, rfl, b1⟩ := field_u64 g1
    exact ⟨(z0, z1), rfl, b0, b1⟩
set_option maxRecDepth 100000 in
theorem field_timers {n : Nat} {v : Value} {x : DataW H × List MemPlace} (h : DataW.trod enc Try.prog W 0 (fun _ => true) true n 43 [v] = some x) :
    ∃ (ao : Option Addr) (l : List Tm) (cap : Nat), v = .slice ao l.length cap ∧ RRow W ao l ∧ TOk l ∧ (Wt 43 x.1 → l.length * 16 ≤ 140737488351232) := by
  rcases Deep.open_slice Try.underlying43 h with ⟨hcs, hx⟩ | ⟨a, len0, cap0, m, k, D, Pl, hcs, _, hl, hm, hmm, hx, hc⟩
  · simp only [List.cons.injEq, and_true] at hcs
    subst hcs
    exact ⟨none, [], 0, rfl, .inl rfl, (fun f hf => by cases hf), fun _ => by simp⟩
  · simp only [List.cons.injEq, and_true] at hcs
    subst hcs
    have hlm : len0 ≤ m := by rw [hmm]; split <;> omega
    have each : ∀ i, i < len0 → ∃ f : Tm, (W.cell? (a.add (i * 2)) = some (.int .u64 (f.1 : Int)) ∧ W.cell? (a.add (i * 2 + 1)) = some (.int .u64 (f.2 : Int))) ∧ f.1 < 18446744073709551616 ∧ f.2 < 18446744073709551616 := fun i hi => by
      obtain ⟨cs', h1, h2⟩ := hc i (by omega)
      rw [ce_timer] at h1
      obtain ⟨_, hlen, hcell⟩ := World.cells?_some h1
      obtain ⟨f, rfl, b1, b2⟩ := field_timer hlen h2
      have q0 := hcell 0 (by omega)
      have q1 := hcell 1 (by omega)
      rw [Deep.add_add] at q0 q1
      exact ⟨f, ⟨q0, q1⟩, b1, b2⟩
    have hinh : Inhabited Tm := ⟨(0, 0)⟩
    obtain ⟨f, hfi⟩ := Deep.choose_lt each
    refine ⟨some a, (List.range len0).map f, cap0, by simp, ?_, ?_, fun hw => ?_⟩
    · by_cases h0 : len0 = 0
      · exact .inl (by rw [h0]; rfl)
      obtain ⟨b, off, q⟩ := a
      have hq : q = none := by
        have := (hfi 0 (by omega)).1.1
        simpa [Addr.add] using World.cell?_spot this
      subst hq
      refine .inr ⟨b, off, rfl, fun i x hix => ?_⟩
      rw [List.getElem?_map] at hix
      obtain ⟨i', hi', rfl⟩ := Option.map_eq_some_iff.1 hix
      obtain ⟨hil, e⟩ := List.getElem?_eq_some_iff.1 hi'
      rw [List.length_range] at hil
      rw [List.getElem_range] at e
      subst e
      obtain ⟨⟨c0, c1⟩, _⟩ := hfi i hil
      rw [Go.WideShapes.add_plain] at c0 c1
      rw [← Nat.add_assoc] at c1
      exact ⟨c0, c1⟩
    · intro g hg
      obtain ⟨i, hi, rfl⟩ := List.mem_map.1 hg
      exact (hfi i (List.mem_range.1 hi)).2
    · rw [hx] at hw
      have h1 := wt_len Try.underlying43 hw
      rw [by_timer] at h1
      simpa using h1
set_option maxRecDepth 100000 in
theorem field_nums {n : Nat} {v : Value} {x : DataW H × List MemPlace} (h : DataW.trod enc Try.prog W 0 (fun _ => true) true n 48 [v] = some x) :
    ∃ (ao : Option Addr) (l : List Nat) (cap : Nat), v = .slice ao l.length cap ∧ Row W ao l ∧ (∀ g ∈ l, g < 18446744073709551616) ∧ (Wt 48 x.1 → l.length * 8 ≤ 140737488351232) := by
  rcases Deep.open_slice Try.underlying48 h with ⟨hcs, hx⟩ | ⟨a, len0, cap0, m, k, D, Pl, hcs, _, hl, hm, hmm, hx, hc⟩
  · simp only [List.cons.injEq, and_true] at hcs
    subst hcs
    exact ⟨none, [], 0, rfl, .inl rfl, (fun f hf => by cases hf), fun _ => by simp⟩
  · simp only [List.cons.injEq, and_true] at hcs
    subst hcs
    have hlm : len0 ≤ m := by rw [hmm]; split <;> omega
    have each : ∀ i, i < len0 → ∃ f : Nat, W.cell? (a.add i) = some (.int .u64 (f : Int)) ∧ f < 18446744073709551616 := fun i hi => by
      obtain ⟨cs', h1, h2⟩ := hc i (by omega)
      rw [ce_u64] at h1
      obtain ⟨_, hlen, hcell⟩ := World.cells?_some h1
      have q0 := hcell 0 (by omega)
      rw [Deep.add_add, Nat.mul_one, Nat.add_zero] at q0
      match cs', hlen, h2, q0 with
      | [v0], _, h2, q0 =>
        obtain ⟨z0, rfl, b0⟩ := field_u64 h2
        exact ⟨z0, q0, b0⟩
    have hinh : Inhabited Nat := ⟨0⟩
    obtain ⟨f, hfi⟩ := Deep.choose_lt each
    refine ⟨some a, (List.range len0).map f, cap0, by simp, ?_, ?_, fun hw => ?_⟩
    · by_cases h0 : len0 = 0
      · exact .inl (by rw [h0]; rfl)
      obtain ⟨b, off, q⟩ := a
      have hq : q = none := by
        have := (hfi 0 (by omega)).1
        simpa [Addr.add] using World.cell?_spot this
      subst hq
      refine .inr ⟨b, off, rfl, fun i hi => ?_⟩
      have hil : i < len0 := by simpa using hi
      have c0 := (hfi i hil).1
      rw [Go.WideShapes.add_plain] at c0
      rw [c0]
      simp [List.getD, hil, uv]
    · intro g hg
      obtain ⟨i, hi, rfl⟩ := List.mem_map.1 hg
      exact (hfi i (List.mem_range.1 hi)).2
    · rw [hx] at hw
      have h1 := wt_len Try.underlying48 hw
      rw [by_u64] at h1
      simpa using h1
set_option maxRecDepth 100000 in
/-- An Orders, opened. -/
theorem open_orders {base : Nat} {v : Value} {d : DataW H} {p : List MemPlace} (hval : Value.okWide Try.prog W .any base 56 v) (h : DataW.Trod enc Try.prog W 0 (fun _ => true) true 56 v d p) :
    ∃ (now : Nat) (lo : Option Addr) (l : List Tm) (lc : Nat) (qo : Option Addr) (gs : List Nat) (qc tt : Nat), v = .agg #[.int .u64 (now : Int), .slice lo l.length lc, .slice qo gs.length qc, .int .u64 (tt : Int)] ∧ now < 18446744073709551616 ∧ RRow W lo l ∧ TOk l ∧ Row W qo gs ∧ (∀ g ∈ gs, g < 18446744073709551616) ∧ tt < 18446744073709551616 ∧ (∀ x ∈ p, x.block < W.heap.size) ∧ (Wt 56 d → l.length * 16 ≤ 140737488351232 ∧ gs.length * 8 ≤ 140737488351232) := by
  obtain ⟨cs, rfl, hsz⟩ := okWide_struct Try.underlying56 hval
  rw [ce_orders] at hsz
  obtain ⟨fuel, hf⟩ := h
  have hlt := DataW.trod_lt fuel _ _ _ hf
  obtain ⟨ys, n, _, hx, _, hlen, hfs⟩ := DataW.trod_struct Try.underlying56 hf
  obtain ⟨cs⟩ := cs
  match cs, hsz, ys, hlen, hx, hfs with
  | [v0, v1, v2, v3], _, [y0, y1, y2, y3], _, hx, hfs =>
    have j0 := hfs 0 _ rfl
    have j1 := hfs 1 _ rfl
    have j2 := hfs 2 _ rfl
    have j3 := hfs 3 _ rfl
    simp [ce_u64, ce_timers, ce_nums, Value.cells] at j0 j1 j2 j3
    obtain ⟨z, rfl, hz⟩ := field_u64 j0
    obtain ⟨lo, l, lc, rfl, hA, hO, hw1⟩ := field_timers j1
    obtain ⟨qo, gs, qc, rfl, hB, hP, hw2⟩ := field_nums j2
    obtain ⟨z3, rfl, hz3⟩ := field_u64 j3
    simp only [Prod.mk.injEq] at hx
    refine ⟨z, lo, l, lc, qo, gs, qc, z3, rfl, hz, hA, hO, hB, hP, hz3, hlt, fun hw => ?_⟩
    rw [hx.1] at hw
    exact ⟨hw1 (wt_field (j := 1) Try.underlying56 hw rfl rfl), hw2 (wt_field (j := 2) Try.underlying56 hw rfl rfl)⟩
end
end Go.Proofs.Ytmngmkbiibhmkaa
