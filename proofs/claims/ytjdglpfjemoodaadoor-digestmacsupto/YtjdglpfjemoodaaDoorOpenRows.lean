/- What a reading of arguments gives of a slice of slices of bytes: parts, their lengths within the bulk that is read. -/
import Derived.Test.YtjdglpfjemoodaaDoorOpen
import Derived.Test.YtjdglpfjemoodaaDoorMacTop
import Derived.Deep.Matrix
namespace Go.Proofs.YtjdglpfjemoodaaDoor
open Go.ChangeShapes Go.WideShapes Go.ChangeAt Go.RowKit

theorem bulk_append {H : Type} (l r : List (DataW H)) : Rows.uptoBulkAll (l ++ r) = Rows.uptoBulkAll l + Rows.uptoBulkAll r := by
  induction l with
  | nil => simp [Rows.uptoBulkAll]
  | cons x l ih => simp only [List.cons_append, Rows.uptoBulkAll, ih]; omega
theorem bulk_flat {H : Type} (f : Nat → List Nat) (g : Nat → DataW H) (len : Nat) (h : ∀ r, r < len → (f r).length + 1 ≤ Rows.uptoBulk (g r)) : ((List.range len).map f).flatten.length + len ≤ Rows.uptoBulkAll ((List.range len).map g) := by
  induction len with
  | zero => simp [Rows.uptoBulkAll]
  | succ k ih =>
    rw [List.range_succ, List.map_append, List.map_append, List.flatten_append, List.length_append, bulk_append]
    have h1 := ih (fun r hr => h r (by omega))
    have h2 := h k (by omega)
    simp only [List.map_cons, List.map_nil, List.flatten_cons, List.flatten_nil, List.append_nil, Rows.uptoBulkAll]
    omega
theorem toNat_lt {zs : List Int} (h : ∀ n ∈ zs, (Lit.int .u8 n).wf = true) : ∀ x ∈ zs.map Int.toNat, x < 256 := by
  intro x hx
  obtain ⟨n, hn, rfl⟩ := List.mem_map.1 hx
  have := bounds_u8 (h n hn)
  omega
theorem open_rows {H : Type} {enc : TypeId × Value → H} {W : World} {base : Nat} {v : Value} {d : DataW H} {p : List MemPlace} (hval : Value.okWide Tryd.prog W .any base 52 v)
    (h : DataW.Trod enc Tryd.prog W 0 (fun _ => true) true 52 v d p) :
    ∃ po pl pc, v = .slice po pl.length pc ∧ pl.length ≤ pc ∧ Parts W po pl ∧ (∀ x ∈ p, x.block < W.heap.size) ∧ pl.flatten.length + pl.length ≤ Rows.uptoBulk d := by
  obtain ⟨a0, len0, cap0, rfl⟩ := okWide_slice Tryd.underlying52 hval
  obtain ⟨fuel, hf⟩ := h
  have lt0 : ∀ x ∈ p, x.block < W.heap.size := DataW.trod_lt fuel _ _ _ hf
  rcases Deep.open_int_rows Tryd.underlying52 Tryd.underlying26 Tryd.underlying5 (by kernel_rfl) (by kernel_rfl) hf with ⟨hcs, hx⟩ | ⟨a, len, cap, A, L, C, Z, hcs, _, hl, hm, hx, hc⟩
  · simp [Value.cells] at hcs
    obtain ⟨rfl, rfl, rfl⟩ := hcs
    simp only [Prod.mk.injEq] at hx
    obtain ⟨rfl, _⟩ := hx
    exact ⟨none, [], 0, rfl, Nat.le_refl _, .inl rfl, lt0, by simp⟩
  · simp [Value.cells] at hcs
    obtain ⟨rfl, rfl, rfl⟩ := hcs
    simp only [Prod.mk.injEq] at hx
    obtain ⟨rfl, _⟩ := hx
    obtain ⟨f, hfd⟩ : ∃ f : Nat → List Nat, f = fun r => ((Z r).take (L r)).map Int.toNat := ⟨_, rfl⟩
    have hfl : ∀ r, r < len0 → (f r).length = L r := fun r hr => by
      obtain ⟨_, h2, _, h4, _⟩ := hc r (by omega)
      rw [hfd]; simp only [List.length_map, List.length_take]; omega
    refine ⟨some a, (List.range len0).map f, cap0, by simp, by simpa using hl, ?_, lt0, ?_⟩
    · by_cases h0 : len0 = 0
      · exact .inl (by rw [h0]; rfl)
      · have h00 := (hc 0 (by omega)).1
        obtain ⟨b, off, q⟩ := a
        have hq : q = none := by simpa [Addr.add] using World.cell?_spot h00
        subst hq
        refine .inr ⟨b, off, rfl, fun i hi => ?_⟩
        have hi' : i < len0 := by simpa using hi
        have hg : ((List.range len0).map f).getD i [] = f i := by simp [List.getD, hi']
        rw [hg]
        obtain ⟨h1, h2, h3, h4, h5, h6, h7⟩ := hc i (by omega)
        rw [Go.WideShapes.add_plain] at h1
        have hb : ∀ x ∈ f i, x < 256 := by rw [hfd]; exact toNat_lt fun n hn => h5 n (List.mem_of_mem_take hn)
        refine ⟨A i, C i, by rw [h1, hfl i hi'], by rw [hfl i hi']; exact h2, ?_, hb⟩
        cases hA : A i with
        | none => exact .inl (List.eq_nil_of_length_eq_zero (by rw [hfl i hi']; have := h6 hA; omega))
        | some a' =>
          by_cases hz : L i = 0
          · exact .inl (List.eq_nil_of_length_eq_zero (by rw [hfl i hi']; exact hz))
          · obtain ⟨b', off', rfl, hcell⟩ := ints_at (zs := Z i) (k := .u8) (fun c hcl => (h7 a' hA).2 c (by omega)) (by omega)
            refine .inr ⟨b', off', rfl, fun j hj => ?_⟩
            rw [hfl i hi'] at hj
            rw [hcell j (by omega)]
            have hw := h5 ((Z i).getD j 0) (by simp [List.getD, show j < (Z i).length by omega])
            have hbb := bounds_u8 hw
            have e : (f i).getD j 0 = ((Z i).getD j 0).toNat := by
              rw [hfd]
              simp [List.getD, hj, show j < (Z i).length by omega]
            rw [e, Int.toNat_of_nonneg hbb.1]
    · have := bulk_flat (H := H) f (fun r => Deep.intRow .u8 (A r) (L r) (Z r)) len0 (fun r hr => by
        rw [hfl r hr]
        obtain ⟨_, h2, _, h4, _, h6, _⟩ := hc r (by omega)
        cases hA : A r with
        | none => have := h6 hA; simp only [Deep.intRow, Rows.uptoBulk]; omega
        | some a' =>
          have hb := bulk_length (lits (H := H) .u8 ((Z r).take (L r)))
          have hb2 : (lits (H := H) .u8 ((Z r).take (L r))).length = L r := by simp only [lits, List.length_map, List.length_take]; omega
          simp only [Deep.intRow, Rows.uptoBulk]
          omega)
      simp only [Rows.uptoBulk, List.length_map, List.length_range]
      omega
end Go.Proofs.YtjdglpfjemoodaaDoor
