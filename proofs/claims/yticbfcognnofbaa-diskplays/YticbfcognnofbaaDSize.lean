/- The contract of a directory's size, and of Free. -/
import Derived.Test.YticbfcognnofbaaDLib
namespace Go.Proofs.Yticbfcognnofbaa
open Go.RowKit Go.Maps

def mkV : Option Nat → Value
  | some b => pf b
  | none => .pointer none
/-- What is still to come. -/
def rem (len : Nat → Nat) (left : Lit → Bool) (d : Dir) : Nat := (d.map fun p => if left (.string p.1) = true then len p.2 else 0).sum
theorem rem_none (len : Nat → Nat) {left : Lit → Bool} (h : ∀ kl, left kl = false) : ∀ d : Dir, rem len left d = 0
  | [] => rfl
  | p :: d => by
    have := rem_none len h d
    unfold rem at this ⊢
    rw [List.map_cons, List.sum_cons, this, h]
    rfl
theorem rem_all (len : Nat → Nat) {left : Lit → Bool} : ∀ d : Dir, (∀ p ∈ d, left (.string p.1) = true) → rem len left d = (d.map fun p => len p.2).sum
  | [], _ => rfl
  | p :: d, h => by
    have := rem_all len d (fun q hq => h q (by simp [hq]))
    unfold rem at this ⊢
    rw [List.map_cons, List.sum_cons, this, h p (by simp), List.map_cons, List.sum_cons]
    rfl
theorem rem_same (len : Nat → Nat) {left left' : Lit → Bool} : ∀ d : Dir, (∀ p ∈ d, left (.string p.1) = left' (.string p.1)) → rem len left d = rem len left' d
  | [], _ => rfl
  | p :: d, h => by
    have := rem_same len d (fun q hq => h q (by simp [hq]))
    unfold rem at this ⊢
    rw [List.map_cons, List.sum_cons, this, h p (by simp), List.map_cons, List.sum_cons]
theorem rem_step (len : Nat → Nat) {left : Lit → Bool} {x : Nm} {i : Nat} (hl : left (.string x) = true) : ∀ {d : Dir}, Rising d → (x, i) ∈ d → rem len (fun z => left z && !z.sameKey (.string x)) d + len i = rem len left d
  | [], _, h => by cases h
  | p :: d, hr, h => by
    unfold Rising at hr
    rw [List.pairwise_cons] at hr
    rcases List.mem_cons.1 h with e | e
    · have hs : rem len (fun z => left z && !z.sameKey (.string x)) d = rem len left d := rem_same len d fun q hq => by
        have h1 := hr.1 q hq
        rw [← e] at h1
        have h2 : (q.1 == x) = false := by
          rw [beq_eq_false_iff_ne]
          intro e2
          rw [e2, WideAt.bytes_irrefl] at h1
          cases h1
        simp [Lit.sameKey, h2]
      unfold rem at hs ⊢
      rw [List.map_cons, List.sum_cons, List.map_cons, List.sum_cons, hs, ← e]
      simp [Lit.sameKey, hl]
      omega
    · have ih := rem_step len hl hr.2 e
      have h2 : (p.1 == x) = false := by
        rw [beq_eq_false_iff_ne]
        intro e2
        have h1 := hr.1 _ e
        rw [e2, WideAt.bytes_irrefl] at h1
        cases h1
      unfold rem at ih ⊢
      rw [List.map_cons, List.sum_cons, List.map_cons, List.sum_cons, ← ih]
      simp [Lit.sameKey, h2]
      omega
theorem at_all {bs : List Nat} {d : Dir} {x : Nm} {y : DataW Unit} (h : ∀ zd, (DD bs d).atKey (.string x) zd = y) : ∃ i, (x, i) ∈ d ∧ y = .lit (.int .i64 ((bs.getD i 0 : Nat) : Int)) := by
  have h1 := h .nil
  have h2 := h (.lit (.bool true))
  unfold DD DataW.atKey at h1 h2
  simp only at h1 h2
  cases hf : (d.map fun p => ((.string p.1 : Lit), (.lit (.int .i64 ((bs.getD p.2 0 : Nat) : Int)) : DataW Unit))).find? fun p => p.1.sameKey (.string x) with
  | none =>
    rw [hf] at h1 h2
    simp only at h1 h2
    rw [← h1] at h2
    cases h2
  | some q =>
    rw [hf] at h1
    simp only at h1
    have hm := List.mem_of_find?_eq_some hf
    have hk := List.find?_some hf
    obtain ⟨p, hp, rfl⟩ := List.mem_map.1 hm
    have : p.1 = x := by simpa [Lit.sameKey] using hk
    exact ⟨p.2, by rw [← this]; exact hp, h1.symm⟩
theorem mkV_lit {c : Option Nat} {y : DataW Unit × List MemPlace} {b : Nat} (h : rp (mkV c) = some y) (hy : y.1 = .lit (.int .i64 (b : Int))) : c = some b := by
  cases c with
  | none =>
    rw [show rp (mkV none) = some (.nil, []) from rfl] at h
    injection h with h
    rw [← h] at hy
    cases hy
  | some a =>
    rw [show rp (mkV (some a)) = some (.lit (.int .i64 (a : Int)), []) from rfl] at h
    injection h with h
    rw [← h] at hy
    injection hy with hy
    injection hy with _ hy
    congr 1
    omega
set_option maxHeartbeats 1000000 in
set_option maxRecDepth 100000 in
theorem size_any (bn : Nat) (bs : List Nat) (d : Dir) (len : Nat → Nat) (w : World) (h : DirAt w bn bs d) (hr : Rising d) (hf : ∀ p ∈ d, ∃ ao cap, w.cell? ⟨bs.getD p.2 0, 1, none⟩ = some (.slice ao (len p.2) cap)) (hs : (d.map fun p => len p.2).sum ≤ 4611686018427387904) :
    Calls Try.prog 62 #[.map (some bn)] w fun e w' => e = .returned (.int .i64 (((d.map fun p => len p.2).sum : Nat) : Int)) ∧ Below w.heap.size w w' := by
  have H := hide h
  have HR := hide hr
  have HF := hide hf
  generalize hT : (d.map fun p => len p.2).sum = T at *
  have HT := hide hT
  have HS := hide hs
  clear h hr hf hT hs
  go_enter Try.func62, Try.ntmps62
  go_wp2_with (first | (at_range; refine wpList_range_own _ rfl _ 84 rfl 9 89 law Try.underlying84 rp bn d.length (DD bs d) rfl H.out ?_; intro w0 hrg0 hg0 hs0) | go_in)
  go_frame
  obtain ⟨r, hrr⟩ : ∃ r, r = w.heap.size := ⟨_, rfl⟩
  have HRR := hide hrr
  rw [← hrr] at hrg0 ⊢
  have HRG := hide hrg0
  have HB0 : Hid (Below w.heap.size w w0) := (Below.refl _ w).grown hg0 (Nat.le_refl _) (fun j hj => by cases hj)
  clear hrr hrg0 hg0 hs0
  go_loopw [3] (fun s wr => ∃ (left : Lit → Bool) (cnt sm : Nat), Hid (wr.ranges Try.prog 9 rp bn r d.length (DD bs d) left cnt) ∧ s = .int .i64 (sm : Int) ∧ Hid (sm + rem len left d = T) ∧ Hid (Below w.heap.size w wr)) (fun _ wr => wr.rangeLeft bn r)
  case atStart =>
    refine ⟨_, _, 0, HRG.out, rfl, ?_, HB0.out⟩
    show _ = _
    rw [rem_all len d (fun p hp => by rw [dd_has, List.any_eq_true]; exact ⟨p, hp, by simp⟩), HT.out, Nat.zero_add]
  case round =>
    obtain ⟨left, cnt, sm, HG, rfl, HM, HB⟩ := hrel
    go_wp2_with (first | (at_next; refine wpList_next_ranges _ rfl _ rfl 9 law rp encStr mkV (fun key kl hk => by obtain ⟨x, hx, _⟩ := Maps.keyOf_str Try.underlying9 hk; exact ⟨x, hx⟩) (fun v y hv => by rcases rp_inv hv with ⟨rfl, _⟩ | ⟨b, rfl, _⟩; exact ⟨none, rfl⟩; exact ⟨some b, rfl⟩) bn r d.length _ left cnt rfl HG.out ?_ ?_) | go_in)
    · intro hc0 hl0
      have HE : Hid (sm = T) := by show _ = _; have := HM.out; rw [rem_none len hl0] at this; omega
      clear hl0
      go_wp2
      go_ret
      exact ⟨ret_int (by rw [HE.out]), HB.out⟩
    · intro x c kl yd yp w2 cnt2 hkey hlk hv hat hrg2 hlt hg2 hs2 hen
      obtain ⟨x', ex, rfl, _⟩ := Maps.keyOf_str Try.underlying9 hkey
      obtain rfl : x = x' := encStr_inj ex
      obtain ⟨i, hi, hy⟩ := at_all hat
      obtain rfl := mkV_lit hv hy
      obtain ⟨ao, cap, hc⟩ := HF.out _ hi
      have hB2 : Below w.heap.size w w2 := HB.out.grown hg2 HB.out.size (fun j hj => by cases hj; rw [HRR.out]; exact Nat.le_refl _)
      have hst := rem_step len hlk HR.out hi
      generalize bs.getD i 0 = b at *
      have hc2 := cell_kept hc (show Below w.heap.size w w2 from hB2)
      have HB2 := hide hB2
      have HM2 : Hid ((sm + len i) + rem len (fun z => left z && !z.sameKey (.string x)) d = T) := by show _ = _; have := HM.out; omega
      have hbd : (sm : Int) + (len i : Int) ≤ 4611686018427387904 := by have := HM2.out; have := HS.out; omega
      have HG2 := hide hrg2
      have HLT : Hid (w2.rangeLeft bn r < wr.rangeLeft bn r) := by show _ < _; rw [hrg2.left_eq, HG.out.left_eq]; exact hlt
      rw [show mkV (some b) = .pointer (some ⟨b, 0, none⟩) from rfl] at hen ⊢
      clear hkey hlk hv hat hrg2 hlt hg2 hs2 hc hB2 hst hi hy ex HG HB HM
      go_wp2
      go_roundw
      case rel => exact ⟨_, _, sm + len i, HG2, by simp, HM2, HB2⟩
      case measure => exact HLT.out
end Go.Proofs.Yticbfcognnofbaa
