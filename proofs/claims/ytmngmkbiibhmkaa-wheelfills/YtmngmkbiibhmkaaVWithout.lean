/- The contracts of Index and without. -/
import Derived.Test.YtmngmkbiibhmkaaVSlot
namespace Go.Proofs.Ytmngmkbiibhmkaa
open Go.RowKit Go.Maps

theorem idx_ne (y id : Nat) (ys : List Nat) (h : ¬ y = id) : (y :: ys).idxOf id = ys.idxOf id + 1 := by
  rw [List.idxOf_cons]
  have : (y == id) = false := by simpa using h
  rw [this]
  rfl
theorem idx_le : ∀ (xs : List Nat) (i : Nat) (h : i < xs.length), xs.idxOf xs[i] ≤ i
  | x :: xs, 0, _ => by simp
  | x :: xs, i + 1, h => by
    rw [List.getElem_cons_succ]
    have := idx_le xs i (by simpa using h)
    by_cases hx : x = xs[i]'(by simpa using h)
    · rw [← hx]; simp
    · rw [idx_ne _ _ _ hx]; omega
theorem perm_without : ∀ (ys : List Nat) (z id : Nat), id ∈ ys ++ [z] → (((ys ++ [z]).set ((ys ++ [z]).idxOf id) z).take ys.length).Perm ((ys ++ [z]).erase id)
  | [], z, id, h => by
    have : id = z := by simpa using h
    subst this
    simp
  | y :: ys, z, id, h => by
    by_cases hy : y = id
    · subst hy
      simp only [List.cons_append, List.idxOf_cons_self, List.set_cons_zero, List.length_cons, List.take_succ_cons, List.erase_cons_head]
      rw [List.take_left' rfl]
      exact (List.perm_append_singleton z ys).symm
    · have hm : id ∈ ys ++ [z] := by
        rcases List.mem_cons.1 h with h | h
        · exact absurd h.symm hy
        · exact h
      rw [List.cons_append, idx_ne _ _ _ hy, List.set_cons_succ, List.length_cons, List.take_succ_cons, List.erase_cons_tail (by simpa using hy)]
      exact (perm_without ys z id hm).cons y
set_option maxHeartbeats 4000000 in
set_option maxRecDepth 100000 in
theorem index_any (ao : Option Addr) (n cap id : Nat) (xs : List Nat) (w : World) (hr : Row w ao xs) (hn : n = xs.length) (hl : xs.length ≤ 1000000) (hm : id ∈ xs) :
    Calls Try.prog 47 #[.slice ao n cap, .int .u64 (id : Int)] w fun e w' => e = .returned (.int .i64 (xs.idxOf id : Int)) ∧ w' = w := by
  obtain ⟨r, hr0⟩ : ∃ r, r = xs.idxOf id := ⟨_, rfl⟩
  rw [← hr0]
  have HR := hide hr0
  have HM := hide hm
  have HL := hide hl
  obtain ⟨b, off, rfl⟩ := hr.form (by cases xs with | nil => cases hm | cons => simp)
  have HC := hide (fun i hi => hr.cell (b := b) (off := off) i hi)
  have HN := hide hn
  clear hr0 hm hl hr hn
  go_enter Try.func47, Try.ntmps47
  have hn0 : (n : Int) ≤ 1000000 := by have := HN.out; have := HL.out; omega
  go_wp2_with fail
  go_loop [8] (fun v => ∃ i : Nat, i ≤ r ∧ v = .int .i64 (i : Int)) (fun v => n - (intOf v).toNat)
  case atStart => exact ⟨0, Nat.zero_le _, rfl⟩
  case round =>
    obtain ⟨i, hi, rfl⟩ := hrel
    have hrl : r < n := by rw [HR.out, HN.out]; exact List.idxOf_lt_length_of_mem HM.out
    have hil : i < n := by omega
    have hc := HC.out i (by have := HN.out; omega)
    have HG : Hid (xs.getD i 0 = id ↔ i = r) := by
      show _ ↔ _
      rw [HR.out]
      have hlx : i < xs.length := by have := HN.out; omega
      constructor
      · intro e
        have e2 : xs[i] = id := by simpa [List.getD, hlx] using e
        have : xs.idxOf id ≤ i := by rw [← e2]; exact idx_le xs i hlx
        have := HR.out
        omega
      · intro e
        have h2 : xs.idxOf id < xs.length := List.idxOf_lt_length_of_mem HM.out
        have h3 := List.getElem_idxOf h2
        simp only [e]
        simp [List.getD, h2, h3]
    generalize xs.getD i 0 = y at *
    by_cases hy : y = id
    · have HE := hide (HG.out.1 hy)
      subst hy
      go_wp2_with fail
      go_ret
      exact ⟨ret_int (by rw [HE.out]), rfl⟩
    · have HE : Hid (i ≠ r) := fun e => hy (HG.out.2 e)
      have hyi : ¬ ((id : Int) = (y : Int)) := by omega
      go_wp2_with fail
      go_round
      case rel => exact ⟨i + 1, by have := HE.out; omega, by go_num⟩
      case measure => simp [intOf]; omega
theorem fr_store (w : World) (g n c i : Nat) (x : Value) : Fr (vb (.slice (some ⟨g, 0, none⟩) n c)) w (w.setCell ⟨g, i, none⟩ x).drew :=
  (Fr.setCell _ w g i x (mem_vb.2 rfl)).trans (fq := vb (.slice (some ⟨g, 0, none⟩) n c)) (Fr.drewN _ _ 1) fun _ h => .inl h
theorem own_less {w : World} {g cap m i z : Nat} {cur : Array Value} {xs : List Nat} (hb : Bl w g cur.toList 22) (hq : cap ≤ maxLen ∧ cur.size = cap * 1 ∧ m + 1 ≤ cap) (ht : cur.toList.take ((m + 1) * 1) = xs.map uv) (hl : xs.length = m + 1) :
    Own (w.setCell ⟨g, i, none⟩ (.int .u64 (z : Int))).drew 0 (.slice (some ⟨g, 0, none⟩) m cap) ((xs.set i z).take m) := by
  have hlen : ((xs.set i z).take m).length = m := by simp [hl]
  refine ⟨by simp, .inr ⟨g, cap, (cur.toList.set i (.int .u64 (z : Int))).toArray, by rw [hlen], Nat.zero_le _, hb.set i _, by rw [hlen]; omega, hq.1, by simp [hq.2.1], ?_⟩⟩
  rw [hlen, Nat.mul_one]
  rw [Nat.mul_one] at ht
  have e : (cur.toList.set i (Value.int .u64 (z : Int))).take m = ((cur.toList.take (m + 1)).set i (.int .u64 (z : Int))).take m := by
    rw [← List.take_set, List.take_take, Nat.min_eq_left (by omega)]
  show (cur.toList.set i (Value.int .u64 (z : Int))).take m = _
  rw [e, ht, List.map_take, List.map_set]
  rfl
set_option maxHeartbeats 4000000 in
set_option maxRecDepth 100000 in
theorem without_any (v : Value) (id : Nat) (xs : List Nat) (w : World) (h : Own w 0 v xs) (hl : xs.length ≤ 1000000) (hm : id ∈ xs) :
    Calls Try.prog 38 #[v, .int .u64 (id : Int)] w fun e w' => ∃ v' xs', e = .returned v' ∧ Own w' 0 v' xs' ∧ xs'.Perm (xs.erase id) ∧ (∀ g, v'.ownBlock = some g → v.ownBlock = some g) ∧ Fr (vb v) w w' := by
  obtain ⟨ys, z, rfl⟩ : ∃ ys z, xs = ys ++ [z] := by
    rcases List.eq_nil_or_concat xs with h | ⟨ys, z, h⟩
    · rw [h] at hm; cases hm
    · exact ⟨ys, z, by rw [h]; simp⟩
  have HP := hide (perm_without ys z id hm)
  have HX : ∀ ao n cap, v = .slice ao n cap → n = (ys ++ [z]).length → Row w ao (ys ++ [z]) → Hid (Calls Try.prog 47 #[.slice ao n cap, .int .u64 (id : Int)] w.drew fun e w' => e = .returned (.int .i64 ((ys ++ [z]).idxOf id : Int)) ∧ w' = w.drew) := fun ao n cap _ h2 h3 => index_any ao n cap id _ w.drew h3 h2 hl hm
  rcases h.2 with ⟨_, hn⟩ | ⟨g, cap, cur, rfl, _, hg, hle, hcm, hcs, ht⟩
  · simp at hn
  obtain ⟨ao, cap', e, hle', hr⟩ := h.read
  injection e with e1 e2 e3
  subst e1; subst e3
  have hx := HX (some ⟨g, 0, none⟩) (ys ++ [z]).length cap rfl rfl hr
  rw [show (ys ++ [z]).length = ys.length + 1 by simp] at *
  have HB : Hid (Bl w g cur.toList 22) := by show w.heap[g]? = _; rw [hg]
  have hz := hr.cell (b := g) (off := 0) ys.length (by simp)
  rw [show (ys ++ [z]).getD ys.length 0 = z by simp] at hz
  have HI : Hid ((ys ++ [z]).idxOf id < ys.length + 1) := by have := List.idxOf_lt_length_of_mem hm; show _ < _; simpa using this
  have HIC := hide (hr.cell (b := g) (off := 0) ((ys ++ [z]).idxOf id) (by have := HI.out; simpa using this))
  have HT := hide ht
  have HE : Hid (ys = [] → ((ys ++ [z]).erase id) = []) := fun e => by
    subst e
    have : id = z := by simpa using hm
    subst this
    simp
  have HQ := hide (show cap ≤ maxLen ∧ cur.size = cap * 1 ∧ ys.length + 1 ≤ cap from ⟨hcm, hcs, hle⟩)
  have hml : ys.length ≤ 1000000 := by omega
  have HML := hide hml
  generalize (ys ++ [z]).idxOf id = i at *
  generalize hgy : (ys ++ [z]).getD i 0 = y at *
  clear hgy
  have hfi := HB.out.frozen i
  have hci := HIC.out
  have hi := HI.out
  generalize hms : ys.length = m at *
  have HMS := hide hms
  clear HX hr h hm hg ht hl hle hle' hcm hcs hms e2
  by_cases h0 : m = 0
  · subst h0
    have HN := hide (List.length_eq_zero_iff.1 HMS.out)
    go_enter Try.func38, Try.ntmps38
    go_wp2_with fail
    go_ret
    exact ⟨_, [], rfl, own_nil _ _, by rw [HE.out HN.out], fun g e => by (cases e), Fr.refl _ _⟩
  · have hm0 : ¬ ((m : Int) = 0) := by omega
    have hil : (i : Int) < (m : Int) + 1 := by omega
    have hmc : (m : Int) ≤ (cap : Int) := by have := HQ.out; omega
    rw [Nat.zero_add] at hz hci
    have hS : (w.setCell ⟨g, i, none⟩ (.int .u64 (z : Int))).drew.cell? ⟨g, m, none⟩ = some (.int .u64 (z : Int)) := by
      show (w.setCell ⟨g, i, none⟩ (.int .u64 (z : Int))).cell? ⟨g, m, none⟩ = _
      rw [(HB.out.set i (.int .u64 (z : Int))).cell m, List.getElem?_set]
      rw [HB.out.cell m] at hz
      split
      · next h => subst h; rw [if_pos (List.getElem?_eq_some_iff.1 hz).1]
      · exact hz
    go_enter Try.func38, Try.ntmps38
    go_wp2_with fail
    go_region_held (fun W => W.cell? ⟨g, m, none⟩ = some (.int .u64 (z : Int))) (first | exact hS | go_keep) (first | (go_at_call 47; refine hx.out.mono ?_; rintro e w2 ⟨rfl, rfl⟩))
    all_goals
      go_wp2_with fail
      go_ret
      exact ⟨_, _, rfl, own_less HB.out HQ.out HT.out (by simp [HMS.out]), HP.out, fun _ e => e, fr_store w g (m + 1) cap i _⟩
end Go.Proofs.Ytmngmkbiibhmkaa
