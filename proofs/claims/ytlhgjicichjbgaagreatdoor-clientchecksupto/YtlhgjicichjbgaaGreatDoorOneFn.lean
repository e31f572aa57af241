/- The contracts of One of the program and of the document: for every name in every list. -/
import Derived.Test.YtlhgjicichjbgaaGreatDoorPairRow
import Derived.Test.YtlhgjicichjbgaaGreatDoorScopeFn
namespace Go.Proofs.YtlhgjicichjbgaaGreatDoor
open Go.RowKit

def oneStep (name : List Nat) (a : List Nat × Nat) (q : Two) : List Nat × Nat := if q.1 = name then (q.2, a.2 + 1) else a
def ones (name : List Nat) (l : List Two) : List Nat × Nat := l.foldl (oneStep name) ([], 0)
theorem ones_snoc (name : List Nat) (l : List Two) (q : Two) : ones name (l ++ [q]) = oneStep name (ones name l) q := by simp [ones]
theorem ones_len (name : List Nat) (l : List Two) : (ones name l).2 ≤ l.length := by
  have : ∀ (l : List Two) (a : List Nat × Nat), (l.foldl (oneStep name) a).2 ≤ a.2 + l.length := by
    intro l
    induction l with
    | nil => intro a; simp
    | cons q l ih =>
      intro a
      have := ih (oneStep name a q)
      have h2 : (oneStep name a q).2 ≤ a.2 + 1 := by unfold oneStep; split <;> simp
      simp only [List.foldl_cons, List.length_cons]
      omega
  have := this l ([], 0)
  simpa [ones] using this
def oneRes (p : List Nat × Nat) : Value := if 1 < p.2 then .tuple #[.string { data := #[] }, .bool false, .int .i64 34] else .tuple #[.string (bstr p.1), .bool (!p.1.isEmpty), .int .i64 0]
theorem name_eq {x : List Nat} {nm : ByteArray} (hx : ∀ y ∈ x, y < 256) : ((bstr x).toList == nm.toList) = decide (x = sbytes nm) := by
  have e1 : (bstr x).toList = x.map fun n => UInt8.ofNat n := by simp [bstr]
  have e2 : nm.toList = (sbytes nm).map fun n => UInt8.ofNat n := by
    rw [Lib.toList_data]; unfold sbytes; rw [ofNat_toNat]
  rw [Bool.eq_iff_iff, e1, e2]
  simp only [beq_iff_eq, decide_eq_true_eq]
  exact ⟨bytes_inj x _ hx (sbytes_lt nm), fun h => by rw [h]⟩
theorem take_two {l : List Two} {k : Nat} {q : Two} (h : l[k]? = some q) : l.take (k + 1) = l.take k ++ [q] := by rw [List.take_add_one, h]; rfl

set_option linter.unusedSimpArgs false in
set_option maxHeartbeats 1000000 in
set_option maxRecDepth 100000 in
theorem one_any (n c : Nat) (ao : Option Addr) (l : List Two) (nm : ByteArray) (w : World) (hn : n = l.length) (hl : n ≤ 4398046511104) (hb : ∀ q ∈ l, bytes2 q) (hz : ∀ q ∈ l, q.2.length ≤ 281474976710656) (hr : PRow w ao l) :
    Calls Tryz.prog 119 #[.slice ao n c, .string nm] w fun e w' => e = .returned (oneRes (ones (sbytes nm) l)) ∧ Below w.heap.size w w' := by
  have HN : Hid (n = l.length) := hn
  have HR : Hid (PRow w ao l) := hr
  have HB2 : Hid (∀ q ∈ l, bytes2 q) := hb
  have HZ : Hid (∀ q ∈ l, q.2.length ≤ 281474976710656) := hz
  obtain ⟨name, HNM⟩ : ∃ name, Hid (name = sbytes nm) := ⟨_, rfl⟩
  obtain ⟨O, HO⟩ : ∃ O, Hid (O = ones name l) := ⟨_, rfl⟩
  rw [← HNM.out, ← HO.out]
  clear hn hr hb hz
  go_enter Tryz.func119, Tryz.ntmps119
  go_wp2
  go_loopw [7, 8, 13] (fun v m i wr => ∃ (k j : Nat) (x : List Nat), (k ≤ n ∧ j ≤ k ∧ x.length ≤ 281474976710656) ∧ v = .string (bstr x) ∧ m = .int .i64 j ∧ i = .int .i64 k ∧ Hid (ones name (l.take k) = (x, j)) ∧ Hid (Below w.heap.size w wr)) (fun _ _ i _ => n - (intOf i).toNat)
  case atStart => exact ⟨0, 0, [], ⟨by omega, by omega, by simp⟩, rfl, rfl, rfl, rfl, Below.refl _ _⟩
  case round =>
    obtain ⟨k, j, x, ⟨hk, hj, hxl⟩, rfl, rfl, rfl, HS, HBL⟩ := hrel
    have hs := HBL.out.size
    by_cases hlt : k < n
    · obtain ⟨b, off, rfl⟩ := HR.out.form (by rw [← HN.out]; omega)
      obtain ⟨q, hq⟩ : ∃ q, l[k]? = some q := ⟨_, List.getElem?_eq_getElem (by rw [← HN.out]; exact hlt)⟩
      have hqm := List.mem_of_getElem? hq
      have hcc := (HR.out.keep HBL.out).cell hq
      rw [Nat.mul_comm] at hcc
      have c0 : wr.cell? ⟨b, off + k * 2, none⟩ = some (.string (bstr q.1)) := hcc.1
      have c1 : wr.cell? ⟨b, off + k * 2 + 1, none⟩ = some (.string (bstr q.2)) := hcc.2
      have HNE : Hid (((bstr q.1).toList == nm.toList) = decide (q.1 = name)) := by rw [HNM.out]; exact name_eq (HB2.out q hqm).1
      have HQ2 : Hid (q.2.length ≤ 281474976710656) := HZ.out q hqm
      have HST : Hid (ones name (l.take (k + 1)) = if q.1 = name then (q.2, j + 1) else (x, j)) := by
        show _ = _
        rw [take_two hq, ones_snoc, HS.out]; rfl
      clear hcc hq hqm HS
      by_cases he : q.1 = name
      · have hb : ((bstr q.1).toList == nm.toList) = true := by rw [HNE.out, decide_eq_true he]
        have HS2 : Hid (ones name (l.take (k + 1)) = (q.2, j + 1)) := by show _ = _; rw [HST.out, if_pos he]
        clear he HST HNE
        generalize bstr q.1 = y at *
        go_wp2
        go_roundw
        case rel => exact ⟨k + 1, j + 1, q.2, ⟨by omega, by omega, HQ2.out⟩, rfl, by go_num, by go_num, HS2, HBL.out.alloc hs _⟩
        case measure => simp [intOf]; omega
      · have hb : ((bstr q.1).toList == nm.toList) = false := by rw [HNE.out, decide_eq_false he]
        have HS2 : Hid (ones name (l.take (k + 1)) = (x, j)) := by show _ = _; rw [HST.out, if_neg he]
        clear he HST HNE
        generalize bstr q.1 = y at *
        go_wp2
        go_roundw
        case rel => exact ⟨k + 1, j, x, ⟨by omega, by omega, hxl⟩, rfl, rfl, by go_num, HS2, HBL.out.alloc hs _⟩
        case measure => simp [intOf]; omega
    · have HF : Hid (O = (x, j)) := by
        show _ = _
        rw [HO.out, ← HS.out, List.take_of_length_le (by rw [← HN.out]; omega)]
      clear HS
      by_cases h1 : 1 < j
      · have h1i : (1 : Int) < (j : Int) := by omega
        have HRS : Hid (oneRes O = .tuple #[.string { data := #[] }, .bool false, .int .i64 34]) := by show _ = _; rw [HF.out]; unfold oneRes; rw [if_pos h1]
        go_wp2
        go_ret3
        exact ⟨by rw [HRS.out]; rfl, HBL.out⟩
      · have h1i : (j : Int) ≤ 1 := by omega
        have HRS : Hid (oneRes O = .tuple #[.string (bstr x), .bool (!x.isEmpty), .int .i64 0]) := by show _ = _; rw [HF.out]; unfold oneRes; rw [if_neg h1]
        by_cases hx0 : x.length = 0
        · rw [List.length_eq_zero_iff] at hx0
          subst hx0
          rw [show bstr [] = { data := #[] } from rfl] at HRS ⊢
          go_wp2_with fail
          refine (clone_any { data := #[] } wr (by decide)).mono ?_
          rintro e w3 ⟨rfl, hb3⟩
          have HB3 : Hid (Below w.heap.size w w3) := HBL.out.trans (hb3.mono hs)
          clear hb3
          go_wp2
          go_ret3
          exact ⟨by rw [HRS.out]; rfl, HB3.out⟩
        · have hpe := bstr_empty hx0
          have HXE : Hid (x.isEmpty = false) := by
            show _ = _
            cases x with
            | nil => simp at hx0
            | cons => rfl
          go_wp2_with fail
          refine (clone_any (bstr x) wr (by rw [bstr_size]; exact hxl)).mono ?_
          rintro e w3 ⟨rfl, hb3⟩
          have HB3 : Hid (Below w.heap.size w w3) := HBL.out.trans (hb3.mono hs)
          clear hb3
          go_wp2
          go_ret3
          exact ⟨by rw [HRS.out, HXE.out]; first | rfl | simp [hpe], HB3.out⟩

set_option linter.unusedSimpArgs false in
set_option maxHeartbeats 1000000 in
set_option maxRecDepth 100000 in
theorem refOne_any (n c : Nat) (ao : Option Addr) (l : List Two) (nm : ByteArray) (w : World) (hn : n = l.length) (hl : n ≤ 4398046511104) (hb : ∀ q ∈ l, bytes2 q) (hr : PRow w ao l) :
    Calls Tryz.prog 85 #[.slice ao n c, .string nm] w fun e w' => e = .returned (oneRes (ones (sbytes nm) l)) ∧ w' = w := by
  have HN : Hid (n = l.length) := hn
  have HR : Hid (PRow w ao l) := hr
  have HB2 : Hid (∀ q ∈ l, bytes2 q) := hb
  obtain ⟨name, HNM⟩ : ∃ name, Hid (name = sbytes nm) := ⟨_, rfl⟩
  obtain ⟨O, HO⟩ : ∃ O, Hid (O = ones name l) := ⟨_, rfl⟩
  rw [← HNM.out, ← HO.out]
  clear hn hr hb
  go_enter Tryz.func85, Tryz.ntmps85
  go_wp2
  go_loop [7, 8, 9] (fun m v i => ∃ (k j : Nat) (x : List Nat), (k ≤ n ∧ j ≤ k) ∧ v = .string (bstr x) ∧ m = .int .i64 j ∧ i = .int .i64 k ∧ Hid (ones name (l.take k) = (x, j))) (fun _ _ i => n - (intOf i).toNat)
  case atStart => exact ⟨0, 0, [], ⟨by omega, by omega⟩, rfl, rfl, rfl, rfl⟩
  case round =>
    obtain ⟨k, j, x, ⟨hk, hj⟩, rfl, rfl, rfl, HS⟩ := hrel
    by_cases hlt : k < n
    · obtain ⟨b, off, rfl⟩ := HR.out.form (by rw [← HN.out]; omega)
      obtain ⟨q, hq⟩ : ∃ q, l[k]? = some q := ⟨_, List.getElem?_eq_getElem (by rw [← HN.out]; exact hlt)⟩
      have hqm := List.mem_of_getElem? hq
      have hcc := HR.out.cell hq
      rw [Nat.mul_comm] at hcc
      have c0 : w.cell? ⟨b, off + k * 2, none⟩ = some (.string (bstr q.1)) := hcc.1
      have c1 : w.cell? ⟨b, off + k * 2 + 1, none⟩ = some (.string (bstr q.2)) := hcc.2
      have HNE : Hid (((bstr q.1).toList == nm.toList) = decide (q.1 = name)) := by rw [HNM.out]; exact name_eq (HB2.out q hqm).1
      have HST : Hid (ones name (l.take (k + 1)) = if q.1 = name then (q.2, j + 1) else (x, j)) := by
        show _ = _
        rw [take_two hq, ones_snoc, HS.out]; rfl
      clear hcc hq hqm HS
      by_cases he : q.1 = name
      · have hb : ((bstr q.1).toList == nm.toList) = true := by rw [HNE.out, decide_eq_true he]
        have HS2 : Hid (ones name (l.take (k + 1)) = (q.2, j + 1)) := by show _ = _; rw [HST.out, if_pos he]
        clear he HST HNE
        generalize bstr q.1 = y at *
        go_wp2
        go_round
        case rel => exact ⟨k + 1, j + 1, q.2, ⟨by omega, by omega⟩, rfl, by go_num, by go_num, HS2⟩
        case measure => simp [intOf]; omega
      · have hb : ((bstr q.1).toList == nm.toList) = false := by rw [HNE.out, decide_eq_false he]
        have HS2 : Hid (ones name (l.take (k + 1)) = (x, j)) := by show _ = _; rw [HST.out, if_neg he]
        clear he HST HNE
        generalize bstr q.1 = y at *
        go_wp2
        go_round
        case rel => exact ⟨k + 1, j, x, ⟨by omega, by omega⟩, rfl, rfl, by go_num, HS2⟩
        case measure => simp [intOf]; omega
    · have HF : Hid (O = (x, j)) := by
        show _ = _
        rw [HO.out, ← HS.out, List.take_of_length_le (by rw [← HN.out]; omega)]
      clear HS
      by_cases h1 : 1 < j
      · have h1i : (1 : Int) < (j : Int) := by omega
        have HRS : Hid (oneRes O = .tuple #[.string { data := #[] }, .bool false, .int .i64 34]) := by show _ = _; rw [HF.out]; unfold oneRes; rw [if_pos h1]
        go_wp2
        go_ret3
        exact ⟨by rw [HRS.out]; rfl, rfl⟩
      · have h1i : (j : Int) ≤ 1 := by omega
        have HRS : Hid (oneRes O = .tuple #[.string (bstr x), .bool (!x.isEmpty), .int .i64 0]) := by show _ = _; rw [HF.out]; unfold oneRes; rw [if_neg h1]
        by_cases hx0 : x.length = 0
        · rw [List.length_eq_zero_iff] at hx0
          subst hx0
          rw [show bstr [] = { data := #[] } from rfl] at HRS ⊢
          go_wp2
          go_ret3
          exact ⟨by rw [HRS.out]; rfl, rfl⟩
        · have hpe := bstr_empty hx0
          have HXE : Hid (x.isEmpty = false) := by
            show _ = _
            cases x with
            | nil => simp at hx0
            | cons => rfl
          go_wp2
          go_ret3
          exact ⟨by rw [HRS.out, HXE.out]; first | rfl | simp [hpe], rfl⟩
end Go.Proofs.YtlhgjicichjbgaaGreatDoor
