/- The contract of Print of the program: for every list of pairs. -/
import Derived.Test.YtjehbdekipmllaaGreatDoorXBld
import Derived.Test.YtjehbdekipmllaaGreatDoorXEsc
import Derived.Test.YtjehbdekipmllaaGreatDoorXCut
import Derived.Test.YtjehbdekipmllaaGreatDoorXMath
namespace Go.Proofs.YtjehbdekipmllaaGreatDoor
open Go.RowKit

/-- A builder that holds these bytes, of a call that began at w0. -/
def BS (B b : Nat) (w0 w : World) (xs : List Nat) : Prop := Lib.IsBuilderF 67 5 B b (xs.map bv) w ∧ Below B w0 w
/-- A pair of the call's own, in a block. -/
def PB (w : World) (p : Nat) (q : Two) : Prop := w.heap[p]? = some (.cells #[.string (bstr q.1), .string (bstr q.2)] 58 (0, 0))
theorem PB.cell0 {w : World} {p : Nat} {q : Two} (h : PB w p q) : w.cell? ⟨p, 0, none⟩ = some (.string (bstr q.1)) := by rw [Lib.cell_of_heap h]; rfl
theorem PB.cell1 {w : World} {p : Nat} {q : Two} (h : PB w p q) : w.cell? ⟨p, 1, none⟩ = some (.string (bstr q.2)) := by rw [Lib.cell_of_heap h]; rfl
theorem PB.kept {b : Nat} {w w' : World} {p : Nat} {q : Two} (h : PB w p q) (hp : p ≠ b) (hk : Lib.OthersKept 5 (some b) w w') : PB w' p q := by
  refine hk p _ h (by simpa using hp) ?_
  intro c fz e
  rw [Obj.cells.injEq] at e
  exact absurd e.2.1 (by decide)
theorem PB.keep {w w' : World} {p : Nat} {q : Two} (h : PB w p q) (hb : Below w.heap.size w w') : PB w' p q := (hb.block p (Array.getElem?_eq_some_iff.1 h).1).trans h
theorem builderAt_keep {B b : Nat} {p : Value} {xs : List Value} {w w' : World} (h : Lib.BuilderAtF 67 5 B b p xs w) (hb : Below w.heap.size w w') : Lib.BuilderAtF 67 5 B b p xs w' := by
  have hlt := h.lt
  obtain ⟨hB, v, hbk, hown, hne⟩ := h
  refine ⟨hB, v, (hb.block b hlt).trans hbk, ⟨hown.1, ?_⟩, hne⟩
  rcases hown.2 with h2 | ⟨g, cap, cur, fz, e, hg, hh, r⟩
  · exact .inl h2
  · exact .inr ⟨g, cap, cur, fz, e, hg, (hb.block g (Array.getElem?_eq_some_iff.1 hh).1).trans hh, r⟩
theorem BS.keep {B b : Nat} {w0 w w' : World} {xs : List Nat} (h : BS B b w0 w xs) (hb : Below w.heap.size w w') (hB : B ≤ w.heap.size) : BS B b w0 w' xs :=
  ⟨h.1.elim (fun x => .inl (builderAt_keep x hb)) (fun x => .inr (builderAt_keep x hb)), h.2.trans (hb.mono hB)⟩
theorem BS.size {B b : Nat} {w0 w : World} {xs : List Nat} (h : BS B b w0 w xs) : w0.heap.size ≤ w.heap.size := h.2.size
theorem BS.lt {B b : Nat} {w0 w : World} {xs : List Nat} (h : BS B b w0 w xs) : b < w.heap.size := h.1.elim (fun x => x.lt) (fun x => x.lt)
theorem strCells_bstr {xs : List Nat} (h : ∀ x ∈ xs, x < 256) : Lib.strCells (bstr xs) = xs.map bv := by
  unfold Lib.strCells bstr
  simp only [List.map_map]
  refine List.map_congr_left fun x hx => ?_
  simp [bv, Nat.mod_eq_of_lt (h x hx)]
theorem putB_any (B b : Nat) (w0 w : World) (xs : List Nat) (c : Nat) (hB0 : B ≤ w0.heap.size) (h : BS B b w0 w xs) (hlen : xs.length + 1 ≤ 140737488355328) :
    Calls Tryz.prog 30 #[.pointer (some ⟨b, 0, none⟩), .int .u8 (c : Int)] w fun e w' => e = .returned .nilIface ∧ Hid (BS B b w0 w' (xs ++ [c])) ∧ Hid (∀ p q, PB w p q → p ≠ b → PB w' p q) := by
  have hs := h.size
  refine (writeByte_any B b (xs.map bv) (c : Int) w h.1 (by simpa using hlen) (by omega)).mono ?_
  rintro e w' ⟨rfl, h1, h2, h3⟩
  refine ⟨rfl, ⟨.inr ?_, h.2.trans h2⟩, fun p q hp hne => hp.kept hne h3⟩
  rw [List.map_append]
  exact h1
theorem putS_any (B b : Nat) (w0 w : World) (xs ys : List Nat) (hB0 : B ≤ w0.heap.size) (h : BS B b w0 w xs) (hy : ∀ y ∈ ys, y < 256) (hlen : xs.length + ys.length ≤ 140737488355328) :
    Calls Tryz.prog 28 #[.pointer (some ⟨b, 0, none⟩), .string (bstr ys)] w fun e w' => e = .returned (.tuple #[.int .i64 (ys.length : Int), .nilIface]) ∧ Hid (BS B b w0 w' (xs ++ ys)) ∧ Hid (∀ p q, PB w p q → p ≠ b → PB w' p q) := by
  have hs := h.size
  refine (writeString_any B b (xs.map bv) (bstr ys) w h.1 (by rw [bstr_size]; simpa using hlen) (by omega)).mono ?_
  rintro e w' ⟨rfl, h1, h2, h3⟩
  refine ⟨by rw [bstr_size], ⟨.inr ?_, h.2.trans h2⟩, fun p q hp hne => hp.kept hne h3⟩
  rw [List.map_append, ← strCells_bstr hy]
  exact h1
theorem getS_any (B b : Nat) (w0 w : World) (xs : List Nat) (hB0 : B ≤ w0.heap.size) (h : BS B b w0 w xs) (hx : ∀ x ∈ xs, x < 256) :
    Calls Tryz.prog 32 #[.pointer (some ⟨b, 0, none⟩)] w fun e w' => e = .returned (.string (bstr xs)) ∧ Hid (Below B w0 w') := by
  have hs := h.size
  have hc : Lib.byteCells (xs.map fun n => UInt8.ofNat n) = xs.map bv := strCells_bstr hx
  refine (Any.Builder_String_any_k lays169 Builder_Extra_169 B b (xs.map fun n => UInt8.ofNat n) w (by rw [hc]; exact h.1) (by omega)).mono ?_
  rintro e w' ⟨rfl, _, h2, _⟩
  exact ⟨rfl, h.2.trans h2⟩


set_option linter.unusedSimpArgs false in
set_option maxHeartbeats 1000000 in
set_option maxRecDepth 100000 in
theorem print_any (n c : Nat) (ao : Option Addr) (l : List Two) (w : World) (hn : n = l.length) (hl : tot2 l ≤ 1099511627776) (hb : ∀ q ∈ l, bytes2 q) (hr : PRow w ao l) :
    Calls Tryz.prog 64 #[.slice ao n c] w fun e w' => e = .returned (.string (bstr (prt l))) ∧ Below w.heap.size w w' := by
  have hl3 := tot2_len l
  have HL : Hid (tot2 l ≤ 1099511627776) := hl
  have HN : Hid (n = l.length) := hn
  have HR : Hid (PRow w ao l) := hr
  have HB2 : Hid (∀ q ∈ l, bytes2 q) := hb
  have hnb : n ≤ 1099511627776 := by omega
  clear hn hr hb hl hl3
  go_enter Tryz.func64, Tryz.ntmps64
  go_wp2
  go_loopw [8] (fun i wr => ∃ k : Nat, k ≤ n ∧ i = .int .i64 k ∧ Hid (BS w.heap.size w.heap.size w wr (prt (l.take k)))) (fun i _ => n - (intOf i).toNat)
  case atStart => exact ⟨0, by omega, rfl, ⟨Lib.IsBuilderF.of (Lib.fresh_isBuilder _ _ _), below_new _ _⟩⟩
  case round =>
    obtain ⟨k, hk, rfl, HS⟩ := hrel
    have hs := HS.out.size
    have hsl := HS.out.lt
    by_cases hlt : k < n
    · obtain ⟨b, off, rfl⟩ := HR.out.form (by rw [← HN.out]; omega)
      obtain ⟨q, hq⟩ : ∃ q, l[k]? = some q := ⟨_, List.getElem?_eq_getElem (by rw [← HN.out]; exact hlt)⟩
      have hqm := List.mem_of_getElem? hq
      have hcc := (HR.out.keep HS.out.2).cell hq
      rw [Nat.mul_comm] at hcc
      have c0 : wr.cell? ⟨b, off + k * 2, none⟩ = some (.string (bstr q.1)) := hcc.1
      have c1 : wr.cell? ⟨b, off + k * 2 + 1, none⟩ = some (.string (bstr q.2)) := hcc.2
      have HT : Hid (l.take (k + 1) = l.take k ++ [q]) := by show _ = _; rw [List.take_add_one, hq]; rfl
      have HQ : Hid (bytes2 q) := HB2.out q hqm
      have HZ : Hid ((prt (l.take k)).length + (seg q).length + 1 ≤ 4398046511104 ∧ q.1.length + q.2.length ≤ 1099511627776) := by
        have h1 := tot2_take l (k + 1)
        have h2 := HL.out
        have h3 := seg_len q
        have h4 := prt_len (l.take k)
        rw [HT.out, tot2_append, tot2_cons] at h1
        exact ⟨by omega, by omega⟩
      have HP : Hid (PB (wr.alloc (.cells #[.string (bstr q.1), .string (bstr q.2)] 58)) wr.heap.size q) := heap_alloc_new wr _
      have HSA := HS.out.keep (below_new wr (.cells #[.string (bstr q.1), .string (bstr q.2)] 58)) hs
      have HSA2 : Hid (BS w.heap.size w.heap.size w (wr.alloc (.cells #[.string (bstr q.1), .string (bstr q.2)] 58)) (prt (l.take k))) := HSA
      clear HSA hcc hq hqm
      by_cases h0 : k = 0
      · subst h0
        rw [Nat.zero_mul, Nat.add_zero] at c0 c1
        rw [List.take_zero] at HSA2 HZ
        rw [List.take_zero, Nat.zero_add] at HT
        clear HS
        go_wp2_with fail
        refine (escape_any _ _ (by rw [bstr_size]; have := HZ.out.2; omega)).mono ?_
        rintro e w2 ⟨rfl, hb2⟩
        rw [sbytes_bstr HQ.out.1]
        have HS2 := hide (HSA2.out.keep hb2 (by simp; omega))
        have HPP2 := hide (HP.out.keep hb2)
        have HSZ2 := hide HS2.out.size
        clear hb2 HSA2 HP
        go_wp2_with fail
        refine (putS_any _ _ w w2 _ _ (Nat.le_refl _) HS2.out (esc_lt HQ.out.1) (by have := HZ.out.1; have := seg_two q; omega)).mono ?_
        rintro e w3 ⟨rfl, HS3, HP3⟩
        have HPP3 := hide (HP3.out _ _ HPP2.out (by omega))
        clear HP3 HPP2 HS2
        go_wp2_with fail
        refine (putB_any _ _ w w3 _ 61 (Nat.le_refl _) HS3.out (by have := HZ.out.1; have := seg_two q; simp only [List.length_append, List.length_cons, List.length_nil]; omega)).mono ?_
        rintro e w4 ⟨rfl, HS4, HP4⟩
        have HPP4 := hide (HP4.out _ _ HPP3.out (by omega))
        have d4 := HPP4.out.cell1
        have HSZ4 := hide HS4.out.size
        clear HP4 HPP3 HS3
        go_wp2_with fail
        refine (escape_any _ w4 (by rw [bstr_size]; have := HZ.out.2; omega)).mono ?_
        rintro e w5 ⟨rfl, hb5⟩
        rw [sbytes_bstr HQ.out.2]
        have HS5 := hide (HS4.out.keep hb5 HSZ4.out)
        clear hb5 HS4 d4
        go_wp2_with fail
        refine (putS_any _ _ w w5 _ _ (Nat.le_refl _) HS5.out (esc_lt HQ.out.2) (by have := HZ.out.1; have := seg_two q; simp only [List.length_append, List.length_cons, List.length_nil]; omega)).mono ?_
        rintro e w6 ⟨rfl, HS6, _⟩
        go_wp2
        go_roundw
        case rel =>
          refine ⟨1, by omega, by go_num, ?_⟩
          rw [HT.out, List.nil_append]
          show BS _ _ _ _ (seg q)
          rw [seg_of]
          have := HS6.out
          simpa [List.append_assoc, prt] using this
        case measure => simp [intOf]; omega
      · have h0i : (0 : Int) < (k : Int) := by omega
        clear HS
        go_wp2_with fail
        refine (putB_any _ _ w _ _ 38 (Nat.le_refl _) HSA2.out (by have := HZ.out.1; omega)).mono ?_
        rintro e w1 ⟨rfl, HS1, HP1⟩
        have hp1 := HP1.out _ _ HP.out (by omega)
        have d1 := hp1.cell0
        have HPP1 := hide hp1
        have HSZ1 := hide HS1.out.size
        clear hp1 HP HP1 HSA2
        go_wp2_with fail
        refine (escape_any _ w1 (by rw [bstr_size]; have := HZ.out.2; omega)).mono ?_
        rintro e w2 ⟨rfl, hb2⟩
        rw [sbytes_bstr HQ.out.1]
        have HS2 := hide (HS1.out.keep hb2 HSZ1.out)
        have HPP2 := hide (HPP1.out.keep hb2)
        have HSZ2 := hide HS2.out.size
        clear hb2 HS1 HPP1 d1
        go_wp2_with fail
        refine (putS_any _ _ w w2 _ _ (Nat.le_refl _) HS2.out (esc_lt HQ.out.1) (by have := HZ.out.1; have := seg_two q; rw [List.length_append]; simp; omega)).mono ?_
        rintro e w3 ⟨rfl, HS3, HP3⟩
        have HPP3 := hide (HP3.out _ _ HPP2.out (by omega))
        clear HP3 HPP2 HS2
        go_wp2_with fail
        refine (putB_any _ _ w w3 _ 61 (Nat.le_refl _) HS3.out (by have := HZ.out.1; have := seg_two q; simp only [List.length_append, List.length_cons, List.length_nil]; omega)).mono ?_
        rintro e w4 ⟨rfl, HS4, HP4⟩
        have HPP4 := hide (HP4.out _ _ HPP3.out (by omega))
        have d4 := HPP4.out.cell1
        have HSZ4 := hide HS4.out.size
        clear HP4 HPP3 HS3
        go_wp2_with fail
        refine (escape_any _ w4 (by rw [bstr_size]; have := HZ.out.2; omega)).mono ?_
        rintro e w5 ⟨rfl, hb5⟩
        rw [sbytes_bstr HQ.out.2]
        have HS5 := hide (HS4.out.keep hb5 HSZ4.out)
        clear hb5 HS4 d4
        go_wp2_with fail
        refine (putS_any _ _ w w5 _ _ (Nat.le_refl _) HS5.out (esc_lt HQ.out.2) (by have := HZ.out.1; have := seg_two q; simp only [List.length_append, List.length_cons, List.length_nil]; omega)).mono ?_
        rintro e w6 ⟨rfl, HS6, _⟩
        go_wp2
        go_roundw
        case rel =>
          refine ⟨k + 1, by omega, by go_num, ?_⟩
          rw [HT.out, prt_snoc, if_neg ?_, seg_of]
          · have := HS6
            simpa [List.append_assoc] using this
          · intro e
            have := congrArg List.length e
            rw [List.length_take, Nat.min_eq_left (by rw [← HN.out]; omega)] at this
            simp at this
            omega
        case measure => simp [intOf]; omega
    · have HF : Hid (prt (l.take k) = prt l) := by
        show _ = _
        rw [List.take_of_length_le (by rw [← HN.out]; omega)]
      go_wp2_with fail
      refine (getS_any _ _ w wr (prt (l.take k)) (Nat.le_refl _) HS.out ?_).mono ?_
      · rw [HF.out]; exact prt_lt l HB2.out
      rintro e w3 ⟨rfl, hb3⟩
      rw [HF.out]
      go_wp2
      go_ret
      exact ⟨rfl, hb3.out⟩
end Go.Proofs.YtjehbdekipmllaaGreatDoor
