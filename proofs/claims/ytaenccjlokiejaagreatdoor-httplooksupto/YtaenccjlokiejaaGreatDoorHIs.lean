/- What may be: methods, targets, names, values, lengths, statuses; a byte in small letters. -/
import Derived.Test.YtaenccjlokiejaaGreatDoorHMay
import Derived.Test.YtaenccjlokiejaaGreatDoorShelf
import Derived.Shelf.Strings.SlTrimAscii
import Derived.Shelf.Strings.Prefix
import Derived.Lib.SmallJoins
namespace Go.Proofs.YtaenccjlokiejaaGreatDoor
open Go.RowKit Go.Shelf

theorem dw_self (p : UInt8 → Bool) : ∀ l : U, l.dropWhile p = l ↔ ∀ a, l.head? = some a → p a = false
  | [] => by simp
  | a :: l => by
    rw [List.dropWhile_cons]
    split
    · rename_i h
      constructor
      · intro e
        have h1 := (List.dropWhile_suffix (l := l) p).length_le
        have h2 := congrArg List.length e
        simp at h2
        omega
      · intro e
        have := e a rfl
        rw [h] at this
        cases this
    · rename_i h
      simp at h
      simp [h]
theorem dw_le (p : UInt8 → Bool) (l : U) : (l.dropWhile p).length ≤ l.length := (List.dropWhile_suffix (l := l) p).length_le
theorem trim_self (l cs : U) : Lib.trimS l cs = l ↔ (∀ a, l.head? = some a → cs.contains a = false) ∧ ∀ a, l.getLast? = some a → cs.contains a = false := by
  unfold Lib.trimS Lib.trimLeftS Lib.trimRightS
  constructor
  · intro e
    have h1 : (l.reverse.dropWhile (cs.contains ·)).length = l.reverse.length := by
      have a1 := dw_le (cs.contains ·) l.reverse
      have a2 := dw_le (cs.contains ·) (l.reverse.dropWhile (cs.contains ·)).reverse
      rw [e] at a2
      simp at a1 a2 ⊢
      omega
    have h2 : l.reverse.dropWhile (cs.contains ·) = l.reverse := List.IsSuffix.eq_of_length (List.dropWhile_suffix _) h1
    rw [h2, List.reverse_reverse] at e
    refine ⟨(dw_self _ l).1 e, ?_⟩
    have h3 := (dw_self _ l.reverse).1 h2
    intro a ha
    exact h3 a (by rw [List.head?_reverse]; exact ha)
  · rintro ⟨h1, h2⟩
    have h3 : l.reverse.dropWhile (cs.contains ·) = l.reverse := (dw_self _ _).2 fun a ha => h2 a (by rw [List.head?_reverse] at ha; exact ha)
    rw [h3, List.reverse_reverse]
    exact (dw_self _ l).2 h1
theorem trim_edge (l : U) : decide (Lib.trimS l [32] = l) = edgeB l := by
  rw [Bool.eq_iff_iff, decide_eq_true_eq, trim_self]
  unfold edgeB
  cases l with
  | nil => simp
  | cons a t =>
    simp only [List.head?_cons, Option.some.injEq, forall_eq']
    have hc : ∀ x : UInt8, (([32] : U).contains x = false) ↔ x ≠ 32 := by intro x; simp
    rw [hc]
    cases h : (a :: t).getLast? with
    | none => simp at h
    | some z => simp
theorem prefix_one (l : U) (c : UInt8) : Lib.hasPrefix l [c] = decide (l.head? = some c) := by
  cases l with
  | nil => simp [Lib.hasPrefix]
  | cons a t =>
    simp only [Lib.hasPrefix, List.isPrefixOf, List.head?_cons, Option.some.injEq, Bool.and_true]
    rw [Bool.eq_iff_iff, beq_iff_eq, decide_eq_true_eq]
    exact eq_comm
set_option maxHeartbeats 1000000 in
set_option maxRecDepth 100000 in
theorem isMethod_any (l : U) (w : World) (hl : l.length ≤ 9223372036854775807) : Calls Tryz.prog 47 #[.string (str l)] w fun e w' => e = .returned (.bool (methodB l)) ∧ Below w.heap.size w w' := by
  have hz := str_size l
  have HE : Hid (methodB l = (decide (1 ≤ l.length) && decide (l.length ≤ 16) && l.all capB)) := rfl
  have HO := hide (fun v w hm => only_any l v capB w hl hm)
  obtain ⟨n, hn⟩ : ∃ n, n = l.length := ⟨_, rfl⟩
  rw [← hn] at hz hl HE
  generalize methodB l = r at *
  generalize l.all capB = b at *
  generalize str l = s at *
  clear hn
  by_cases h1 : 1 ≤ n
  · by_cases h2 : n ≤ 16
    · have HR : Hid (r = b) := by show _ = _; rw [HE.out]; simp [h1, h2]
      clear HE
      go_enter Tryz.func47, Tryz.ntmps47
      go_wp2_with fail
      refine (capital_any w).mono ?_
      rintro e w1 ⟨v, rfl, hm, hb⟩
      have HB := hide hb
      have HC := hide (HO.out v w1 hm)
      clear hm hb HO
      go_wp2_with fail
      refine HC.out.mono ?_
      rintro e w2 ⟨rfl, h2⟩
      have h3 := h2.symm
      subst h3
      clear h2 HC
      go_wp2
      go_ret
      exact ⟨by rw [HR.out]; rfl, HB.out⟩
    · have HR : Hid (r = false) := by show _ = _; rw [HE.out]; simp [h2]
      clear HE HO
      go_enter Tryz.func47, Tryz.ntmps47
      go_wp2
      go_ret
      exact ⟨by rw [HR.out]; rfl, Below.refl _ _⟩
  · have HR : Hid (r = false) := by show _ = _; rw [HE.out]; simp [h1]
    clear HE HO
    go_enter Tryz.func47, Tryz.ntmps47
    go_wp2
    go_ret
    exact ⟨by rw [HR.out]; rfl, Below.refl _ _⟩
set_option maxHeartbeats 1000000 in
set_option maxRecDepth 100000 in
theorem isName_any (l : U) (w : World) (hl : l.length ≤ 9223372036854775807) : Calls Tryz.prog 102 #[.string (str l)] w fun e w' => e = .returned (.bool (nameB l)) ∧ Below w.heap.size w w' := by
  have hz := str_size l
  have HE : Hid (nameB l = (decide (1 ≤ l.length) && decide (l.length ≤ 64) && l.all namB)) := rfl
  have HO := hide (fun v w hm => only_any l v namB w hl hm)
  obtain ⟨n, hn⟩ : ∃ n, n = l.length := ⟨_, rfl⟩
  rw [← hn] at hz hl HE
  generalize nameB l = r at *
  generalize l.all namB = b at *
  generalize str l = s at *
  clear hn
  by_cases h1 : 1 ≤ n
  · by_cases h2 : n ≤ 64
    · have HR : Hid (r = b) := by show _ = _; rw [HE.out]; simp [h1, h2]
      clear HE
      go_enter Tryz.func102, Tryz.ntmps102
      go_wp2_with fail
      refine (ofName_any w).mono ?_
      rintro e w1 ⟨v, rfl, hm, hb⟩
      have HB := hide hb
      have HC := hide (HO.out v w1 hm)
      clear hm hb HO
      go_wp2_with fail
      refine HC.out.mono ?_
      rintro e w2 ⟨rfl, h2⟩
      have h3 := h2.symm
      subst h3
      clear h2 HC
      go_wp2
      go_ret
      exact ⟨by rw [HR.out]; rfl, HB.out⟩
    · have HR : Hid (r = false) := by show _ = _; rw [HE.out]; simp [h2]
      clear HE HO
      go_enter Tryz.func102, Tryz.ntmps102
      go_wp2
      go_ret
      exact ⟨by rw [HR.out]; rfl, Below.refl _ _⟩
  · have HR : Hid (r = false) := by show _ = _; rw [HE.out]; simp [h1]
    clear HE HO
    go_enter Tryz.func102, Tryz.ntmps102
    go_wp2
    go_ret
    exact ⟨by rw [HR.out]; rfl, Below.refl _ _⟩
set_option maxHeartbeats 1000000 in
set_option maxRecDepth 100000 in
theorem isLength_any (l : U) (w : World) (hl : l.length ≤ 9223372036854775807) : Calls Tryz.prog 130 #[.string (str l)] w fun e w' => e = .returned (.bool (lengthB l)) ∧ Below w.heap.size w w' := by
  have hz := str_size l
  have HE : Hid (lengthB l = (decide (1 ≤ l.length) && decide (l.length ≤ 9) && l.all digB)) := rfl
  have HO := hide (fun v w hm => only_any l v digB w hl hm)
  obtain ⟨n, hn⟩ : ∃ n, n = l.length := ⟨_, rfl⟩
  rw [← hn] at hz hl HE
  generalize lengthB l = r at *
  generalize l.all digB = b at *
  generalize str l = s at *
  clear hn
  by_cases h1 : 1 ≤ n
  · by_cases h2 : n ≤ 9
    · have HR : Hid (r = b) := by show _ = _; rw [HE.out]; simp [h1, h2]
      clear HE
      go_enter Tryz.func130, Tryz.ntmps130
      go_wp2_with fail
      refine (digit_any w).mono ?_
      rintro e w1 ⟨v, rfl, hm, hb⟩
      have HB := hide hb
      have HC := hide (HO.out v w1 hm)
      clear hm hb HO
      go_wp2_with fail
      refine HC.out.mono ?_
      rintro e w2 ⟨rfl, h2⟩
      have h3 := h2.symm
      subst h3
      clear h2 HC
      go_wp2
      go_ret
      exact ⟨by rw [HR.out]; rfl, HB.out⟩
    · have HR : Hid (r = false) := by show _ = _; rw [HE.out]; simp [h2]
      clear HE HO
      go_enter Tryz.func130, Tryz.ntmps130
      go_wp2
      go_ret
      exact ⟨by rw [HR.out]; rfl, Below.refl _ _⟩
  · have HR : Hid (r = false) := by show _ = _; rw [HE.out]; simp [h1]
    clear HE HO
    go_enter Tryz.func130, Tryz.ntmps130
    go_wp2
    go_ret
    exact ⟨by rw [HR.out]; rfl, Below.refl _ _⟩
set_option maxHeartbeats 1000000 in
set_option maxRecDepth 100000 in
theorem isTarget_any (l : U) (w : World) (hl : l.length ≤ 9223372036854775807) : Calls Tryz.prog 48 #[.string (str l)] w fun e w' => e = .returned (.bool (targetB l)) ∧ Below w.heap.size w w' := by
  have hz := str_size l
  have HE : Hid (targetB l = (decide (l.length ≤ 1024) && Lib.hasPrefix l [47] && l.all visB)) := by show _ = _; rw [prefix_one]; rfl
  have HO := hide (fun v w hm => only_any l v visB w hl hm)
  have HP := hide (fun W => Any.strings_HasPrefix lays99 (str l) ⟨#[47]⟩ W)
  simp only [list_str] at HP
  obtain ⟨n, hn⟩ : ∃ n, n = l.length := ⟨_, rfl⟩
  rw [← hn] at hz hl HE
  generalize targetB l = r at *
  generalize l.all visB = b at *
  generalize hpb : Lib.hasPrefix l [47] = pb at *
  generalize str l = s at *
  clear hn
  by_cases h1 : n ≤ 1024
  · cases pb with
    | true =>
      have HR : Hid (r = b) := by show _ = _; rw [HE.out]; simp [h1]
      clear HE
      go_enter Tryz.func48, Tryz.ntmps48
      go_wp2_with fail
      refine (HP.out w).mono ?_
      rintro e w0 ⟨rfl, h2⟩
      have h3 := h2.symm
      subst h3
      clear h2 HP
      go_wp2_with fail
      refine (visible_any w).mono ?_
      rintro e w1 ⟨v, rfl, hm, hb⟩
      have HB := hide hb
      have HC := hide (HO.out v w1 hm)
      clear hm hb HO
      go_wp2_with fail
      refine HC.out.mono ?_
      rintro e w2 ⟨rfl, h2⟩
      have h3 := h2.symm
      subst h3
      clear h2 HC
      go_wp2
      go_ret
      exact ⟨by rw [HR.out]; rfl, HB.out⟩
    | false =>
      have HR : Hid (r = false) := by show _ = _; rw [HE.out]; simp
      clear HE HO
      go_enter Tryz.func48, Tryz.ntmps48
      go_wp2_with fail
      refine (HP.out w).mono ?_
      rintro e w0 ⟨rfl, h2⟩
      have h3 := h2.symm
      subst h3
      clear h2 HP
      go_wp2
      go_ret
      exact ⟨by rw [HR.out]; rfl, Below.refl _ _⟩
  · have HR : Hid (r = false) := by show _ = _; rw [HE.out]; simp [h1]
    clear HE HO HP
    go_enter Tryz.func48, Tryz.ntmps48
    go_wp2
    go_ret
    exact ⟨by rw [HR.out]; rfl, Below.refl _ _⟩
theorem trim_any (l cs : U) (w : World) (hl : l.length ≤ 9223372036854775807) (hc : cs.length < 4294967281) (ha : cs.all (fun b => decide (b.toNat < 128)) = true) :
    Calls Tryz.prog 59 #[.string (str l), .string (str cs)] w fun e w' => e = .returned (.string (str (Lib.trimS l cs))) ∧ Below w.heap.size w w' := by
  have h := Any.strings_Trim_laid lays160 (by kernel_rfl) (str l) (str cs) w (by rw [str_size]; exact hl) (by rw [str_size]; exact hc) (ascii_of_all (by rw [list_str]; exact ha))
  rw [list_str, list_str] at h
  exact h
set_option maxHeartbeats 1000000 in
set_option maxRecDepth 100000 in
theorem isValue_any (l : U) (w : World) (hl : l.length ≤ 9223372036854775807) : Calls Tryz.prog 103 #[.string (str l)] w fun e w' => e = .returned (.bool (valueB l)) ∧ Below w.heap.size w w' := by
  have hz := str_size l
  have HE : Hid (valueB l = (decide (l.length ≤ 4096) && decide (Lib.trimS l [32] = l) && l.all priB)) := by show _ = _; rw [trim_edge]; rfl
  have HO := hide (fun v w hm => only_any l v priB w hl hm)
  have HP := hide (fun W => trim_any l [32] W hl (by decide) (by decide))
  have hq := str_beq (Lib.trimS l [32]) l
  obtain ⟨n, hn⟩ : ∃ n, n = l.length := ⟨_, rfl⟩
  rw [← hn] at hz hl HE
  generalize valueB l = r at *
  generalize l.all priB = b at *
  generalize decide (Lib.trimS l [32] = l) = pb at *
  generalize str (Lib.trimS l [32]) = s2 at *
  generalize str l = s at *
  have h32 : (⟨#[32]⟩ : ByteArray) = str [32] := rfl
  clear hn
  by_cases h1 : n ≤ 4096
  · cases pb with
    | true =>
      have HR : Hid (r = b) := by show _ = _; rw [HE.out]; simp [h1]
      clear HE
      go_enter Tryz.func103, Tryz.ntmps103
      go_wp2_with fail
      refine (HP.out w).mono ?_
      rintro e w0 ⟨rfl, hb0⟩
      have HB0 := hide hb0
      clear hb0 HP
      go_wp2_with fail
      refine (printable_any w0).mono ?_
      rintro e w1 ⟨v, rfl, hm, hb⟩
      have HB := hide (HB0.out.trans (hb.mono HB0.out.size))
      have HC := hide (HO.out v w1 hm)
      clear hm hb HO
      go_wp2_with fail
      refine HC.out.mono ?_
      rintro e w2 ⟨rfl, h2⟩
      have h3 := h2.symm
      subst h3
      clear h2 HC
      go_wp2
      go_ret
      exact ⟨by rw [HR.out]; rfl, HB.out⟩
    | false =>
      have HR : Hid (r = false) := by show _ = _; rw [HE.out]; simp
      clear HE HO
      go_enter Tryz.func103, Tryz.ntmps103
      go_wp2_with fail
      refine (HP.out w).mono ?_
      rintro e w0 ⟨rfl, hb0⟩
      have HB0 := hide hb0
      clear hb0 HP
      go_wp2
      go_ret
      exact ⟨by rw [HR.out]; rfl, HB0.out⟩
  · have HR : Hid (r = false) := by show _ = _; rw [HE.out]; simp [h1]
    clear HE HO HP
    go_enter Tryz.func103, Tryz.ntmps103
    go_wp2
    go_ret
    exact ⟨by rw [HR.out]; rfl, Below.refl _ _⟩
set_option maxHeartbeats 400000 in
set_option maxRecDepth 100000 in
theorem isStatus_any (n : Int) (w : World) : Calls Tryz.prog 50 #[.int .i64 n] w fun e w' => e = .returned (.bool (statusB n)) ∧ w' = w := by
  have HE : Hid (statusB n = (decide (100 ≤ n) && decide (n ≤ 599))) := rfl
  generalize statusB n = r at *
  by_cases h1 : 100 ≤ n
  · by_cases h2 : n ≤ 599
    · have HR : Hid (r = true) := by show _ = _; rw [HE.out]; simp [h1, h2]
      clear HE
      go_enter Tryz.func50, Tryz.ntmps50
      go_wp2
      go_ret
      exact ⟨by rw [HR.out]; rfl, rfl⟩
    · have HR : Hid (r = false) := by show _ = _; rw [HE.out]; simp [h2]
      clear HE
      go_enter Tryz.func50, Tryz.ntmps50
      go_wp2
      go_ret
      exact ⟨by rw [HR.out]; rfl, rfl⟩
  · have HR : Hid (r = false) := by show _ = _; rw [HE.out]; simp [h1]
    clear HE
    go_enter Tryz.func50, Tryz.ntmps50
    go_wp2
    go_ret
    exact ⟨by rw [HR.out]; rfl, rfl⟩
theorem lo_cap {c : UInt8} (h : capB c = true) : (lo c).toNat = c.toNat + 32 := by
  unfold lo
  rw [if_pos h]
  simp [capB] at h
  rw [UInt8.toNat_add]
  have : UInt8.toNat 32 = 32 := rfl
  omega
theorem lo_not {c : UInt8} (h : capB c = false) : lo c = c := by unfold lo; rw [if_neg (by simp [h])]
set_option maxHeartbeats 400000 in
set_option maxRecDepth 100000 in
theorem smallByte_any (c : UInt8) (w : World) : Calls Tryz.prog 83 #[.int .u8 (c.toNat : Int)] w fun e w' => e = .returned (.int .u8 ((lo c).toNat : Int)) ∧ w' = w := by
  by_cases h : capB c = true
  · have e := lo_cap h
    rw [e]
    simp [capB] at h
    obtain ⟨h1, h2⟩ := h
    generalize c.toNat = c at *
    have hw1 : IntKind.u8.wrap ((c : Int) + 97) = (c : Int) + 97 := wraps_u8 _ (by omega) (by omega)
    have hw2 : IntKind.u8.wrap ((c : Int) + 97 - 65) = ((c + 32 : Nat) : Int) := by rw [wraps_u8 _ (by omega) (by omega)]; omega
    clear e
    go_enter Tryz.func83, Tryz.ntmps83
    go_wp2
    go_ret
    exact ⟨by first | rfl | simp | (simp; omega), rfl⟩
  · have h' : capB c = false := by simpa using h
    rw [lo_not h']
    have h2 : ¬ (65 ≤ c.toNat ∧ c.toNat ≤ 90) := by simpa [capB] using h
    generalize c.toNat = c at *
    by_cases h3 : 65 ≤ c
    · have h4 : ¬ c ≤ 90 := fun x => h2 ⟨h3, x⟩
      clear h2 h h'
      go_enter Tryz.func83, Tryz.ntmps83
      go_wp2
      go_ret
      exact ⟨by first | rfl | simp | (simp; omega), rfl⟩
    · clear h2 h h'
      go_enter Tryz.func83, Tryz.ntmps83
      go_wp2
      go_ret
      exact ⟨by first | rfl | simp | (simp; omega), rfl⟩
end Go.Proofs.YtaenccjlokiejaaGreatDoor
