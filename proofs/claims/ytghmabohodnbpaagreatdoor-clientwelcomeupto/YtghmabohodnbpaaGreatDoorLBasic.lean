/- The program's Basic: the scheme, the text of the common alphabet, name and secret: for every header. -/
import Derived.Test.YtghmabohodnbpaaGreatDoorXCut
import Derived.Test.YtghmabohodnbpaaGreatDoorLB64
import Derived.Test.YtghmabohodnbpaaGreatDoorLDecM
import Derived.Test.YtghmabohodnbpaaGreatDoorLIdx
import Derived.Shelf.Strings.Trim
import Derived.Shelf.Strings.Prefix
import Derived.Shelf.Strings.Replace
namespace Go.Proofs.YtghmabohodnbpaaGreatDoor
open Go.RowKit

/-- A text that is made of bytes. -/
theorem bstr_of (F : List UInt8) (G : List Nat) (h : F.map UInt8.toNat = G) : (⟨F.toArray⟩ : ByteArray) = bstr G := by
  rw [← h]
  unfold bstr
  rw [ofNat_toNat]
theorem cutf_eq (s : ByteArray) (c : UInt8) : (Lib.cut s.data.toList [c]).2.2 = decide ((upTo c.toNat (sbytes s)).length < (sbytes s).length) := by
  have hz : s.data.toList.length = (sbytes s).length := by simp [sbytes]
  rcases index_upTo c s.data.toList with ⟨h1, h2⟩ | ⟨h1, h2⟩
  · unfold Lib.cut
    rw [h2, if_neg (by omega)]
    have h3 : (upTo c.toNat (sbytes s)).length = (sbytes s).length := by rw [← hz]; exact h1
    rw [h3]
    simp
  · unfold Lib.cut
    rw [h2, if_pos (by omega)]
    have h3 : (upTo c.toNat (sbytes s)).length < (sbytes s).length := by rw [← hz]; exact h1
    rw [decide_eq_true h3]
theorem cutf_any (s : ByteArray) (c : UInt8) (w : World) (hs : s.size < 4294967281) (hM : MaxL w) :
    Calls Tryz.prog 109 #[.string s, .string { data := #[c] }] w fun e w' => e = .returned (.tuple #[.string (bstr (upTo c.toNat (sbytes s))), .string (bstr ((sbytes s).drop ((upTo c.toNat (sbytes s)).length + 1))), .bool (decide ((upTo c.toNat (sbytes s)).length < (sbytes s).length))]) ∧ Below w.heap.size w w' := by
  obtain ⟨m, hm⟩ := hM
  refine Calls.mono (Any.strings_Cut lays145 s { data := #[c] } m w hs hm) ?_
  rintro e w' ⟨rfl, n, rfl⟩
  have h1 := cut_eq s c
  have h2 := cutf_eq s c
  refine ⟨?_, below_drewN (Below.refl _ _) n⟩
  rw [← h2, ← h1.1, ← h1.2]
theorem dropWhile_nat (p : UInt8 → Bool) (q : Nat → Bool) (h : ∀ x, p x = q x.toNat) : ∀ l : List UInt8, (l.dropWhile p).map UInt8.toNat = (l.map UInt8.toNat).dropWhile q
  | [] => rfl
  | x :: l => by
    rw [List.map_cons, List.dropWhile_cons, List.dropWhile_cons, h x]
    cases q x.toNat
    · rfl
    · exact dropWhile_nat p q h l
theorem trimLeft_any (s : ByteArray) (w : World) : Calls Tryz.prog 145 #[.string s, .string { data := #[32] }] w fun e w' => e = .returned (.string (bstr ((sbytes s).dropWhile (· == 32)))) ∧ w' = w := by
  refine Calls.mono (Any.strings_TrimLeft_one lays161 s 32 (by decide) w) ?_
  rintro e w' ⟨rfl, rfl⟩
  refine ⟨?_, rfl⟩
  rw [show (⟨(Lib.trimLeftB s.data.toList 32).toArray⟩ : ByteArray) = bstr ((sbytes s).dropWhile (· == 32)) from bstr_of _ _ (dropWhile_nat (· == 32) (· == 32) (fun x => by rw [Bool.eq_iff_iff]; simp [← UInt8.toNat_inj]) s.data.toList)]
theorem trim1_eq (l : List UInt8) : (Lib.trimSuffix l [61]).map UInt8.toNat = trim1 (l.map UInt8.toNat) := by
  unfold Lib.trimSuffix trim1 Lib.hasSuffix
  rcases List.eq_nil_or_concat l with rfl | ⟨ys, y, rfl⟩
  · simp
  · have e : ([61] : List UInt8).isSuffixOf (ys ++ [y]) = decide (y = 61) := by
      rw [Bool.eq_iff_iff, List.isSuffixOf_iff_suffix, decide_eq_true_eq]
      constructor
      · rintro ⟨t, ht⟩
        exact ((List.append_inj' ht rfl).2 |> List.cons.inj).1.symm
      · rintro rfl; exact ⟨ys, rfl⟩
    rw [List.concat_eq_append, e]
    simp only [List.map_append, List.map_cons, List.map_nil, List.getLast?_append, List.getLast?_singleton, List.length_append, List.length_cons, List.length_nil]
    by_cases hy : y = 61
    · subst hy
      simp
    · have hy2 : y.toNat ≠ 61 := fun h => hy (UInt8.toNat_inj.1 h)
      simp [hy, hy2]
theorem trimSuffix_any (s : ByteArray) (w : World) (hs : s.size ≤ 4294967281) : Calls Tryz.prog 148 #[.string s, .string { data := #[61] }] w fun e w' => e = .returned (.string (bstr (trim1 (sbytes s)))) ∧ w' = w := by
  refine Calls.mono (Any.strings_TrimSuffix lays102 s { data := #[61] } w (by omega)) ?_
  rintro e w' ⟨rfl, rfl⟩
  refine ⟨?_, rfl⟩
  rw [bstr_of _ _ (trim1_eq s.data.toList)]
  rfl
theorem replaceK_map (a b : UInt8) : ∀ (n : Nat) (l : List UInt8) (k : Nat), l.length ≤ n → l.count a ≤ k → Lib.replaceK [a] [b] k l = l.map fun x => if x = a then b else x := by
  intro n
  induction n with
  | zero =>
    intro l k hl _
    obtain rfl := List.length_eq_zero_iff.1 (Nat.le_zero.1 hl)
    cases k <;> simp [Lib.replaceK, Lib.index]
  | succ n ih =>
    intro l k hl hk
    have hix := index_upTo a l
    have hnone : ∀ m : List UInt8, a ∉ m → (m.map fun x => if x = a then b else x) = m := by
      intro m hm
      conv => rhs; rw [← List.map_id m]
      apply List.map_congr_left
      intro x hx
      rw [if_neg (fun e : x = a => hm (e ▸ hx))]; rfl
    rcases hix with ⟨h1, h2⟩ | ⟨h1, h2⟩
    · have hno : a ∉ l := by
        intro hm
        have h3 := upTo_whole (c := a.toNat) (show (upTo a.toNat (l.map UInt8.toNat)).length = (l.map UInt8.toNat).length by rw [List.length_map]; exact h1)
        have := upTo_ne (c := a.toNat) (l := l.map UInt8.toNat) a.toNat (by rw [h3]; exact List.mem_map.2 ⟨a, hm, rfl⟩)
        exact this rfl
      rw [hnone l hno]
      cases k with
      | zero => rfl
      | succ k => rw [Lib.replaceK, h2]; rfl
    · obtain ⟨i, hi⟩ : ∃ i, (upTo a.toNat (l.map UInt8.toNat)).length = i := ⟨_, rfl⟩
      rw [hi] at h1 h2
      have hdec : l = l.take i ++ a :: l.drop (i + 1) := by
        have h3 := upTo_end (c := a.toNat) (l := l.map UInt8.toNat) (by rw [hi, List.length_map]; exact h1)
        rw [hi] at h3
        have h4 : l[i]? = some a := by
          rw [List.getElem?_eq_getElem h1]
          simp only [List.getD, List.getElem?_map, List.getElem?_eq_getElem h1, Option.map_some, Option.getD_some] at h3
          rw [UInt8.toNat_inj.1 h3]
        obtain ⟨_, h5⟩ := List.getElem?_eq_some_iff.1 h4
        conv => lhs; rw [← List.take_append_drop i l]
        rw [List.drop_eq_getElem_cons h1, h5]
      have hno : a ∉ l.take i := by
        intro hm
        have h3 := upTo_take a.toNat (l.map UInt8.toNat)
        rw [hi] at h3
        have := upTo_ne (c := a.toNat) (l := l.map UInt8.toNat) a.toNat (by rw [h3, ← List.map_take]; exact List.mem_map.2 ⟨a, hm, rfl⟩)
        exact this rfl
      have hcount : l.count a = (l.drop (i + 1)).count a + 1 := by
        rw [hdec, List.count_append, List.count_eq_zero.2 hno, List.count_cons_self]
        have e : (l.take i ++ a :: l.drop (i + 1)).drop (i + 1) = l.drop (i + 1) := by rw [← hdec]
        rw [e]; omega
      obtain ⟨k, rfl⟩ : ∃ k', k = k' + 1 := ⟨k - 1, by omega⟩
      rw [Lib.replaceK_hit [a] [b] k l i h2, List.length_singleton, ih (l.drop (i + 1)) k (by rw [List.length_drop]; omega) (by omega)]
      conv => rhs; rw [hdec]
      rw [List.map_append, List.map_cons, hnone _ hno, if_pos rfl, List.append_assoc]
      rfl
theorem replaceAll_map (a b : UInt8) (h : a ≠ b) (l : List UInt8) : Lib.replaceAll l [a] [b] = l.map fun x => if x = a then b else x := by
  unfold Lib.replaceAll Lib.replace
  rw [if_neg (by simpa using h)]
  exact replaceK_map a b l.length l _ (Nat.le_refl _) (by unfold Lib.replaceNum; rw [if_pos (.inl (by decide)), Lib.count_one]; exact Nat.le_refl _)
theorem replaceAll_any (s : ByteArray) (a b : UInt8) (h : a ≠ b) (w : World) (hs : s.size < 4294967281) (hM : MaxL w) : Calls Tryz.prog 149 #[.string s, .string { data := #[a] }, .string { data := #[b] }] w fun e w' => e = .returned (.string (bstr ((sbytes s).map fun x => if x = a.toNat then b.toNat else x))) ∧ Below w.heap.size w w' := by
  obtain ⟨m, hm⟩ := hM
  have hc := Lib.countB_le { data := #[a] } (Nat.le_refl 1) s.size s (Nat.le_refl _)
  refine Calls.mono (Any.strings_ReplaceAll lays155 Builder_Extra_155 s { data := #[a] } { data := #[b] } m w hs hm (Nat.le_refl 1) (by show s.size + Lib.countB s _ * 1 ≤ _; omega)) ?_
  rintro e w' ⟨rfl, hb⟩
  refine ⟨?_, hb⟩
  rw [bstr_of _ _ rfl]
  show Ending.returned (.string (bstr ((Lib.replaceAll s.data.toList [a] [b]).map UInt8.toNat))) = _
  rw [replaceAll_map a b h]
  unfold sbytes
  rw [List.map_map, List.map_map]
  congr 4
  funext x
  simp only [Function.comp_def]
  by_cases hx : x = a
  · subst hx; simp
  · rw [if_neg hx, if_neg (fun e => hx (UInt8.toNat_inj.1 e))]
end Go.Proofs.YtghmabohodnbpaaGreatDoor
