/- A text cut into lines, by strings.Split. -/
import Derived.Test.YtlhgjicichjbgaaGreatDoorScopesFn
namespace Go.Proofs.YtlhgjicichjbgaaGreatDoor
open Go.RowKit

/-- A text cut into lines. -/
def cutLn : U → List U
  | [] => [[]]
  | c :: l => if c = 10 then [] :: cutLn l else match cutLn l with
    | [] => [[c]]
    | h :: t => (c :: h) :: t
theorem cutLn_ne : ∀ l : U, ∃ h t, cutLn l = h :: t
  | [] => ⟨[], [], rfl⟩
  | c :: l => by
    obtain ⟨h, t, e⟩ := cutLn_ne l
    by_cases hc : c = 10
    · exact ⟨[], cutLn l, by rw [cutLn, if_pos hc]⟩
    · exact ⟨c :: h, t, by rw [cutLn, if_neg hc, e]⟩
theorem cutLn_blank (l : U) : cutLn (10 :: l) = [] :: cutLn l := by rw [cutLn, if_pos rfl]
theorem cutLn_cons {c : UInt8} {l h : U} {t : List U} (hc : c ≠ 10) (e : cutLn l = h :: t) : cutLn (c :: l) = (c :: h) :: t := by rw [cutLn, if_neg hc, e]

theorem splitLn_cons {c : UInt8} {l : U} (hc : c ≠ 10) : ∀ k, Lib.splitK [10] 0 k (c :: l) = match Lib.splitK [10] 0 k l with
    | [] => [[c]]
    | h :: t => (c :: h) :: t
  | 0 => rfl
  | k + 1 => by
    have hb : (c == 10) = false := by simpa using hc
    have e1 : Lib.index (c :: l) [10] = if Lib.index l [10] == -1 then -1 else Lib.index l [10] + 1 := by
      rw [Lib.index_one, Lib.index_one, Lib.indexByte, hb]; rfl
    unfold Lib.splitK
    rw [e1]
    have hge := Lib.index_ge l [10]
    by_cases h : Lib.index l [10] = -1
    · rw [h]; rfl
    · have hb2 : (Lib.index l [10] == -1) = false := by simpa using h
      have hb3 : (Lib.index l [10] + 1 == -1) = false := by simp; omega
      rw [hb2]
      simp only [Bool.false_eq_true, if_false]
      rw [hb3]
      simp only [Bool.false_eq_true, if_false]
      obtain ⟨i, hi⟩ : ∃ i : Nat, Lib.index l [10] = i := ⟨(Lib.index l [10]).toNat, by omega⟩
      rw [hi, show ((i : Int) + 1).toNat = i + 1 by omega, show ((i : Int)).toNat = i by omega]
      simp only [Nat.add_zero, List.take_succ_cons, List.length_cons, List.length_nil]
      rw [show i + 1 + (0 + 1) = (i + (0 + 1)) + 1 by omega, List.drop_succ_cons]
theorem splitLn_cut : ∀ l : U, Lib.splitK [10] 0 (l.count 10) l = cutLn l
  | [] => rfl
  | c :: l => by
    by_cases hc : c = 10
    · subst hc
      rw [List.count_cons_self, cutLn_blank, ← splitLn_cut l]
      have e1 : Lib.index (10 :: l) [10] = 0 := by rw [Lib.index_one, Lib.indexByte]; rfl
      rw [Lib.splitK, e1]
      rfl
    · rw [List.count_cons_of_ne hc, splitLn_cons hc, splitLn_cut l]
      obtain ⟨h, t, e⟩ := cutLn_ne l
      rw [cutLn_cons hc e, e]

theorem lines_any (s : ByteArray) (w : World) (hs : s.size ≤ 65536) (hM : MaxL w) :
    Calls Tryz.prog 40 #[.string s, .string { data := #[10] }] w fun e w' => e = .returned (.slice (some ⟨w.heap.size, 0, none⟩) (cutLn s.data.toList).length (cutLn s.data.toList).length) ∧ w' = w.alloc (.cells ((cutLn s.data.toList).map encStr).toArray 9) := by
  obtain ⟨m, hm⟩ := hM
  have hcnt : Lib.countB s { data := #[10] } = s.data.toList.count 10 := Lib.count_one 10 s.data.toList
  have hsp : (Lib.splitB { data := #[10] } 0 (Lib.countB s { data := #[10] }) s).map (·.data.toList) = cutLn s.data.toList := by
    rw [Lib.splitB_data, hcnt]; exact splitLn_cut _
  have hlen : Lib.countB s { data := #[10] } + 1 = (cutLn s.data.toList).length := by
    rw [← hsp, List.length_map, Lib.splitB_all _ (by decide) 0 _ s rfl]
  have hcells : (Lib.splitB { data := #[10] } 0 (Lib.countB s { data := #[10] }) s).map Value.string = (cutLn s.data.toList).map encStr := by
    rw [← hsp, List.map_map]
    apply List.map_congr_left
    intro b _
    exact str_u b
  refine Calls.mono (Any.strings_Split lays146 (by kernel_rfl) s { data := #[10] } m w (by omega) hm (by decide)) ?_
  rintro e w' ⟨rfl, rfl⟩
  rw [hlen, hcells]
  exact ⟨rfl, rfl⟩
end Go.Proofs.YtlhgjicichjbgaaGreatDoor
