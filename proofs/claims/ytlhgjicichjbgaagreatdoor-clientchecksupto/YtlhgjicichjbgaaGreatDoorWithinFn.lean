/- The contracts of Within of the program and of the document: for every two lists. -/
import Derived.Test.YtlhgjicichjbgaaGreatDoorShelf
import Derived.Test.YtlhgjicichjbgaaGreatDoorStrRow
import Derived.Shelf.Slices.Turned
namespace Go.Proofs.YtlhgjicichjbgaaGreatDoor
open Go.RowKit

theorem contains_any (n c : Nat) (ao : Option Addr) (all : List U) (u : U) (w : World) (hn : n = all.length) (hl : n ≤ 140737488355328) (hr : SRow w ao all) :
    Calls Tryz.prog 112 #[.slice ao n c, .string ⟨u.toArray⟩] w fun e w' => e = .returned (.bool (decide (u ∈ all))) ∧ w' = w := by
  subst hn
  rcases hr with rfl | ⟨b, off, rfl, hc⟩
  · exact Any.slices_Contains_string_empty lays110 ao c ⟨u.toArray⟩ w
  · refine (Any.slices_Contains_string lays110 b off all.length c (all.map fun u => ⟨u.toArray⟩) ⟨u.toArray⟩ w (by simp) (by omega) ?_).mono ?_
    · intro j hj
      rw [List.length_map] at hj
      have := hc j all[j] (List.getElem?_eq_getElem hj)
      rw [this]
      simp [hj]
    · rintro e w' ⟨rfl, rfl⟩
      refine ⟨?_, rfl⟩
      congr 2
      rw [List.take_of_length_le (by simp), Bool.eq_iff_iff, Lib.containsS_iff, decide_eq_true_eq, List.mem_map]
      constructor
      · rintro ⟨v, hv, e⟩
        have : v = u := by
          have := congrArg (fun x : ByteArray => x.data.toList) e
          simpa using this
        rw [← this]; exact hv
      · intro h
        exact ⟨u, h, rfl⟩

def withinB (l all : List U) : Bool := decide (∀ u ∈ l, u ∈ all)
theorem withinB_step {l all : List U} {k : Nat} (h : ∀ u ∈ l.take k, u ∈ all) {u : U} (hu : l[k]? = some u) (hm : u ∈ all) : ∀ u ∈ l.take (k + 1), u ∈ all := by
  intro v hv
  rw [List.take_add_one, hu] at hv
  rcases List.mem_append.1 hv with hv | hv
  · exact h v hv
  · simp at hv; subst hv; exact hm

set_option maxHeartbeats 1000000 in
set_option maxRecDepth 100000 in
theorem within_any (n m c d : Nat) (ao bo : Option Addr) (l all : List U) (w : World) (hn : n = l.length) (hm : m = all.length) (hl : n ≤ 140737488355328) (hl2 : m ≤ 140737488355328) (hx : SRow w ao l) (hy : SRow w bo all) :
    Calls Tryz.prog 62 #[.slice ao n c, .slice bo m d] w fun e w' => e = .returned (.bool (withinB l all)) ∧ w' = w := by
  have HN : Hid (n = l.length) := hn
  have HM : Hid (m = all.length) := hm
  have HX : Hid (SRow w ao l) := hx
  have HY : Hid (SRow w bo all) := hy
  clear hx hy hn hm
  go_enter Tryz.func62, Tryz.ntmps62
  go_wp2
  go_loopw [9] (fun i wr => ∃ k : Nat, k ≤ n ∧ i = .int .i64 (k : Int) ∧ Hid (∀ u ∈ l.take k, u ∈ all) ∧ wr = w) (fun i _ => n - (intOf i).toNat)
  case atStart => exact ⟨0, Nat.zero_le _, rfl, by intro u hu; simp at hu, rfl⟩
  case round =>
    obtain ⟨k, hk, rfl, HA, rfl⟩ := hrel
    by_cases hlt : k < n
    · obtain ⟨b, off, rfl⟩ := HX.out.form (by rw [← HN.out]; omega)
      obtain ⟨u, hu⟩ : ∃ u, l[k]? = some u := ⟨_, List.getElem?_eq_getElem (by rw [← HN.out]; exact hlt)⟩
      have c0 : wr.cell? ⟨b, off + k, none⟩ = some (.string ⟨u.toArray⟩) := HX.out.cell hu
      have HU : Hid (l[k]? = some u) := hu
      clear hu
      go_wp2_with fail
      refine (contains_any m d bo all u wr HM.out hl2 HY.out).mono ?_
      rintro e w2 ⟨rfl, rfl⟩
      by_cases hmem : u ∈ all
      · rw [decide_eq_true hmem]
        have HMM : Hid (u ∈ all) := hmem
        clear hmem
        go_wp2
        go_roundw
        case rel => exact ⟨k + 1, by omega, by go_num, withinB_step HA.out HU.out HMM.out, trivial⟩
        case measure => simp [intOf]; omega
      · rw [decide_eq_false hmem]
        have HMM : Hid (u ∉ all) := hmem
        clear hmem
        go_wp2
        go_ret
        refine ⟨?_, rfl⟩
        have : withinB l all = false := by
          unfold withinB
          rw [decide_eq_false_iff_not]
          intro h
          exact HMM.out (h u (List.mem_of_getElem? HU.out))
        rw [this]; rfl
    · have HT : Hid (withinB l all = true) := by
        show _ = _
        unfold withinB
        rw [decide_eq_true_eq]
        have := HA.out
        rw [List.take_of_length_le (by rw [← HN.out]; omega)] at this
        exact this
      go_wp2
      go_ret
      exact ⟨by rw [HT.out]; rfl, rfl⟩
end Go.Proofs.YtlhgjicichjbgaaGreatDoor
