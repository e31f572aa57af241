/- The walk of the law ClientShows: every proof, with every list of clients: true, and nothing old turns. -/
import Derived.Test.YtghmabohodnbpaaGreatDoorLAuthO
import Derived.Test.YtghmabohodnbpaaGreatDoorLForm
import Derived.Test.YtghmabohodnbpaaGreatDoorLLive
import Derived.BigQuiet
namespace Go.Proofs.YtghmabohodnbpaaGreatDoor
open Go.RowKit

theorem COwn.rowS {w : World} {B n c : Nat} {ao : Option Addr} {l : List Cl} (h : COwn w B (.slice ao n c) l) : CRow w ao l := by
  obtain ⟨a, c', e, _, hr, _⟩ := h.shape
  cases e
  exact hr
theorem DOwn.rowS {w : World} {B n c : Nat} {ao : Option Addr} {l : List Cl} (h : DOwn w B (.slice ao n c) l) : CRow w ao l := by
  obtain ⟨a, c', e, _, hr, _⟩ := h.shape
  cases e
  exact hr
theorem infoAP : (Tryz.prog.info? 58).map (fun i => (i.zero, i.size, i.bytes)) = some (some (.agg #[.string { data := #[] }, .string { data := #[] }]), 2, 32) := by kernel_rfl
/-- What the two lists of an answer may be. -/
def ClBound (L : List Cl) : Prop := ∀ c ∈ L, ClSmall c ∧ (c.scopes.length + 16) * 16 ≤ 140737488355328
theorem auth_cl {L : List Cl} {t : Clm} {c : Cl} (h : (authR L t).cl = some c) : c ∈ L := by
  unfold authR at h
  split at h
  · cases h
  · unfold authF at h
    cases hF : findR L t.nm with
    | none => rw [hF] at h; cases h
    | some q =>
      rw [hF] at h
      dsimp only at h
      have hq : q ∈ L := by
        unfold findR at hF
        cases hp : posOf L t.nm with
        | none => rw [hp] at hF; cases hF
        | some i =>
          rw [hp] at hF
          exact List.mem_of_getElem? hF
      split at h
      · injection h with h; rw [← h]; exact hq
      · cases h
end Go.Proofs.YtghmabohodnbpaaGreatDoor
