/- The contract of joined: parts of bytes one behind the other. -/
import Derived.Test.YtonnnolnkjahgabDoorCFeed
namespace Go.Proofs.YtonnnolnkjahgabDoor
open Go.RowKit

/-- A part: where its bytes lie, its capacity, its bytes. -/
structure Pt where
  ao : Option Addr
  cap : Nat
  xs : List Nat
def flat (ps : List Pt) : List Nat := ps.flatMap Pt.xs
/-- Parts in memory, from a place on. -/
def PSee (w : World) (b off : Nat) (ps : List Pt) : Prop := ∀ i p, ps[i]? = some p → w.cell? ⟨b, off + i, none⟩ = some (.slice p.ao p.xs.length p.cap) ∧ Row w p.ao p.xs
theorem PSee.keep {w w' : World} {b off : Nat} {ps : List Pt} (h : PSee w b off ps) (hb : Below w.heap.size w w') : PSee w' b off ps := fun i p hp => ⟨cell_kept (h i p hp).1 hb, (h i p hp).2.keep hb⟩
theorem flat_snoc {ps : List Pt} {k : Nat} {p : Pt} (h : ps[k]? = some p) : flat (ps.take (k + 1)) = flat (ps.take k) ++ p.xs := by
  obtain ⟨hk, e⟩ := List.getElem?_eq_some_iff.1 h
  unfold flat
  rw [List.take_succ_eq_append_getElem hk, e]
  simp
theorem flat_take (ps : List Pt) (k : Nat) : (flat (ps.take k)).length ≤ (flat ps).length := by
  conv => rhs; rw [← List.take_append_drop k ps]
  unfold flat
  rw [List.flatMap_append, List.length_append]
  omega
set_option maxHeartbeats 1000000 in
set_option maxRecDepth 100000 in
theorem joined_any (b off n c : Nat) (ps : List Pt) (w : World) (hp : PSee w b off ps) (hn : n = ps.length) (hn2 : n ≤ 4096) (hl : (flat ps).length ≤ 140737488355328) :
    Calls Tryd.prog 29 #[.slice (some ⟨b, off, none⟩) n c] w fun e w' => ∃ v, e = .returned v ∧ Own w' w.heap.size v (flat ps) ∧ Below w.heap.size w w' := by
  have HP := hide hp
  have HN := hide hn
  have HTK : Hid (ps.take n = ps) := hide (by rw [hn, List.take_length])
  have HL := hide hl
  have HN2 := hide hn2
  clear hp hn hl hn2
  go_enter Tryd.func29, Tryd.ntmps29
  go_wp2_with fail
  go_loopw [3, 8] (fun v a wr => ∃ k : Nat, k ≤ n ∧ a = .int .i64 k ∧ Hid (Own wr w.heap.size v (flat (ps.take k))) ∧ Hid (Below w.heap.size w wr)) (fun _ a _ => n - (intOf a).toNat)
  case atStart => exact ⟨0, Nat.zero_le _, rfl, own_nil _ _, hide (Below.refl _ _)⟩
  case round =>
    obtain ⟨k, hk, rfl, HOW, HB⟩ := hrel
    have hs := HB.out.size
    by_cases hlt : k < n
    · have hlt' : (k : Int) < (n : Int) := by omega
      obtain ⟨p, hpk⟩ : ∃ p, ps[k]? = some p := ⟨_, List.getElem?_eq_getElem (by rw [← HN.out]; exact hlt)⟩
      obtain ⟨cp, rp⟩ := HP.out.keep HB.out k p hpk
      have HFS := hide (flat_snoc hpk)
      have HLE : Hid ((flat (ps.take k)).length + p.xs.length ≤ 140737488355328) := hide (by
        have h1 := flat_take ps (k + 1)
        rw [HFS.out, List.length_append] at h1
        have := HL.out
        omega)
      have HR := hide rp
      have hwri : IntKind.i64.wrap ((k : Int) + 1) = ((k + 1 : Nat) : Int) := by have := HN2.out; rw [IntKind.wrap_i64]; omega
      have HLT := hide hlt
      obtain ⟨pao, pcap, pxs⟩ := p
      simp only at cp HFS HLE HR
      obtain ⟨pl, hpl⟩ : ∃ pl, pl = pxs.length := ⟨_, rfl⟩
      rw [← hpl] at cp
      have HPL := hide hpl
      clear hk hlt hpk rp hpl
      generalize flat (ps.take k) = ft at *
      go_wp2_with (first
        | (at_builtin; refine wpList_append_bytes rfl _ _ rfl w.heap.size _ ft rfl HOW.out pao pl pcap pxs HPL.out rfl HR.out HLE.out (by omega) ?_))
      rintro v1 w2 hown1 hgr1
      have HB2 : Hid (Below w.heap.size w w2) := HB.out.grown hgr1 (by omega) HOW.out.ge
      have HO2 : Hid (Own w2 w.heap.size v1 (ft ++ pxs)) := hown1
      clear hown1 hgr1
      go_wp2
      go_roundw
      case rel => exact ⟨k + 1, HLT.out, by first | rfl | simp, by rw [HFS.out]; exact HO2, HB2⟩
      case measure => have := HLT.out; simp [intOf]; omega
    · have hlt' : ¬ (k : Int) < (n : Int) := by omega
      obtain rfl : k = n := by omega
      rw [HTK.out] at HOW
      clear hk hlt
      go_wp2_with fail
      go_ret
      exact ⟨_, rfl, HOW.out, HB.out⟩
end Go.Proofs.YtonnnolnkjahgabDoor
