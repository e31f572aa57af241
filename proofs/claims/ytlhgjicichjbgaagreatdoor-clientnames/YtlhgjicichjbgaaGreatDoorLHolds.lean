/- The program's holds: does a claim show that its maker is that client? -/
import Derived.Test.YtlhgjicichjbgaaGreatDoorLSame
import Derived.Test.YtlhgjicichjbgaaGreatDoorGCheck
import Derived.Lib.ConvBytes
namespace Go.Proofs.YtlhgjicichjbgaaGreatDoor
open Go.RowKit

def holdsB (how : Int) (secret kept : ByteArray) : Bool := if how = 1 ∨ how = 2 then (decide (0 < kept.size) && decide (secret = kept)) else if how = 0 then decide (secret = kept) else false
theorem conv_bytes (w : World) (s : ByteArray) : ∃ c w', (convert 9 81 (.string s)).run Tryz.prog w = .ok (.slice (some ⟨w.heap.size, 0, none⟩) s.size c) w' ∧ Hid (Row w' (some ⟨w.heap.size, 0, none⟩) (sbytes s) ∧ Below w.heap.size w w' ∧ w'.heap.size = w.heap.size + 1) := by
  refine ⟨_, _, Lib.run_convert_string_bytes w _ _ 5 s Tryz.underlying9 Tryz.underlying81 Tryz.underlying5, ?_, ?_, ?_⟩
  · refine .inr ⟨w.heap.size, 0, rfl, fun i hi => ?_⟩
    rw [sbytes_length] at hi
    rw [Nat.zero_add, cell_of_row _ _ _ _ _ _ (Lib.bytesWorld_at_new w _ s)]
    unfold Lib.bytesCells
    have hi' : i < s.data.size := hi
    rw [Array.getElem?_append_left (by rw [Array.size_map]; exact hi'), Array.getElem?_map, Array.getElem?_eq_getElem hi']
    simp only [sbytes, List.getD, List.getElem?_map, Array.getElem?_toList, Array.getElem?_eq_getElem hi', Option.map_some, Option.getD_some]
  · refine ⟨rfl, rfl, rfl, ?_, fun j hj => Lib.bytesWorld_at_old w _ s j hj⟩
    simp [Lib.bytesWorld, World.freeze, World.alloc, World.drew, -World.alloc_eq, -World.drew_eq]
  · simp [Lib.bytesWorld, World.freeze, World.alloc, World.drew, -World.alloc_eq, -World.drew_eq]
theorem sbytes_inj (a b : ByteArray) : decide (sbytes a = sbytes b) = decide (a = b) := by
  rw [decide_eq_decide]
  constructor
  · intro h
    have := congrArg bstr h
    rw [bstr_sbytes, bstr_sbytes] at this
    exact this
  · intro h; rw [h]
set_option maxHeartbeats 400000 in
set_option maxRecDepth 100000 in
theorem holds_any (how : Int) (nm sec id secret url : ByteArray) (gr : Int) (pg : Bool) (so : Option Addr) (n cp : Nat) (w : World) (hh : how = 0 ∨ how = 1 ∨ how = 2) (hs : sec.size ≤ 140737488355328) :
    Calls Tryz.prog 59 #[.agg #[.int .i64 how, .string nm, .string sec], .agg #[.string id, .string secret, .int .i64 gr, .bool pg, .string url, .slice so n cp]] w fun e w' => e = .returned (.bool (holdsB how sec secret)) ∧ Below w.heap.size w w' := by
  obtain ⟨k1, w1, hcv1, H1⟩ := conv_bytes ((w.alloc (.cells #[.int .i64 how, .string nm, .string sec] 100)).alloc (.cells #[.string id, .string secret, .int .i64 gr, .bool pg, .string url, .slice so n cp] 27)) sec
  obtain ⟨k2, w2, hcv2, H2⟩ := conv_bytes w1 secret
  have HB0 : Hid (Below w.heap.size w ((w.alloc (.cells #[.int .i64 how, .string nm, .string sec] 100)).alloc (.cells #[.string id, .string secret, .int .i64 gr, .bool pg, .string url, .slice so n cp] 27))) := (below_new w _).trans ((below_new _ _).mono (by simp))
  have c1 : w1.cell? ⟨w.heap.size + 1, 1, none⟩ = some (.string secret) := cell_kept (by simp) H1.out.2.1
  have hsz0 : ((w.alloc (.cells #[.int .i64 how, .string nm, .string sec] 100)).alloc (.cells #[.string id, .string secret, .int .i64 gr, .bool pg, .string url, .slice so n cp] 27)).heap.size = w.heap.size + 2 := by simp
  have HB2 : Hid (Below w.heap.size w w2) := (HB0.out.trans (H1.out.2.1.mono (by omega))).trans (H2.out.2.1.mono (by have := H1.out.2.2; omega))
  have HDS := dsame_any sec.size secret.size k1 k2 _ _ (sbytes sec) (sbytes secret) w2 (by rw [sbytes_length]) (by rw [sbytes_length]) hs (H1.out.1.keep H2.out.2.1) H2.out.1 (sbytes_lt sec) (sbytes_lt secret)
  rw [sbytes_inj] at HDS
  rw [hsz0] at hcv1 HDS
  obtain ⟨D, HD⟩ : ∃ D, Hid (D = decide (sec = secret)) := ⟨_, hide rfl⟩
  rw [← HD.out] at HDS
  clear hsz0
  rcases hh with rfl | rfl | rfl
  · have HR : Hid (holdsB 0 sec secret = D) := by show _ = _; unfold holdsB; rw [if_neg (by decide), if_pos rfl, HD.out]
    go_enter Tryz.func59, Tryz.ntmps59
    go_wp2_with (first | (go_at_call 107; refine HDS.mono ?_; rintro e wx ⟨rfl, q, rfl⟩))
    go_ret
    exact ⟨by rw [HR.out]; rfl, below_drewN HB2.out _⟩
  · by_cases h0 : secret.size = 0
    · have HR : Hid (holdsB 1 sec secret = false) := by show _ = _; unfold holdsB; rw [if_pos (by decide), decide_eq_false (p := 0 < secret.size) (by omega)]; rfl
      have hse := empty_of h0
      have hem : (secret.toList == ([] : List UInt8)) = true := by rw [hse, Lib.toList_data]; rfl
      clear h0 hse
      go_enter Tryz.func59, Tryz.ntmps59
      go_wp2
      go_ret
      exact ⟨by rw [HR.out]; rfl, HB0.out⟩
    · have HR : Hid (holdsB 1 sec secret = D) := by show _ = _; unfold holdsB; rw [if_pos (by decide), decide_eq_true (p := 0 < secret.size) (by omega), HD.out]; rfl
      have hne := ne_of_size h0
      go_enter Tryz.func59, Tryz.ntmps59
      go_wp2_with (first | (go_at_call 107; refine HDS.mono ?_; rintro e wx ⟨rfl, q, rfl⟩))
      go_ret
      exact ⟨by rw [HR.out]; rfl, below_drewN HB2.out _⟩
  · by_cases h0 : secret.size = 0
    · have HR : Hid (holdsB 2 sec secret = false) := by show _ = _; unfold holdsB; rw [if_pos (by decide), decide_eq_false (p := 0 < secret.size) (by omega)]; rfl
      have hse := empty_of h0
      have hem : (secret.toList == ([] : List UInt8)) = true := by rw [hse, Lib.toList_data]; rfl
      clear h0 hse
      go_enter Tryz.func59, Tryz.ntmps59
      go_wp2
      go_ret
      exact ⟨by rw [HR.out]; rfl, HB0.out⟩
    · have HR : Hid (holdsB 2 sec secret = D) := by show _ = _; unfold holdsB; rw [if_pos (by decide), decide_eq_true (p := 0 < secret.size) (by omega), HD.out]; rfl
      have hne := ne_of_size h0
      go_enter Tryz.func59, Tryz.ntmps59
      go_wp2_with (first | (go_at_call 107; refine HDS.mono ?_; rintro e wx ⟨rfl, q, rfl⟩))
      go_ret
      exact ⟨by rw [HR.out]; rfl, below_drewN HB2.out _⟩
end Go.Proofs.YtlhgjicichjbgaaGreatDoor
