/- The document's Utf and escape. -/
import Derived.Test.YtlebockgdonceaaGreatDoorRPa
namespace Go.Proofs.YtlebockgdonceaaGreatDoor
open Go.RowKit

theorem wrap64_nat (n : Nat) (h : n < 1114112) : wrap64 (n : Int) = (n : Int) := by unfold wrap64; omega
def UtfAns (c : Nat) (w : World) (e : Ending) (w' : World) : Prop := ∃ k, e = .returned (.slice (some ⟨w.heap.size, 0, none⟩) k k) ∧ k = (utf c).length ∧ Row w' (some ⟨w.heap.size, 0, none⟩) (utf c) ∧ Below w.heap.size w w'
theorem utf_made (c k : Nat) (w : World) (xs : List Nat) (h : utf c = xs) (hk : k = xs.length) : UtfAns c w (.returned (.slice (some ⟨w.heap.size, 0, none⟩) k k)) (w.alloc (.cells (xs.map bv).toArray 5)) :=
  ⟨k, rfl, by rw [h]; exact hk, by rw [h]; exact row_n w xs, below_new w _⟩
set_option maxHeartbeats 1000000 in
set_option maxRecDepth 100000 in
theorem rutf_any (c : Nat) (w : World) (hc : c < 1114112) : Calls Tryz.prog 50 #[.int .i64 (c : Int)] w fun e w' => UtfAns c w e w' := by
  have m64 : Int.tmod (c : Int) 64 = ((c % 64 : Nat) : Int) := by rw [show (64 : Int) = ((64 : Nat) : Int) from rfl, ← Int.ofNat_tmod]
  by_cases h1 : c < 128
  · have HU := hide (utf_made c 1 w [c] (by unfold utf; rw [if_pos h1]) rfl)
    have h1' : (c : Int) < 128 := by omega
    have hw : IntKind.u8.wrap (c : Int) = (c : Int) := by rw [IntKind.wrap_u8]; omega
    clear m64 h1
    go_enter Tryz.func50, Tryz.ntmps50
    go_wp2
    go_ret
    exact HU.out
  have h1' : ¬ (c : Int) < 128 := by omega
  by_cases h2 : c < 2048
  · obtain ⟨a, ha⟩ : ∃ a, a = 192 + c / 64 := ⟨_, rfl⟩
    obtain ⟨b, hb⟩ : ∃ b, b = 128 + c % 64 := ⟨_, rfl⟩
    have HU := hide (utf_made c 2 w [a, b] (by unfold utf; rw [if_neg h1, if_pos h2, ha, hb]) rfl)
    have h2' : (c : Int) < 2048 := by omega
    have e1 : (192 : Int) + (c : Int) / 64 = (a : Int) := by omega
    have e2 : (128 : Int) + ((c % 64 : Nat) : Int) = (b : Int) := by omega
    have f1 : IntKind.i64.wrap (a : Int) = (a : Int) := by rw [IntKind.wrap_i64]; omega
    have f2 : IntKind.i64.wrap (b : Int) = (b : Int) := by rw [IntKind.wrap_i64]; omega
    have g1 : IntKind.u8.wrap (a : Int) = (a : Int) := by rw [IntKind.wrap_u8]; omega
    have g2 : IntKind.u8.wrap (b : Int) = (b : Int) := by rw [IntKind.wrap_u8]; omega
    clear h1 h2 ha hb
    generalize c % 64 = x2 at *
    go_enter Tryz.func50, Tryz.ntmps50
    go_wp2
    go_ret
    exact HU.out
  have h2' : ¬ (c : Int) < 2048 := by omega
  by_cases h3 : c < 65536
  · obtain ⟨a, ha⟩ : ∃ a, a = 224 + c / 4096 := ⟨_, rfl⟩
    obtain ⟨b, hb⟩ : ∃ b, b = 128 + c / 64 % 64 := ⟨_, rfl⟩
    obtain ⟨d, hd⟩ : ∃ b, b = 128 + c % 64 := ⟨_, rfl⟩
    have HU := hide (utf_made c 3 w [a, b, d] (by unfold utf; rw [if_neg h1, if_neg h2, if_pos h3, ha, hb, hd]) rfl)
    have h3' : (c : Int) < 65536 := by omega
    have e1 : (224 : Int) + (c : Int) / 4096 = (a : Int) := by omega
    have e2 : (128 : Int) + (c : Int) / 64 % 64 = (b : Int) := by omega
    have e3 : (128 : Int) + ((c % 64 : Nat) : Int) = (d : Int) := by omega
    have f1 : IntKind.i64.wrap (a : Int) = (a : Int) := by rw [IntKind.wrap_i64]; omega
    have f2 : IntKind.i64.wrap (b : Int) = (b : Int) := by rw [IntKind.wrap_i64]; omega
    have f3 : IntKind.i64.wrap (d : Int) = (d : Int) := by rw [IntKind.wrap_i64]; omega
    have g1 : IntKind.u8.wrap (a : Int) = (a : Int) := by rw [IntKind.wrap_u8]; omega
    have g2 : IntKind.u8.wrap (b : Int) = (b : Int) := by rw [IntKind.wrap_u8]; omega
    have g3 : IntKind.u8.wrap (d : Int) = (d : Int) := by rw [IntKind.wrap_u8]; omega
    clear h1 h2 h3 ha hb hd
    generalize c % 64 = x2 at *
    go_enter Tryz.func50, Tryz.ntmps50
    go_wp2
    go_ret
    exact HU.out
  · have h3' : ¬ (c : Int) < 65536 := by omega
    obtain ⟨a, ha⟩ : ∃ a, a = 240 + c / 262144 := ⟨_, rfl⟩
    obtain ⟨b, hb⟩ : ∃ b, b = 128 + c / 4096 % 64 := ⟨_, rfl⟩
    obtain ⟨d, hd⟩ : ∃ b, b = 128 + c / 64 % 64 := ⟨_, rfl⟩
    obtain ⟨f, hf⟩ : ∃ b, b = 128 + c % 64 := ⟨_, rfl⟩
    have HU := hide (utf_made c 4 w [a, b, d, f] (by unfold utf; rw [if_neg h1, if_neg h2, if_neg h3, ha, hb, hd, hf]) rfl)
    have e1 : (240 : Int) + (c : Int) / 262144 = (a : Int) := by omega
    have e2 : (128 : Int) + (c : Int) / 4096 % 64 = (b : Int) := by omega
    have e3 : (128 : Int) + (c : Int) / 64 % 64 = (d : Int) := by omega
    have e4 : (128 : Int) + ((c % 64 : Nat) : Int) = (f : Int) := by omega
    have f1 : IntKind.i64.wrap (a : Int) = (a : Int) := by rw [IntKind.wrap_i64]; omega
    have f2 : IntKind.i64.wrap (b : Int) = (b : Int) := by rw [IntKind.wrap_i64]; omega
    have f3 : IntKind.i64.wrap (d : Int) = (d : Int) := by rw [IntKind.wrap_i64]; omega
    have f4 : IntKind.i64.wrap (f : Int) = (f : Int) := by rw [IntKind.wrap_i64]; omega
    have g1 : IntKind.u8.wrap (a : Int) = (a : Int) := by rw [IntKind.wrap_u8]; omega
    have g2 : IntKind.u8.wrap (b : Int) = (b : Int) := by rw [IntKind.wrap_u8]; omega
    have g3 : IntKind.u8.wrap (d : Int) = (d : Int) := by rw [IntKind.wrap_u8]; omega
    have g4 : IntKind.u8.wrap (f : Int) = (f : Int) := by rw [IntKind.wrap_u8]; omega
    have hc' : (c : Int) < 1114112 := by omega
    clear h1 h2 h3 ha hb hd hf hc
    generalize c % 64 = x2 at *
    go_enter Tryz.func50, Tryz.ntmps50
    go_wp2
    go_ret
    exact HU.out
end Go.Proofs.YtlebockgdonceaaGreatDoor
