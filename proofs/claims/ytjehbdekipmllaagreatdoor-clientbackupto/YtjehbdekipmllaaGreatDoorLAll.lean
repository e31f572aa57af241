/- The program's allFrom, isId, isSecret, saysNothing: for every text. -/
import Derived.Test.YtjehbdekipmllaaGreatDoorXBase
import Derived.Test.YtjehbdekipmllaaGreatDoorXMath
import Derived.BigQuiet
import Derived.Deep.DeepCutAuto
namespace Go.Proofs.YtjehbdekipmllaaGreatDoor
open Go.RowKit

def allB (f : Nat) (u : U) : Bool := u.all fun b => decide (f ≤ b.toNat) && decide (b.toNat ≤ 126)
theorem allB_snoc (f : Nat) (u : U) (b : UInt8) : allB f (u ++ [b]) = (allB f u && (decide (f ≤ b.toNat) && decide (b.toNat ≤ 126))) := by simp [allB]
theorem take_byte (s : ByteArray) (k : Nat) (h : k < s.size) : s.data.toList.take (k + 1) = s.data.toList.take k ++ [s[k]] := by
  rw [List.take_succ_eq_append_getElem (by simpa using h)]; rfl
theorem allB_bad {f : Nat} {u : U} {k : Nat} (h : allB f (u.take k) = false) : allB f u = false := by
  unfold allB at h ⊢
  rw [List.all_eq_false] at h ⊢
  obtain ⟨x, hx, h⟩ := h
  exact ⟨x, List.mem_of_mem_take hx, h⟩
set_option maxHeartbeats 400000 in
set_option maxRecDepth 100000 in
theorem allFrom_any (s : ByteArray) (f : Nat) (w : World) (hs : s.size ≤ 9223372036854775807) :
    Calls Tryz.prog 113 #[.string s, .int .u8 (f : Int)] w fun e w' => e = .returned (.bool (allB f s.data.toList)) ∧ w' = w := by
  go_enter Tryz.func113, Tryz.ntmps113
  go_wp2
  go_loop [8] (fun i => ∃ k : Nat, k ≤ s.size ∧ i = .int .i64 k ∧ Hid (allB f (s.data.toList.take k) = true)) (fun i => s.size - (intOf i).toNat)
  case atStart => exact ⟨0, Nat.zero_le _, rfl, rfl⟩
  case round =>
    obtain ⟨k, hk, rfl, HA⟩ := hrel
    by_cases hlt : k < s.size
    · have HS : Hid (allB f (s.data.toList.take (k + 1)) = (decide (f ≤ s[k].toNat) && decide (s[k].toNat ≤ 126))) := by
        show _ = _
        rw [take_byte s k hlt, allB_snoc, HA.out, Bool.true_and]
      by_cases h1 : s[k].toNat < f
      · have HF : Hid (allB f s.data.toList = false) := allB_bad (k := k + 1) (by rw [HS.out, decide_eq_false (by omega)]; rfl)
        have h1i : (s[k].toNat : Int) < (f : Int) := by omega
        clear HS
        go_wp2
        go_ret
        exact ⟨by rw [HF.out]; rfl, rfl⟩
      · have h1i : (f : Int) ≤ (s[k].toNat : Int) := by omega
        by_cases h2 : 126 < s[k].toNat
        · have HF : Hid (allB f s.data.toList = false) := allB_bad (k := k + 1) (by rw [HS.out, decide_eq_false (p := s[k].toNat ≤ 126) (by omega), Bool.and_false])
          have h2i : (126 : Int) < (s[k].toNat : Int) := by omega
          clear HS
          go_wp2
          go_ret
          exact ⟨by rw [HF.out]; rfl, rfl⟩
        · have HT : Hid (allB f (s.data.toList.take (k + 1)) = true) := by
            show _ = _
            rw [HS.out, decide_eq_true (by omega), decide_eq_true (by omega)]; rfl
          have h2i : (s[k].toNat : Int) ≤ 126 := by omega
          clear HS
          go_wp2
          go_round
          case rel => exact ⟨k + 1, by omega, by go_num, HT⟩
          case measure => simp [intOf]; omega
    · have HF : Hid (allB f s.data.toList = true) := by
        show _ = _
        have := HA.out
        rw [List.take_of_length_le (by simp; omega)] at this
        exact this
      go_wp2
      go_ret
      exact ⟨by rw [HF.out]; rfl, rfl⟩

def idB (s : ByteArray) : Bool := decide (1 ≤ s.size) && decide (s.size ≤ 64) && allB 33 s.data.toList
def secretB (s : ByteArray) : Bool := decide (s.size ≤ 256) && allB 32 s.data.toList
set_option maxHeartbeats 400000 in
set_option maxRecDepth 100000 in
theorem isId_any (s : ByteArray) (w : World) (hs : s.size ≤ 9223372036854775807) :
    Calls Tryz.prog 91 #[.string s] w fun e w' => e = .returned (.bool (idB s)) ∧ w' = w := by
  obtain ⟨A, HA⟩ : ∃ A, Hid (A = allB 33 s.data.toList) := ⟨_, hide rfl⟩
  have HC : ∀ w, Calls Tryz.prog 113 #[.string s, .int .u8 33] w fun e w' => e = .returned (.bool A) ∧ w' = w := by
    intro w; rw [HA.out]; exact allFrom_any s 33 w hs
  by_cases h1 : 1 ≤ s.size
  · have h1i : (1 : Int) ≤ (s.size : Int) := by omega
    by_cases h2 : s.size ≤ 64
    · have h2i : (s.size : Int) ≤ 64 := by omega
      have HR : Hid (idB s = A) := by show _ = _; unfold idB; rw [decide_eq_true h1, decide_eq_true h2, HA.out]; rfl
      go_enter Tryz.func91, Tryz.ntmps91
      go_wp2_with (refine (HC _).mono ?_; rintro e w' ⟨rfl, rfl⟩)
      go_ret
      exact ⟨by rw [HR.out]; first | rfl | simp, rfl⟩
    · have h2i : (64 : Int) < (s.size : Int) := by omega
      have HR : Hid (idB s = false) := by show _ = _; unfold idB; rw [decide_eq_false h2]; simp
      go_enter Tryz.func91, Tryz.ntmps91
      go_wp2_with (refine (HC _).mono ?_; rintro e w' ⟨rfl, rfl⟩)
      go_ret
      exact ⟨by rw [HR.out]; first | rfl | simp, rfl⟩
  · have h1i : (s.size : Int) < 1 := by omega
    have HR : Hid (idB s = false) := by show _ = _; unfold idB; rw [decide_eq_false h1]; simp
    go_enter Tryz.func91, Tryz.ntmps91
    go_wp2_with (refine (HC _).mono ?_; rintro e w' ⟨rfl, rfl⟩)
    go_ret
    exact ⟨by rw [HR.out]; first | rfl | simp, rfl⟩
set_option maxHeartbeats 400000 in
set_option maxRecDepth 100000 in
theorem isSecret_any (s : ByteArray) (w : World) (hs : s.size ≤ 9223372036854775807) :
    Calls Tryz.prog 92 #[.string s] w fun e w' => e = .returned (.bool (secretB s)) ∧ w' = w := by
  obtain ⟨A, HA⟩ : ∃ A, Hid (A = allB 32 s.data.toList) := ⟨_, hide rfl⟩
  have HC : ∀ w, Calls Tryz.prog 113 #[.string s, .int .u8 32] w fun e w' => e = .returned (.bool A) ∧ w' = w := by
    intro w; rw [HA.out]; exact allFrom_any s 32 w hs
  by_cases h2 : s.size ≤ 256
  · have h2i : (s.size : Int) ≤ 256 := by omega
    have HR : Hid (secretB s = A) := by show _ = _; unfold secretB; rw [decide_eq_true h2, HA.out]; rfl
    go_enter Tryz.func92, Tryz.ntmps92
    go_wp2_with (refine (HC _).mono ?_; rintro e w' ⟨rfl, rfl⟩)
    go_ret
    exact ⟨by rw [HR.out]; first | rfl | simp, rfl⟩
  · have h2i : (256 : Int) < (s.size : Int) := by omega
    have HR : Hid (secretB s = false) := by show _ = _; unfold secretB; rw [decide_eq_false h2]; simp
    go_enter Tryz.func92, Tryz.ntmps92
    go_wp2_with (refine (HC _).mono ?_; rintro e w' ⟨rfl, rfl⟩)
    go_ret
    exact ⟨by rw [HR.out]; first | rfl | simp, rfl⟩

def nothingB (s : ByteArray) : Bool := match s.data.toList with | [] => true | b :: _ => b.toNat == 35
set_option maxHeartbeats 400000 in
set_option maxRecDepth 100000 in
theorem saysNothing_any (s : ByteArray) (w : World) (hs : s.size ≤ 9223372036854775807) :
    Calls Tryz.prog 18 #[.string s] w fun e w' => e = .returned (.bool (nothingB s)) ∧ w' = w := by
  by_cases h0 : s.size = 0
  · have he : s = { data := #[] } := by
      cases s with | mk d => simp only [ByteArray.size, Array.size_eq_zero_iff] at h0; rw [h0]
    subst he
    clear h0
    go_enter Tryz.func18, Tryz.ntmps18
    go_wp2
    go_ret
    exact ⟨rfl, rfl⟩
  · have hlt : 0 < s.size := by omega
    have hne : (s.toList == ([] : List UInt8)) = false := by
      rw [Lib.toList_data]
      cases h : s.data.toList with
      | nil => exfalso; apply h0; have := congrArg List.length h; simpa using this
      | cons a l => rfl
    have HR : Hid (nothingB s = (s[0].toNat == 35)) := by
      show _ = _
      unfold nothingB
      have e : s.data.toList = s[0] :: s.data.toList.drop 1 := by
        have := take_byte s 0 hlt
        rw [List.take_zero, List.nil_append] at this
        conv => lhs; rw [← List.take_append_drop 1 s.data.toList, this]
        rfl
      rw [e]
    by_cases h35 : s[0].toNat = 35
    · have h35i : (s[0].toNat : Int) = 35 := by omega
      have hb : (((s[0].toNat : Int)) == 35) = true := by simpa using h35i
      go_enter Tryz.func18, Tryz.ntmps18
      go_wp2
      go_ret
      exact ⟨by rw [HR.out, h35]; rfl, rfl⟩
    · have hb : (((s[0].toNat : Int)) == 35) = false := by simp; omega
      have HB : Hid ((s[0].toNat == 35) = false) := by show _ = _; simpa using h35
      clear h35
      go_enter Tryz.func18, Tryz.ntmps18
      go_wp2
      go_ret
      exact ⟨by rw [HR.out, HB.out]; rfl, rfl⟩
end Go.Proofs.YtjehbdekipmllaaGreatDoor
