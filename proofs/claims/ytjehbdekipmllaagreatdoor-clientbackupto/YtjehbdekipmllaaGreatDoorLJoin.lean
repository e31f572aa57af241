/- The document's Joined and Scope: every list of scopes, whatever is asked. -/
import Derived.Test.YtjehbdekipmllaaGreatDoorLLive
import Derived.Test.YtjehbdekipmllaaGreatDoorXSco
namespace Go.Proofs.YtjehbdekipmllaaGreatDoor
open Go.RowKit

theorem joinS_snoc (l : List U) (u : U) : joinS (l ++ [u]) = if l = [] then u else joinS l ++ [32] ++ u := by
  unfold joinS
  cases l with
  | nil => simp [Lib.join_one]
  | cons x r =>
    rw [if_neg (by simp), List.cons_append, Lib.join_cons, Lib.join_cons]
    simp [Lib.joinTail]
theorem joinS_take (l : List U) (k : Nat) : (joinS (l.take k)).length ≤ (joinS l).length := by
  unfold joinS
  cases l with
  | nil => simp
  | cons x r =>
    cases k with
    | zero => simp [Lib.join_nil]
    | succ k =>
      rw [List.take_succ_cons, Lib.join_cons, Lib.join_cons, List.length_append, List.length_append]
      have := Lib.joinTail_take_le [32] r k
      omega
theorem add_str (a b c : ByteArray) (h : a.data.toList ++ b.data.toList = c.data.toList) (hs : a.size + b.size ≤ 4611686018427387904) (w : World) : (Op.stringOp .add a b).run Tryz.prog w = .ok (.string c) w := by
  have e : a ++ b = c := by
    apply ByteArray.ext
    apply Array.toList_inj.1
    rw [← h]
    simp
  simp [Op.stringOp, e]
  omega
set_option maxHeartbeats 1000000 in
set_option maxRecDepth 100000 in
theorem joined_any (n cp : Nat) (so : Option Addr) (l : List U) (w : World) (hn : n = l.length) (hl : n ≤ 140737488355328) (hj : (joinS l).length ≤ 140737488355328) (hr : SRow w so l) :
    Calls Tryz.prog 65 #[.slice so n cp] w fun e w' => e = .returned (.string ⟨(joinS l).toArray⟩) ∧ w' = w := by
  have HN : Hid (n = l.length) := hn
  have HR : Hid (SRow w so l) := hr
  obtain ⟨J, HJ⟩ : ∃ J : ByteArray, Hid (J = ⟨(joinS l).toArray⟩) := ⟨_, hide rfl⟩
  rw [← HJ.out]
  clear hn hr
  go_enter Tryz.func65, Tryz.ntmps65
  go_wp2
  go_loop [3, 4] (fun s i => ∃ (k : Nat) (b : ByteArray), k ≤ n ∧ s = .string b ∧ i = .int .i64 (k : Int) ∧ Hid (b = ⟨(joinS (l.take k)).toArray⟩)) (fun _ i => n - (intOf i).toNat)
  case atStart => exact ⟨0, { data := #[] }, Nat.zero_le _, rfl, rfl, rfl⟩
  case round =>
    obtain ⟨k, b, hk, rfl, rfl, HB⟩ := hrel
    by_cases hlt : k < n
    · obtain ⟨g, off, rfl⟩ := HR.out.form (by rw [← HN.out]; omega)
      obtain ⟨u, hu⟩ : ∃ u, l[k]? = some u := ⟨_, List.getElem?_eq_getElem (by rw [← HN.out]; exact hlt)⟩
      obtain ⟨ub, HU⟩ : ∃ ub : ByteArray, Hid (ub = ⟨u.toArray⟩) := ⟨_, hide rfl⟩
      have c0 : w.cell? ⟨g, off + k, none⟩ = some (.string ub) := by rw [HU.out]; exact HR.out.cell hu
      obtain ⟨c, HC⟩ : ∃ c : ByteArray, Hid (c = ⟨(joinS (l.take (k + 1))).toArray⟩) := ⟨_, hide rfl⟩
      have htk : l.take (k + 1) = l.take k ++ [u] := by rw [List.take_add_one, hu]; rfl
      have HJS : Hid (joinS (l.take (k + 1)) = if l.take k = [] then u else joinS (l.take k) ++ [32] ++ u) := by show _ = _; rw [htk, joinS_snoc]
      have hle := joinS_take l (k + 1)
      clear hu htk
      by_cases h0 : k = 0
      · subst h0
        have hb0 : b = { data := #[] } := by rw [HB.out]; rfl
        subst hb0
        have HCU : Hid (c = ub) := by show _ = _; rw [HC.out, HJS.out, HU.out]; rfl
        have hadd : ∀ w, (Op.stringOp .add { data := #[] } ub).run Tryz.prog w = .ok (.string c) w := fun w => add_str _ _ _ (by rw [HCU.out]; rfl) (by have := hle; rw [HJS.out] at this; rw [HU.out, u_size u]; simp [ByteArray.size] at this ⊢; omega) w
        have c0' : w.cell? ⟨g, off, none⟩ = some (.string ub) := c0
        clear HB
        go_wp2
        go_round
        case rel => exact ⟨1, c, by omega, rfl, by go_num, HC⟩
        case measure => simp [intOf]; omega
      · have hk0 : (0 : Int) < (k : Int) := by omega
        have hne : l.take k ≠ [] := by intro h; have := congrArg List.length h; rw [List.length_take, ← HN.out] at this; simp at this; omega
        have HJ2 : Hid (joinS (l.take (k + 1)) = joinS (l.take k) ++ [32] ++ u) := by show _ = _; rw [HJS.out, if_neg hne]
        obtain ⟨m, HMM⟩ : ∃ m : ByteArray, Hid (m = ⟨(joinS (l.take k) ++ [32]).toArray⟩) := ⟨_, hide rfl⟩
        have hlen : (joinS (l.take k)).length + 1 + u.length ≤ 140737488355328 := by rw [HJ2.out] at hle; simp at hle; omega
        have hadd1 : ∀ w, (Op.stringOp .add b { data := #[32] }).run Tryz.prog w = .ok (.string m) w := fun w => add_str _ _ _ (by rw [HB.out, HMM.out]) (by rw [HB.out, u_size (joinS (l.take k))]; simp [ByteArray.size]; omega) w
        have hadd2 : ∀ w, (Op.stringOp .add m ub).run Tryz.prog w = .ok (.string c) w := fun w => add_str _ _ _ (by rw [HMM.out, HU.out, HC.out, HJ2.out]) (by rw [HMM.out, HU.out, u_size (joinS (l.take k) ++ [32]), u_size u]; simp; omega) w
        clear HB HJS hne
        go_wp2
        go_round
        case rel => exact ⟨k + 1, c, by omega, rfl, by go_num, HC⟩
        case measure => simp [intOf]; omega
    · have HE : Hid (J = b) := by
        show _ = _
        have := HB.out
        rw [List.take_of_length_le (by rw [← HN.out]; omega)] at this
        rw [HJ.out, this]
      go_wp2
      go_ret
      exact ⟨by rw [HE.out]; rfl, rfl⟩
end Go.Proofs.YtjehbdekipmllaaGreatDoor
