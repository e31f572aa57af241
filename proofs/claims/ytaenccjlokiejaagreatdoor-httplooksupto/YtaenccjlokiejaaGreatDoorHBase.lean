/- What the walks over messages share: texts and their bytes; a question about bytes as a value. -/
import Derived.Test.YtaenccjlokiejaaGreatDoorHMath
import Derived.Shelf.Abstract
namespace Go.Proofs.YtaenccjlokiejaaGreatDoor
open Go.RowKit Go.Shelf

theorem str_at (l : U) (k : Nat) (hk : k < l.length) (w : World) : (Instr.index 9 (.string (str l)) (.int .i64 (k : Int))).run Tryz.prog w = .ok (.int .u8 ((l.getD k 0).toNat : Int)) w := by
  have h := str_index (str l) k (by rw [str_size]; exact hk) w
  have e : (sbytes (str l)).getD k 0 = (l.getD k 0).toNat := by simp [sbytes, List.getD, hk]
  rw [e] at h
  exact h
theorem str_extract (l : U) (a b : Nat) : (str l).extract a b = str ((l.take b).drop a) := by
  have e : ((str l).extract a b).data.toList = (l.take b).drop a := by simp [str, ByteArray.data_extract, List.extract_eq_take_drop, List.drop_take]
  have : ((str l).extract a b).data = (str ((l.take b).drop a)).data := Array.toList_inj.1 (e.trans (list_str _).symm)
  exact ByteArray.ext this
theorem cut_from (l : U) (k : Nat) (i : Int) (hi : i = (k : Int)) (hk : k ≤ l.length) (w : World) : (Instr.slice 9 (.string (str l)) (some (.int .i64 i)) none none).run Tryz.prog w = .ok (.string (str (l.drop k))) w := by
  subst hi
  have hz := str_size l
  rw [run_slice_string_l w 9 (str l) Tryz.underlying9 .i64 (k : Int) (by omega) (by omega), str_extract, Int.toNat_natCast, List.take_of_length_le (by omega)]
theorem cut_to (l : U) (k : Nat) (i : Int) (hi : i = (k : Int)) (hk : k ≤ l.length) (w : World) : (Instr.slice 9 (.string (str l)) none (some (.int .i64 i)) none).run Tryz.prog w = .ok (.string (str (l.take k))) w := by
  subst hi
  have hz := str_size l
  rw [run_slice_string_h w 9 (str l) Tryz.underlying9 .i64 (k : Int) (by omega) (by omega), str_extract, Int.toNat_natCast, List.drop_zero]
theorem cut_mid (l : U) (a b : Nat) (i j : Int) (hi : i = (a : Int)) (hj : j = (b : Int)) (hab : a ≤ b) (hb : b ≤ l.length) (w : World) : (Instr.slice 9 (.string (str l)) (some (.int .i64 i)) (some (.int .i64 j)) none).run Tryz.prog w = .ok (.string (str ((l.take b).drop a))) w := by
  subst hi; subst hj
  have hz := str_size l
  rw [run_slice_string w 9 (str l) .i64 .i64 (a : Int) (b : Int) Tryz.underlying9 (by omega) (by omega) (by omega), str_extract, Int.toNat_natCast, Int.toNat_natCast]

/-- A value that answers of every byte whether it may be, and leaves the world as it is. -/
def May (w : World) (v : Value) (p : UInt8 → Bool) : Prop := ∃ F cap, v = .func (.func F) #[] cap ∧ (∀ args W, (callFunc F args).run Tryz.prog W = .ok (.enter F args) W) ∧
  ∀ W, Below w.heap.size w W → ∀ c : UInt8, Calls Tryz.prog F (#[.int .u8 (c.toNat : Int)] ++ cap) W fun e W' => e = .returned (.bool (p c)) ∧ W' = W
theorem May.keep {w w' : World} {v : Value} {p : UInt8 → Bool} (h : May w v p) (hb : Below w.heap.size w w') : May w' v p := by
  obtain ⟨F, cap, e, he, hc⟩ := h
  exact ⟨F, cap, e, he, fun W hW c => hc W (hb.trans (hW.mono hb.size)) c⟩
set_option maxHeartbeats 1000000 in
set_option maxRecDepth 100000 in
theorem run_any (l : U) (v : Value) (p : UInt8 → Bool) (w : World) (hl : l.length ≤ 9223372036854775807) (hm : May w v p) :
    Calls Tryz.prog 71 #[.string (str l), v] w fun e w' => e = .returned (.int .i64 ((l.takeWhile p).length : Int)) ∧ w' = w := by
  obtain ⟨F, cap, rfl, he, hc⟩ := hm
  have HC := hide (fun c => hc w (Below.refl _ _) c)
  have HIX := hide (str_at l)
  have hz := str_size l
  obtain ⟨n, hn⟩ : ∃ n, n = l.length := ⟨_, rfl⟩
  rw [← hn] at hz hl
  have HN := hide hn
  generalize str l = s at *
  obtain ⟨r, hr⟩ : ∃ r, r = (l.takeWhile p).length := ⟨_, rfl⟩
  rw [← hr]
  have HR := hide hr
  clear hc hn hr
  go_enter Tryz.func71, Tryz.ntmps71
  go_wp2
  go_loop [5] (fun i => ∃ k : Nat, k ≤ n ∧ i = .int .i64 k ∧ Hid (∀ j, j < k → p (l.getD j 0) = true)) (fun i => n - (intOf i).toNat)
  case atStart => exact ⟨0, Nat.zero_le _, rfl, fun j hj => by omega⟩
  case round =>
    obtain ⟨k, hk, rfl, HK⟩ := hrel
    by_cases hlt : k < n
    · have hix := HIX.out k (by rw [← HN.out]; exact hlt)
      have HCC := hide (HC.out (l.getD k 0))
      by_cases hp : p (l.getD k 0) = true
      · have HK2 : Hid (∀ j, j < k + 1 → p (l.getD j 0) = true) := fun j hj => by
          by_cases h : j < k
          · exact HK.out j h
          · rw [show j = k by omega]; exact hp
        rw [hp] at HCC
        generalize l.getD k 0 = c at *
        clear HK hp
        go_wp2_with fail
        refine HCC.out.mono ?_
        rintro e w2 ⟨rfl, h2⟩
        have h3 := h2.symm
        subst h3
        clear h2 HCC
        go_wp2
        go_round
        case rel => exact ⟨k + 1, by omega, by go_num, HK2⟩
        case measure => simp [intOf]; omega
      · have hp : p (l.getD k 0) = false := by simpa using hp
        have HE : Hid (r = k) := by
          show _ = _
          rw [HR.out]
          exact run_at p l k (by rw [← HN.out]; exact hk) HK.out (.inr hp)
        rw [hp] at HCC
        generalize l.getD k 0 = c at *
        clear HK hp
        go_wp2_with fail
        refine HCC.out.mono ?_
        rintro e w2 ⟨rfl, h2⟩
        have h3 := h2.symm
        subst h3
        clear h2 HCC
        go_wp2
        go_ret
        exact ⟨by rw [HE.out]; rfl, rfl⟩
    · have HE : Hid (r = k) := by
        show _ = _
        rw [HR.out]
        exact run_at p l k (by rw [← HN.out]; exact hk) HK.out (.inl (by rw [← HN.out]; omega))
      clear HK
      go_wp2
      go_ret
      exact ⟨by rw [HE.out]; rfl, rfl⟩
set_option maxHeartbeats 1000000 in
set_option maxRecDepth 100000 in
theorem only_any (l : U) (v : Value) (p : UInt8 → Bool) (w : World) (hl : l.length ≤ 9223372036854775807) (hm : May w v p) :
    Calls Tryz.prog 73 #[.string (str l), v] w fun e w' => e = .returned (.bool (l.all p)) ∧ w' = w := by
  have HC := hide (run_any l v p w hl hm)
  have hz := str_size l
  have HR : Hid (decide ((l.takeWhile p).length = l.length) = l.all p) := by
    show _ = _
    rw [Bool.eq_iff_iff, decide_eq_true_eq]
    exact run_all p l
  obtain ⟨n, hn⟩ : ∃ n, n = l.length := ⟨_, rfl⟩
  rw [← hn] at hz hl HR
  generalize l.all p = b at *
  generalize (l.takeWhile p).length = r at *
  generalize str l = s at *
  have hb : ((r : Int) == (n : Int)) = b := by
    rw [← HR.out, Bool.eq_iff_iff, beq_iff_eq, decide_eq_true_eq]
    omega
  clear HR hm hn
  go_enter Tryz.func73, Tryz.ntmps73
  go_wp2_with fail
  refine HC.out.mono ?_
  rintro e w2 ⟨rfl, h2⟩
  have h3 := h2.symm
  subst h3
  clear h2 HC
  go_wp2
  go_ret
  exact ⟨rfl, rfl⟩
/-- The question whether a byte lies from one to another. -/
def spanP (a b : UInt8) (c : UInt8) : Bool := decide (a.toNat ≤ c.toNat) && decide (c.toNat ≤ b.toNat)
set_option maxHeartbeats 1000000 in
set_option maxRecDepth 100000 in
theorem spanned_any (a b c : UInt8) (p q : Nat) (w : World) (hp : w.cell? ⟨p, 0, none⟩ = some (.int .u8 (a.toNat : Int))) (hq : w.cell? ⟨q, 0, none⟩ = some (.int .u8 (b.toNat : Int))) :
    Calls Tryz.prog 110 #[.int .u8 (c.toNat : Int), .pointer (some ⟨p, 0, none⟩), .pointer (some ⟨q, 0, none⟩)] w fun e w' => e = .returned (.bool (spanP a b c)) ∧ w' = w := by
  have HE : Hid (spanP a b c = (decide (a.toNat ≤ c.toNat) && decide (c.toNat ≤ b.toNat))) := rfl
  generalize spanP a b c = r at *
  generalize a.toNat = a at *
  generalize b.toNat = b at *
  generalize c.toNat = c at *
  by_cases h1 : a ≤ c
  · by_cases h2 : c ≤ b
    · have HR : Hid (r = true) := by show _ = _; rw [HE.out]; simp [h1, h2]
      clear HE
      go_enter Tryz.func110, Tryz.ntmps110
      go_wp2
      go_ret
      exact ⟨by rw [HR.out]; rfl, rfl⟩
    · have HR : Hid (r = false) := by show _ = _; rw [HE.out]; simp [h2]
      clear HE
      go_enter Tryz.func110, Tryz.ntmps110
      go_wp2
      go_ret
      exact ⟨by rw [HR.out]; rfl, rfl⟩
  · have HR : Hid (r = false) := by show _ = _; rw [HE.out]; simp [h1]
    clear HE
    go_enter Tryz.func110, Tryz.ntmps110
    go_wp2
    go_ret
    exact ⟨by rw [HR.out]; rfl, rfl⟩
set_option maxHeartbeats 1000000 in
set_option maxRecDepth 100000 in
theorem span_any (a b : UInt8) (w : World) :
    Calls Tryz.prog 93 #[.int .u8 (a.toNat : Int), .int .u8 (b.toNat : Int)] w fun e w' => ∃ v, e = .returned v ∧ May w' v (spanP a b) ∧ Below w.heap.size w w' := by
  have hmf : ∀ (fn : Fn) (first cap : Array Value) (w : World), (Instr.makeFunc fn first cap).run Tryz.prog w = .ok (.func fn first cap) w := fun _ _ _ _ => rfl
  have HM : Hid (May ((w.alloc (.cells #[.int .u8 (a.toNat : Int)] 5)).alloc (.cells #[.int .u8 (b.toNat : Int)] 5)) (.func (.func 110) #[] #[.pointer (some ⟨w.heap.size, 0, none⟩), .pointer (some ⟨w.heap.size + 1, 0, none⟩)]) (spanP a b)) := by
    refine ⟨_, _, rfl, enters_of Tryz.func110 (by kernel_rfl) rfl, fun W hW c => ?_⟩
    refine spanned_any a b c _ _ W ?_ ?_
    · refine cell_kept ?_ hW
      simp
    · refine cell_kept ?_ hW
      simp
  have HB : Hid (Below w.heap.size w ((w.alloc (.cells #[.int .u8 (a.toNat : Int)] 5)).alloc (.cells #[.int .u8 (b.toNat : Int)] 5))) := (below_new w _).alloc (by simp) _
  go_enter Tryz.func93, Tryz.ntmps93
  go_wp2
  go_ret
  exact ⟨_, rfl, HM.out, HB.out⟩
end Go.Proofs.YtaenccjlokiejaaGreatDoor
