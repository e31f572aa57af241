/- The document's own small letters: a row of bytes written over. -/
import Derived.Test.YtaenccjlokiejaaGreatDoorHUse
import Derived.Lib.ConvBytes
namespace Go.Proofs.YtaenccjlokiejaaGreatDoor
open Go.RowKit Go.Shelf

/-- A row of bytes made of a text. -/
def BS (w : World) (b : Nat) (l : U) : Prop := ∃ C : Array Value, w.heap[b]? = some (.cells C 5 (C.size, C.size + 1)) ∧ ∀ i (h : i < l.length), C[i]? = some (.int .u8 (l[i].toNat : Int))
theorem BS.cell {w : World} {b : Nat} {l : U} (h : BS w b l) {i : Nat} (hi : i < l.length) : w.cell? ⟨b, i, none⟩ = some (.int .u8 ((l.getD i 0).toNat : Int)) := by
  obtain ⟨C, hC, hc⟩ := h
  rw [cell_of_row _ _ _ _ _ _ hC, hc i hi]
  simp [List.getD, hi]
theorem BS.frozen {w : World} {b : Nat} {l : U} (h : BS w b l) {i : Nat} (hi : i < l.length) : w.frozen? ⟨b, i, none⟩ = false := by
  obtain ⟨C, hC, hc⟩ := h
  have := (Array.getElem?_eq_some_iff.1 (hc i hi)).1
  simp only [World.frozen?, hC]
  simp
  omega
theorem BS.set {w : World} {b : Nat} {l : U} (h : BS w b l) {i : Nat} (hi : i < l.length) (z : UInt8) : BS (w.setCell ⟨b, i, none⟩ (.int .u8 (z.toNat : Int))) b (l.set i z) := by
  obtain ⟨C, hC, hc⟩ := h
  refine ⟨C.setIfInBounds i (.int .u8 (z.toNat : Int)), ?_, fun j hj => ?_⟩
  · rw [setCell_eq_setRow w b i _ _ _ _ hC, setRow_heap w b _ _ _ _ hC, Array.size_setIfInBounds]
  · have hs := (Array.getElem?_eq_some_iff.1 (hc i hi)).1
    rw [List.length_set] at hj
    by_cases e : i = j
    · subst e
      simp [hs]
    · rw [Array.getElem?_setIfInBounds_ne e, hc j hj]
      simp [e]
theorem conv_bs (w : World) (l : U) : ∃ c w', (convert 9 110 (.string (str l))).run Tryz.prog w = .ok (.slice (some ⟨w.heap.size, 0, none⟩) l.length c) w' ∧ Hid (BS w' w.heap.size l ∧ Below w.heap.size w w') := by
  have h0 := Lib.run_convert_string_bytes w 9 110 5 (str l) Tryz.underlying9 Tryz.underlying110 Tryz.underlying5
  rw [str_size] at h0
  refine ⟨_, _, h0, ?_, ?_⟩
  · refine ⟨_, Lib.bytesWorld_at_new w _ (str l), fun i hi => ?_⟩
    unfold Lib.bytesCells
    have hi' : i < (str l).data.size := by show i < (str l).size; rw [str_size]; exact hi
    rw [Array.getElem?_append_left (by rw [Array.size_map]; exact hi'), Array.getElem?_map, Array.getElem?_eq_getElem hi']
    simp [str]
  · refine ⟨rfl, rfl, rfl, ?_, fun j hj => Lib.bytesWorld_at_old w _ (str l) j hj⟩
    simp [Lib.bytesWorld, World.freeze, World.alloc, World.drew, -World.alloc_eq, -World.drew_eq]
theorem bs_conv {w : World} {b : Nat} {l : U} (cap : Nat) (h : BS w b l) : (convert 110 9 (.slice (some ⟨b, 0, none⟩) l.length cap)).run Tryz.prog w = .ok (.string (str l)) w := by
  have := run_convert_bytes_back (P := Tryz.prog) w 110 9 5 ⟨b, 0, none⟩ cap l Tryz.underlying110 Tryz.underlying5 Tryz.underlying9 (fun j hj => by
    rw [add_none, Nat.zero_add, h.cell hj]
    simp [List.getD, hj])
  exact this
/-- The first k letters small. -/
def mix (l : U) (k : Nat) : U := lows (l.take k) ++ l.drop k
theorem mix_len (l : U) (k : Nat) : (mix l k).length = l.length := by
  unfold mix lows
  rw [List.length_append, List.length_map, List.length_take, List.length_drop]
  omega
theorem mix_get (l : U) (k : Nat) (h : k < l.length) : (mix l k).getD k 0 = l.getD k 0 := by
  unfold mix lows
  have e : (List.map lo (l.take k)).length = k := by rw [List.length_map, List.length_take]; omega
  simp only [List.getD]
  rw [List.getElem?_append_right (by omega), e, Nat.sub_self, List.getElem?_drop, Nat.add_zero]
theorem mix_succ (l : U) (k : Nat) (h : k < l.length) : (mix l k).set k (lo (l.getD k 0)) = mix l (k + 1) := by
  unfold mix
  rw [lows_take l k h, List.drop_eq_getElem_cons h]
  have e : (lows (l.take k)).length = k := by unfold lows; rw [List.length_map, List.length_take]; omega
  rw [List.set_append_right _ _ (by omega), e, Nat.sub_self, List.set_cons_zero, List.append_assoc]
  rfl
theorem mix_same (l : U) (k : Nat) (h : k < l.length) (hc : capB (l.getD k 0) = false) : mix l k = mix l (k + 1) := by
  rw [← mix_succ l k h, lo_not hc, ← mix_get l k h]
  have hl : k < (mix l k).length := by rw [mix_len]; exact h
  simp [List.getD, hl]
theorem mix_all (l : U) : mix l l.length = lows l := by unfold mix; rw [List.take_length, List.drop_length, List.append_nil]
set_option maxHeartbeats 1000000 in
set_option maxRecDepth 100000 in
theorem refSmall_any (l : U) (w : World) (hl : l.length ≤ 140737488355328) : Calls Tryz.prog 56 #[.string (str l)] w fun e w' => e = .returned (.string (str (lows l))) ∧ Below w.heap.size w w' := by
  obtain ⟨c, w1, hcv, H1⟩ := conv_bs w l
  obtain ⟨n, hn⟩ : ∃ n, n = l.length := ⟨_, rfl⟩
  rw [← hn] at hcv hl
  have HN := hide hn
  obtain ⟨b, hb⟩ : ∃ b, b = w.heap.size := ⟨_, rfl⟩
  rw [← hb] at hcv H1 ⊢
  have HBE := hide hb
  generalize str l = s at hcv ⊢
  clear hn hb
  go_enter Tryz.func56, Tryz.ntmps56
  go_wp2_with fail
  go_loopw [4] (fun i wr => ∃ k : Nat, k ≤ n ∧ i = .int .i64 k ∧ Hid (BS wr b (mix l k) ∧ Below b w wr)) (fun i _ => n - (intOf i).toNat)
  case atStart => exact ⟨0, by omega, rfl, H1.out.1, H1.out.2⟩
  case round =>
    obtain ⟨k, hk, rfl, HS⟩ := hrel
    by_cases hlt : k < n
    · have hix : k < l.length := by rw [← HN.out]; exact hlt
      have hml : k < (mix l k).length := by rw [mix_len]; exact hix
      have hc := HS.out.1.cell hml
      have hf := HS.out.1.frozen hml
      rw [mix_get l k hix] at hc
      have HST : Hid (BS (wr.setCell ⟨b, k, none⟩ (.int .u8 ((lo (l.getD k 0)).toNat : Int))) b (mix l (k + 1)) ∧ Below b w (wr.setCell ⟨b, k, none⟩ (.int .u8 ((lo (l.getD k 0)).toNat : Int)))) := by
        have := HS.out.1.set hml (lo (l.getD k 0))
        rw [mix_succ l k hix] at this
        exact ⟨this, HS.out.2.setCell (Nat.le_refl _) _⟩
      have HSM : Hid (capB (l.getD k 0) = false → BS wr b (mix l (k + 1))) := fun hq => by rw [← mix_same l k hix hq]; exact HS.out.1
      generalize l.getD k 0 = z at *
      by_cases hcap : capB z = true
      · rw [lo_cap hcap] at HST
        simp [capB] at hcap
        obtain ⟨h1, h2⟩ := hcap
        generalize z.toNat = x at *
        have hw1 : IntKind.u8.wrap ((x : Int) - 65) = (x : Int) - 65 := wraps_u8 _ (by omega) (by omega)
        have hw2 : IntKind.u8.wrap ((x : Int) - 65 + 97) = ((x + 32 : Nat) : Int) := by rw [wraps_u8 _ (by omega) (by omega)]; omega
        have hd1 : (65 : Int) ≤ (x : Int) := by omega
        have hd2 : (x : Int) ≤ 90 := by omega
        clear HSM hix hml h1 h2
        go_wp2_with fail
        go_roundw
        case rel => exact ⟨k + 1, by omega, by go_num, HST⟩
        case measure => simp [intOf]; omega
      · have hcf : capB z = false := by simpa using hcap
        have HS2 := hide (And.intro (HSM.out hcf) HS.out.2)
        have h12 : z.toNat < 65 ∨ (65 ≤ z.toNat ∧ 90 < z.toNat) := by
          simp [capB] at hcf
          omega
        generalize z.toNat = x at *
        clear HSM HST hix hml hcap hcf
        rcases h12 with h1 | ⟨h1, h2⟩
        · have hd1 : ¬ (65 : Int) ≤ (x : Int) := by omega
          go_wp2_with fail
          go_roundw
          case rel => exact ⟨k + 1, by omega, by go_num, HS2⟩
          case measure => simp [intOf]; omega
        · have hd1 : (65 : Int) ≤ (x : Int) := by omega
          have hd2 : ¬ (x : Int) ≤ 90 := by omega
          go_wp2_with fail
          go_roundw
          case rel => exact ⟨k + 1, by omega, by go_num, HS2⟩
          case measure => simp [intOf]; omega
    · obtain rfl : k = n := by omega
      have HE : Hid (BS wr b (lows l)) := by have := HS.out.1; rw [HN.out, mix_all] at this; exact this
      have hcb := bs_conv c HE.out
      rw [lows_len, ← HN.out] at hcb
      go_wp2_with fail
      go_ret
      exact ⟨rfl, HS.out.2⟩
end Go.Proofs.YtaenccjlokiejaaGreatDoor
