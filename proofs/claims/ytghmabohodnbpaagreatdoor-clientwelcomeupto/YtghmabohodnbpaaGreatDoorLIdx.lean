/- strings.IndexRune and strings.ContainsAny at the two digits of the other alphabet: for every text. -/
import Derived.Test.YtghmabohodnbpaaGreatDoorXCut
import Derived.Shelf.Strings.IndexAnyAll
import Derived.Shelf.Strings.Runes
import Derived.Laws.RangeAny
import Derived.Laws.RangeString
import Derived.Laws.Runes
import Derived.BigQuiet
import Derived.WalkMore
namespace Go.Proofs.YtghmabohodnbpaaGreatDoor
open Go.RowKit

theorem dec_max (s : ByteArray) (pos : Nat) : (Utf8.decode s pos).1 < 1114112 ∧ ((Utf8.decode s pos).1 < 55296 ∨ 57344 ≤ (Utf8.decode s pos).1) := by
  have hb : ∀ k, (s.get! (pos + k)).toNat < 256 := fun k => (s.get! (pos + k)).toNat_lt
  have h0 := hb 0; have h1 := hb 1; have h2 := hb 2; have h3 := hb 3
  simp only [Utf8.decode]
  repeat' split
  all_goals simp_all [Utf8.runeError, Utf8.valid]
  all_goals omega
theorem dec_width (s : ByteArray) (p : Nat) (hp : p < s.size) : 1 ≤ (Utf8.decode s p).2 := by
  by_cases h : (s[p]'hp).toNat < 128
  · rw [decode_ascii s p hp h]; exact Nat.le_refl _
  · exact (decode_high s p hp (by omega)).2
theorem last_at (rs : ByteArray) (h2 : 2 ≤ rs.size) (h5 : ∀ h : rs.size - 1 < rs.size, 128 ≤ (rs[rs.size - 1]'h).toNat) : ∃ x : Nat, 128 ≤ x ∧ x < 256 ∧ ∀ w, (Instr.index 9 (.string rs) (.int .i64 ((rs.size : Int) - 1))).run Tryz.prog w = .ok (.int .u8 (x : Int)) w := by
  have hlt : rs.size - 1 < rs.size := by omega
  refine ⟨(rs[rs.size - 1]'hlt).toNat, h5 hlt, (rs[rs.size - 1]'hlt).toNat_lt, fun w => ?_⟩
  rw [run_index_string w 9 rs .i64 ((rs.size : Int) - 1) Tryz.underlying9, dif_pos ⟨by omega, by omega⟩]
  have e : ((rs.size : Int) - 1).toNat = rs.size - 1 := by omega
  simp [e]
theorem enc_at (c : Nat) (h : 128 ≤ c) (h1 : c < 1114112) (hs : c < 55296 ∨ 57344 ≤ c) : ∃ (rs : ByteArray) (x : Nat), Utf8.encode (c : Int) = rs ∧ (rs.size = 2 ∨ rs.size = 3 ∨ rs.size = 4) ∧ 128 ≤ x ∧ x < 256 ∧ ∀ w, (Instr.index 9 (.string rs) (.int .i64 ((rs.size : Int) - 1))).run Tryz.prog w = .ok (.int .u8 (x : Int)) w := by
  have hv : Utf8.valid (c : Int) = true := by simp [Utf8.valid]; omega
  obtain ⟨h2, h4, h5⟩ := encode_facts (c : Int) hv (by omega)
  generalize Utf8.encode (c : Int) = rs at *
  obtain ⟨x, hx1, hx2, hx3⟩ := last_at rs h2 h5
  exact ⟨rs, x, rfl, by omega, hx1, hx2, hx3⟩

set_option maxHeartbeats 2000000 in
set_option maxRecDepth 100000 in
theorem idxRune_hi (w : World) (c : Nat) (h : 128 ≤ c) (h1 : c < 1114112) (hs : c < 55296 ∨ 57344 ≤ c) (hne : c ≠ 65533) :
    Calls Tryz.prog 174 #[.string ⟨#[45, 95]⟩, .int .i32 (c : Int)] w fun e w' => e = .returned (.int .i64 (-1)) ∧ Below w.heap.size w w' := by
  obtain ⟨rs, x, hE, hL, hx, hx2, hI⟩ := enc_at c h h1 hs
  have n1 : decide ((c : Int) < 128) = false := by simp; omega
  have n2 : ((c : Int) == 65533) = false := by simp; omega
  have HV : Hid (∀ W, Calls Tryz.prog 178 #[.int .i32 (c : Int)] W fun e W' => e = .returned (.bool true) ∧ W' = W) := by
    intro W
    refine (Any.utf8_ValidRune lays119 (c : Int) W).mono ?_
    rintro e W' ⟨rfl, hw⟩
    rw [show Lib.validRune (c : Int) = true by unfold Lib.validRune; simp; omega]
    exact ⟨rfl, hw⟩
  have hcl : (c : Int) < 2147483648 := by omega
  have h0 : (0 : Int) ≤ (c : Int) := by omega
  rcases hL with hL | hL | hL
  · rw [hL] at hI
    have hI2 : ∀ w, (Instr.index 9 (.string rs) (.int .i64 1)).run Tryz.prog w = .ok (.int .u8 (x : Int)) w := hI
    have hS : ∀ w, (Instr.index 9 (.string ⟨#[45, 95]⟩) (.int .i64 1)).run Tryz.prog w = .ok (.int .u8 95) w := fun w => str_index ⟨#[45, 95]⟩ 1 (by decide) w
    have hC : ∀ w, (Instr.slice 9 (.string ⟨#[45, 95]⟩) (some (.int .i64 2)) none none).run Tryz.prog w = .ok (.string { data := #[] }) w := fun w => str_from ⟨#[45, 95]⟩ 2 2 rfl (by decide) w
    have HB : Hid (∀ W, Calls Tryz.prog 177 #[.string { data := #[] }, .int .u8 (x : Int)] W fun e W' => e = .returned (.int .i64 (-1)) ∧ W' = W) := fun W => Any.strings_IndexByte lays137 _ _ _
    have n3 : ((x : Int) == 95) = false := by simp; omega
    have n4 : ((95 : Int) == (x : Int)) = false := by simp; omega
    have n5 : ((95 : Int) != (x : Int)) = true := by simp; omega
    clear hI hs h1 hne
    go_enter Tryz.func174, Tryz.ntmps174
    go_wp2_with fail
    refine (HV.out _).mono ?_
    rintro e W ⟨rfl, hw⟩
    rw [hw]
    clear hw W
    go_wp2_with fail
    apply wp_scope_straight
    go_wp2_with fail
    refine wp_loop_rounds 1 ?_
    rw [rounds_succ]
    go_wp2_with fail
    apply wp_scope_straight
    go_wp2_with fail
    go_quiet (fail)
    have HD : Hid (Below w.heap.size w (w.drewN nq)) := ⟨rfl, rfl, rfl, Nat.le_refl _, fun _ _ => rfl⟩
    generalize w.drewN nq = w1 at *
    go_wp2_with fail
    go_quiet ((go_at_call 177; exact Calls.quiet_of_same (HB.out _)))
    have HD2 : Hid (Below w.heap.size w (w1.drewN nq)) := HD.out.trans ⟨rfl, rfl, rfl, Nat.le_refl _, fun _ _ => rfl⟩
    generalize w1.drewN nq = w2 at *
    go_wp2_with fail
    simp only [Exit.noGoto_ret, go_sem]
    go_ret
    exact ⟨rfl, HD2.out⟩
  all_goals
    clear hI hs h1 hne
    go_enter Tryz.func174, Tryz.ntmps174
    go_wp2_with fail
    refine (HV.out _).mono ?_
    rintro e W ⟨rfl, hw⟩
    rw [hw]
    clear hw W
    go_wp2_with fail
    apply wp_scope_straight
    go_wp2_with fail
    refine wp_loop_rounds 1 ?_
    rw [rounds_succ]
    go_wp2_with fail
    simp only [Exit.noGoto_ret, go_sem]
    go_ret
    exact ⟨rfl, Below.refl _ _⟩

set_option maxHeartbeats 2000000 in
set_option maxRecDepth 100000 in
theorem idxRune_bad (w : World) :
    Calls Tryz.prog 174 #[.string ⟨#[45, 95]⟩, .int .i32 65533] w fun e w' => e = .returned (.int .i64 (-1)) ∧ Below w.heap.size w w' := by
  have HI : Hid (Below w.heap.size w (w.iter ⟨#[45, 95]⟩ 2)) := by
    show Below _ _ _
    unfold World.iter
    exact below_new w _
  have q0 : ∀ ty, (Instr.next (.pointer (some ⟨w.heap.size, 0, none⟩)) true ty).run Tryz.prog (w.iter ⟨#[45, 95]⟩ 0) = .ok (.tuple #[.bool true, .int .i64 0, .int .i32 45]) (w.iter ⟨#[45, 95]⟩ 1) := fun ty => run_next_ascii w ⟨#[45, 95]⟩ 0 ty (by decide) (by decide)
  have q1 : ∀ ty, (Instr.next (.pointer (some ⟨w.heap.size, 0, none⟩)) true ty).run Tryz.prog (w.iter ⟨#[45, 95]⟩ 1) = .ok (.tuple #[.bool true, .int .i64 1, .int .i32 95]) (w.iter ⟨#[45, 95]⟩ 2) := fun ty => run_next_ascii w ⟨#[45, 95]⟩ 1 ty (by decide) (by decide)
  have q2 : ∀ ty, (Instr.next (.pointer (some ⟨w.heap.size, 0, none⟩)) true ty).run Tryz.prog (w.iter ⟨#[45, 95]⟩ 2) = .ok (.tuple #[.bool false]) (w.iter ⟨#[45, 95]⟩ 2) := fun ty => run_next_end w ⟨#[45, 95]⟩ 2 ty (by decide)
  go_enter Tryz.func174, Tryz.ntmps174
  go_wp2_with fail
  refine wp_loop_rounds 3 ?_
  rw [rounds_succ]
  go_wp2_with fail
  rw [rounds_succ]
  go_wp2_with fail
  rw [rounds_succ]
  go_wp2_with fail
  go_ret
  exact ⟨rfl, HI.out⟩
/-- Any rune: the call comes back with a place or -1. -/
theorem idxRune_any (w : World) (c : Nat) (h1 : c < 1114112) (hs : c < 55296 ∨ 57344 ≤ c) : ∃ z : Int, Calls Tryz.prog 174 #[.string ⟨#[45, 95]⟩, .int .i32 (c : Int)] w fun e w' => e = .returned (.int .i64 z) ∧ Below w.heap.size w w' := by
  by_cases h : 128 ≤ c
  · by_cases h2 : c = 65533
    · subst h2
      exact ⟨-1, idxRune_bad w⟩
    · exact ⟨-1, idxRune_hi w c h h1 hs h2⟩
  · refine ⟨Lib.indexByte (⟨#[45, 95]⟩ : ByteArray).data.toList ((c : Int).toNat.toUInt8), Calls.mono (Any.strings_IndexRune_ascii lays152 ⟨#[45, 95]⟩ (c : Int) w (by omega) (by omega)) ?_⟩
    rintro e w' ⟨rfl, rfl⟩
    exact ⟨rfl, Below.refl _ _⟩
set_option maxHeartbeats 2000000 in
set_option maxRecDepth 100000 in
theorem idxAny_short (s : ByteArray) (w : World) (h8 : s.size ≤ 8) :
    Calls Tryz.prog 166 #[.string s, .string ⟨#[45, 95]⟩] w fun e w' => (∃ z : Int, e = .returned (.int .i64 z)) ∧ Below w.heap.size w w' := by
  have h8z : decide ((8 : Int) < (s.size : Int)) = false := decide_eq_false (by omega)
  have HIT : ∀ p, Hid (Below w.heap.size w (w.iter s p)) := fun p => by
    show Below _ _ _
    unfold World.iter
    exact below_new w _
  have HW0 := HIT 0
  have HIT0 : Hid ((w.iter s 0).heap[w.heap.size]? = some (.stringIter s 0)) := World.iter_heap w s 0
  obtain ⟨K, hK⟩ : ∃ K, K = w.heap.size := ⟨_, rfl⟩
  go_enter Tryz.func166, Tryz.ntmps166
  go_wp2_with (first | (go_at_call 175; refine (Any.strings_shouldUseASCIISet { lays153 with } _ _).mono ?_; rintro e w' ⟨rfl, hw⟩; rw [hw, h8z]))
  rw [← hK] at HIT0 ⊢
  have HKK := hide hK
  clear hK
  generalize w.iter s 0 = w2 at *
  go_loopw [9] (fun _ wr => ∃ p : Nat, Hid (wr.heap[K]? = some (.stringIter s p)) ∧ Hid (Below w.heap.size w wr)) (fun _ wr => s.size - wr.iterPos K)
  case atStart => exact ⟨0, HIT0, HW0⟩
  case round =>
    obtain ⟨p, HI, HB⟩ := hrel
    have hsz := HB.out.size
    have hlt : K < wr.heap.size := (Array.getElem?_eq_some_iff.1 HI.out).1
    by_cases hp : p < s.size
    · have hnx : ∀ ty, (Instr.next (.pointer (some ⟨K, 0, none⟩)) true ty).run Tryz.prog wr = .ok (.tuple #[.bool true, .int .i64 (p : Int), .int .i32 ((Utf8.decode s p).1 : Int)]) (wr.iterAt K s (p + (Utf8.decode s p).2)) := fun ty => Lib.run_next_any_at (P := Tryz.prog) wr K s p ty HI.out hp
      have hpos := dec_width s p hp
      obtain ⟨hm1, hm2⟩ := dec_max s p
      have HI3 := hide (Lib.iterAt_heap wr K s p (p + (Utf8.decode s p).2) HI.out)
      have HB3 : Hid (Below w.heap.size w (wr.iterAt K s (p + (Utf8.decode s p).2))) := by
        have e : ∀ k, k ≠ K → (wr.iterAt K s (p + (Utf8.decode s p).2)).heap[k]? = wr.heap[k]? := fun k hk => by simp [World.iterAt, Ne.symm hk]
        exact HB.out.trans ⟨rfl, rfl, rfl, by simp [World.iterAt], fun k hk => e k (by have := HKK.out; omega)⟩
      have HPOS := hide hpos
      generalize (Utf8.decode s p).1 = c at *
      generalize (Utf8.decode s p).2 = d at *
      obtain ⟨z, hz⟩ := idxRune_any (wr.iterAt K s (p + d)) c hm1 hm2
      have HPR : Hid (wr.iterPos K = p) := iterPos_of HI.out
      have hs3 : wr.heap.size ≤ (wr.iterAt K s (p + d)).heap.size := by simp [World.iterAt]
      clear hpos hm1 hm2
      go_wp2_with fail
      generalize wr.iterAt K s (p + d) = w3 at *
      refine hz.mono ?_
      rintro e w4 ⟨rfl, hb4⟩
      have HB4 := hide (HB3.out.trans (hb4.mono (by omega)))
      have HI4 : Hid (w4.heap[K]? = some (.stringIter s (p + d))) := (hb4.block K (by omega)).trans HI3.out
      clear hb4 hz
      by_cases hz0 : (0 : Int) ≤ z
      · go_wp2
        go_ret
        exact ⟨⟨_, rfl⟩, HB4.out⟩
      · go_wp2
        go_roundw
        case rel => exact ⟨p + d, HI4, HB4⟩
        case measure => rw [HPR.out, iterPos_of HI4.out]; have := HPOS.out; omega
    · have hnx : ∀ ty, (Instr.next (.pointer (some ⟨K, 0, none⟩)) true ty).run Tryz.prog wr = .ok (.tuple #[.bool false]) wr := fun ty => Lib.run_next_end_at (P := Tryz.prog) wr K s p ty HI.out hp
      go_wp2
      go_ret
      exact ⟨⟨_, rfl⟩, HB.out⟩
theorem infoSet : (Tryz.prog.info? (lays150_ren.t 116)).map (fun i => (i.zero, i.size)) = some (some (.agg (Array.replicate 256 (.bool false))), 256) := by kernel_rfl
theorem infoSet3 : (Tryz.prog.info? (lays153_ren.t 116)).map (fun i => (i.zero, i.size)) = some (some (.agg (Array.replicate 256 (.bool false))), 256) := by kernel_rfl
set_option maxRecDepth 100000 in
/-- Whatever the text is. -/
theorem idxAny_whole (s : ByteArray) (w : World) (hs : s.size < 4294967281) :
    Calls Tryz.prog 166 #[.string s, .string ⟨#[45, 95]⟩] w fun e w' => (∃ z : Int, e = .returned (.int .i64 z)) ∧ Below w.heap.size w w' := by
  by_cases h8 : s.size ≤ 8
  · exact idxAny_short s w h8
  · refine (Any.strings_IndexAny_long lays153 (zero_of_info infoSet3).1 (zero_of_info infoSet3).2 s ⟨#[45, 95]⟩ w (by decide) (by omega) hs (by decide) ?_).mono ?_
    · intro j b hj
      match j, hj with
      | 0, hj => simp at hj; subst hj; decide
      | 1, hj => simp at hj; subst hj; decide
      | j + 2, hj => simp at hj
    · rintro e w' ⟨rfl, rfl⟩
      exact ⟨⟨_, rfl⟩, (below_new w _).trans ((below_new _ _).mono (by simp))⟩
set_option maxHeartbeats 1000000 in
set_option maxRecDepth 100000 in
theorem containsAny_whole (s : ByteArray) (w : World) (hs : s.size < 4294967281) :
    Calls Tryz.prog 147 #[.string s, .string ⟨#[45, 95]⟩] w fun e w' => (∃ b : Bool, e = .returned (.bool b) ∧ ((∀ x ∈ sbytes s, x < 128) → b = (sbytes s).any fun x => x == 45 || x == 95)) ∧ Below w.heap.size w w' := by
  by_cases ha : ∀ x ∈ sbytes s, x < 128
  · refine (Any.strings_ContainsAny_laid lays150 infoSet s ⟨#[45, 95]⟩ w hs (by decide) ?_ ?_).mono ?_
    · intro j b hj
      exact ha _ (List.mem_map.2 ⟨b, List.mem_of_getElem? hj, rfl⟩)
    · intro j b hj
      match j, hj with
      | 0, hj => simp at hj; subst hj; decide
      | 1, hj => simp at hj; subst hj; decide
      | j + 2, hj => simp at hj
    · rintro e w' ⟨rfl, hb⟩
      refine ⟨⟨_, rfl, fun _ => ?_⟩, hb⟩
      unfold sbytes
      generalize s.data.toList = l
      have hge : ∀ l : List UInt8, Lib.containsAny l [45, 95] = l.any fun x => x == 45 || x == 95 := by
        intro l
        induction l with
        | nil => rfl
        | cons x r ih =>
          have h1 := Lib.indexAny_ge [45, 95] r
          unfold Lib.containsAny at ih ⊢
          rw [List.any_cons, ← ih]
          show decide (0 ≤ (if ([45, 95] : List UInt8).contains x then (0 : Int) else if Lib.indexAny r [45, 95] == -1 then -1 else Lib.indexAny r [45, 95] + 1)) = _
          have hc : ([45, 95] : List UInt8).contains x = (x == 45 || x == 95) := by simp [List.contains, List.elem]; cases x == 45 <;> cases x == 95 <;> rfl
          rw [hc]
          cases hx : (x == 45 || x == 95)
          · simp only [Bool.false_eq_true, if_false, Bool.false_or]
            by_cases hm : Lib.indexAny r [45, 95] = -1
            · simp [hm]
            · rw [if_neg (by simpa using hm)]
              rw [decide_eq_true (by omega), decide_eq_true (by omega)]
          · simp
      show Lib.containsAny l [45, 95] = _
      rw [hge, List.any_map]
      congr 1
      funext x
      have e1 : (x == 45) = (x.toNat == 45) := by rw [Bool.eq_iff_iff]; simp [← UInt8.toNat_inj]
      have e2 : (x == 95) = (x.toNat == 95) := by rw [Bool.eq_iff_iff]; simp [← UInt8.toNat_inj]
      simp [e1, e2]
  · have HX := idxAny_whole s w hs
    go_enter Tryz.func147, Tryz.ntmps147
    go_wp2_with (first | (go_at_call 166; refine HX.mono ?_))
    rintro e w' ⟨⟨z, rfl⟩, hb⟩
    have HB := hide hb
    clear hb
    go_wp2
    go_ret
    exact ⟨⟨_, rfl, fun h => absurd h ha⟩, HB.out⟩
end Go.Proofs.YtghmabohodnbpaaGreatDoor
