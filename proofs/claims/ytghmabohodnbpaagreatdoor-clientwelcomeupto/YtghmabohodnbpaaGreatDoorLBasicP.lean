/- The contracts of the program's isScheme, behindScheme, fromCommon, nameAndSecret, Basic. -/
import Derived.Test.YtghmabohodnbpaaGreatDoorLBasic
import Derived.Deep.RegionHeld3
namespace Go.Proofs.YtghmabohodnbpaaGreatDoor
open Go.RowKit

def schW : List Nat := [98, 97, 115, 105, 99]
def isSch (l : List Nat) : Bool := decide (l.length = 5) && (List.range 5).all fun j => decide ((l.getD j 0 ||| 32) = schW.getD j 0)
theorem isSch_yes {l : List Nat} (h5 : l.length = 5) (h : ∀ j, j < 5 → (l.getD j 0 ||| 32) = schW.getD j 0) : isSch l = true := by
  unfold isSch
  rw [decide_eq_true h5, Bool.true_and, List.all_eq_true]
  intro j hj
  exact decide_eq_true (h j (List.mem_range.1 hj))
theorem isSch_no {l : List Nat} (j : Nat) (hj : j < 5) (h : (l.getD j 0 ||| 32) ≠ schW.getD j 0) : isSch l = false := by
  unfold isSch
  rw [Bool.and_eq_false_iff]
  right
  rw [List.all_eq_false]
  exact ⟨j, List.mem_range.2 hj, by simpa using h⟩
theorem isSch_len {l : List Nat} (h5 : l.length ≠ 5) : isSch l = false := by
  unfold isSch
  rw [decide_eq_false h5, Bool.false_and]
theorem orb_all : ∀ a : Fin 256, bits BinOp.or IntKind.u8 ((a.val : Nat) : Int) 32 = ((a.val ||| 32 : Nat) : Int) := by decide +kernel
theorem orb (a : Nat) (ha : a < 256) : bits BinOp.or IntKind.u8 (a : Int) 32 = ((a ||| 32 : Nat) : Int) := orb_all ⟨a, ha⟩
set_option maxHeartbeats 1000000 in
set_option maxRecDepth 100000 in
theorem isScheme_any (s : ByteArray) (w : World) : Calls Tryz.prog 146 #[.string s] w fun e w' => e = .returned (.bool (isSch (sbytes s))) ∧ Below w.heap.size w w' := by
  obtain ⟨l, HL⟩ : ∃ l, Hid (l = sbytes s) := ⟨_, hide rfl⟩
  have HZ : Hid (l.length = s.size) := by show _ = _; rw [HL.out, sbytes_length]
  obtain ⟨B, HB⟩ : ∃ B, Hid (B = isSch l) := ⟨_, hide rfl⟩
  rw [← HL.out, ← HB.out]
  by_cases h5 : s.size = 5
  · have h5i : ((s.size : Int) != 5) = false := by simp; omega
    have h5j : (s.size : Int) = 5 := by omega
    have HS : Hid (s.size = 5) := h5
    go_enter Tryz.func146, Tryz.ntmps146
    go_wp2
    go_loopw [9] (fun i wr => ∃ k : Nat, k ≤ 5 ∧ i = .int .i64 (k : Int) ∧ Hid (∀ j, j < k → l.getD j 0 ||| 32 = schW.getD j 0) ∧ Hid (Below w.heap.size w wr)) (fun i _ => 5 - (intOf i).toNat)
    case atStart => exact ⟨0, by omega, rfl, fun j hj => by omega, Below.refl _ _⟩
    case round =>
      obtain ⟨k, hk, rfl, HA, HW⟩ := hrel
      by_cases hlt : k < 5
      · have hix := str_index s k (by have := HS.out; omega)
        have hiw := str_index { data := #[98, 97, 115, 105, 99] } k (by show k < 5; exact hlt)
        rw [← HL.out] at hix
        rw [show sbytes { data := #[98, 97, 115, 105, 99] } = schW from rfl] at hiw
        have hc : l.getD k 0 < 256 := by rw [HL.out]; exact lt_get (sbytes_lt s) k
        have hor := orb _ hc
        obtain ⟨d, hd⟩ : ∃ d, d = l.getD k 0 ||| 32 := ⟨_, rfl⟩
        obtain ⟨x, hx⟩ : ∃ x, x = schW.getD k 0 := ⟨_, rfl⟩
        have HDX : Hid (d = x → ∀ j, j < k + 1 → (l.getD j 0 ||| 32) = schW.getD j 0) := by
          intro he j hj
          by_cases hjk : j < k
          · exact HA.out j hjk
          · obtain rfl : j = k := by omega
            rw [← hd, ← hx, he]
        have HNX : Hid (d ≠ x → B = false) := by
          intro he
          rw [HB.out]
          exact isSch_no k hlt (by rw [← hd, ← hx]; exact he)
        rw [← hd] at hor
        rw [← hx] at hiw
        clear hd hx
        generalize l.getD k 0 = c at *
        have hlt2 : (k : Int) < 5 := by omega
        by_cases he : d = x
        · have HA2 := hide (HDX.out he)
          have hei : ((d : Int) != (x : Int)) = false := by simp; omega
          clear HDX HNX he
          go_wp2
          go_quiet (fail)
          have HW2 : Hid (Below w.heap.size w (wr.drewN nq)) := HW.out.trans ⟨rfl, rfl, rfl, Nat.le_refl _, fun _ _ => rfl⟩
          go_wp2
          go_roundw
          case rel => exact ⟨k + 1, by omega, by go_num, HA2, HW2⟩
          case measure => simp [intOf]; omega
        · have HBF := hide (HNX.out he)
          have hei : ((d : Int) != (x : Int)) = true := by simp; omega
          clear HDX HNX he
          go_wp2
          go_quiet (fail)
          have HW2 : Hid (Below w.heap.size w (wr.drewN nq)) := HW.out.trans ⟨rfl, rfl, rfl, Nat.le_refl _, fun _ _ => rfl⟩
          go_wp2
          go_ret
          exact ⟨by rw [HBF.out]; rfl, HW2.out⟩
      · obtain rfl : k = 5 := by omega
        have HBT : Hid (B = true) := by show _ = _; rw [HB.out]; exact isSch_yes (by rw [HZ.out]; exact HS.out) HA.out
        go_wp2
        go_ret
        exact ⟨by rw [HBT.out]; rfl, HW.out⟩
  · have h5i : ((s.size : Int) != 5) = true := by simp; omega
    have HBF : Hid (B = false) := by show _ = _; rw [HB.out]; exact isSch_len (by rw [HZ.out]; exact h5)
    go_enter Tryz.func146, Tryz.ntmps146
    go_wp2
    go_ret
    exact ⟨by rw [HBF.out]; rfl, Below.refl _ _⟩
set_option maxHeartbeats 1000000 in
set_option maxRecDepth 100000 in
theorem behind_any (s : ByteArray) (w : World) (hs : s.size < 4294967281) (hM : MaxL w) : Calls Tryz.prog 120 #[.string s] w fun e w' => e = .returned (.tuple #[.string (bstr (((sbytes s).drop ((upTo 32 (sbytes s)).length + 1)).dropWhile (· == 32))), .bool (decide ((upTo 32 (sbytes s)).length < (sbytes s).length) && isSch (upTo 32 (sbytes s)))]) ∧ Below w.heap.size w w' := by
  have HC := cutf_any s 32 w hs hM
  rw [show (32 : UInt8).toNat = 32 from rfl] at HC
  have hlt := sbytes_lt s
  have hu : ∀ x ∈ upTo 32 (sbytes s), x < 256 := fun x hx => hlt x (by rw [upTo_take] at hx; exact List.mem_of_mem_take hx)
  have hd : ∀ x ∈ (sbytes s).drop ((upTo 32 (sbytes s)).length + 1), x < 256 := fun x hx => hlt x (List.mem_of_mem_drop hx)
  obtain ⟨u, HU⟩ : ∃ u, Hid (u = upTo 32 (sbytes s)) := ⟨_, hide rfl⟩
  obtain ⟨r, HR⟩ : ∃ r, Hid (r = (sbytes s).drop (u.length + 1)) := ⟨_, hide rfl⟩
  obtain ⟨b, HB⟩ : ∃ b, Hid (b = decide (u.length < (sbytes s).length)) := ⟨_, hide rfl⟩
  rw [← HU.out] at HC hu hd ⊢
  rw [← HR.out, ← HB.out] at HC
  rw [← HR.out] at hd
  rw [← HR.out, ← HB.out]
  have HIS := fun W => isScheme_any (bstr u) W
  rw [sbytes_bstr hu] at HIS
  have HTL := fun W => trimLeft_any (bstr r) W
  rw [sbytes_bstr hd] at HTL
  generalize isSch u = q at *
  generalize List.dropWhile (fun x => x == 32) r = t at *
  clear HU HR HB hu hd hlt
  go_enter Tryz.func120, Tryz.ntmps120
  go_wp2_with (first | (go_at_call 109; refine HC.mono ?_))
  rintro e w1 ⟨rfl, hb1⟩
  have HB1 := hide hb1
  clear hb1 HC
  cases b
  · go_wp2_with (first | (go_at_call 145; refine (HTL _).mono ?_; rintro e w2 ⟨rfl, rfl⟩))
    go_ret2
    exact ⟨rfl, HB1.out⟩
  · go_wp2_with (first | (go_at_call 145; refine (HTL _).mono ?_; rintro e w2 ⟨rfl, rfl⟩))
    refine (HIS _).mono ?_
    rintro e w3 ⟨rfl, hb3⟩
    have HB3 := hide (HB1.out.trans (hb3.mono HB1.out.size))
    clear hb3
    go_wp2
    go_ret2
    exact ⟨rfl, HB3.out⟩

theorem fb64_err {l : List Nat} (h : (fb64 l).2.1 ≠ 0) : (fb64 l).1 = [] := by
  rw [fb64_eq] at h ⊢
  by_cases h0 : 65536 < l.length
  · rw [if_pos h0]
  · rw [if_neg h0] at h ⊢
    generalize badAt l = bb at h ⊢
    cases bb with
    | some i => rfl
    | none =>
      simp only at h ⊢
      by_cases h1 : l.length % 4 = 1
      · rw [if_pos h1]
      · rw [if_neg h1] at h ⊢
        by_cases h2 : left64 (vals l) ≠ 0
        · rw [if_pos h2]
        · rw [if_neg h2] at h
          exact absurd rfl h
theorem decT_lt {l t : List Nat} (h : decT l = some t) : (∀ x ∈ t, x < 256) ∧ t.length ≤ l.length := by
  unfold decT at h
  split at h
  · simp at h
  · split at h
    · split at h
      · injection h with h
        subst h
        have hv : ∀ x ∈ (bare l).filterMap six, x < 64 := by
          intro x hx
          obtain ⟨c, _, hc⟩ := List.mem_filterMap.1 hx
          exact six_lt hc
        have hlen : ∀ v : List Nat, (d64 v).length ≤ v.length := by
          intro v
          induction v using d64.induct <;> simp [d64] <;> omega
        refine ⟨d64_lt _ hv, ?_⟩
        have h1 := hlen ((bare l).filterMap six)
        have h2 := List.length_filterMap_le six (bare l)
        have h3 := (bare_sub l).length_le
        omega
      · simp at h
    · simp at h
theorem trim1_le (l : List Nat) : (trim1 l).length ≤ l.length := (trim1_sub l).length_le
theorem other_two (l : List Nat) : (l.map fun x => if x = 43 then 45 else x).map (fun x => if x = 47 then 95 else x) = l.map other := by
  rw [List.map_map]
  apply List.map_congr_left
  intro x _
  simp only [Function.comp_def, other]
  by_cases h : x = 43
  · subst h; rfl
  · rw [if_neg h, if_neg h]
theorem other_lt {x : Nat} (h : x < 256) : other x < 256 := by unfold other; split <;> (try split) <;> omega
def decV (t : Option (List Nat)) : Value := .tuple #[.string (bstr (t.getD [])), .bool t.isSome]
set_option maxHeartbeats 1000000 in
set_option maxRecDepth 100000 in
theorem common_any (s : ByteArray) (w : World) (hs : s.size ≤ 65536) (hM : MaxL w) : Calls Tryz.prog 121 #[.string s] w fun e w' => e = .returned (decV (decT (sbytes s))) ∧ Below w.heap.size w w' := by
  obtain ⟨l, hl⟩ : ∃ l, l = sbytes s := ⟨_, rfl⟩
  have hz : l.length = s.size := by rw [hl, sbytes_length]
  have hlt : ∀ x ∈ l, x < 256 := by rw [hl]; exact sbytes_lt s
  have HM : Hid (MaxL w) := hM
  have HCA := containsAny_whole s w (by omega)
  rw [← hl] at HCA ⊢
  obtain ⟨D, HD⟩ : ∃ D, Hid (D = decT l) := ⟨_, hide rfl⟩
  rw [← HD.out]
  by_cases h4 : l.length % 4 = 0
  · have h4i : ((s.size : Int) % 4 != 0) = false := by simp; omega
    have H1 : Hid (∀ W, Calls Tryz.prog 148 #[.string s, .string { data := #[61] }] W fun e w' => e = .returned (.string (bstr (trim1 l))) ∧ w' = W) := fun W => by
      have := trimSuffix_any s W (by omega); rw [← hl] at this; exact this
    have ht1 : ∀ x ∈ trim1 l, x < 256 := fun x hx => hlt x ((trim1_sub l).mem hx)
    have hl1 := trim1_le l
    have H2 : Hid (∀ W, Calls Tryz.prog 148 #[.string (bstr (trim1 l)), .string { data := #[61] }] W fun e w' => e = .returned (.string (bstr (bare l))) ∧ w' = W) := fun W => by
      have := trimSuffix_any (bstr (trim1 l)) W (by rw [bstr_size]; omega); rw [sbytes_bstr ht1] at this; exact this
    have ht2 : ∀ x ∈ bare l, x < 256 := fun x hx => hlt x ((bare_sub l).mem hx)
    have hl2 := (bare_sub l).length_le
    have ht3 : ∀ x ∈ (bare l).map (fun x => if x = 43 then 45 else x), x < 256 := by
      intro x hx
      obtain ⟨y, hy, rfl⟩ := List.mem_map.1 hx
      have := ht2 y hy
      show (if y = 43 then 45 else y) < 256
      split <;> omega
    have H3 : Hid (∀ W, MaxL W → Calls Tryz.prog 149 #[.string (bstr (bare l)), .string { data := #[43] }, .string { data := #[45] }] W fun e w' => e = .returned (.string (bstr ((bare l).map fun x => if x = 43 then 45 else x))) ∧ Below W.heap.size W w') := fun W hW => by
      have := replaceAll_any (bstr (bare l)) 43 45 (by decide) W (by rw [bstr_size]; omega) hW; rw [sbytes_bstr ht2] at this; exact this
    have H4 : Hid (∀ W, MaxL W → Calls Tryz.prog 149 #[.string (bstr ((bare l).map fun x => if x = 43 then 45 else x)), .string { data := #[47] }, .string { data := #[95] }] W fun e w' => e = .returned (.string (bstr ((bare l).map other))) ∧ Below W.heap.size W w') := fun W hW => by
      have := replaceAll_any (bstr ((bare l).map fun x => if x = 43 then 45 else x)) 47 95 (by decide) W (by rw [bstr_size, List.length_map]; omega) hW
      rw [sbytes_bstr ht3, show (UInt8.toNat 47) = 47 from rfl, show (UInt8.toNat 95) = 95 from rfl, other_two] at this
      exact this
    have ht5 : ∀ x ∈ (bare l).map other, x < 256 := by
      intro x hx
      obtain ⟨y, hy, rfl⟩ := List.mem_map.1 hx
      exact other_lt (ht2 y hy)
    have H5 : Hid (∀ W, Calls Tryz.prog 150 #[.string (bstr ((bare l).map other))] W fun e w' => ∃ ro rn rc, e = .returned (.tuple #[.slice ro rn rc, .int .i64 (((fb64 ((bare l).map other)).2.1 : Nat) : Int), .int .i64 (((fb64 ((bare l).map other)).2.2 : Nat) : Int)]) ∧ Hid (rn = (fb64 ((bare l).map other)).1.length ∧ rn ≤ rc ∧ Own w' W.heap.size (.slice ro rn rc) (fb64 ((bare l).map other)).1 ∧ Below W.heap.size W w')) := fun W => by
      have := fromBase64_any (bstr ((bare l).map other)) W; rw [sbytes_bstr ht5] at this; exact this
    have HX : Hid (∀ b : Bool, ((∀ x ∈ l, x < 128) → b = l.any fun x => x == 45 || x == 95) → if b = true then D = none else (((fb64 ((bare l).map other)).2.1 = 0 → D = some (fb64 ((bare l).map other)).1) ∧ ((fb64 ((bare l).map other)).2.1 ≠ 0 → D = none ∧ (fb64 ((bare l).map other)).1 = []))) := by
      intro b hb
      rw [HD.out]
      by_cases ha : ∀ x ∈ l, x < 128
      · have hb2 := hb ha
        cases b
        · rw [if_neg (by simp)]
          have hno : ∀ c ∈ l, c ≠ 45 ∧ c ≠ 95 := by
            intro c hc
            have := List.any_eq_false.1 hb2.symm c hc
            simp at this
            exact this
          have e := dec_other l (by omega) hno
          rw [if_neg (by omega)] at e
          rw [e]
          refine ⟨fun h => by rw [if_pos h], fun h => ⟨by rw [if_neg h], fb64_err h⟩⟩
        · rw [if_pos rfl]
          obtain ⟨c, hc, hcc⟩ := List.any_eq_true.1 hb2.symm
          simp at hcc
          exact dec_bad hc (by omega)
      · obtain ⟨c, hc, hcc⟩ : ∃ c ∈ l, 128 ≤ c := by
          apply Classical.byContradiction
          intro hn
          exact ha fun x hx => by
            apply Classical.byContradiction
            intro h
            exact hn ⟨x, hx, by omega⟩
        have hD := dec_bad hc (.inr (.inr hcc))
        split
        · exact hD
        · have := fb_bad hc hcc
          exact ⟨fun h => absurd h this, fun h => ⟨hD, fb64_err h⟩⟩
    clear hl hz hlt ht1 ht2 ht3 ht5 hl1 hl2 hM
    generalize bstr (trim1 l) = s1 at *
    generalize bstr (bare l) = s2 at *
    generalize bstr ((bare l).map fun x => if x = 43 then 45 else x) = s3 at *
    generalize bstr ((bare l).map other) = s4 at *
    generalize fb64 ((bare l).map other) = F at *
    obtain ⟨f, fe, fp⟩ := F
    dsimp only at H5 HX
    go_enter Tryz.func121, Tryz.ntmps121
    go_wp2_with (first | (go_at_call 147; refine HCA.mono ?_))
    rintro e w1 ⟨⟨b, rfl, hb⟩, hb1⟩
    have HB1 := hide hb1
    have HXB := HX.out b hb
    clear hb hb1 HCA HX
    cases b
    · rw [if_neg (by simp)] at HXB
      have HXB := hide HXB
      go_wp2
      refine wp_loop_rounds 3 ?_
      rw [rounds_succ]
      go_wp2_with fail
      refine (H1.out _).mono ?_
      rintro e w2 ⟨rfl, rfl⟩
      go_wp2
      rw [rounds_succ]
      go_wp2_with fail
      refine (H2.out _).mono ?_
      rintro e w3 ⟨rfl, rfl⟩
      go_wp2
      rw [rounds_succ]
      go_wp2_with fail
      refine (H3.out _ (HM.out.keep HB1.out)).mono ?_
      rintro e w4 ⟨rfl, hb4⟩
      have HB4 := hide (HB1.out.trans (hb4.mono HB1.out.size))
      clear hb4
      go_wp2_with fail
      refine (H4.out _ (HM.out.keep HB4.out)).mono ?_
      rintro e w5 ⟨rfl, hb5⟩
      have HB5 := hide (HB4.out.trans (hb5.mono HB4.out.size))
      clear hb5
      go_wp2_with fail
      refine (H5.out _).mono ?_
      rintro e w6 ⟨ro, rn, rc, rfl, hq⟩
      have HB6 := hide (HB5.out.trans (hq.out.2.2.2.mono HB5.out.size))
      have hcv : (convert 55 9 (.slice ro rn rc)).run Tryz.prog w6 = .ok (.string (bstr f)) w6 := by
        obtain ⟨ao, cap, e, _, hr⟩ := hq.out.2.2.1.read
        have h1 := hq.out.1
        cases e
        exact conv_row _ hr
      clear hq H1 H2 H3 H4 H5
      by_cases he : fe = 0
      · subst he
        have HDE : Hid (D = some f) := HXB.out.1 rfl
        go_wp2
        go_ret2
        exact ⟨by rw [HDE.out]; rfl, HB6.out⟩
      · have HDE : Hid (D = none ∧ f = []) := HXB.out.2 he
        have hei : ((fe : Int) == 0) = false := by simp; omega
        go_wp2
        go_ret2
        exact ⟨by rw [HDE.out.1]; rfl, HB6.out⟩
    · rw [if_pos rfl] at HXB
      have HXB := hide HXB
      go_wp2
      go_ret2
      exact ⟨by rw [HXB.out]; rfl, HB1.out⟩
  · have h4i : ((s.size : Int) % 4 != 0) = true := by simp; omega
    have HDE : Hid (D = none) := by
      show _ = _
      rw [HD.out]
      unfold decT
      rw [if_pos h4]
    go_enter Tryz.func121, Tryz.ntmps121
    go_wp2
    go_ret2
    exact ⟨by rw [HDE.out]; rfl, Below.refl _ _⟩

/-- What a decoded text says: a name and a secret. -/
def nameT (t : List Nat) : Option (List Nat × List Nat) :=
  match un (upTo 58 t) 0, un (t.drop ((upTo 58 t).length + 1)) 0 with
  | .ok a, .ok b => if (upTo 58 t).length < t.length then some (a, b) else none
  | _, _ => none
def basV : Option (List Nat × List Nat) → Value
  | some (a, b) => .tuple #[.string (bstr a), .string (bstr b), .int .i64 0]
  | none => .tuple #[.string { data := #[] }, .string { data := #[] }, .int .i64 113]
def basT (h : List Nat) : Option (List Nat × List Nat) :=
  if 1024 < h.length then none else
    if (decide ((upTo 32 h).length < h.length) && isSch (upTo 32 h)) = true then
      (decT ((h.drop ((upTo 32 h).length + 1)).dropWhile (· == 32))).bind nameT
    else none
theorem unRes_shape (t : List Nat) : ∃ (x : ByteArray) (e p : Nat), unRes (un t 0) = .tuple #[.string x, .int .i64 (e : Int), .int .i64 (p : Int)] ∧ (e = 0 → ∃ a, un t 0 = .ok a ∧ x = bstr a) ∧ (e ≠ 0 → ∃ b, un t 0 = .error b) := by
  cases h : un t 0 with
  | ok a => exact ⟨bstr a, 0, 0, rfl, fun _ => ⟨a, rfl, rfl⟩, fun h => absurd rfl h⟩
  | error b =>
    obtain ⟨e, p⟩ := b
    have := (un_err t.length t 0 e p (Nat.le_refl _) h).1
    exact ⟨_, e, p, rfl, fun h => by omega, fun _ => ⟨_, rfl⟩⟩
set_option maxHeartbeats 1000000 in
set_option maxRecDepth 100000 in
theorem named_any (s : ByteArray) (w : World) (hs : s.size ≤ 65536) (hM : MaxL w) : Calls Tryz.prog 122 #[.string s] w fun e w' => e = .returned (basV (nameT (sbytes s))) ∧ Below w.heap.size w w' := by
  have HC := cutf_any s 58 w (by omega) hM
  rw [show (58 : UInt8).toNat = 58 from rfl] at HC
  have hlt := sbytes_lt s
  have hz := sbytes_length s
  obtain ⟨l, HL⟩ : ∃ l, Hid (l = sbytes s) := ⟨_, hide rfl⟩
  rw [← HL.out] at HC hlt hz ⊢
  have hu : ∀ x ∈ upTo 58 l, x < 256 := fun x hx => hlt x (by rw [upTo_take] at hx; exact List.mem_of_mem_take hx)
  have hd : ∀ x ∈ l.drop ((upTo 58 l).length + 1), x < 256 := fun x hx => hlt x (List.mem_of_mem_drop hx)
  have hul := upTo_le 58 l
  obtain ⟨x, e, p, h1, h1o, h1e⟩ := unRes_shape (upTo 58 l)
  obtain ⟨y, f, q, h2, h2o, h2e⟩ := unRes_shape (l.drop ((upTo 58 l).length + 1))
  have HU1 : Hid (∀ W, Calls Tryz.prog 130 #[.string (bstr (upTo 58 l))] W fun e' w' => e' = .returned (.tuple #[.string x, .int .i64 (e : Int), .int .i64 (p : Int)]) ∧ Below W.heap.size W w') := fun W => by
    have := unescape_any (bstr (upTo 58 l)) W (by rw [bstr_size]; omega); rw [sbytes_bstr hu, h1] at this; exact this
  have HU2 : Hid (∀ W, Calls Tryz.prog 130 #[.string (bstr (l.drop ((upTo 58 l).length + 1)))] W fun e' w' => e' = .returned (.tuple #[.string y, .int .i64 (f : Int), .int .i64 (q : Int)]) ∧ Below W.heap.size W w') := fun W => by
    have := unescape_any (bstr (l.drop ((upTo 58 l).length + 1))) W (by rw [bstr_size, List.length_drop]; omega); rw [sbytes_bstr hd, h2] at this; exact this
  obtain ⟨T, HT⟩ : ∃ T, Hid (T = nameT l) := ⟨_, hide rfl⟩
  rw [← HT.out]
  have HOK : Hid (∀ b : Bool, b = decide ((upTo 58 l).length < l.length) → e = 0 → f = 0 → T = if b = true then some (sbytes x, sbytes y) else none) := by
    intro b hb he hf
    obtain ⟨a1, ha1, rfl⟩ := h1o he
    obtain ⟨a2, ha2, rfl⟩ := h2o hf
    rw [HT.out, hb]
    unfold nameT
    rw [ha1, ha2]
    rw [sbytes_bstr (un_lt _ _ _ _ (Nat.le_refl _) ha1).1, sbytes_bstr (un_lt _ _ _ _ (Nat.le_refl _) ha2).1]
    simp only [decide_eq_true_eq]
  have HBD : Hid (e ≠ 0 ∨ f ≠ 0 → T = none) := by
    intro h
    rw [HT.out]
    unfold nameT
    rcases h with h | h
    · obtain ⟨b, hb⟩ := h1e h
      rw [hb]
    · obtain ⟨b, hb⟩ := h2e h
      rw [hb]
      cases un (upTo 58 l) 0 <;> rfl
  obtain ⟨b, hb⟩ : ∃ b, b = decide ((upTo 58 l).length < l.length) := ⟨_, rfl⟩
  rw [← hb] at HC
  have HOB := hide (HOK.out b hb)
  clear h1 h1o h1e h2 h2o h2e hu hd hlt hul HT HOK hb hz
  generalize bstr (upTo 58 l) = s1 at *
  generalize bstr (l.drop ((upTo 58 l).length + 1)) = s2 at *
  go_enter Tryz.func122, Tryz.ntmps122
  go_wp2_with (first | (go_at_call 109; refine HC.mono ?_))
  rintro e1 w1 ⟨rfl, hb1⟩
  have HB1 := hide hb1
  clear hb1 HC
  go_wp2_with fail
  refine (HU1.out _).mono ?_
  rintro e2 w2 ⟨rfl, hb2⟩
  have HB2 := hide (HB1.out.trans (hb2.mono HB1.out.size))
  clear hb2 HU1
  go_wp2_with fail
  refine (HU2.out _).mono ?_
  rintro e3 w3 ⟨rfl, hb3⟩
  have HB3 := hide (HB2.out.trans (hb3.mono HB2.out.size))
  clear hb3 HU2
  by_cases he : e = 0
  · by_cases hf : f = 0
    · have HTB := hide (HOB.out he hf)
      subst he hf
      cases b
      · have HTE : Hid (T = none) := HTB
        go_wp2
        go_ret3
        exact ⟨by rw [HTE.out]; rfl, HB3.out⟩
      · have HTE : Hid (T = some (sbytes x, sbytes y)) := HTB
        go_wp2
        go_ret3
        exact ⟨by rw [HTE.out]; simp only [basV, bstr_sbytes]; rfl, HB3.out⟩
    · have HTE := hide (HBD.out (.inr hf))
      subst he
      have hfi : ((f : Int) != 0) = true := by simp; omega
      cases b
      all_goals
        go_wp2
        go_ret3
        exact ⟨by rw [HTE.out]; rfl, HB3.out⟩
  · have HTE := hide (HBD.out (.inl he))
    have hei : ((e : Int) != 0) = true := by simp; omega
    cases b
    all_goals
      go_wp2
      go_ret3
      exact ⟨by rw [HTE.out]; rfl, HB3.out⟩
set_option maxHeartbeats 1000000 in
set_option maxRecDepth 100000 in
theorem basic_any (s : ByteArray) (w : World) (hM : MaxL w) : Calls Tryz.prog 101 #[.string s] w fun e w' => e = .returned (basV (basT (sbytes s))) ∧ Below w.heap.size w w' := by
  have hz := sbytes_length s
  obtain ⟨T, HT⟩ : ∃ T, Hid (T = basT (sbytes s)) := ⟨_, hide rfl⟩
  rw [← HT.out]
  by_cases h1 : 1024 < s.size
  · have HTE : Hid (T = none) := by show _ = _; rw [HT.out]; unfold basT; rw [if_pos (by omega)]
    go_enter Tryz.func101, Tryz.ntmps101
    go_wp2
    go_ret3
    exact ⟨by rw [HTE.out]; rfl, Below.refl _ _⟩
  · have HBH := behind_any s w (by omega) hM
    have HM : Hid (MaxL w) := hM
    obtain ⟨b, hb⟩ : ∃ b, b = (decide ((upTo 32 (sbytes s)).length < (sbytes s).length) && isSch (upTo 32 (sbytes s))) := ⟨_, rfl⟩
    obtain ⟨c, hc⟩ : ∃ c, c = ((sbytes s).drop ((upTo 32 (sbytes s)).length + 1)).dropWhile (· == 32) := ⟨_, rfl⟩
    have HTT : Hid (T = if b = true then (decT c).bind nameT else none) := by
      show _ = _
      rw [HT.out]
      unfold basT
      rw [if_neg (by omega), ← hb, ← hc]
    have hc1 : ∀ x ∈ c, x < 256 := by
      intro x hx
      rw [hc] at hx
      exact sbytes_lt s x (List.mem_of_mem_drop ((List.dropWhile_sublist _).mem hx))
    have hc2 : c.length ≤ 1024 := by
      have h3 := (List.dropWhile_sublist (fun x => x == 32) (l := (sbytes s).drop ((upTo 32 (sbytes s)).length + 1))).length_le
      rw [← hc, List.length_drop] at h3
      omega
    rw [← hb, ← hc] at HBH
    have HCM : Hid (∀ W, MaxL W → Calls Tryz.prog 121 #[.string (bstr c)] W fun e w' => e = .returned (decV (decT c)) ∧ Below W.heap.size W w') := fun W hW => by
      have := common_any (bstr c) W (by rw [bstr_size]; omega) hW; rw [sbytes_bstr hc1] at this; exact this
    obtain ⟨D, hD⟩ : ∃ D, D = decT c := ⟨_, rfl⟩
    rw [← hD] at HCM HTT
    have HNM : Hid (∀ t, D = some t → ∀ W, MaxL W → Calls Tryz.prog 122 #[.string (bstr t)] W fun e w' => e = .returned (basV (nameT t)) ∧ Below W.heap.size W w') := fun t ht W hW => by
      have h4 := decT_lt (hD.symm.trans ht)
      have := named_any (bstr t) W (by rw [bstr_size]; omega) hW; rw [sbytes_bstr h4.1] at this; exact this
    clear hb hc hc1 hc2 hD HT hM hz
    generalize bstr c = s1 at *
    go_enter Tryz.func101, Tryz.ntmps101
    go_wp2_with (first | (go_at_call 120; refine HBH.mono ?_))
    rintro e w1 ⟨rfl, hb1⟩
    have HB1 := hide hb1
    clear hb1 HBH
    cases b
    · have HTE : Hid (T = none) := HTT
      go_wp2
      go_ret3
      exact ⟨by rw [HTE.out]; rfl, HB1.out⟩
    · have HTE : Hid (T = D.bind nameT) := HTT
      clear HTT
      go_wp2_with fail
      refine (HCM.out _ (HM.out.keep HB1.out)).mono ?_
      rintro e w2 ⟨rfl, hb2⟩
      have HB2 := hide (HB1.out.trans (hb2.mono HB1.out.size))
      clear hb2 HCM
      unfold decV
      cases D with
      | none =>
        have HTN : Hid (T = none) := HTE
        simp only [Option.isSome_none, Option.getD_none]
        go_wp2
        go_ret3
        exact ⟨by rw [HTN.out]; rfl, HB2.out⟩
      | some t =>
        have HTN : Hid (T = nameT t) := HTE
        have HN := HNM.out t rfl
        clear HNM
        simp only [Option.isSome_some, Option.getD_some]
        rw [← HTN.out] at HN
        generalize bstr t = s2 at *
        go_wp2_with fail
        refine (HN _ (HM.out.keep HB2.out)).mono ?_
        rintro e w3 ⟨rfl, hb3⟩
        have HB3 := hide (HB2.out.trans (hb3.mono HB2.out.size))
        clear hb3 HN
        cases T with
        | none =>
          simp only [basV]
          go_wp2
          go_ret3
          exact ⟨rfl, HB3.out⟩
        | some ab =>
          obtain ⟨a1, a2⟩ := ab
          simp only [basV]
          go_wp2
          go_ret3
          exact ⟨rfl, HB3.out⟩
end Go.Proofs.YtghmabohodnbpaaGreatDoor
