/- The contracts of the document's Letter and put: for every byte; for every text and every list. The contract of the document's put: for every text and every list of the call's own. The contract of the document's Scopes: for every text. The contract of the document's Within: for every two lists. -/
import Derived.Test.YtjehbdekipmllaaGreatDoorXStr
import Derived.BigQuiet
namespace Go.Proofs.YtjehbdekipmllaaGreatDoor
open Go.RowKit

set_option maxHeartbeats 400000 in
set_option maxRecDepth 100000 in
theorem refLetter_any (c : Nat) (w : World) (hc : c < 256) : Calls Tryz.prog 80 #[.int .u8 (c : Int)] w fun e w' => e = .returned (.bool (okB lets c)) ∧ w' = w := by
  rcases (show (0 ≤ c ∧ c ≤ 32) ∨ (c = 33) ∨ (c = 34) ∨ (35 ≤ c ∧ c ≤ 91) ∨ (c = 92) ∨ (93 ≤ c ∧ c ≤ 126) ∨ (127 ≤ c ∧ c ≤ 255) by omega) with h | h | h | h | h | h | h
  · have e : okB lets c = false := by simp [okB, lets, seen]; omega
    rw [e]
    obtain ⟨a1, a2⟩ := h
    go_enter Tryz.func80, Tryz.ntmps80
    go_wp2
    go_ret
    exact ⟨by first | rfl | (simp; omega), rfl⟩
  · subst h
    go_enter Tryz.func80, Tryz.ntmps80
    go_wp2
    go_ret
    exact ⟨rfl, rfl⟩
  · subst h
    go_enter Tryz.func80, Tryz.ntmps80
    go_wp2
    go_ret
    exact ⟨rfl, rfl⟩
  · have e : okB lets c = true := by simp [okB, lets, seen]; omega
    rw [e]
    obtain ⟨a1, a2⟩ := h
    go_enter Tryz.func80, Tryz.ntmps80
    go_wp2
    go_ret
    exact ⟨by first | rfl | (simp; omega), rfl⟩
  · subst h
    go_enter Tryz.func80, Tryz.ntmps80
    go_wp2
    go_ret
    exact ⟨rfl, rfl⟩
  · have e : okB lets c = true := by simp [okB, lets, seen]; omega
    rw [e]
    obtain ⟨a1, a2⟩ := h
    go_enter Tryz.func80, Tryz.ntmps80
    go_wp2
    go_ret
    exact ⟨by first | rfl | (simp; omega), rfl⟩
  · have e : okB lets c = false := by simp [okB, lets, seen]; omega
    rw [e]
    obtain ⟨a1, a2⟩ := h
    go_enter Tryz.func80, Tryz.ntmps80
    go_wp2
    go_ret
    exact ⟨by first | rfl | (simp; omega), rfl⟩
theorem less_eq (x y : List UInt8) : Op.bytesLess x y = decide (x < y) := by
  induction x generalizing y with
  | nil => cases y <;> simp [Op.bytesLess]
  | cons a x ih =>
    cases y with
    | nil => simp [Op.bytesLess]
    | cons b y =>
      rw [Op.bytesLess, ih]
      simp only [List.cons_lt_cons_iff]
      by_cases h1 : a < b <;> by_cases h2 : a = b <;> by_cases h3 : x < y <;> simp [h1, h2, h3]
/-- The list, the text laid ahead of the first that is greater among the first k. -/
def laid (l : List U) (s : U) (k : Nat) : List U := if (l.take k).any (fun x => decide (s < x)) = true then (l.take k).takeWhile (fun x => !decide (s < x)) ++ s :: (l.take k).dropWhile (fun x => !decide (s < x)) else l.take k
def laidAt (l : List U) (s : U) (k : Nat) : Bool := (l.take k).any (fun x => decide (s < x))
theorem take_snocS {l : List U} {k : Nat} {u : U} (h : l[k]? = some u) : l.take (k + 1) = l.take k ++ [u] := by rw [List.take_add_one, h]; rfl
theorem laidAt_snoc {l : List U} {s u : U} {k : Nat} (h : l[k]? = some u) : laidAt l s (k + 1) = (laidAt l s k || decide (s < u)) := by
  unfold laidAt; rw [take_snocS h, List.any_append]; simp
theorem tw_all {p : U → Bool} {l : List U} (h : ∀ x ∈ l, p x = true) : l.takeWhile p = l ∧ l.dropWhile p = [] := by
  induction l with
  | nil => exact ⟨rfl, rfl⟩
  | cons x l ih =>
    have := ih (fun y hy => h y (by simp [hy]))
    have hx := h x (by simp)
    exact ⟨by rw [List.takeWhile_cons, if_pos hx, this.1], by rw [List.dropWhile_cons, if_pos hx, this.2]⟩
theorem tw_append {p : U → Bool} {l : List U} (m : List U) (h : ∃ x ∈ l, p x = false) : (l ++ m).takeWhile p = l.takeWhile p ∧ (l ++ m).dropWhile p = l.dropWhile p ++ m := by
  induction l with
  | nil => obtain ⟨x, hx, _⟩ := h; simp at hx
  | cons x l ih =>
    by_cases hx : p x = true
    · have h2 : ∃ y ∈ l, p y = false := by
        obtain ⟨y, hy, hp⟩ := h
        rcases List.mem_cons.1 hy with rfl | hy
        · rw [hx] at hp; cases hp
        · exact ⟨y, hy, hp⟩
      have := ih h2
      rw [List.cons_append, List.takeWhile_cons, List.takeWhile_cons, List.dropWhile_cons, List.dropWhile_cons, if_pos hx, if_pos hx, if_pos hx, if_pos hx, this.1, this.2]
      exact ⟨rfl, rfl⟩
    · have hx' : p x = false := by simpa using hx
      simp [hx']
theorem laid_after {l : List U} {s u : U} {k : Nat} (h : l[k]? = some u) (hl : laidAt l s k = true) : laid l s (k + 1) = laid l s k ++ [u] := by
  have h1 : laidAt l s (k + 1) = true := by rw [laidAt_snoc h, hl]; rfl
  unfold laidAt at hl h1
  have hex : ∃ x ∈ l.take k, (!decide (s < x)) = false := by
    rw [List.any_eq_true] at hl
    obtain ⟨x, hx, hp⟩ := hl
    exact ⟨x, hx, by rw [hp]; rfl⟩
  unfold laid
  rw [if_pos hl, if_pos h1, take_snocS h, (tw_append [u] hex).1, (tw_append [u] hex).2]
  simp
theorem laid_now {l : List U} {s u : U} {k : Nat} (h : l[k]? = some u) (hl : laidAt l s k = false) (hu : s < u) : laid l s (k + 1) = laid l s k ++ [s] ++ [u] := by
  have h1 : laidAt l s (k + 1) = true := by rw [laidAt_snoc h, hl]; simp [hu]
  unfold laidAt at hl h1
  have hall : ∀ x ∈ l.take k, (!decide (s < x)) = true := by
    intro x hx
    rw [List.any_eq_false] at hl
    have := hl x hx
    simp at this
    simpa using this
  unfold laid
  rw [if_pos h1, if_neg (by rw [hl]; simp), take_snocS h]
  have e1 : (l.take k ++ [u]).takeWhile (fun x => !decide (s < x)) = l.take k := by
    rw [List.takeWhile_append_of_pos hall]; simp [hu]
  have e2 : (l.take k ++ [u]).dropWhile (fun x => !decide (s < x)) = [u] := by
    rw [List.dropWhile_append_of_pos hall]; simp [hu]
  rw [e1, e2]
  simp
theorem laid_not {l : List U} {s u : U} {k : Nat} (h : l[k]? = some u) (hl : laidAt l s k = false) (hu : ¬ s < u) : laid l s (k + 1) = laid l s k ++ [u] ∧ laidAt l s (k + 1) = false := by
  have h1 : laidAt l s (k + 1) = false := by rw [laidAt_snoc h, hl]; simp [hu]
  refine ⟨?_, h1⟩
  unfold laidAt at hl h1
  unfold laid
  rw [if_neg (by rw [h1]; simp), if_neg (by rw [hl]; simp), take_snocS h]
theorem laid_end {l : List U} {s : U} (hs : s ∉ l) : ins l s = if laidAt l s l.length = true then laid l s l.length else laid l s l.length ++ [s] := by
  unfold ins laid laidAt
  rw [if_neg hs, List.take_length]
  by_cases h : l.any (fun x => decide (s < x)) = true
  · rw [if_pos h, if_pos h]
  · rw [if_neg h, if_neg h]
    have h' : l.any (fun x => decide (s < x)) = false := by simpa using h
    have hall : ∀ x ∈ l, (!decide (s < x)) = true := by
      intro x hx
      rw [List.any_eq_false] at h'
      have := h' x hx
      simp at this
      simpa using this
    rw [(tw_all hall).1, (tw_all hall).2]
theorem laid_len (l : List U) (s : U) (k : Nat) : (laid l s k).length ≤ k + 1 := by
  unfold laid
  split
  · have := List.takeWhile_append_dropWhile (p := fun x => !decide (s < x)) (l := l.take k)
    have h2 := congrArg List.length this
    rw [List.length_append, List.length_take] at h2
    rw [List.length_append, List.length_cons]
    omega
  · rw [List.length_take]; omega
end Go.Proofs.YtjehbdekipmllaaGreatDoor
namespace Go.Proofs.YtjehbdekipmllaaGreatDoor
open Go.RowKit

theorem sown_snoc {w : World} {B : Nat} {v : Value} {l : List U} {u : U} (h : w.ownsRow B 9 1 v (l.length + 1) (l.map encStr ++ [encStr u])) : SOwn w B v (l ++ [u]) := by
  unfold SOwn
  rw [List.length_append, List.map_append]
  exact h
theorem ins_len (l : List U) (s : U) : (ins l s).length ≤ l.length + 1 := by
  by_cases hs : s ∈ l
  · unfold ins; rw [if_pos hs]; omega
  · unfold ins
    rw [if_neg hs]
    have := List.takeWhile_append_dropWhile (p := fun x => !decide (s < x)) (l := l)
    have h2 := congrArg List.length this
    rw [List.length_append] at h2
    rw [List.length_append, List.length_cons]
    omega
set_option linter.unusedSimpArgs false in
set_option maxHeartbeats 1600000 in
set_option maxRecDepth 100000 in
theorem refPut_any (B n c : Nat) (ao : Option Addr) (l : List U) (s : U) (w : World) (hn : n = l.length) (hl : n ≤ 1000000) (hB : B ≤ w.heap.size) (hown : SOwn w B (.slice ao n c) l) :
    Calls Tryz.prog 81 #[.slice ao n c, .string ⟨s.toArray⟩] w fun e w' => ∃ v, e = .returned v ∧ Hid (SOwn w' B v (ins l s) ∧ Below w.heap.size w w') := by
  have HN : Hid (n = l.length) := hn
  have HO : Hid (SOwn w B (.slice ao n c) l) := hown
  have HR : Hid (SRow w ao l) := by
    obtain ⟨a, c', e, _, hr, _⟩ := hown.shape
    cases e
    exact hr
  obtain ⟨i0, hi, hz0, hz1, hz2⟩ := info_parts infoStr
  obtain ⟨bs, HBS⟩ : ∃ bs : ByteArray, Hid (bs = ⟨s.toArray⟩) := ⟨_, rfl⟩
  have HSL : Hid (bs.toList = s) := by show _ = _; rw [HBS.out, Lib.toList_data]
  rw [← HBS.out]
  clear hn hown
  go_enter Tryz.func81, Tryz.ntmps81
  go_wp2
  go_loopw [5, 6, 7] (fun v d i wr => ∃ k : Nat, k ≤ n ∧ d = .bool (laidAt l s k) ∧ i = .int .i64 k ∧ Hid (SOwn wr w.heap.size v (laid l s k) ∧ Below w.heap.size w wr) ∧ Hid (∀ j u, j < k → l[j]? = some u → u ≠ s)) (fun _ _ i _ => n - (intOf i).toNat)
  case atStart => exact ⟨0, Nat.zero_le _, rfl, rfl, ⟨sown_nil _ _, Below.refl _ _⟩, fun j u hj => by omega⟩
  case round =>
    obtain ⟨k, hk, rfl, rfl, HI, HK⟩ := hrel
    have hs := HI.out.2.size
    have hll := laid_len l s k
    by_cases hlt : k < n
    · obtain ⟨b, off, rfl⟩ := HR.out.form (by rw [← HN.out]; omega)
      obtain ⟨u, hu⟩ : ∃ u, l[k]? = some u := ⟨_, List.getElem?_eq_getElem (by rw [← HN.out]; exact hlt)⟩
      have HU : Hid (l[k]? = some u) := hu
      obtain ⟨bu, HBU⟩ : ∃ bu : ByteArray, Hid (bu = ⟨u.toArray⟩) := ⟨_, rfl⟩
      have HUL : Hid (bu.toList = u) := by show _ = _; rw [HBU.out, Lib.toList_data]
      have HCW : Hid (∀ W, Below w.heap.size w W → W.cell? ⟨b, off + k, none⟩ = some (.string bu)) := fun W hW => by rw [HBU.out]; exact (HR.out.keep hW).cell HU.out
      have c0 : wr.cell? ⟨b, off + k, none⟩ = some (.string bu) := HCW.out wr HI.out.2
      have HEN : Hid (encStr u = .string bu) := by show _ = _; rw [HBU.out]
      have HES : Hid (encStr s = .string bs) := by show _ = _; rw [HBS.out]
      clear hu
      by_cases he : u = s
      · have hb : (bu.toList == bs.toList) = true := by rw [HUL.out, HSL.out, he]; simp
        have HRS : Hid (ins l s = l) := by
          show _ = _
          unfold ins; rw [if_pos (by rw [← he]; exact List.mem_of_getElem? HU.out)]
        clear HK
        go_wp2
        go_ret
        exact ⟨_, rfl, by rw [HRS.out]; exact HO.out.keep HI.out.2, HI.out.2⟩
      · have hb : (bu.toList == bs.toList) = false := by rw [HUL.out, HSL.out]; simpa using he
        have HK2 : Hid (∀ j v, j < k + 1 → l[j]? = some v → v ≠ s) := fun j v hj hv => by
          by_cases hjk : j < k
          · exact HK.out j v hjk hv
          · rw [show j = k by omega, HU.out] at hv; cases hv; exact he
        cases hd : laidAt l s k with
        | true =>
          have HL2 : Hid (laid l s (k + 1) = laid l s k ++ [u]) := laid_after HU.out hd
          have HD2 : Hid (laidAt l s (k + 1) = true) := by show _ = _; rw [laidAt_snoc HU.out, hd]; rfl
          clear HK hd he
          go_wp2_with (first | (at_builtin; refine wpList_append_own _ rfl (.tmp 35) (.tmp 40) 44 rfl w.heap.size 9 i0 (.string { data := #[] }) 1 16 Tryz.underlying44 hi hz0 hz1 hz2 rfl (by decide) _ (laid l s k).length ((laid l s k).map encStr) rfl (World.ownsRow.alloc HI.out.1 _) ⟨wr.heap.size, 0, none⟩ 1 1 [.string bu] rfl rfl (one_new _ _ (by simp) _ _) (by intro u hu; simp at hu; rcases hu with rfl; rfl) (by unfold maxLen; omega) (by omega) (by simp; omega) ?_) | fail)
          intro v3 w3 hown hgrow hnil
          go_wp2
          have HI3 : Hid (SOwn w3 w.heap.size v3 (laid l s (k + 1)) ∧ Below w.heap.size w w3) := by
            refine ⟨?_, (HI.out.2.alloc hs _).grown hgrow (by simp; omega) HI.out.1.ge⟩
            rw [HL2.out]; refine sown_snoc ?_; rw [HEN.out]; exact hown
          clear hown hgrow hnil
          go_roundw
          case rel => exact ⟨k + 1, by omega, by rw [HD2.out], by go_num, HI3, HK2⟩
          case measure => simp [intOf]; omega
        | false =>
          by_cases hsu : s < u
          · have HL2 : Hid (laid l s (k + 1) = laid l s k ++ [s] ++ [u]) := laid_now HU.out hd hsu
            have HD2 : Hid (laidAt l s (k + 1) = true) := by show _ = _; rw [laidAt_snoc HU.out, hd]; simp [hsu]
            have hless : Op.bytesLess bu.toList bs.toList = false := by
              rw [HUL.out, HSL.out, less_eq, decide_eq_false_iff_not]
              exact fun h => u_irrefl _ (u_trans h hsu)
            clear HK hd he hsu
            go_wp2_with (first | (at_builtin; refine wpList_append_own _ rfl (.tmp 31) (.tmp 33) 44 rfl w.heap.size 9 i0 (.string { data := #[] }) 1 16 Tryz.underlying44 hi hz0 hz1 hz2 rfl (by decide) _ (laid l s k).length ((laid l s k).map encStr) rfl (World.ownsRow.alloc HI.out.1 _) ⟨wr.heap.size, 0, none⟩ 1 1 [.string bs] rfl rfl (one_new _ _ (by simp) _ _) (by intro u hu; simp at hu; rcases hu with rfl; rfl) (by unfold maxLen; omega) (by omega) (by simp; omega) ?_) | fail)
            intro v3 w3 hown hgrow hnil
            obtain ⟨L2, HLE⟩ : ∃ L2, Hid (L2 = laid l s k ++ [s]) := ⟨_, rfl⟩
            have HI3 : Hid (SOwn w3 w.heap.size v3 L2 ∧ Below w.heap.size w w3) := by
              refine ⟨?_, (HI.out.2.alloc hs _).grown hgrow (by simp; omega) HI.out.1.ge⟩
              rw [HLE.out]; refine sown_snoc ?_; rw [HES.out]; exact hown
            have hs3 := HI3.out.2.size
            have c3 : w3.cell? ⟨b, off + k, none⟩ = some (.string bu) := HCW.out w3 HI3.out.2
            have hl3 : L2.length ≤ k + 2 := by rw [HLE.out]; simp; omega
            clear hown hgrow hnil c0
            go_wp2_with (first | (at_builtin; refine wpList_append_own _ rfl (.tmp 35) (.tmp 40) 44 rfl w.heap.size 9 i0 (.string { data := #[] }) 1 16 Tryz.underlying44 hi hz0 hz1 hz2 rfl (by decide) _ (L2).length ((L2).map encStr) rfl (World.ownsRow.alloc HI3.out.1 _) ⟨w3.heap.size, 0, none⟩ 1 1 [.string bu] rfl rfl (one_new _ _ (by simp) _ _) (by intro u hu; simp at hu; rcases hu with rfl; rfl) (by unfold maxLen; omega) (by omega) (by simp; omega) ?_) | fail)
            intro v5 w5 hown hgrow hnil
            go_wp2
            have HI5 : Hid (SOwn w5 w.heap.size v5 (laid l s (k + 1)) ∧ Below w.heap.size w w5) := by
              refine ⟨?_, (HI3.out.2.alloc hs3 _).grown hgrow (by simp; omega) HI3.out.1.ge⟩
              rw [HL2.out, ← HLE.out]; refine sown_snoc ?_; rw [HEN.out]; exact hown
            clear hown hgrow hnil
            go_roundw
            case rel => exact ⟨k + 1, by omega, by rw [HD2.out], by go_num, HI5, HK2⟩
            case measure => simp [intOf]; omega
          · have HL2 : Hid (laid l s (k + 1) = laid l s k ++ [u]) := (laid_not HU.out hd hsu).1
            have HD2 : Hid (laidAt l s (k + 1) = false) := (laid_not HU.out hd hsu).2
            have hless : Op.bytesLess bu.toList bs.toList = true := by
              rw [HUL.out, HSL.out, less_eq, decide_eq_true_eq]
              exact u_total hsu (fun e => he e.symm)
            clear HK hd he hsu
            go_wp2_with (first | (at_builtin; refine wpList_append_own _ rfl (.tmp 35) (.tmp 40) 44 rfl w.heap.size 9 i0 (.string { data := #[] }) 1 16 Tryz.underlying44 hi hz0 hz1 hz2 rfl (by decide) _ (laid l s k).length ((laid l s k).map encStr) rfl (World.ownsRow.alloc HI.out.1 _) ⟨wr.heap.size, 0, none⟩ 1 1 [.string bu] rfl rfl (one_new _ _ (by simp) _ _) (by intro u hu; simp at hu; rcases hu with rfl; rfl) (by unfold maxLen; omega) (by omega) (by simp; omega) ?_) | fail)
            intro v3 w3 hown hgrow hnil
            go_wp2
            have HI3 : Hid (SOwn w3 w.heap.size v3 (laid l s (k + 1)) ∧ Below w.heap.size w w3) := by
              refine ⟨?_, (HI.out.2.alloc hs _).grown hgrow (by simp; omega) HI.out.1.ge⟩
              rw [HL2.out]; refine sown_snoc ?_; rw [HEN.out]; exact hown
            clear hown hgrow hnil
            go_roundw
            case rel => exact ⟨k + 1, by omega, by rw [HD2.out], by go_num, HI3, HK2⟩
            case measure => simp [intOf]; omega
    · obtain rfl : k = n := by omega
      have hns : s ∉ l := fun hm => by
        obtain ⟨j, hj, e⟩ := List.getElem_of_mem hm
        exact HK.out j s (by rw [← HN.out] at hj; exact hj) (by rw [List.getElem?_eq_getElem hj, e]) rfl
      have HIN : Hid (ins l s = if laidAt l s k = true then laid l s k else laid l s k ++ [s]) := by show _ = _; rw [laid_end hns, HN.out]
      have HES : Hid (encStr s = .string bs) := by show _ = _; rw [HBS.out]
      clear HK hns
      cases hd : laidAt l s k with
      | true =>
        have HR2 : Hid (ins l s = laid l s k) := by show _ = _; rw [HIN.out, if_pos hd]
        clear hd
        go_wp2
        go_ret
        exact ⟨_, rfl, by rw [HR2.out]; exact HI.out.1.lower hB, HI.out.2⟩
      | false =>
        have HR2 : Hid (ins l s = laid l s k ++ [s]) := by show _ = _; rw [HIN.out, if_neg (by rw [hd]; simp)]
        clear hd
        go_wp2_with (first | (at_builtin; refine wpList_append_own _ rfl (.tmp 44) (.tmp 46) 44 rfl w.heap.size 9 i0 (.string { data := #[] }) 1 16 Tryz.underlying44 hi hz0 hz1 hz2 rfl (by decide) _ (laid l s k).length ((laid l s k).map encStr) rfl (World.ownsRow.alloc HI.out.1 _) ⟨wr.heap.size, 0, none⟩ 1 1 [.string bs] rfl rfl (one_new _ _ (by simp) _ _) (by intro u hu; simp at hu; rcases hu with rfl; rfl) (by unfold maxLen; omega) (by omega) (by simp; omega) ?_) | fail)
        intro v3 w3 hown hgrow hnil
        have HI3 : Hid (SOwn w3 w.heap.size v3 (laid l s k ++ [s]) ∧ Below w.heap.size w w3) := by
          refine ⟨?_, (HI.out.2.alloc hs _).grown hgrow (by simp; omega) HI.out.1.ge⟩
          refine sown_snoc ?_; rw [HES.out]; exact hown
        clear hown hgrow hnil
        go_wp2
        go_ret
        exact ⟨_, rfl, by rw [HR2.out]; exact HI3.out.1.lower hB, HI3.out.2⟩
end Go.Proofs.YtjehbdekipmllaaGreatDoor
namespace Go.Proofs.YtjehbdekipmllaaGreatDoor
open Go.RowKit

theorem str_midU (s : ByteArray) (a b : Nat) (i j : Int) (hi : i = (a : Int)) (hj : j = (b : Int)) (hab : a ≤ b) (hb : b ≤ s.size) (w : World) : (Instr.slice 9 (.string s) (some (.int .i64 i)) (some (.int .i64 j)) none).run Tryz.prog w = .ok (.string ⟨((s.data.toList.take b).drop a).toArray⟩) w := by
  rw [str_mid s a b i j hi hj hab hb w]
  congr 2
  unfold bstr sbytes
  rw [← List.map_take, ← List.map_drop, ofNat_toNat]
theorem str_indexU (s : ByteArray) (k : Nat) (c : UInt8) (hc : s.data.toList[k]? = some c) (w : World) : (Instr.index 9 (.string s) (.int .i64 (k : Int))).run Tryz.prog w = .ok (.int .u8 ((c.toNat : Nat) : Int)) w := by
  have hk : k < s.size := by
    have := (List.getElem?_eq_some_iff.1 hc).1
    simpa using this
  rw [str_index s k hk w]
  simp [sbytes, List.getD, hc]
theorem scan_start {t : U} (h0 : t ≠ []) (hb : ¬ 256 < t.length) : scoOut t = match scan t [] [] with
    | none => ([], 33)
    | some u => if 32 < u.length then ([], 32) else (u, 0) := by
  obtain ⟨h, r, e⟩ := cutAll_ne t
  rw [scan_all t [] h r [] rfl e, List.nil_append, ← e]
  unfold scoOut
  rw [if_neg hb, if_neg h0]
  by_cases ha : (cutAll t).all isSc = true
  · rw [if_pos ha, if_pos ha]
  · rw [if_neg ha, if_neg ha]
theorem mid_snoc {t : U} {f k : Nat} {c : UInt8} (hf : f ≤ k) (hc : t[k]? = some c) : (t.take (k + 1)).drop f = (t.take k).drop f ++ [c] := by
  have hk := (List.getElem?_eq_some_iff.1 hc).1
  rw [List.take_add_one, hc, List.drop_append_of_le_length (by rw [List.length_take]; omega)]
  rfl
theorem dropU {t : U} {k : Nat} {c : UInt8} (hc : t[k]? = some c) : t.drop k = c :: t.drop (k + 1) := by
  obtain ⟨hk, e⟩ := List.getElem?_eq_some_iff.1 hc
  rw [List.drop_eq_getElem_cons hk, e]

set_option linter.unusedSimpArgs false in
set_option maxHeartbeats 1600000 in
set_option maxRecDepth 100000 in
theorem refScopes_any (s : ByteArray) (w : World) (hsz : s.size ≤ 9223372036854775807) :
    Calls Tryz.prog 55 #[.string s] w fun e w' => ∃ v, e = .returned (.tuple #[v, .int .i64 ((scoOut s.data.toList).2 : Nat)]) ∧ Hid (SOwn w' w.heap.size v (scoOut s.data.toList).1 ∧ Below w.heap.size w w') := by
  obtain ⟨t, ht⟩ : ∃ t, t = s.data.toList := ⟨_, rfl⟩
  have hst : s = ⟨t.toArray⟩ := by rw [ht]
  have htl : s.size = t.length := by rw [hst]; exact u_size t
  rw [← ht]
  have HT : Hid (t = s.data.toList) := ht
  obtain ⟨n, hn⟩ : ∃ n, n = t.length := ⟨_, rfl⟩
  have HN : Hid (n = t.length) := hn
  have hlen : (s.size : Int) = (n : Int) := by rw [htl, hn]
  have HSN : Hid (s.size = n) := by show _ = _; rw [htl, hn]
  rw [htl, ← hn] at hsz
  clear hn ht htl
  by_cases hbig : 256 < n
  · have hbi : (256 : Int) < (n : Int) := by omega
    have HR : Hid (scoOut t = ([], 1)) := by show _ = _; unfold scoOut; rw [if_pos (by rw [← HN.out]; exact hbig)]
    rw [HR.out]
    clear hst
    go_enter Tryz.func55, Tryz.ntmps55
    go_wp2
    go_ret2
    exact ⟨.slice none 0 0, rfl, sown_nil _ _, Below.refl _ _⟩
  · have hbi : (n : Int) ≤ 256 := by omega
    by_cases h0 : t = []
    · have HR : Hid (scoOut t = ([], 0)) := by show _ = _; unfold scoOut; rw [if_neg (by rw [← HN.out]; exact hbig), if_pos h0]
      rw [HR.out]
      subst h0
      have hse : s = { data := #[] } := hst
      subst hse
      go_enter Tryz.func55, Tryz.ntmps55
      go_wp2
      go_ret2
      exact ⟨.slice none 0 0, rfl, sown_nil _ _, Below.refl _ _⟩
    · have hpe : (s.toList == ([] : List UInt8)) = false := by rw [hst]; exact u_nil h0
      obtain ⟨R, HRR⟩ : ∃ R, Hid (R = scan t [] []) := ⟨_, rfl⟩
      obtain ⟨O, HO⟩ : ∃ O, Hid (O = scoOut t) := ⟨_, rfl⟩
      have HON : Hid (R = none → O = ([], 33)) := fun h => by rw [HO.out, scan_start h0 (by rw [← HN.out]; exact hbig), ← HRR.out, h]
      have HOS : Hid (∀ u, R = some u → O = if 32 < u.length then ([], 32) else (u, 0)) := fun u h => by rw [HO.out, scan_start h0 (by rw [← HN.out]; exact hbig), ← HRR.out, h]
      rw [← HO.out]
      clear hst h0
      go_enter Tryz.func55, Tryz.ntmps55
      go_wp2
      go_loopw [4, 5, 6] (fun v fr i wr => ∃ (k f : Nat) (acc : List U), (k ≤ n + 1 ∧ f ≤ k ∧ acc.length ≤ k) ∧ fr = .int .i64 f ∧ i = .int .i64 k ∧ Hid (SOwn wr w.heap.size v acc ∧ Below w.heap.size w wr) ∧ Hid (k ≤ n → R = scan (t.drop k) ((t.take k).drop f) acc) ∧ Hid (k = n + 1 → R = some acc)) (fun _ _ i _ => n + 1 - (intOf i).toNat)
      case atStart => exact ⟨0, 0, [], ⟨by omega, by omega, by simp⟩, rfl, rfl, ⟨sown_nil _ _, Below.refl _ _⟩, fun _ => by rw [HRR.out]; simp, fun h => by omega⟩
      case round =>
        obtain ⟨k, f, acc, ⟨hk, hfk, hacc⟩, rfl, rfl, HI, HD, HE⟩ := hrel
        have hs := HI.out.2.size
        obtain ⟨ao, cap, hv, hcap, _, _⟩ := HI.out.1.shape
        obtain ⟨m, hm⟩ : ∃ m, m = acc.length := ⟨_, rfl⟩
        rw [← hm] at hv hcap hacc
        have HV : Hid (m = acc.length) := hm
        subst hv
        clear hm
        by_cases hle : k ≤ n
        · by_cases hgo : ∃ c : UInt8, t[k]? = some c ∧ c ≠ 32
          · obtain ⟨c, hc, hc32⟩ := hgo
            have hlt : k < n := by have := (List.getElem?_eq_some_iff.1 hc).1; rw [HN.out]; exact this
            have hix := str_indexU s k c (by rw [← HT.out]; exact hc)
            have hne : (((c.toNat : Nat) : Int) != 32) = true := by
              rw [bne_iff_ne]
              intro h
              apply hc32
              apply UInt8.toNat_inj.1
              have : c.toNat = 32 := by omega
              exact this
            have hcl := c.toNat_lt
            have HSC : Hid (R = if letter c = true then scan (t.drop (k + 1)) ((t.take (k + 1)).drop f) acc else none) := by
              show _ = _
              rw [HD.out hle, dropU hc, scan, if_neg hc32, mid_snoc hfk hc]
            have HLT : Hid (okB lets c.toNat = letter c) := okB_letter c
            clear hc hc32 HD
            generalize c.toNat = x at *
            go_wp2_with fail
            refine (refLetter_any x wr hcl).mono ?_
            rintro e w3 ⟨rfl, rfl⟩
            rw [HLT.out]
            cases hlc : letter c with
            | true =>
              have HD2 : Hid (k + 1 ≤ n → R = scan (t.drop (k + 1)) ((t.take (k + 1)).drop f) acc) := fun _ => by rw [HSC.out, if_pos hlc]
              have HE2 : Hid (k + 1 = n + 1 → R = some acc) := fun h => by omega
              clear HSC HE hlc
              go_wp2
              go_roundw
              case rel => exact ⟨k + 1, f, acc, ⟨by omega, by omega, by rw [← HV.out]; omega⟩, rfl, by go_num, HI, HD2, HE2⟩
              case measure => simp [intOf]; omega
            | false =>
              have HF : Hid (O = ([], 33)) := HON.out (by rw [HSC.out, if_neg (by rw [hlc]; simp)])
              clear HSC HE hlc
              go_wp2
              go_ret2
              exact ⟨.slice none 0 0, by rw [HF.out]; rfl, by rw [HF.out]; exact sown_nil _ _, HI.out.2⟩
          · have hend : k = n ∨ t[k]? = some 32 := by
              by_cases h : k < n
              · right
                obtain ⟨c, hc⟩ : ∃ c, t[k]? = some c := ⟨_, List.getElem?_eq_getElem (by rw [← HN.out]; exact h)⟩
                by_cases h2 : c = 32
                · rw [hc, h2]
                · exact absurd ⟨c, hc, h2⟩ hgo
              · left; omega
            have hguard : n ≤ k ∨ (k < n ∧ ∀ w, (Instr.index 9 (.string s) (.int .i64 (k : Int))).run Tryz.prog w = .ok (.int .u8 32) w) := by
              by_cases h : k < n
              · right
                refine ⟨h, fun w => ?_⟩
                rcases hend with h2 | h2
                · omega
                · exact str_indexU s k 32 (by rw [← HT.out]; exact h2) w
              · left; omega
            obtain ⟨cur, HCU⟩ : ∃ cur, Hid (cur = (t.take k).drop f) := ⟨_, rfl⟩
            have HCL : Hid (cur.length = k - f) := by show _ = _; rw [HCU.out, List.length_drop, List.length_take]; have := HN.out; omega
            have HSC : Hid (R = if cur = [] then none else if k = n then some (ins acc cur) else scan (t.drop (k + 1)) [] (ins acc cur)) := by
              show _ = _
              rw [HD.out hle, ← HCU.out]
              by_cases h : k = n
              · rw [List.drop_eq_nil_of_le (by rw [← HN.out]; omega), scan, if_pos h]
              · rcases hend with h2 | h2
                · exact absurd h2 h
                · rw [dropU h2, scan, if_pos rfl, if_neg h]
            clear HD hgo hend
            by_cases hfl : f < k
            · have hcne : cur ≠ [] := fun e => by have := HCL.out; rw [e] at this; simp at this; omega
              have hkf : ((k : Int) == (f : Int)) = false := by rw [beq_eq_false_iff_ne]; omega
              have hsl := str_midU s f k (f : Int) (k : Int) rfl rfl hfk (by rw [HSN.out]; exact hle)
              rw [← HT.out, ← HCU.out] at hsl
              have HD2 : Hid (k + 1 ≤ n → R = scan (t.drop (k + 1)) ((t.take (k + 1)).drop (k + 1)) (ins acc cur)) := fun h => by
                rw [HSC.out, if_neg hcne, if_neg (by omega), show (t.take (k + 1)).drop (k + 1) = [] from List.drop_eq_nil_of_le (by rw [List.length_take]; omega)]
              have HE2 : Hid (k + 1 = n + 1 → R = some (ins acc cur)) := fun h => by rw [HSC.out, if_neg hcne, if_pos (by omega)]
              have hil := ins_len acc cur
              rw [← HV.out] at hil
              clear HSC HE hcne
              rcases hguard with hg | ⟨hg, hix⟩
              all_goals
                go_wp2_with fail
                refine (refPut_any w.heap.size m cap ao acc cur wr HV.out (by omega) hs HI.out.1).mono ?_
                rintro e w3 ⟨v3, rfl, h3⟩
                have HI3 : Hid (SOwn w3 w.heap.size v3 (ins acc cur) ∧ Below w.heap.size w w3) := ⟨h3.out.1, HI.out.2.trans (h3.out.2.mono hs)⟩
                clear h3
                go_wp2
                go_roundw
                case rel => exact ⟨k + 1, k + 1, ins acc cur, ⟨by omega, by omega, by omega⟩, by go_num, by go_num, HI3, HD2, HE2⟩
                case measure => simp [intOf]; omega
            · obtain rfl : f = k := by omega
              have HF : Hid (O = ([], 33)) := HON.out (by
                rw [HSC.out, if_pos]
                exact List.length_eq_zero_iff.1 (by rw [HCL.out]; omega))
              clear HSC HE
              rcases hguard with hg | ⟨hg, hix⟩
              all_goals
                go_wp2
                go_ret2
                exact ⟨.slice none 0 0, by rw [HF.out]; rfl, by rw [HF.out]; exact sown_nil _ _, HI.out.2⟩
        · have HOF : Hid (O = if 32 < m then ([], 32) else (acc, 0)) := by
            show _ = _
            rw [HV.out]
            exact HOS.out acc (HE.out (by omega))
          clear HD HE
          by_cases h32 : 32 < m
          · have HF : Hid (O = ([], 32)) := by show _ = _; rw [HOF.out, if_pos h32]
            have h32i : (32 : Int) < (m : Int) := by omega
            go_wp2
            go_ret2
            exact ⟨.slice none 0 0, by rw [HF.out]; rfl, by rw [HF.out]; exact sown_nil _ _, HI.out.2⟩
          · have HF : Hid (O = (acc, 0)) := by show _ = _; rw [HOF.out, if_neg h32]
            have h32i : (m : Int) ≤ 32 := by omega
            go_wp2
            go_ret2
            exact ⟨.slice ao m cap, by rw [HF.out]; rfl, by rw [HF.out]; exact HI.out.1, HI.out.2⟩
end Go.Proofs.YtjehbdekipmllaaGreatDoor
namespace Go.Proofs.YtjehbdekipmllaaGreatDoor
open Go.RowKit

def hasB (u : U) (all : List U) (k : Nat) : Bool := decide (u ∈ all.take k)
theorem hasB_step {u v : U} {all : List U} {k : Nat} (h : all[k]? = some v) : hasB u all (k + 1) = (hasB u all k || decide (v = u)) := by
  unfold hasB
  rw [Bool.eq_iff_iff, decide_eq_true_eq, List.take_add_one, h, Bool.or_eq_true, decide_eq_true_eq, decide_eq_true_eq]
  simp [eq_comm]
theorem u_beq (u v : U) : ((⟨v.toArray⟩ : ByteArray).toList == (⟨u.toArray⟩ : ByteArray).toList) = decide (v = u) := by
  rw [Lib.toList_data, Lib.toList_data, Bool.eq_iff_iff]
  simp

set_option maxHeartbeats 1000000 in
set_option maxRecDepth 100000 in
theorem refWithin_any (n m c d : Nat) (ao bo : Option Addr) (l all : List U) (w : World) (hn : n = l.length) (hm : m = all.length) (hl : n ≤ 140737488355328) (hl2 : m ≤ 140737488355328) (hx : SRow w ao l) (hy : SRow w bo all) :
    Calls Tryz.prog 52 #[.slice ao n c, .slice bo m d] w fun e w' => e = .returned (.bool (withinB l all)) ∧ ∃ k, w' = w.drewN k := by
  have HN : Hid (n = l.length) := hn
  have HM : Hid (m = all.length) := hm
  have HX : Hid (SRow w ao l) := hx
  have HY : Hid (SRow w bo all) := hy
  clear hx hy hn hm
  go_enter Tryz.func52, Tryz.ntmps52
  go_wp2
  go_loopw [5] (fun i wr => ∃ k : Nat, k ≤ n ∧ i = .int .i64 (k : Int) ∧ Hid (∀ u ∈ l.take k, u ∈ all) ∧ ∃ q, wr = w.drewN q) (fun i _ => n - (intOf i).toNat)
  case atStart => exact ⟨0, Nat.zero_le _, rfl, by intro u hu; simp at hu, 0, rfl⟩
  case round =>
    obtain ⟨k, hk, rfl, HA, q, rfl⟩ := hrel
    by_cases hlt : k < n
    · obtain ⟨b, off, rfl⟩ := HX.out.form (by rw [← HN.out]; omega)
      obtain ⟨u, hu⟩ : ∃ u, l[k]? = some u := ⟨_, List.getElem?_eq_getElem (by rw [← HN.out]; exact hlt)⟩
      have c0 : w.cell? ⟨b, off + k, none⟩ = some (.string ⟨u.toArray⟩) := HX.out.cell hu
      have HU : Hid (l[k]? = some u) := hu
      clear hu
      have li : (k : Int) < (n : Int) := by omega
      go_wp2
      go_loopw [6, 7] (fun h i wr => ∃ j : Nat, j ≤ m ∧ i = .int .i64 (j : Int) ∧ h = .bool (hasB u all j) ∧ ∃ q, wr = w.drewN q) (fun _ i _ => m - (intOf i).toNat)
      case atStart => exact ⟨0, Nat.zero_le _, rfl, rfl, q, rfl⟩
      case round =>
        obtain ⟨j, hj, rfl, rfl, q, rfl⟩ := hrel
        by_cases hjt : j < m
        · obtain ⟨b', off', rfl⟩ := HY.out.form (by rw [← HM.out]; omega)
          obtain ⟨v, hv⟩ : ∃ v, all[j]? = some v := ⟨_, List.getElem?_eq_getElem (by rw [← HM.out]; exact hjt)⟩
          have c1 : w.cell? ⟨b', off' + j, none⟩ = some (.string ⟨v.toArray⟩) := HY.out.cell hv
          have HS : Hid (hasB u all (j + 1) = (hasB u all j || decide (v = u))) := hasB_step hv
          have HE := hide (u_beq u v)
          clear hv
          have lj : (j : Int) < (m : Int) := by omega
          generalize (⟨u.toArray⟩ : ByteArray) = su at *
          generalize (⟨v.toArray⟩ : ByteArray) = sv at *
          cases hh : hasB u all j with
          | true =>
            have HS2 : Hid (hasB u all (j + 1) = true) := by show _ = _; rw [HS.out, hh]; rfl
            clear HS hh
            go_wp2
            go_quiet (fail)
            go_wp2
            go_roundw
            case rel => exact ⟨j + 1, by omega, by go_num, by rw [HS2.out], q + nq, by simp [World.drewN]⟩
            case measure => simp [intOf]; omega
          | false =>
            have HS2 : Hid (hasB u all (j + 1) = decide (v = u)) := by show _ = _; rw [HS.out, hh]; rfl
            clear HS hh
            by_cases hvu : v = u
            · have hbe : (sv.toList == su.toList) = true := by rw [HE.out, decide_eq_true hvu]
              have HS3 : Hid (hasB u all (j + 1) = true) := by show _ = _; rw [HS2.out, decide_eq_true hvu]
              clear hvu HE HS2
              go_wp2
              go_quiet (fail)
              go_wp2
              go_roundw
              case rel => exact ⟨j + 1, by omega, by go_num, by rw [HS3.out], q + nq, by simp [World.drewN]⟩
              case measure => simp [intOf]; omega
            · have hbe : (sv.toList == su.toList) = false := by rw [HE.out, decide_eq_false hvu]
              have HS3 : Hid (hasB u all (j + 1) = false) := by show _ = _; rw [HS2.out, decide_eq_false hvu]
              clear hvu HE HS2
              go_wp2
              go_quiet (fail)
              go_wp2
              go_roundw
              case rel => exact ⟨j + 1, by omega, by go_num, by rw [HS3.out], q + nq, by simp [World.drewN]⟩
              case measure => simp [intOf]; omega
        · have HT : Hid (hasB u all j = decide (u ∈ all)) := by
            show _ = _
            unfold hasB
            rw [List.take_of_length_le (by rw [← HM.out]; omega)]
          rw [HT.out]
          by_cases hmem : u ∈ all
          · rw [decide_eq_true hmem]
            have HMM : Hid (u ∈ all) := hmem
            clear hmem HT
            go_wp2
            go_roundw
            case rel => exact ⟨k + 1, by omega, by go_num, withinB_step HA.out HU.out HMM.out, q, rfl⟩
            case measure => simp [intOf]; omega
          · rw [decide_eq_false hmem]
            have HMM : Hid (u ∉ all) := hmem
            clear hmem HT
            go_wp2
            go_ret
            refine ⟨?_, q, rfl⟩
            have : withinB l all = false := by
              unfold withinB
              rw [decide_eq_false_iff_not]
              intro h
              exact HMM.out (h u (List.mem_of_getElem? HU.out))
            rw [this]; rfl
    · have HT : Hid (withinB l all = true) := by
        show _ = _
        unfold withinB
        rw [decide_eq_true_eq]
        have := HA.out
        rw [List.take_of_length_le (by rw [← HN.out]; omega)] at this
        exact this
      go_wp2
      go_ret
      exact ⟨by rw [HT.out]; rfl, q, rfl⟩
end Go.Proofs.YtjehbdekipmllaaGreatDoor
