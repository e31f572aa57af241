/- Messages: what is printed reads back. -/
import Derived.Test.YtaenccjlokiejaaGreatDoorHMsg
import Derived.Test.YtaenccjlokiejaaGreatDoorHWr
import Derived.Test.YtaenccjlokiejaaGreatDoorHReq
namespace Go.Proofs.YtaenccjlokiejaaGreatDoor
open Go.RowKit

def lowF (f : Fl) : Fl := (lows f.1, f.2)
theorem namB_facts {c : UInt8} (h : namB c = true) : namB (lo c) = true ∧ lo (lo c) = lo c ∧ (lo c).toNat ≠ 13 ∧ (lo c).toNat ≠ 58 ∧ (lo c).toNat ≠ 10 := by
  by_cases hc : capB c = true
  · have e := lo_cap hc
    have hb : 65 ≤ c.toNat ∧ c.toNat ≤ 90 := by simpa [capB] using hc
    have hn : capB (lo c) = false := by simp [capB, e]; omega
    refine ⟨?_, lo_not hn, by omega, by omega, by omega⟩
    simp [namB, e]
    omega
  · have hc' : capB c = false := Bool.eq_false_iff.2 hc
    rw [lo_not hc', lo_not hc']
    refine ⟨h, rfl, ?_⟩
    simp only [namB, hc', digB, Bool.or_false, Bool.or_eq_true, Bool.and_eq_true, decide_eq_true_eq] at h
    omega
theorem lows_lows {l : U} (h : l.all namB = true) : lows (lows l) = lows l := by
  unfold lows
  rw [List.map_map]
  refine List.map_congr_left fun c hc => ?_
  exact (namB_facts (List.all_eq_true.1 h c hc)).2.1
theorem name_all {l : U} (h : nameB l = true) : l.all namB = true ∧ 1 ≤ l.length ∧ l.length ≤ 64 := by
  unfold nameB at h
  simp only [Bool.and_eq_true, decide_eq_true_eq] at h
  exact ⟨h.2, h.1.1, h.1.2⟩
theorem name_lows {l : U} (h : nameB l = true) : nameB (lows l) = true := by
  obtain ⟨h1, h2, h3⟩ := name_all h
  unfold nameB
  rw [lows_len]
  have : (lows l).all namB = true := by
    rw [List.all_eq_true]
    intro c hc
    obtain ⟨d, hd, rfl⟩ := List.mem_map.1 hc
    exact (namB_facts (List.all_eq_true.1 h1 d hd)).1
  rw [this]
  simp [h2, h3]
theorem val_all {l : U} (h : valueB l = true) : l.all priB = true ∧ edgeB l = true ∧ l.length ≤ 4096 := by
  unfold valueB at h
  simp only [Bool.and_eq_true, decide_eq_true_eq] at h
  exact ⟨h.2, h.1.2, h.1.1⟩
theorem priB_nat {c : UInt8} (h : priB c = true) : 32 ≤ c.toNat ∧ c.toNat ≤ 126 := by simpa [priB] using h
/-- A text of no line's end, cut at one. -/
theorem cutR_line : ∀ (a r : U), (∀ c ∈ a, c.toNat ≠ 13) → cutR (a ++ 13 :: 10 :: r) = some (a, r)
  | [], r, _ => by simp [cutR]
  | [c], r, h => by
    have hc : c ≠ 13 := fun e => h c (by simp) (by rw [e]; rfl)
    simp [cutR, hc]
  | c :: d :: a, r, h => by
    have hc : c ≠ 13 := fun e => h c (by simp) (by rw [e]; rfl)
    have ih := cutR_line (d :: a) r (fun x hx => h x (by simp [hx]))
    rw [List.cons_append, List.cons_append, cutR, if_neg (fun e => hc e.1)]
    rw [List.cons_append] at ih
    rw [ih]
    rfl
/-- A field's line without its end. -/
def lineF (f : Fl) : U := lows f.1 ++ [58] ++ (if f.2 = [] then [] else 32 :: f.2)
theorem fieldT_line (f : Fl) : fieldT f = lineF f ++ [13, 10] := rfl
theorem lineF_no13 {f : Fl} (hn : nameB f.1 = true) (hv : valueB f.2 = true) : ∀ c ∈ lineF f, c.toNat ≠ 13 := by
  obtain ⟨h1, _, _⟩ := name_all hn
  obtain ⟨h2, _, _⟩ := val_all hv
  intro c hc
  unfold lineF at hc
  rw [List.mem_append, List.mem_append] at hc
  rcases hc with (hc | hc) | hc
  · obtain ⟨d, hd, rfl⟩ := List.mem_map.1 hc
    exact (namB_facts (List.all_eq_true.1 h1 d hd)).2.2.1
  · simp at hc; subst hc; decide
  · split at hc
    · cases hc
    · rcases List.mem_cons.1 hc with rfl | hc
      · decide
      · have := priB_nat (List.all_eq_true.1 h2 c hc); omega
theorem tw_colon {a b : U} (h : ∀ c ∈ a, c.toNat ≠ 58) : (a ++ 58 :: b).takeWhile (· != 58) = a := by
  rw [List.takeWhile_append_of_pos (fun c hc => by
    simp only [bne_iff_ne]
    exact fun e => h c hc (by rw [e]; rfl))]
  simp
theorem trimW_val {v : U} (h : valueB v = true) : trimW (if v = [] then [] else 32 :: v) = v := by
  obtain ⟨h1, h2, _⟩ := val_all h
  by_cases hv : v = []
  · rw [if_pos hv, hv]; rfl
  · rw [if_neg hv]
    have hself : Lib.trimS v [32, 9] = v := by
      rw [trim_self]
      unfold edgeB at h2
      simp only [hv, decide_false, Bool.false_or, Bool.and_eq_true, decide_eq_true_eq] at h2
      have k : ∀ a : UInt8, a ∈ v → a ≠ 32 → ([32, 9] : U).contains a = false := by
        intro a ha hne
        have hp := priB_nat (List.all_eq_true.1 h1 a ha)
        have h9 : a ≠ 9 := fun e => by rw [e] at hp; have : (9 : UInt8).toNat = 9 := rfl; omega
        simp [hne, h9]
      refine ⟨fun a ha => ?_, fun a ha => ?_⟩
      · exact k a (List.mem_of_head? ha) (fun e => h2.1 (by rw [ha, e]))
      · exact k a (List.mem_of_getLast? ha) (fun e => h2.2 (by rw [ha, e]))
    have hr : Lib.trimRightS (32 :: v) [32, 9] = 32 :: v := by
      unfold Lib.trimRightS
      rw [(dw_self _ _).2, List.reverse_reverse]
      intro a ha
      rw [List.head?_reverse] at ha
      have : (32 :: v).getLast? = v.getLast? := by cases v with | nil => exact absurd rfl hv | cons => simp
      rw [this] at ha
      exact ((trim_self v [32, 9]).1 hself).2 a ha
    have hl : Lib.trimLeftS v [32, 9] = v := (dw_self _ _).2 ((trim_self v [32, 9]).1 hself).1
    unfold trimW Lib.trimS
    rw [hr]
    show Lib.trimLeftS (32 :: v) [32, 9] = v
    unfold Lib.trimLeftS at hl ⊢
    rw [List.dropWhile_cons, if_pos (by decide)]
    exact hl
theorem fieldR_line {f : Fl} (hn : nameB f.1 = true) (hv : valueB f.2 = true) : fieldR (lineF f) = some (lowF f) := by
  obtain ⟨h1, h1a, _⟩ := name_all hn
  have hc : ∀ c ∈ lows f.1, c.toNat ≠ 58 := by
    intro c hc
    obtain ⟨d, hd, rfl⟩ := List.mem_map.1 hc
    exact (namB_facts (List.all_eq_true.1 h1 d hd)).2.2.2.1
  have e : lineF f = lows f.1 ++ 58 :: (if f.2 = [] then [] else 32 :: f.2) := by unfold lineF; simp
  have htw : (lineF f).takeWhile (· != 58) = lows f.1 := by rw [e]; exact tw_colon hc
  have hdr : (lineF f).drop ((lows f.1).length + 1) = (if f.2 = [] then [] else 32 :: f.2) := by
    rw [e, show lows f.1 ++ 58 :: (if f.2 = [] then [] else 32 :: f.2) = (lows f.1 ++ [58]) ++ (if f.2 = [] then [] else 32 :: f.2) by simp]
    rw [show (lows f.1).length + 1 = (lows f.1 ++ [58]).length by simp, List.drop_left]
  unfold fieldR
  rw [htw, hdr, trimW_val hv]
  rw [if_neg (by rw [e]; simp), if_pos ⟨name_lows hn, hv⟩]
  rw [lows_lows h1]
  rfl
theorem line_ne {f : Fl} : lineF f ≠ [] := by unfold lineF; simp
theorem mayB_facts {f : Fl} (h : mayB f = true) : nameB f.1 = true ∧ valueB f.2 = true ∧ lows f.1 ≠ clN ∧ lows f.1 ≠ teN := by
  unfold mayB at h
  simp only [Bool.and_eq_true, Bool.not_eq_true', decide_eq_false_iff_not] at h
  exact ⟨h.1.1.1, h.1.1.2, h.1.2, h.2⟩
theorem addR_field {f : Fl} {h : Hd} (hm : mayB f = true) (h64 : h.fs.length < 64) : addR h (lineF f) = .ok ⟨h.fs ++ [lowF f], h.len⟩ := by
  obtain ⟨h1, h2, h3, h4⟩ := mayB_facts hm
  unfold addR
  rw [fieldR_line h1 h2]
  simp only
  rw [if_neg (show ¬ (lowF f).1 = teN from h4), if_neg (show ¬ (lowF f).1 = clN from h3), if_neg (by omega)]
/-- Rows of fields, read one by one. -/
theorem headR_rows : ∀ (fs : List Fl) (n : Nat) (r : U) (k : Nat) (h : Hd), (∀ f ∈ fs, mayB f = true) → h.fs.length + fs.length ≤ 64 → headR (n + fs.length) (rowsT fs ++ r) k h = headR n r (k + (rowsT fs).length) ⟨h.fs ++ fs.map lowF, h.len⟩
  | [], n, r, k, h, _, _ => by simp [rowsT]
  | f :: fs, n, r, k, h, hm, h64 => by
    obtain ⟨h1, h2, _, _⟩ := mayB_facts (hm f (by simp))
    simp only [List.length_cons] at h64
    have e : rowsT (f :: fs) ++ r = lineF f ++ 13 :: 10 :: (rowsT fs ++ r) := by simp [rowsT, fieldT_line]
    rw [e, List.length_cons, ← Nat.add_assoc, headR, cutR_line _ _ (lineF_no13 h1 h2)]
    simp only
    rw [if_neg line_ne, addR_field (hm f (by simp)) (by omega)]
    simp only
    rw [headR_rows fs n r _ _ (fun g hg => hm g (by simp [hg])) (by simp; omega)]
    have e2 : (rowsT (f :: fs)).length = (lineF f).length + 2 + (rowsT fs).length := by simp [rowsT, fieldT_line]; omega
    rw [e2]
    simp only [List.map_cons, List.append_assoc, List.cons_append, List.nil_append]
    congr 1
    omega
theorem dec_num (u : Nat) : (Lib.decDigits u).all digB = true ∧ numR (Lib.decDigits u) = u ∧ 1 ≤ (Lib.decDigits u).length ∧ ∀ k, 1 ≤ k → u < 10 ^ k → (Lib.decDigits u).length ≤ k := by
  induction u using Nat.strongRecOn with
  | _ u ih =>
    by_cases h : u < 10
    · rw [Lib.decDigits, dif_pos h]
      have t1 : (UInt8.ofNat (48 + u)).toNat = 48 + u := by simp; omega
      refine ⟨by simp only [List.all_cons, List.all_nil, Bool.and_true]; exact digB_ofNat (by omega), by simp only [numR, List.foldl_cons, List.foldl_nil, t1]; omega, by simp, fun k hk _ => by simpa using hk⟩
    · rw [Lib.decDigits, dif_neg h]
      obtain ⟨i1, i2, i3, i4⟩ := ih (u / 10) (by omega)
      have t1 : (UInt8.ofNat (48 + u % 10)).toNat = 48 + u % 10 := by simp; omega
      refine ⟨?_, ?_, by simp, fun k hk hu => ?_⟩
      · rw [List.all_append, i1]
        simp only [List.all_cons, List.all_nil, Bool.and_true, Bool.true_and]
        exact digB_ofNat (by omega)
      · unfold numR at i2 ⊢
        rw [List.foldl_append, i2]
        simp only [List.foldl_cons, List.foldl_nil, t1]
        omega
      · rw [List.length_append]
        simp only [List.length_cons, List.length_nil]
        match k, hk with
        | 1, _ => omega
        | k + 2, _ =>
          have := i4 (k + 1) (by omega) (by rw [Nat.pow_succ] at hu; omega)
          omega
theorem itoa_num {n : Nat} (h : n ≤ 32768) : lengthB (Lib.itoa (n : Int)) = true ∧ numR (Lib.itoa (n : Int)) = n ∧ valueB (Lib.itoa (n : Int)) = true ∧ (Lib.itoa (n : Int)).length ≤ 5 := by
  obtain ⟨h1, h2, h3, h4⟩ := dec_num n
  have h5 := h4 5 (by omega) (by omega)
  have e : Lib.itoa (n : Int) = Lib.decDigits n := by unfold Lib.itoa; rw [if_neg (by omega), Int.toNat_natCast]
  rw [e]
  have hp : (Lib.decDigits n).all priB = true := by
    rw [List.all_eq_true] at h1 ⊢
    intro c hc
    have := digB_nat (h1 c hc)
    simp [priB]
    omega
  have hd : ∀ c ∈ Lib.decDigits n, c ≠ 32 := fun c hc e => by
    have := digB_nat (List.all_eq_true.1 h1 c hc)
    rw [e] at this
    have h32 : (32 : UInt8).toNat = 32 := rfl
    omega
  refine ⟨?_, h2, ?_, h5⟩
  · unfold lengthB
    rw [h1]
    simp
    omega
  · unfold valueB edgeB
    rw [hp]
    have a1 : (Lib.decDigits n).head? ≠ some 32 := fun e => hd 32 (List.mem_of_head? e) rfl
    have a2 : (Lib.decDigits n).getLast? ≠ some 32 := fun e => hd 32 (List.mem_of_getLast? e) rfl
    simp [a1, a2]
    omega
/-- The whole head and body of what is printed, read. -/
theorem restR_print {first : U} {fs : List Fl} {b : U} (hm : ∀ f ∈ fs, mayB f = true) (h64 : fs.length ≤ 64) (hb : b.length ≤ 32768) :
    restR (headT first fs b ++ b) (first.length + 2) = .ok (fs.map lowF, b) := by
  have hd : (headT first fs b ++ b).drop (first.length + 2) = rowsT fs ++ (bodyT b ++ 13 :: 10 :: b) := by
    have e : headT first fs b ++ b = (first ++ [13, 10]) ++ (rowsT fs ++ (bodyT b ++ 13 :: 10 :: b)) := by simp [headT, rowsT]
    rw [e, show first.length + 2 = (first ++ [13, 10]).length by simp, List.drop_left]
  unfold restR
  rw [hd]
  obtain ⟨n, hn⟩ : ∃ n, (rowsT fs ++ (bodyT b ++ 13 :: 10 :: b)).length + 1 = n + 2 + fs.length := by
    have : fs.length ≤ (rowsT fs).length := by
      clear hm h64 hd
      induction fs with
      | nil => simp
      | cons f fs ih =>
        have : (rowsT (f :: fs)).length = (fieldT f).length + (rowsT fs).length := by simp [rowsT]
        have h1 : 1 ≤ (fieldT f).length := by unfold fieldT; simp; omega
        simp only [List.length_cons]
        omega
    exact ⟨(rowsT fs).length + (bodyT b).length + b.length + 1 - fs.length, by simp; omega⟩
  rw [hn, headR_rows fs (n + 2) _ _ ⟨[], none⟩ hm (by simpa using h64)]
  simp only [List.nil_append]
  by_cases hbe : b = []
  · subst hbe
    have : bodyT [] = [] := by simp [bodyT]
    rw [this, List.nil_append, headR]
    simp [cutR]
  · have hbt : bodyT b = lineF (clN, Lib.itoa (b.length : Int)) ++ [13, 10] := by unfold bodyT; rw [if_neg hbe]; rfl
    obtain ⟨i1, i2, i3, i4⟩ := itoa_num hb
    have hcn : nameB clN = true := by decide
    rw [hbt, headR, show lineF (clN, Lib.itoa (b.length : Int)) ++ [13, 10] ++ 13 :: 10 :: b = lineF (clN, Lib.itoa (b.length : Int)) ++ 13 :: 10 :: (13 :: 10 :: b) by simp, cutR_line _ _ (lineF_no13 hcn i3)]
    simp only
    rw [if_neg line_ne]
    have hadd : addR ⟨fs.map lowF, none⟩ (lineF (clN, Lib.itoa (b.length : Int))) = .ok ⟨fs.map lowF, some b.length⟩ := by
      unfold addR
      rw [fieldR_line hcn i3]
      simp only [lowF, lows_cl]
      rw [if_neg (by decide), if_pos trivial, if_pos ⟨trivial, i1⟩, i2]
    rw [hadd]
    simp only
    rw [headR]
    simp [cutR]
theorem wordR_at {a r : U} {p : UInt8 → Bool} (h : a.all p = true) (h32 : p 32 = false) : wordR (a ++ 32 :: r) p = (a, true) := by
  have htw : (a ++ 32 :: r).takeWhile p = a := by
    rw [List.takeWhile_append_of_pos (fun c hc => List.all_eq_true.1 h c hc), List.takeWhile_cons, h32]
    simp
  unfold wordR
  rw [htw, List.drop_left]
  simp [List.isPrefixOf]
theorem method_all {l : U} (h : methodB l = true) : l.all capB = true := by
  unfold methodB at h
  simp only [Bool.and_eq_true] at h
  exact h.2
theorem target_all {l : U} (h : targetB l = true) : l.all visB = true := by
  unfold targetB at h
  simp only [Bool.and_eq_true] at h
  exact h.2
theorem reqLine_print {m t r : U} (hm : methodB m = true) (ht : targetB t = true) : reqLineR (m ++ [32] ++ t ++ [32] ++ ver8 ++ [13, 10] ++ r) = .ok (m, t, (m ++ [32] ++ t ++ [32] ++ ver8).length + 2) := by
  have e1 : m ++ [32] ++ t ++ [32] ++ ver8 ++ [13, 10] ++ r = m ++ 32 :: (t ++ 32 :: (verL ++ r)) := by simp [verL, ver8]
  rw [e1]
  have w1 := wordR_at (a := m) (r := t ++ 32 :: (verL ++ r)) (method_all hm) (by decide)
  have w2 := wordR_at (a := t) (r := verL ++ r) (target_all ht) (by decide)
  have d1 : (m ++ 32 :: (t ++ 32 :: (verL ++ r))).drop (m.length + 1) = t ++ 32 :: (verL ++ r) := by
    rw [show m ++ 32 :: (t ++ 32 :: (verL ++ r)) = (m ++ [32]) ++ (t ++ 32 :: (verL ++ r)) by simp, show m.length + 1 = (m ++ [32]).length by simp, List.drop_left]
  have d2 : (m ++ 32 :: (t ++ 32 :: (verL ++ r))).drop (m.length + 1 + (t.length + 1)) = verL ++ r := by
    rw [show m ++ 32 :: (t ++ 32 :: (verL ++ r)) = (m ++ [32] ++ t ++ [32]) ++ (verL ++ r) by simp, show m.length + 1 + (t.length + 1) = (m ++ [32] ++ t ++ [32]).length by simp; omega, List.drop_left]
  unfold reqLineR
  rw [w1]
  simp only
  rw [if_pos ⟨trivial, hm⟩, d1, w2]
  simp only
  rw [if_pos ⟨trivial, ht⟩, d2, if_pos (List.isPrefixOf_iff_prefix.2 ⟨r, rfl⟩)]
  have h8 : ver8.length = 8 := rfl
  simp only [List.length_append, List.length_cons, List.length_nil, h8]
  congr 3
theorem writtenR_ok {first : U} {fs : List Fl} {b s : U} (h : writtenR first fs b = .ok s) : fs.length ≤ 64 ∧ (∀ f ∈ fs, mayB f = true) ∧ s = headT first fs b ++ b ∧ s.length ≤ 32768 := by
  unfold writtenR at h
  split at h
  · cases h
  · split at h
    · rename_i h1 h2
      split at h
      · cases h
      · rename_i h3
        injection h with h
        subst h
        exact ⟨by omega, List.all_eq_true.1 h2, rfl, by rw [List.length_append]; omega⟩
    · cases h
theorem print_parse {q : Rq} {s : U} (h : printReqR q = .ok s) : parseReqR s = .ok ⟨q.m, q.t, q.fs.map lowF, q.b⟩ ∧ s.length ≤ 32768 ∧ s ≠ [] := by
  unfold printReqR at h
  split at h
  · rename_i hm
    split at h
    · rename_i ht
      obtain ⟨h1, h2, h3, h4⟩ := writtenR_ok h
      have hb : q.b.length ≤ 32768 := by rw [h3, List.length_append] at h4; omega
      refine ⟨?_, h4, ?_⟩
      · unfold parseReqR
        rw [if_neg (by omega)]
        have e : s = q.m ++ [32] ++ q.t ++ [32] ++ ver8 ++ [13, 10] ++ (q.fs.flatMap fieldT ++ bodyT q.b ++ [13, 10] ++ q.b) := by rw [h3]; simp [headT]
        have hl : reqLineR s = .ok (q.m, q.t, (q.m ++ [32] ++ q.t ++ [32] ++ ver8).length + 2) := by rw [e]; exact reqLine_print hm ht
        rw [hl]
        simp only
        rw [h3, restR_print h2 h1 hb]
      · rw [h3]
        intro e
        have := congrArg List.length e
        simp [headT] at this
    · cases h
  · cases h
theorem statLine_print {n : Int} {r : U} (h : statusB n = true) : statLineR (ver8 ++ [32] ++ statusT n ++ [13, 10] ++ r) = .ok (n.toNat, (ver8 ++ [32] ++ statusT n).length + 2) := by
  have hs : 100 ≤ n ∧ n ≤ 599 := by simpa [statusB] using h
  obtain ⟨k, rfl⟩ : ∃ k : Nat, n = k := ⟨n.toNat, by omega⟩
  obtain ⟨h3, hlb, hn⟩ := itoa_status (n := k) (by omega) (by omega)
  have e : ver8 ++ [32] ++ statusT (k : Int) ++ [13, 10] ++ r = ver9 ++ (Lib.itoa (k : Int) ++ (((32 :: reasonR (k : Int)) ++ [13, 10]) ++ r)) := by simp [ver8, ver9, statusT]
  rw [e]
  have d9 : (ver9 ++ (Lib.itoa (k : Int) ++ (((32 :: reasonR (k : Int)) ++ [13, 10]) ++ r))).drop 9 = Lib.itoa (k : Int) ++ (((32 :: reasonR (k : Int)) ++ [13, 10]) ++ r) := rfl
  have t3 : (Lib.itoa (k : Int) ++ (((32 :: reasonR (k : Int)) ++ [13, 10]) ++ r)).take 3 = Lib.itoa (k : Int) := by rw [← h3]; exact List.take_left
  have d12 : (ver9 ++ (Lib.itoa (k : Int) ++ (((32 :: reasonR (k : Int)) ++ [13, 10]) ++ r))).drop 12 = ((32 :: reasonR (k : Int)) ++ [13, 10]) ++ r := by
    rw [show (12 : Nat) = 9 + 3 from rfl, ← List.drop_drop, d9, ← h3]; exact List.drop_left
  unfold statLineR
  rw [if_pos (List.isPrefixOf_iff_prefix.2 ⟨_, rfl⟩), d9, t3, d12, hn, if_pos ⟨hlb, by omega, by omega, List.isPrefixOf_iff_prefix.2 ⟨r, rfl⟩⟩]
  simp [statusT, h3, ver8]
  omega
theorem print_parseS {n : Int} {fs : List Fl} {b s : U} (h : printRespR n fs b = .ok s) : parseRespR s = .ok ⟨n.toNat, fs.map lowF, b⟩ ∧ s.length ≤ 32768 ∧ s ≠ [] ∧ 100 ≤ n ∧ n ≤ 599 := by
  unfold printRespR at h
  split at h
  · rename_i hm
    obtain ⟨h1, h2, h3, h4⟩ := writtenR_ok h
    have hb : b.length ≤ 32768 := by rw [h3, List.length_append] at h4; omega
    have hs : 100 ≤ n ∧ n ≤ 599 := by simpa [statusB] using hm
    refine ⟨?_, h4, ?_, hs.1, hs.2⟩
    · unfold parseRespR
      rw [if_neg (by omega)]
      have e : s = ver8 ++ [32] ++ statusT n ++ [13, 10] ++ (fs.flatMap fieldT ++ bodyT b ++ [13, 10] ++ b) := by rw [h3]; simp [headT]
      have hl : statLineR s = .ok (n.toNat, (ver8 ++ [32] ++ statusT n).length + 2) := by rw [e]; exact statLine_print hm
      rw [hl]
      simp only
      rw [h3, restR_print h2 h1 hb]
    · rw [h3]
      intro e
      have := congrArg List.length e
      simp [headT] at this
  · cases h
end Go.Proofs.YtaenccjlokiejaaGreatDoor
