/- The contracts of the document's find, without, with, changed and Name. -/
import Derived.Test.YticbfcognnofbaaEBase
namespace Go.Proofs.Yticbfcognnofbaa
open Go.RowKit Go.Maps

theorem ddel_cons (nm : Nm) (p : Nm × Nat) (d : Dir) : ddel nm (p :: d) = if p.1 = nm then ddel nm d else p :: ddel nm d := by
  unfold ddel
  rw [List.filter_cons]
  by_cases h : p.1 = nm
  · simp [h]
  · simp [h]
theorem drop_at {α : Type} {l : List α} {k : Nat} {x : α} (h : l[k]? = some x) : l.drop k = x :: l.drop (k + 1) := by
  have hk : k < l.length := by
    rcases Nat.lt_or_ge k l.length with h1 | h1
    · exact h1
    · rw [List.getElem?_eq_none h1] at h; cases h
  rw [List.drop_eq_getElem_cons hk]
  rw [List.getElem?_eq_getElem hk] at h
  rw [Option.some.inj h]
theorem str_ne {a b : Nm} (h : a ≠ b) : ((str a).toList == (str b).toList) = false ∧ ¬ (str a).toList = (str b).toList := ⟨by rw [str_toList, str_toList, beq_eq_false_iff_ne]; exact h, by rw [str_toList, str_toList]; exact h⟩
theorem dget_cons (nm : Nm) (p : Nm × Nat) (d : Dir) : dget nm (p :: d) = if p.1 = nm then some p.2 else dget nm d := by
  unfold dget
  rw [List.find?_cons]
  by_cases h : p.1 = nm
  · simp [h]
  · have : (p.1 == nm) = false := by simpa using h
    simp [h, this]
set_option maxHeartbeats 1000000 in
set_option maxRecDepth 100000 in
theorem efind_any (v : Value) (d : Dir) (B : Nat) (nm : Nm) (w : World) (h : EOwn w B v d) (hl : d.length ≤ 1000000) :
    Calls Try.prog 65 #[v, .string (str nm)] w fun e w' => ((dget nm d = none ∧ e = .returned (.int .i64 (-1))) ∨ ∃ k i, d[k]? = some (nm, i) ∧ dget nm d = some i ∧ e = .returned (.int .i64 ((k : Nat) : Int))) ∧ w' = w := by
  obtain ⟨ao, cap, rfl⟩ := ownsRow_slice h
  obtain ⟨n, hn⟩ : ∃ n, n = d.length := ⟨_, rfl⟩
  have H := hide h
  have HN := hide hn
  rw [← hn] at H hl ⊢
  have HLN := hide hl
  clear hl
  suffices HSU : ∀ PP : Ending → World → Prop, (∀ e, ((dget nm d = none ∧ e = .returned (.int .i64 (-1))) ∨ ∃ k i, d[k]? = some (nm, i) ∧ dget nm d = some i ∧ e = .returned (.int .i64 ((k : Nat) : Int))) → PP e w) → Calls Try.prog 65 #[.slice ao n cap, .string (str nm)] w fun e w' => True ∧ PP e w' from (HSU (fun e w' => _ ∧ w' = w) (fun e h1 => ⟨h1, rfl⟩)).mono fun _ _ h => h.2
  intro PP hPP
  have HPP := hide hPP
  clear h hn hPP
  go_enter Try.func65, Try.ntmps65
  go_wp2_with fail
  go_loopw [5] (fun i wr => ∃ k : Nat, k ≤ n ∧ i = .int .i64 (k : Int) ∧ Hid (dget nm d = dget nm (d.drop k)) ∧ wr = w) (fun i _ => n - (intOf i).toNat)
  case atStart => exact ⟨0, Nat.zero_le _, rfl, hide rfl, rfl⟩
  case round =>
    obtain ⟨k, hk, rfl, HK, rfl⟩ := hrel
    by_cases hlt : k < n
    · obtain ⟨⟨pn, pi⟩, hp⟩ : ∃ p, d[k]? = some p := ⟨_, List.getElem?_eq_getElem (by rw [← HN.out]; exact hlt)⟩
      obtain ⟨g, rfl, c1, c2, -, hcap⟩ := H.out.at hp
      have HDR := HK.out
      rw [drop_at hp, dget_cons] at HDR
      have hki : (k : Int) < (n : Int) := by omega
      have hkb : (k : Int) + 1 ≤ 4611686018427387904 := by have := HLN.out; omega
      by_cases he : pn = nm
      · subst he
        have HE := hide (HPP.out _ (.inr ⟨k, pi, hp, by rw [HDR]; simp, rfl⟩))
        clear hp HDR HK
        generalize str pn = s at *
        go_wp2_with fail
        first | (go_ret; exact ⟨trivial, HE.out⟩) | exact HE.out
      · rw [if_neg (show ¬ pn = nm from he)] at HDR
        have HD2 := hide HDR
        obtain ⟨n1, n2⟩ := str_ne he
        clear hp HDR HK he
        generalize str pn = s at *
        generalize str nm = t at *
        go_wp2_with fail
        go_roundw
        case rel => exact ⟨k + 1, by omega, by simp, HD2, by first | trivial | rfl⟩
        case measure => simp [intOf]; omega
    · have hki : ¬ (k : Int) < (n : Int) := by omega
      have HE := hide (HPP.out (.returned (.int .i64 (-1))) (.inl ⟨by rw [HK.out, List.drop_eq_nil_of_le (by rw [← HN.out]; omega)]; rfl, rfl⟩))
      go_wp2_with fail
      first | (go_ret; exact ⟨trivial, HE.out⟩) | exact HE.out
set_option maxHeartbeats 2000000 in
set_option maxRecDepth 100000 in
theorem ewithout_any (v : Value) (d : Dir) (B : Nat) (nm : Nm) (w : World) (h : EOwn w B v d) (hl : d.length ≤ 1000000) :
    Calls Try.prog 78 #[v, .string (str nm)] w fun e w' => ∃ u, e = .returned u ∧ EOwn w' w.heap.size u (ddel nm d) ∧ Below w.heap.size w w' := by
  obtain ⟨ao, cap, rfl⟩ := ownsRow_slice h
  obtain ⟨n, hn⟩ : ∃ n, n = d.length := ⟨_, rfl⟩
  obtain ⟨W0, hW0⟩ : ∃ W0, W0 = w.heap.size := ⟨_, rfl⟩
  have H := hide h
  have HN := hide hn
  have HW := hide hW0
  rw [← hn] at H hl ⊢
  rw [← hW0]
  have HLN := hide hl
  clear h hn hW0 hl
  go_enter Try.func78, Try.ntmps78
  go_wp2_with fail
  go_loopw [5, 6] (fun u i wr => ∃ (k : Nat) (l : Dir), k ≤ n ∧ i = .int .i64 (k : Int) ∧ Hid (l ++ ddel nm (d.drop k) = ddel nm d) ∧ Hid (EOwn wr W0 u l) ∧ Hid (Below W0 w wr)) (fun _ i _ => n - (intOf i).toNat)
  case atStart => exact ⟨0, [], Nat.zero_le _, rfl, hide rfl, eown_nil _ _, Below.refl _ _⟩
  case round =>
    obtain ⟨k, l, hk, rfl, HK, HU, HB⟩ := hrel
    obtain ⟨uao, ucap, hu⟩ := ownsRow_slice HU.out
    subst hu
    by_cases hlt : k < n
    · obtain ⟨⟨pn, pi⟩, hp⟩ : ∃ p, d[k]? = some p := ⟨_, List.getElem?_eq_getElem (by rw [← HN.out]; exact hlt)⟩
      obtain ⟨g, rfl, c1, c2, -, hcap⟩ := H.out.at hp
      have hbw : Below w.heap.size w wr := by rw [← HW.out]; exact HB.out
      have k1 := cell_kept c1 hbw
      have k2 := cell_kept c2 hbw
      have HDR := HK.out
      rw [drop_at hp, ddel_cons] at HDR
      have hki : (k : Int) < (n : Int) := by omega
      have hkb : (k : Int) + 1 ≤ 4611686018427387904 := by have := HLN.out; omega
      by_cases he : pn = nm
      · subst he
        rw [if_pos (show pn = pn from rfl)] at HDR
        have HD2 := hide HDR
        clear hp HDR HK hbw
        generalize str pn = s at *
        go_wp2_with fail
        go_roundw
        case rel => exact ⟨k + 1, l, by omega, by simp, HD2, HU, HB⟩
        case measure => simp [intOf]; omega
      · rw [if_neg (show ¬ pn = nm from he)] at HDR
        have HD2 : Hid (l ++ [(pn, pi)] ++ ddel nm (d.drop (k + 1)) = ddel nm d) := by rw [List.append_assoc]; exact HDR
        have hll : l.length ≤ 1000000 := by
          have h1 := congrArg List.length HDR
          have h2 := ddel_length_le nm d
          rw [List.length_append] at h1
          have := HN.out
          have := HLN.out
          omega
        obtain ⟨n1, n2⟩ := str_ne he
        have hWr : W0 ≤ wr.heap.size := by have := hbw.size; have := HW.out; omega
        have HWR := hide hWr
        have HLL := hide hll
        have HR : Hid ((wr.alloc (.cells #[.string (str pn), .int .i64 (pi : Int)] 110)).ownsRow W0 110 2 (.slice uao l.length ucap) l.length (ecells l)) := World.ownsRow.alloc HU.out _
        have HBN := hide (Bl.new wr #[.string (str pn), .int .i64 (pi : Int)] 110)
        have HST : Hid (∀ ao9 cap9 w9, w9.ownsRow W0 110 2 (.slice ao9 (l.length + 1) cap9) (l.length + 1) (ecells l ++ [.string (str pn), .int .i64 (pi : Int)]) → (wr.alloc (.cells #[.string (str pn), .int .i64 (pi : Int)] 110)).grownBy w9 (Value.ownBlock (.slice uao l.length ucap)) → EOwn w9 W0 (.slice ao9 (l.length + 1) cap9) (l ++ [(pn, pi)]) ∧ Below W0 w w9) := fun ao9 cap9 w9 g1 g2 => by
          refine ⟨?_, HB.out.trans (app_below HU.out hWr g2)⟩
          unfold EOwn
          rw [List.length_append, ecells_snoc]
          exact g1
        clear hp HDR HK he hbw hll hWr
        generalize str pn = s at *
        generalize str nm = t at *
        go_wp2_with (first | (at_builtin; refine wpList_app1 appE rfl _ _ rfl W0 _ _ (ecells l) [.string s, .int .i64 (pi : Int)] rfl HR.out wr.heap.size rfl HBN.out rfl (by intro x hx; simp only [List.mem_cons, List.not_mem_nil, or_false] at hx; rcases hx with rfl | rfl <;> rfl) (by have := HLL.out; omega) (by have := HWR.out; simp; omega) ?_; intro ao9 cap9 w9 g1 g2 g3; have HS9 := hide (HST.out ao9 cap9 w9 g1 g2); clear g1 g2 g3) | fail)
        go_roundw
        case rel => exact ⟨k + 1, l ++ [(pn, pi)], by omega, by simp, HD2, hide HS9.out.1, hide HS9.out.2⟩
        case measure => simp [intOf]; omega
    · have hki : ¬ (k : Int) < (n : Int) := by omega
      have HE := HK.out
      rw [List.drop_eq_nil_of_le (by rw [← HN.out]; omega), show ddel nm [] = [] from rfl, List.append_nil] at HE
      subst HE
      clear HK
      go_wp2_with fail
      go_ret
      exact ⟨_, rfl, HU.out, HB.out⟩
end Go.Proofs.Yticbfcognnofbaa
