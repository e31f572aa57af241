/- Blanks and tabs at the ends, by the document's own hand. -/
import Derived.Test.YtaenccjlokiejaaGreatDoorHRefSmall
namespace Go.Proofs.YtaenccjlokiejaaGreatDoor
open Go.RowKit Go.Shelf

def blB (c : UInt8) : Bool := ([32, 9] : U).contains c
theorem blB_or {c : UInt8} (h : blB c = true) : c.toNat = 32 ∨ c.toNat = 9 := by
  simp [blB] at h
  rcases h with rfl | rfl
  · exact .inl rfl
  · exact .inr rfl
theorem blB_not {c : UInt8} (h : ¬ blB c = true) : ¬ c.toNat = 32 ∧ ¬ c.toNat = 9 := by
  simp [blB] at h
  exact ⟨fun e => h.1 (u8_ext (by rw [e]; rfl)), fun e => h.2 (u8_ext (by rw [e]; rfl))⟩
theorem trimS_snoc {m : U} {c : UInt8} (h : blB c = true) : Lib.trimS (m ++ [c]) [32, 9] = Lib.trimS m [32, 9] := by
  unfold Lib.trimS Lib.trimRightS
  rw [List.reverse_append]
  simp only [List.reverse_cons, List.reverse_nil, List.nil_append, List.cons_append]
  rw [List.dropWhile_cons, if_pos (show ([32, 9] : U).contains c = true from h)]
theorem trimS_cons {m : U} {c : UInt8} (h : blB c = true) : Lib.trimS (c :: m) [32, 9] = Lib.trimS m [32, 9] := by
  unfold Lib.trimS Lib.trimRightS
  rw [List.reverse_cons, List.dropWhile_append]
  split
  · rename_i he
    rw [List.isEmpty_iff] at he
    rw [he, List.dropWhile_cons, if_pos (show ([32, 9] : U).contains c = true from h)]
    rfl
  · rw [List.reverse_append]
    simp only [List.reverse_cons, List.reverse_nil, List.nil_append, List.cons_append]
    unfold Lib.trimLeftS
    rw [List.dropWhile_cons, if_pos (show ([32, 9] : U).contains c = true from h)]
theorem trimS_done {m : U} (h1 : ∀ a, m.head? = some a → blB a = false) (h2 : ∀ a, m.getLast? = some a → blB a = false) : Lib.trimS m [32, 9] = m := (trim_self m [32, 9]).2 ⟨h1, h2⟩
theorem snoc_of {m : U} (h : m ≠ []) : ∃ u c, m = u ++ [c] := ⟨m.dropLast, m.getLast h, (List.dropLast_concat_getLast h).symm⟩
def lenV : Value → Nat
  | .string b => b.size
  | _ => 0
set_option maxHeartbeats 1000000 in
set_option maxRecDepth 100000 in
theorem refTrim_any (l : U) (w : World) (hl : l.length ≤ 9223372036854775806) : Calls Tryz.prog 60 #[.string (str l)] w fun e w' => e = .returned (.string (str (Lib.trimS l [32, 9]))) ∧ w' = w := by
  obtain ⟨n, hn⟩ : ∃ n, n = l.length := ⟨_, rfl⟩
  obtain ⟨T, hT⟩ : ∃ T, T = Lib.trimS l [32, 9] := ⟨_, rfl⟩
  rw [← hT]
  have HN : Hid (n ≤ 9223372036854775806) := by show _ ≤ _; omega
  have H0 : Hid (l.length ≤ n ∧ Lib.trimS l [32, 9] = T) := ⟨by omega, hT.symm⟩
  clear hn hT hl
  go_enter Tryz.func60, Tryz.ntmps60
  go_wp2_with fail
  go_loop [0] (fun s => ∃ m : U, s = .string (str m) ∧ Hid (m.length ≤ n ∧ Lib.trimS m [32, 9] = T)) (fun s => lenV s)
  case atStart => exact ⟨l, rfl, H0⟩
  case round =>
    obtain ⟨m, rfl, HM⟩ := hrel
    cases m with
    | nil =>
      have hq : str ([] : U) = { data := #[] } := rfl
      rw [hq]
      clear hq
      go_wp2_with fail
      go_loop [0] (fun s => ∃ m : U, s = .string (str m) ∧ Hid (m.length ≤ n ∧ Lib.trimS m [32, 9] = T ∧ ∀ a, m.head? = some a → blB a = false)) (fun s => lenV s)
      case atStart => exact ⟨[], rfl, ⟨HM.out.1, HM.out.2, fun a ha => by cases ha⟩⟩
      case round =>
        obtain ⟨m, rfl, HM⟩ := hrel
        by_cases hm : m = []
        · subst hm
          have hT : Hid (T = []) := by show _ = _; rw [← HM.out.2.1]; rfl
          have hq : str ([] : U) = { data := #[] } := rfl
          rw [hq]
          clear hq
          go_wp2_with fail
          go_ret
          exact ⟨by rw [hT.out]; rfl, rfl⟩
        · obtain ⟨u, c, rfl⟩ := snoc_of hm
          obtain ⟨x1, x2, hq⟩ : ∃ x1 x2, (str (u ++ [c])).toList = x1 :: x2 := by rw [toList_str]; exact List.exists_cons_of_ne_nil hm
          have hz : (str (u ++ [c])).size = u.length + 1 := by rw [str_size]; simp
          have hix := str_at (u ++ [c]) u.length (by simp)
          have hg : (u ++ [c]).getD u.length 0 = c := by simp [List.getD]
          rw [hg] at hix
          have hcu := cut_to (u ++ [c]) u.length (u.length : Int) rfl (by simp)
          rw [List.take_left] at hcu
          have HLU : Hid (u.length ≤ 9223372036854775806) := by have := HM.out.1; have := HN.out; rw [List.length_append] at *; simp at *; show _ ≤ _; omega
          have hlu : (u.length : Int) ≤ 9223372036854775806 := by have := HLU.out; omega
          have hzu : (str u).size = u.length := str_size u
          generalize hk : u.length = k at *
          generalize hsm : str (u ++ [c]) = sm at *
          have HSMM := hide hsm
          clear hsm hg
          by_cases hb : blB c = true
          · have HM2 : Hid (u.length ≤ n ∧ Lib.trimS u [32, 9] = T ∧ ∀ a, u.head? = some a → blB a = false) := by
              refine ⟨by have := HM.out.1; rw [List.length_append] at this; simp at this; omega, ?_, fun a ha => HM.out.2.2 a ?_⟩
              · rw [← HM.out.2.1]; exact (trimS_snoc hb).symm
              · rw [List.head?_append, ha]; rfl
            clear HM hk
            rcases blB_or hb with hc | hc
            · rw [hc, show ((32 : Nat) : Int) = 32 from rfl] at hix
              go_wp2_with fail
              go_round
              case rel => exact ⟨u, rfl, HM2⟩
              case measure => simp [lenV, hz, hzu]
            · rw [hc, show ((9 : Nat) : Int) = 9 from rfl] at hix
              go_wp2_with fail
              go_round
              case rel => exact ⟨u, rfl, HM2⟩
              case measure => simp [lenV, hz, hzu]
          · have hT : Hid (T = u ++ [c]) := by
              show _ = _
              rw [← HM.out.2.1]
              exact trimS_done HM.out.2.2 (fun a ha => by rw [List.getLast?_append] at ha; simp at ha; subst ha; simpa using hb)
            obtain ⟨h1, h2⟩ := blB_not hb
            clear HM hk hb
            generalize c.toNat = x at *
            have g1 : ((x : Int) == 32) = false := by rw [beq_eq_false_iff_ne]; omega
            have g2 : ((x : Int) == 9) = false := by rw [beq_eq_false_iff_ne]; omega
            go_wp2_with fail
            go_ret
            exact ⟨by rw [hT.out, HSMM.out]; rfl, rfl⟩
    | cons c u =>
      have hq : (str (c :: u)).toList = c :: u := by rw [toList_str]
      have hz : (str (c :: u)).size = u.length + 1 := by rw [str_size]; simp
      have hix : ∀ w, (Instr.index 9 (.string (str (c :: u))) (.int .i64 0)).run Tryz.prog w = .ok (.int .u8 (c.toNat : Int)) w := str_at (c :: u) 0 (by simp)
      have hcu : ∀ w, (Instr.slice 9 (.string (str (c :: u))) (some (.int .i64 1)) none none).run Tryz.prog w = .ok (.string (str u)) w := cut_from (c :: u) 1 1 rfl (by simp)
      have hzu : (str u).size = u.length := str_size u
      generalize hsm : str (c :: u) = s1 at *
      have HS1 := hide hsm
      clear hsm
      by_cases hb : blB c = true
      · have HM2 : Hid (u.length ≤ n ∧ Lib.trimS u [32, 9] = T) := by
          refine ⟨by have := HM.out.1; simp at this; omega, ?_⟩
          rw [← HM.out.2]; exact (trimS_cons hb).symm
        clear HM
        rcases blB_or hb with hc | hc
        · rw [hc, show ((32 : Nat) : Int) = 32 from rfl] at hix
          go_wp2_with fail
          go_round
          case rel => exact ⟨u, rfl, HM2⟩
          case measure => simp [lenV, hz, hzu]
        · rw [hc, show ((9 : Nat) : Int) = 9 from rfl] at hix
          go_wp2_with fail
          go_round
          case rel => exact ⟨u, rfl, HM2⟩
          case measure => simp [lenV, hz, hzu]
      · obtain ⟨h1, h2⟩ := blB_not hb
        have HBN := hide hb
        clear hb
        generalize c.toNat = x at hix h1 h2
        have g1 : ((x : Int) == 32) = false := by rw [beq_eq_false_iff_ne]; omega
        have g2 : ((x : Int) == 9) = false := by rw [beq_eq_false_iff_ne]; omega
        go_wp2_with fail
        clear hq hz hix hcu hzu h1 h2 g1 g2
        go_loop [0] (fun s => ∃ m : U, s = .string (str m) ∧ Hid (m.length ≤ n ∧ Lib.trimS m [32, 9] = T ∧ ∀ a, m.head? = some a → blB a = false)) (fun s => lenV s)
        case atStart => exact ⟨c :: u, by rw [HS1.out], ⟨HM.out.1, HM.out.2, fun a ha => by injection ha with ha; subst ha; simpa using HBN.out⟩⟩
        case round =>
          obtain ⟨m, rfl, HM⟩ := hrel
          by_cases hm : m = []
          · subst hm
            have hT : Hid (T = []) := by show _ = _; rw [← HM.out.2.1]; rfl
            have hq : str ([] : U) = { data := #[] } := rfl
            rw [hq]
            clear hq
            go_wp2_with fail
            go_ret
            exact ⟨by rw [hT.out]; rfl, rfl⟩
          · obtain ⟨u, c, rfl⟩ := snoc_of hm
            obtain ⟨x1, x2, hq⟩ : ∃ x1 x2, (str (u ++ [c])).toList = x1 :: x2 := by rw [toList_str]; exact List.exists_cons_of_ne_nil hm
            have hz : (str (u ++ [c])).size = u.length + 1 := by rw [str_size]; simp
            have hix := str_at (u ++ [c]) u.length (by simp)
            have hg : (u ++ [c]).getD u.length 0 = c := by simp [List.getD]
            rw [hg] at hix
            have hcu := cut_to (u ++ [c]) u.length (u.length : Int) rfl (by simp)
            rw [List.take_left] at hcu
            have HLU : Hid (u.length ≤ 9223372036854775806) := by have := HM.out.1; have := HN.out; rw [List.length_append] at *; simp at *; show _ ≤ _; omega
            have hlu : (u.length : Int) ≤ 9223372036854775806 := by have := HLU.out; omega
            have hzu : (str u).size = u.length := str_size u
            generalize hk : u.length = k at *
            generalize hsm : str (u ++ [c]) = sm at *
            have HSMM := hide hsm
            clear hsm hg
            by_cases hb : blB c = true
            · have HM2 : Hid (u.length ≤ n ∧ Lib.trimS u [32, 9] = T ∧ ∀ a, u.head? = some a → blB a = false) := by
                refine ⟨by have := HM.out.1; rw [List.length_append] at this; simp at this; omega, ?_, fun a ha => HM.out.2.2 a ?_⟩
                · rw [← HM.out.2.1]; exact (trimS_snoc hb).symm
                · rw [List.head?_append, ha]; rfl
              clear HM hk
              rcases blB_or hb with hc | hc
              · rw [hc, show ((32 : Nat) : Int) = 32 from rfl] at hix
                go_wp2_with fail
                go_round
                case rel => exact ⟨u, rfl, HM2⟩
                case measure => simp [lenV, hz, hzu]
              · rw [hc, show ((9 : Nat) : Int) = 9 from rfl] at hix
                go_wp2_with fail
                go_round
                case rel => exact ⟨u, rfl, HM2⟩
                case measure => simp [lenV, hz, hzu]
            · have hT : Hid (T = u ++ [c]) := by
                show _ = _
                rw [← HM.out.2.1]
                exact trimS_done HM.out.2.2 (fun a ha => by rw [List.getLast?_append] at ha; simp at ha; subst ha; simpa using hb)
              obtain ⟨h1, h2⟩ := blB_not hb
              clear HM hk hb
              generalize c.toNat = x at *
              have g1 : ((x : Int) == 32) = false := by rw [beq_eq_false_iff_ne]; omega
              have g2 : ((x : Int) == 9) = false := by rw [beq_eq_false_iff_ne]; omega
              go_wp2_with fail
              go_ret
              exact ⟨by rw [hT.out, HSMM.out]; rfl, rfl⟩
end Go.Proofs.YtaenccjlokiejaaGreatDoor
