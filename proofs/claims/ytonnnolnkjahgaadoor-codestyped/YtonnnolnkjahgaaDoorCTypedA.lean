/- The law's typed: a user code as somebody may type it. -/
import Derived.Test.YtonnnolnkjahgaaDoorCRefB
import Derived.Test.YtonnnolnkjahgaaDoorCAll
namespace Go.Proofs.YtonnnolnkjahgaaDoor
open Go.RowKit Go.Shelf

theorem keepT_append (a b : List Nat) : keepT (a ++ b) = keepT a ++ keepT b := by
  unfold keepT
  rw [List.filter_append, List.map_append]
theorem let_range {c : Nat} (h : isLet c = true) : 66 ≤ c ∧ c ≤ 90 := by
  unfold isLet at h
  rw [List.contains_iff_mem] at h
  have : ∀ x ∈ lets, 66 ≤ x ∧ x ≤ 90 := by decide
  exact this c h
theorem keep_let {c : Nat} (h : isLet c = true) : keepT [c] = [c] ∧ keepT [c + 32] = [c] := by
  unfold isLet at h
  rw [List.contains_iff_mem] at h
  have : ∀ x ∈ lets, keepT [x] = [x] ∧ keepT [x + 32] = [x] := by decide
  exact this c h
theorem keep_mark (m : Nat) (hm : m < 5) : keepT [marks5.getD m 0] = [] ∧ marks5.getD m 0 < 256 := by
  have : ∀ m, m < 5 → keepT [marks5.getD m 0] = [] ∧ marks5.getD m 0 < 256 := by decide
  exact this m hm
theorem keep_two : keepT [32, 45] = [] := by decide
def marksS : ByteArray := { data := #[32, 45, 95, 46, 47] }
theorem str_mid (s : ByteArray) (a b : Nat) (i j : Int) (hi : i = (a : Int)) (hj : j = (b : Int)) (hab : a ≤ b) (hb : b ≤ s.size) (w : World) : (Instr.slice 9 (.string s) (some (.int .i64 i)) (some (.int .i64 j)) none).run Tryd.prog w = .ok (.string (bstr (((sbytes s).take b).drop a))) w := by
  subst hi; subst hj
  rw [run_slice_string w 9 s .i64 .i64 (a : Int) (b : Int) Tryd.underlying9 (by omega) (by omega) (by omega), extract_bstr, Int.toNat_natCast, Int.toNat_natCast]
theorem mark_mid (m : Nat) (hm : m < 5) (w : World) : (Instr.slice 9 (.string marksS) (some (.int .i64 (m : Int))) (some (.int .i64 ((m : Int) + 1))) none).run Tryd.prog w = .ok (.string (bstr [marks5.getD m 0])) w := by
  have h := str_mid marksS m (m + 1) (m : Int) ((m : Int) + 1) rfl (by omega) (by omega) (by show m + 1 ≤ 5; omega) w
  have e : ((sbytes marksS).take (m + 1)).drop m = [marks5.getD m 0] := by
    have : ∀ m, m < 5 → ((sbytes marksS).take (m + 1)).drop m = [marks5.getD m 0] := by decide
    exact this m hm
  rw [e] at h
  exact h
/-- What typed has made so far. -/
structure TyI (l : List Nat) (i : Nat) (S : ByteArray) (tl : List Nat) : Prop where
  eq : S = bstr tl
  keep : keepT tl = l.take i
  len : tl.length ≤ 3 * i
  byte : ∀ x ∈ tl, x < 256
theorem TyI.step {l : List Nat} {i : Nat} {S S' : ByteArray} {tl pc : List Nat} {c : Nat} (h : TyI l i S tl) (hl : l.take (i + 1) = l.take i ++ [c]) (hk : keepT pc = [c]) (hn : pc.length ≤ 3) (hb : ∀ x ∈ pc, x < 256) (hS : S' = bstr (tl ++ pc)) : TyI l (i + 1) S' (tl ++ pc) :=
  ⟨hS, by rw [keepT_append, h.keep, hk, hl], by rw [List.length_append]; have := h.len; omega, lt_append h.byte hb⟩
def TypedPost (l : List Nat) (w : World) (e : Ending) (w' : World) : Prop := ∃ S tl, e = .returned (.string S) ∧ TyI l 8 S tl ∧ Below w.heap.size w w'
set_option maxHeartbeats 2000000 in
set_option maxRecDepth 100000 in
theorem typed_any (s : ByteArray) (n c : Nat) (ao : Option Addr) (ks : List Nat) (w : World) (hc : isCode (sbytes s) = true) (hn : n = ks.length) (hn2 : n ≤ 140737488355328) (hr : Row w ao ks) (hb : ∀ x ∈ ks, x < 256) :
    Calls Tryd.prog 24 #[.string s, .slice ao n c] w fun e w' => TypedPost (sbytes s) w e w' := by
  have hsl := sbytes_length s
  obtain ⟨h8, hlet⟩ := isCode_parts hc
  have HLT := hide hlet
  have HL8 := hide h8
  have hz : (s.size : Int) = 8 := by omega
  have hix := str_index s
  rw [show s.size = 8 by omega] at hix
  have HMM := hide mark_mid
  have HN := hide hn
  have HR := hide hr
  have HB := hide hb
  have HN2 := hide hn2
  generalize sbytes s = l at *
  have hmz : (marksS.size : Int) = 5 := rfl
  clear hc hsl hn hr hb hlet h8 hn2
  unfold marksS at *
  go_enter Tryd.func24, Tryd.ntmps24
  go_wp2_with fail
  obtain ⟨MS, hMS⟩ : ∃ MS : ByteArray, MS = { data := #[32, 45, 95, 46, 47] } := ⟨_, rfl⟩
  rw [← hMS] at HMM hmz ⊢
  clear hMS
  go_loopw [6, 7] (fun v a wr => ∃ (i : Nat) (S : ByteArray), i ≤ 8 ∧ a = .int .i64 (i : Int) ∧ v = .string S ∧ Hid (∃ tl, TyI l i S tl) ∧ Hid (Below w.heap.size w wr)) (fun _ a _ => 8 - (intOf a).toNat)
  case atStart => exact ⟨0, _, by omega, rfl, rfl, hide ⟨[], rfl, rfl, by simp, (fun x hx => by cases hx)⟩, hide (Below.refl _ _)⟩
  case round =>
    obtain ⟨i, S, hi, rfl, rfl, hr0, HBW⟩ := hrel
    obtain ⟨tl, hty⟩ := hr0.out
    have HTY := hide hty
    clear hr0 hty
    by_cases hin : i < 8
    · have hin' : (i : Int) < 8 := by omega
      have HIN := hide hin
      have hx := hix i hin
      have hwri : IntKind.i64.wrap ((i : Int) + 1) = ((i + 1 : Nat) : Int) := by rw [IntKind.wrap_i64]; omega
      have HPM1 : Hid (l.take (i + 1) = l.take i ++ [l.getD i 0]) := hide (take_getD (by rw [HL8.out]; exact hin))
      have HLE := hide (HLT.out i hin)
      generalize l.getD i 0 = c0 at *
      have HKL := hide (keep_let HLE.out)
      have HRG := hide (let_range HLE.out)
      clear hi hin hix
      go_upto_if 19 with fail
      go_cut [8] (fun a wx => ∃ k : Nat, a = .int .u8 (k : Int) ∧ k < 256 ∧ wx = wr)
      case first =>
        by_cases hnt : n = 0
        · have hnt' : ¬ (0 : Int) < (n : Int) := by omega
          clear hnt
          go_wp2
          go_meet
          case rel => exact ⟨0, by first | exact rfl | trivial, by omega, by first | exact rfl | trivial⟩
        · have hnt' : (0 : Int) < (n : Int) := by omega
          obtain ⟨b1, o1, hao⟩ := HR.out.form (by rw [← HN.out]; omega)
          subst hao
          have hmi : i % n < n := Nat.mod_lt _ (by omega)
          have hcell : wr.cell? ⟨b1, o1 + i % n, none⟩ = some (.int .u8 ((ks.getD (i % n) 0 : Nat) : Int)) := (HR.out.keep HBW.out).cell _ (by rw [← HN.out]; exact hmi)
          have hmod : Int.tmod (i : Int) (n : Int) = ((i % n : Nat) : Int) := by rw [← Int.ofNat_tmod]
          have hmi' : ((i % n : Nat) : Int) < (n : Int) := by omega
          have HXB := hide (lt_get HB.out (i % n))
          have hn0 : ((n : Int) == 0) = false := by simp; omega
          generalize ks.getD (i % n) 0 = x at *
          generalize i % n = im at *
          clear hnt hmi
          go_wp2
          go_meet
          case rel => exact ⟨x, by first | exact rfl | trivial, HXB.out, by first | exact rfl | trivial⟩
      case rest =>
        obtain ⟨k, rfl, hk, hwc⟩ := hcut
        have hwd := hwc.symm
        subst hwd
        have hq2 : Int.tdiv (k : Int) 2 = ((k / 2 : Nat) : Int) := by rw [show (2 : Int) = ((2 : Nat) : Int) from rfl, ← Int.ofNat_tdiv]
        have hq8 : Int.tdiv (k : Int) 8 = ((k / 8 : Nat) : Int) := by rw [show (8 : Int) = ((8 : Nat) : Int) from rfl, ← Int.ofNat_tdiv]
        have hr2 : Int.tmod (k : Int) 2 = ((k % 2 : Nat) : Int) := by rw [show (2 : Int) = ((2 : Nat) : Int) from rfl, ← Int.ofNat_tmod]
        have hr3 : Int.tmod ((k / 2 : Nat) : Int) 3 = ((k / 2 % 3 : Nat) : Int) := by rw [show (3 : Int) = ((3 : Nat) : Int) from rfl, ← Int.ofNat_tmod]
        have hr5 : Int.tmod ((k / 8 : Nat) : Int) 5 = ((k / 8 % 5 : Nat) : Int) := by rw [show (5 : Int) = ((5 : Nat) : Int) from rfl, ← Int.ofNat_tmod]
        have hr3' : ((k / 2 : Nat) : Int) % 3 = ((k / 2 % 3 : Nat) : Int) := by omega
        have hr5' : ((k / 8 : Nat) : Int) % 5 = ((k / 8 % 5 : Nat) : Int) := by omega
        have hw2 : ((k / 2 : Nat) : Int) % 256 = ((k / 2 : Nat) : Int) := by omega
        have hw8 : ((k / 8 : Nat) : Int) % 256 = ((k / 8 : Nat) : Int) := by omega
        have hm5 : k / 8 % 5 < 5 := Nat.mod_lt _ (by decide)
        have h8l : k / 8 < 32 := by omega
        have he2 : k % 2 = 0 ∨ k % 2 = 1 := by omega
        have hp3 : k / 2 % 3 = 0 ∨ k / 2 % 3 = 1 ∨ k / 2 % 3 = 2 := by omega
        generalize k / 2 % 3 = pp at *
        generalize k / 8 % 5 = m at *
        generalize k / 2 = k2 at *
        generalize k / 8 = k8 at *
        generalize k % 2 = ee at *
        have hsl := HMM.out m hm5
        have HKM := hide (keep_mark m hm5)
        have hwm : IntKind.i64.wrap ((m : Int) + 1) = (m : Int) + 1 := by rw [IntKind.wrap_i64]; omega
        generalize marks5.getD m 0 = mk at *
        clear hk hwc
        rcases he2 with hee | hee <;> rcases hp3 with hpp | hpp | hpp
        · subst hee
          subst hpp
          obtain ⟨d, hd⟩ : ∃ d, d = c0 := ⟨_, rfl⟩
          have HKD : Hid (keepT [d] = [c0] ∧ d < 256) := hide ⟨by rw [hd]; exact HKL.out.1, by have := HRG.out; omega⟩
          rw [← hd] at hx
          clear hd
          have hcv := conv_one d
          have HLN : Hid (tl.length ≤ 24) := hide (by have := HTY.out.len; have := HIN.out; omega)
          obtain ⟨S3, hS3⟩ : ∃ S3, S3 = bstr (tl ++ [d]) := ⟨_, rfl⟩
          have ha1 : ∀ w, (Op.stringOp .add S (bstr [d])).run Tryd.prog w = .ok (.string S3) w := by rw [HTY.out.eq, hS3]; exact add_str (by have := HLN.out; simp; omega)
          have HNX := hide (HTY.out.step (S' := S3) (pc := [d]) HPM1.out HKD.out.1 (by simp) (fun x hx => by rw [List.mem_singleton.1 hx]; exact HKD.out.2) hS3)
          generalize bstr [d] = SD at *
          generalize bstr [mk] = SM at *
          clear hS3 hm5
          go_wp2_with fail
          go_roundw
          case rel => exact ⟨i + 1, S3, HIN.out, by first | rfl | simp, by first | exact rfl | trivial, hide ⟨_, HNX.out⟩, hide (HBW.out.trans ((below_new _ _).mono HBW.out.size))⟩
          case measure => have := HIN.out; simp [intOf]; omega
        · subst hee
          subst hpp
          obtain ⟨d, hd⟩ : ∃ d, d = c0 := ⟨_, rfl⟩
          have HKD : Hid (keepT [d] = [c0] ∧ d < 256) := hide ⟨by rw [hd]; exact HKL.out.1, by have := HRG.out; omega⟩
          rw [← hd] at hx
          clear hd
          have hcv := conv_one d
          have HLN : Hid (tl.length ≤ 24) := hide (by have := HTY.out.len; have := HIN.out; omega)
          obtain ⟨S2, hS2⟩ : ∃ S2, S2 = bstr (tl ++ [mk]) := ⟨_, rfl⟩
          obtain ⟨S3, hS3⟩ : ∃ S3, S3 = bstr (tl ++ [mk, d]) := ⟨_, rfl⟩
          have ha0 : ∀ w, (Op.stringOp .add S (bstr [mk])).run Tryd.prog w = .ok (.string S2) w := by rw [HTY.out.eq, hS2]; exact add_str (by have := HLN.out; simp; omega)
          have ha1 : ∀ w, (Op.stringOp .add S2 (bstr [d])).run Tryd.prog w = .ok (.string S3) w := by rw [hS2, hS3, show tl ++ [mk, d] = tl ++ [mk] ++ [d] by simp]; exact add_str (by have := HLN.out; simp; omega)
          have HNX := hide (HTY.out.step (S' := S3) (pc := [mk, d]) HPM1.out (by rw [show [mk, d] = [mk] ++ [d] from rfl, keepT_append, HKM.out.1, HKD.out.1]; rfl) (by simp) (fun x hx => by
            rcases List.mem_cons.1 hx with h | h
            · rw [h]; exact HKM.out.2
            · rw [List.mem_singleton.1 h]; exact HKD.out.2) hS3)
          clear hS2
          generalize bstr [d] = SD at *
          generalize bstr [mk] = SM at *
          clear hS3 hm5
          go_wp2_with fail
          go_roundw
          case rel => exact ⟨i + 1, S3, HIN.out, by first | rfl | simp, by first | exact rfl | trivial, hide ⟨_, HNX.out⟩, hide (HBW.out.trans ((below_new _ _).mono HBW.out.size))⟩
          case measure => have := HIN.out; simp [intOf]; omega
        · subst hee
          subst hpp
          obtain ⟨d, hd⟩ : ∃ d, d = c0 := ⟨_, rfl⟩
          have HKD : Hid (keepT [d] = [c0] ∧ d < 256) := hide ⟨by rw [hd]; exact HKL.out.1, by have := HRG.out; omega⟩
          rw [← hd] at hx
          clear hd
          have hcv := conv_one d
          have HLN : Hid (tl.length ≤ 24) := hide (by have := HTY.out.len; have := HIN.out; omega)
          obtain ⟨S2, hS2⟩ : ∃ S2, S2 = bstr (tl ++ [d]) := ⟨_, rfl⟩
          obtain ⟨S3, hS3⟩ : ∃ S3, S3 = bstr (tl ++ [d, 32, 45]) := ⟨_, rfl⟩
          have ha1 : ∀ w, (Op.stringOp .add S (bstr [d])).run Tryd.prog w = .ok (.string S2) w := by rw [HTY.out.eq, hS2]; exact add_str (by have := HLN.out; simp; omega)
          have ha2 : ∀ w, (Op.stringOp .add S2 { data := #[32, 45] }).run Tryd.prog w = .ok (.string S3) w := by rw [hS2, hS3, show tl ++ [d, 32, 45] = tl ++ [d] ++ [32, 45] by simp]; exact add_str (y := [32, 45]) (by have := HLN.out; simp; omega)
          have HNX := hide (HTY.out.step (S' := S3) (pc := [d, 32, 45]) HPM1.out (by rw [show [d, 32, 45] = [d] ++ [32, 45] from rfl, keepT_append, keep_two, HKD.out.1]; rfl) (by simp) (fun x hx => by
            rcases List.mem_cons.1 hx with h | h
            · rw [h]; exact HKD.out.2
            · have : ∀ y ∈ [32, 45], y < 256 := by decide
              exact this x h) hS3)
          clear hS2
          generalize bstr [d] = SD at *
          generalize bstr [mk] = SM at *
          clear hS3 hm5
          go_wp2_with fail
          go_roundw
          case rel => exact ⟨i + 1, S3, HIN.out, by first | rfl | simp, by first | exact rfl | trivial, hide ⟨_, HNX.out⟩, hide (HBW.out.trans ((below_new _ _).mono HBW.out.size))⟩
          case measure => have := HIN.out; simp [intOf]; omega
        · subst hee
          subst hpp
          obtain ⟨d, hd⟩ : ∃ d, d = c0 + 32 := ⟨_, rfl⟩
          have e1 : IntKind.u8.wrap ((c0 : Int) - 65) = (c0 : Int) - 65 := by have := HRG.out; rw [IntKind.wrap_u8]; omega
          have e2 : IntKind.u8.wrap ((c0 : Int) - 65 + 97) = (d : Int) := by have := HRG.out; rw [IntKind.wrap_u8]; omega
          have e3 : (c0 : Int) - 65 + 97 = (d : Int) := by omega
          have e4 : (d : Int) % 256 = (d : Int) := by have := HRG.out; omega
          have HKD : Hid (keepT [d] = [c0] ∧ d < 256) := hide ⟨by rw [hd]; exact HKL.out.2, by have := HRG.out; omega⟩
          clear hd
          have hcv := conv_one d
          have HLN : Hid (tl.length ≤ 24) := hide (by have := HTY.out.len; have := HIN.out; omega)
          obtain ⟨S3, hS3⟩ : ∃ S3, S3 = bstr (tl ++ [d]) := ⟨_, rfl⟩
          have ha1 : ∀ w, (Op.stringOp .add S (bstr [d])).run Tryd.prog w = .ok (.string S3) w := by rw [HTY.out.eq, hS3]; exact add_str (by have := HLN.out; simp; omega)
          have HNX := hide (HTY.out.step (S' := S3) (pc := [d]) HPM1.out HKD.out.1 (by simp) (fun x hx => by rw [List.mem_singleton.1 hx]; exact HKD.out.2) hS3)
          generalize bstr [d] = SD at *
          generalize bstr [mk] = SM at *
          clear hS3 hm5
          go_wp2_with fail
          go_roundw
          case rel => exact ⟨i + 1, S3, HIN.out, by first | rfl | simp, by first | exact rfl | trivial, hide ⟨_, HNX.out⟩, hide (HBW.out.trans ((below_new _ _).mono HBW.out.size))⟩
          case measure => have := HIN.out; simp [intOf]; omega
        · subst hee
          subst hpp
          obtain ⟨d, hd⟩ : ∃ d, d = c0 + 32 := ⟨_, rfl⟩
          have e1 : IntKind.u8.wrap ((c0 : Int) - 65) = (c0 : Int) - 65 := by have := HRG.out; rw [IntKind.wrap_u8]; omega
          have e2 : IntKind.u8.wrap ((c0 : Int) - 65 + 97) = (d : Int) := by have := HRG.out; rw [IntKind.wrap_u8]; omega
          have e3 : (c0 : Int) - 65 + 97 = (d : Int) := by omega
          have e4 : (d : Int) % 256 = (d : Int) := by have := HRG.out; omega
          have HKD : Hid (keepT [d] = [c0] ∧ d < 256) := hide ⟨by rw [hd]; exact HKL.out.2, by have := HRG.out; omega⟩
          clear hd
          have hcv := conv_one d
          have HLN : Hid (tl.length ≤ 24) := hide (by have := HTY.out.len; have := HIN.out; omega)
          obtain ⟨S2, hS2⟩ : ∃ S2, S2 = bstr (tl ++ [mk]) := ⟨_, rfl⟩
          obtain ⟨S3, hS3⟩ : ∃ S3, S3 = bstr (tl ++ [mk, d]) := ⟨_, rfl⟩
          have ha0 : ∀ w, (Op.stringOp .add S (bstr [mk])).run Tryd.prog w = .ok (.string S2) w := by rw [HTY.out.eq, hS2]; exact add_str (by have := HLN.out; simp; omega)
          have ha1 : ∀ w, (Op.stringOp .add S2 (bstr [d])).run Tryd.prog w = .ok (.string S3) w := by rw [hS2, hS3, show tl ++ [mk, d] = tl ++ [mk] ++ [d] by simp]; exact add_str (by have := HLN.out; simp; omega)
          have HNX := hide (HTY.out.step (S' := S3) (pc := [mk, d]) HPM1.out (by rw [show [mk, d] = [mk] ++ [d] from rfl, keepT_append, HKM.out.1, HKD.out.1]; rfl) (by simp) (fun x hx => by
            rcases List.mem_cons.1 hx with h | h
            · rw [h]; exact HKM.out.2
            · rw [List.mem_singleton.1 h]; exact HKD.out.2) hS3)
          clear hS2
          generalize bstr [d] = SD at *
          generalize bstr [mk] = SM at *
          clear hS3 hm5
          go_wp2_with fail
          go_roundw
          case rel => exact ⟨i + 1, S3, HIN.out, by first | rfl | simp, by first | exact rfl | trivial, hide ⟨_, HNX.out⟩, hide (HBW.out.trans ((below_new _ _).mono HBW.out.size))⟩
          case measure => have := HIN.out; simp [intOf]; omega
        · subst hee
          subst hpp
          obtain ⟨d, hd⟩ : ∃ d, d = c0 + 32 := ⟨_, rfl⟩
          have e1 : IntKind.u8.wrap ((c0 : Int) - 65) = (c0 : Int) - 65 := by have := HRG.out; rw [IntKind.wrap_u8]; omega
          have e2 : IntKind.u8.wrap ((c0 : Int) - 65 + 97) = (d : Int) := by have := HRG.out; rw [IntKind.wrap_u8]; omega
          have e3 : (c0 : Int) - 65 + 97 = (d : Int) := by omega
          have e4 : (d : Int) % 256 = (d : Int) := by have := HRG.out; omega
          have HKD : Hid (keepT [d] = [c0] ∧ d < 256) := hide ⟨by rw [hd]; exact HKL.out.2, by have := HRG.out; omega⟩
          clear hd
          have hcv := conv_one d
          have HLN : Hid (tl.length ≤ 24) := hide (by have := HTY.out.len; have := HIN.out; omega)
          obtain ⟨S2, hS2⟩ : ∃ S2, S2 = bstr (tl ++ [d]) := ⟨_, rfl⟩
          obtain ⟨S3, hS3⟩ : ∃ S3, S3 = bstr (tl ++ [d, 32, 45]) := ⟨_, rfl⟩
          have ha1 : ∀ w, (Op.stringOp .add S (bstr [d])).run Tryd.prog w = .ok (.string S2) w := by rw [HTY.out.eq, hS2]; exact add_str (by have := HLN.out; simp; omega)
          have ha2 : ∀ w, (Op.stringOp .add S2 { data := #[32, 45] }).run Tryd.prog w = .ok (.string S3) w := by rw [hS2, hS3, show tl ++ [d, 32, 45] = tl ++ [d] ++ [32, 45] by simp]; exact add_str (y := [32, 45]) (by have := HLN.out; simp; omega)
          have HNX := hide (HTY.out.step (S' := S3) (pc := [d, 32, 45]) HPM1.out (by rw [show [d, 32, 45] = [d] ++ [32, 45] from rfl, keepT_append, keep_two, HKD.out.1]; rfl) (by simp) (fun x hx => by
            rcases List.mem_cons.1 hx with h | h
            · rw [h]; exact HKD.out.2
            · have : ∀ y ∈ [32, 45], y < 256 := by decide
              exact this x h) hS3)
          clear hS2
          generalize bstr [d] = SD at *
          generalize bstr [mk] = SM at *
          clear hS3 hm5
          go_wp2_with fail
          go_roundw
          case rel => exact ⟨i + 1, S3, HIN.out, by first | rfl | simp, by first | exact rfl | trivial, hide ⟨_, HNX.out⟩, hide (HBW.out.trans ((below_new _ _).mono HBW.out.size))⟩
          case measure => have := HIN.out; simp [intOf]; omega
    · have hin' : ¬ (i : Int) < 8 := by omega
      obtain rfl : i = 8 := by omega
      clear hi hin hix
      go_wp2_with fail
      go_ret
      exact ⟨S, tl, rfl, HTY.out, HBW.out⟩
end Go.Proofs.YtonnnolnkjahgaaDoor
