/- The law HttpHead. -/
import Derived.Test.YtaenccjlokiejaaGreatDoorHLive
namespace Go.Proofs.YtaenccjlokiejaaGreatDoor
open Go.RowKit Go.Shelf

theorem printReq_same (m t : U) (fs : List Fl) (b : U) : (∀ x, printReqR ⟨m, t, fs, []⟩ = .error x → printReqR ⟨m, t, fs, b⟩ = .error x ∧ x ≠ 0) ∧
    (∀ S, printReqR ⟨m, t, fs, []⟩ = .ok S → ∃ P, S = P ++ [13, 10] ∧ S.length ≤ 32768 ∧ ((∃ T X, printReqR ⟨m, t, fs, b⟩ = .ok T ∧ T.length ≤ 32768 ∧ (b = [] → T = S) ∧ (b ≠ [] → T = P ++ X ++ [13, 10, 13, 10] ++ b)) ∨ printReqR ⟨m, t, fs, b⟩ = .error 1)) := by
  unfold printReqR
  simp only
  by_cases h1 : methodB m = true
  · by_cases h2 : targetB t = true
    · rw [if_pos h1, if_pos h2, if_pos h1, if_pos h2]
      unfold writtenR
      by_cases h3 : 64 < fs.length
      · rw [if_pos h3, if_pos h3]
        exact ⟨fun x e => by cases e; exact ⟨rfl, by decide⟩, fun S e => by cases e⟩
      · rw [if_neg h3, if_neg h3]
        by_cases h4 : fs.all mayB = true
        · rw [if_pos h4, if_pos h4]
          have hb0 : ∀ first : U, headT first fs [] = (first ++ [13, 10] ++ fs.flatMap fieldT) ++ [13, 10] := fun first => by simp [headT, bodyT]
          have hle : ∀ first : U, (headT first fs []).length ≤ (headT first fs b).length := fun first => by
            unfold headT
            simp [bodyT]
          generalize (m ++ [32] ++ t ++ [32] ++ ver8) = first at *
          have hle := hle first
          by_cases h5 : 32768 < (headT first fs []).length + ([] : U).length
          · rw [if_pos h5, if_pos (by simp at h5; omega)]
            exact ⟨fun x e => by cases e; exact ⟨rfl, by decide⟩, fun S e => by cases e⟩
          · rw [if_neg h5]
            refine ⟨fun x e => by (cases e), fun S e => ?_⟩
            injection e with e
            rw [List.append_nil] at e
            subst e
            refine ⟨_, hb0 first, by simp at h5; omega, ?_⟩
            by_cases h6 : 32768 < (headT first fs b).length + b.length
            · rw [if_pos h6]; exact .inr rfl
            · rw [if_neg h6]
              left
              by_cases hb : b = []
              · subst hb
                exact ⟨_, [], rfl, by simp at h6 ⊢; omega, fun _ => by simp, fun h => absurd rfl h⟩
              · have hx : bodyT b = (lows clN ++ [58] ++ (if (Lib.itoa (b.length : Int)) = [] then [] else 32 :: Lib.itoa (b.length : Int))) ++ [13, 10] := by unfold bodyT; rw [if_neg hb]; rfl
                refine ⟨_, lows clN ++ [58] ++ (if (Lib.itoa (b.length : Int)) = [] then [] else 32 :: Lib.itoa (b.length : Int)), rfl, by rw [List.length_append]; omega, fun h => absurd h hb, fun _ => ?_⟩
                · unfold headT
                  rw [hx]
                  simp only [List.append_assoc, List.cons_append, List.nil_append]
        · rw [if_neg h4, if_neg h4]
          exact ⟨fun x e => by cases e; exact ⟨rfl, by decide⟩, fun S e => by cases e⟩
    · rw [if_pos h1, if_neg h2, if_pos h1, if_neg h2]
      exact ⟨fun x e => by cases e; exact ⟨rfl, by decide⟩, fun S e => by cases e⟩
  · rw [if_neg h1, if_neg h1]
    exact ⟨fun x e => by cases e; exact ⟨rfl, by decide⟩, fun S e => by cases e⟩
set_option maxHeartbeats 4000000 in
set_option maxRecDepth 100000 in
theorem httpHead_walk (q : Rq) (body : U) (ao : Option Addr) (n c : Nat) (w : World) (hn : n = q.fs.length) (hr : FRow w ao q.fs) (hm : q.m.length ≤ 9223372036854775807) (ht : q.t.length ≤ 9223372036854775807) (hb : body.length ≤ 4611686018427387904)
    (hz : FZ q.fs) (hnn : n ≤ 4611686018427387904) (E : Env w) :
    Calls Tryz.prog 11 #[qAgg q ao n c, .string (str body)] w fun e w' => e = .returned (.bool true) ∧ Below w.heap.size w w' := by
  have HP := hide (fun (b : U) (h : b.length ≤ 4611686018427387904) W hrr EE => printRequest_any ⟨q.m, q.t, q.fs, b⟩ ao n c W hn hrr hm ht h hz hnn EE)
  have HS := hide (printReq_same q.m q.t q.fs body)
  have HL := hide (fun W EE => live_any W EE)
  have HR := hide hr
  have HE := hide E
  have HBB := hide hb
  have HN := hide hn
  obtain ⟨qm, qt, fs, qb⟩ := q
  simp only at hn HP HS HR HN hm ht hz
  unfold qAgg at HP ⊢
  simp only at HP ⊢
  clear hn hr hm ht hz E hb
  go_enter Tryz.func11, Tryz.ntmps11
  go_upto_region 5 with fail
  have HX : Hid (RqB (((w.alloc (.cells #[.string (str qm), .string (str qt), .slice ao n c, .string (str qb)] 27)).alloc (.cells #[.string (str qm), .string (str qt), .slice ao n c, .string { data := #[] }] 27)).alloc (.cells #[.string (str qm), .string (str qt), .slice ao n c, .string (str body)] 27)) (w.heap.size + 1) (.string (str qm)) (.string (str qt)) (.slice ao n c) (.string { data := #[] })) := up_at _ (new_at _ _ _ (by simp))
  have HY : Hid (RqB (((w.alloc (.cells #[.string (str qm), .string (str qt), .slice ao n c, .string (str qb)] 27)).alloc (.cells #[.string (str qm), .string (str qt), .slice ao n c, .string { data := #[] }] 27)).alloc (.cells #[.string (str qm), .string (str qt), .slice ao n c, .string (str body)] 27)) (w.heap.size + 1 + 1) (.string (str qm)) (.string (str qt)) (.slice ao n c) (.string (str body))) := new_at _ _ _ (by simp)
  have HB0 : Hid (Below w.heap.size w (((w.alloc (.cells #[.string (str qm), .string (str qt), .slice ao n c, .string (str qb)] 27)).alloc (.cells #[.string (str qm), .string (str qt), .slice ao n c, .string { data := #[] }] 27)).alloc (.cells #[.string (str qm), .string (str qt), .slice ao n c, .string (str body)] 27))) := (((Below.refl _ w).alloc (by simp) _).alloc (by simp) _).alloc (by simp; omega) _
  generalize (((w.alloc (.cells #[.string (str qm), .string (str qt), .slice ao n c, .string (str qb)] 27)).alloc (.cells #[.string (str qm), .string (str qt), .slice ao n c, .string { data := #[] }] 27)).alloc (.cells #[.string (str qm), .string (str qt), .slice ao n c, .string (str body)] 27)) = w0 at *
  generalize hx1 : w.heap.size + 1 = bx at *
  generalize hy1 : bx + 1 = by_ at *
  obtain ⟨c0, c1, c2, c3⟩ := HX.out.cells
  have HP1 := hide (HP.out [] (by decide) w0 (HR.out.keep HB0.out) (HE.out.keep HB0.out))
  have e0 : str ([] : U) = { data := #[] } := rfl
  rw [e0] at HP1
  clear e0 hx1 hy1
  generalize h1 : printReqR ⟨qm, qt, fs, []⟩ = R1 at *
  generalize h2 : printReqR ⟨qm, qt, fs, body⟩ = R2 at *
  go_wp2_with fail
  refine HP1.out.mono ?_
  rintro e w1 ⟨rfl, hb1⟩
  have HB1 := hide (HB0.out.trans (hb1.mono HB0.out.size))
  have HY1 := hide (HY.out.keep hb1)
  clear hb1 HB0 HX HY c0 c1 c2 c3 HP1
  obtain ⟨c0, c1, c2, c3⟩ := HY1.out.cells
  have HP2 := hide (HP.out body HBB.out w1 (HR.out.keep HB1.out) (HE.out.keep HB1.out))
  rw [h2] at HP2
  clear HP
  cases R1 with
  | error x =>
    obtain ⟨hr2, hx0⟩ := HS.out.1 x rfl
    rw [hr2] at HP2
    have hxn : ((x : Int) != 0) = true := by rw [bne_iff_ne]; omega
    rw [show wAns (.error x) = .tuple #[.string { data := #[] }, .int .i64 (x : Int)] from rfl] at HP2 ⊢
    clear HS h1 h2 hr2 hx0
    go_wp2_with fail
    refine HP2.out.mono ?_
    rintro e w2 ⟨rfl, hb2⟩
    have HB2 := hide (HB1.out.trans (hb2.mono HB1.out.size))
    have HL2 := hide (HL.out w2 (HE.out.keep HB2.out))
    clear hb2 HB1 HP2 HY1 c0 c1 c2 c3 HL
    go_wp2_with fail
    refine HL2.out.mono ?_
    rintro e w3 ⟨rfl, hb3⟩
    have HB3 := hide (HB2.out.trans (hb3.mono HB2.out.size))
    clear hb3 HB2 HL2
    go_wp2_with (first | (go_at_call 12; refine (num_any _ _).mono ?_; rintro e w' ⟨rfl, rfl⟩) | fail)
    go_ret
    exact ⟨rfl, HB3.out⟩
  | ok S =>
    obtain ⟨P, hS, hSl, hT⟩ := HS.out.2 S rfl
    rw [show wAns (.ok S) = .tuple #[.string (str S), .int .i64 0] from rfl]
    rcases hT with ⟨T, X, hr2, hTl, hT0, hT1⟩ | hr2
    · rw [hr2] at HP2
      rw [show wAns (.ok T) = .tuple #[.string (str T), .int .i64 0] from rfl] at HP2
      have HS0 := hide hS
      have HSl := hide hSl
      have HTl := hide hTl
      have HT0 := hide hT0
      have HT1 := hide hT1
      clear HS h1 h2 hr2 hS hSl hTl hT0 hT1
      go_wp2_with fail
      refine HP2.out.mono ?_
      rintro e w2 ⟨rfl, hb2⟩
      have HB2 := hide (HB1.out.trans (hb2.mono HB1.out.size))
      have HL2 := hide (HL.out w2 (HE.out.keep HB2.out))
      clear hb2 HB1 HP2 HY1 c0 c1 c2 c3 HL
      go_wp2_with fail
      refine HL2.out.mono ?_
      rintro e w3 ⟨rfl, hb3⟩
      have HB3 := hide (HB2.out.trans (hb3.mono HB2.out.size))
      clear hb3 HB2 HL2
      have HEB : Hid (((str body).toList == ([] : List UInt8)) = decide (body = [])) := by
        show _ = _
        rw [toList_str, Bool.eq_iff_iff]
        simp
      by_cases hbe : body = []
      · have hee : ((str body).toList == ([] : List UInt8)) = true := by rw [HEB.out]; simp [hbe]
        have hTS := HT0.out hbe
        subst hTS
        clear hbe
        go_wp2_with (first | (go_at_call 12; refine (num_any _ _).mono ?_; rintro e w' ⟨rfl, rfl⟩) | fail)
        go_ret
        exact ⟨by simp, HB3.out⟩
      · have hee : ((str body).toList == ([] : List UInt8)) = false := by rw [HEB.out]; simp [hbe]
        have hTX := HT1.out hbe
        have hzS := str_size S
        have hzT := str_size T
        have hzb := str_size body
        obtain ⟨kp, hkp⟩ : ∃ kp, kp = P.length := ⟨_, rfl⟩
        obtain ⟨kb, hkb⟩ : ∃ kb, kb = body.length := ⟨_, rfl⟩
        obtain ⟨kt, hkt⟩ : ∃ kt, kt = T.length := ⟨_, rfl⟩
        have hSn : S.length = kp + 2 := by rw [HS0.out, hkp]; simp
        have hTn : kt = kp + X.length + 4 + kb := by rw [hkt, hTX, hkp, hkb]; simp; omega
        have hkt2 : kt ≤ 32768 := by rw [hkt]; exact HTl.out
        have hs1 := cut_to T kp (kp : Int) rfl (by omega)
        have hs2 := cut_to S kp (kp : Int) rfl (by omega)
        have hs3 := cut_from T (kt - kb - 4) ((kt : Int) - (kb : Int) - 4) (by omega) (by omega)
        have hq1 : T.take kp = P := by rw [hTX, hkp]; simp
        have hq2 : S.take kp = P := by rw [HS0.out, hkp]; simp
        have hq3 : T.drop (kt - kb - 4) = [13, 10, 13, 10] ++ body := by
          have e : kt - kb - 4 = (P ++ X).length := by simp; omega
          rw [e, hTX, show P ++ X ++ [13, 10, 13, 10] ++ body = (P ++ X) ++ ([13, 10, 13, 10] ++ body) by simp, List.drop_left]
        rw [hq1] at hs1
        rw [hq2] at hs2
        rw [hq3] at hs3
        have hap := str_app [13, 10, 13, 10] body
        have e4 : str [13, 10, 13, 10] = (⟨#[13, 10, 13, 10]⟩ : ByteArray) := rfl
        rw [e4] at hap
        rw [hSn] at hzS
        rw [← hkt] at hzT
        rw [← hkb] at hzb
        generalize str ([13, 10, 13, 10] ++ body) = sx at *
        generalize str P = sp at *
        generalize str S = ss at *
        generalize str T = st at *
        generalize str body = sb at *
        generalize X.length = kx at *
        clear hTX hkp hkb hkt hSn hq1 hq2 hq3 e4 HT0 HT1 HS0 HSl HTl HEB hbe HBB
        have hgt : (kp : Int) < (kt : Int) := by omega
        have hd1 : decide (kp < kt) = true := decide_eq_true (by omega)
        have hd2 : decide ((kp : Int) < (kt : Int)) = true := decide_eq_true hgt
        have hw2 : IntKind.i64.wrap (((kp + 2 : Nat) : Int) - 2) = (kp : Int) := by rw [IntKind.wrap_i64]; omega
        have hi2 : ((kp + 2 : Nat) : Int) - 2 = (kp : Int) := by omega
        have hw3 : IntKind.i64.wrap ((kt : Int) - (kb : Int)) = (kt : Int) - (kb : Int) := by rw [IntKind.wrap_i64]; omega
        have hw4 : IntKind.i64.wrap ((kt : Int) - (kb : Int) - 4) = (kt : Int) - (kb : Int) - 4 := by rw [IntKind.wrap_i64]; omega
        have hkb2 : kb ≤ 32768 := by omega
        clear hTn
        go_wp2_with (first | (go_at_call 12; refine (num_any _ _).mono ?_; rintro e w' ⟨rfl, rfl⟩) | fail)
        go_quiet (fail)
        go_wp2
        go_ret
        exact ⟨by simp, below_drewN HB3.out _⟩
    · rw [hr2] at HP2
      rw [show wAns (.error 1) = .tuple #[.string { data := #[] }, .int .i64 1] from rfl] at HP2
      clear HS h1 h2 hr2 hS hSl
      go_wp2_with fail
      refine HP2.out.mono ?_
      rintro e w2 ⟨rfl, hb2⟩
      have HB2 := hide (HB1.out.trans (hb2.mono HB1.out.size))
      have HL2 := hide (HL.out w2 (HE.out.keep HB2.out))
      clear hb2 HB1 HP2 HY1 c0 c1 c2 c3 HL
      go_wp2_with fail
      refine HL2.out.mono ?_
      rintro e w3 ⟨rfl, hb3⟩
      have HB3 := hide (HB2.out.trans (hb3.mono HB2.out.size))
      clear hb3 HB2 HL2
      go_wp2_with (first | (go_at_call 12; refine (num_any _ _).mono ?_; rintro e w' ⟨rfl, rfl⟩) | fail)
      go_ret
      exact ⟨rfl, HB3.out⟩
end Go.Proofs.YtaenccjlokiejaaGreatDoor
