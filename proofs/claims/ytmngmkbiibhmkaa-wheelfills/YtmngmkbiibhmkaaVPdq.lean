/- pdqsort, Sort. -/
import Derived.Deep.DeepCutAuto
import Derived.Test.YtmngmkbiibhmkaaVPdqM
namespace Go.Proofs.Ytmngmkbiibhmkaa
open Go.RowKit Go.Maps

def PS (w wr : World) (g : Nat) (rest : List Value) (a b : Nat) (ds : List Nat) (c d : Nat) : Prop := ∃ es, SR w wr g es rest ∧ SegP a b ds es ∧ Low c d es ∧ Side a b c d es
theorem PS.next {w wr w2 : World} {g a b c d : Nat} {rest : List Value} {ds es fs : List Nat} (h1 : SR w wr g es rest) (h2 : SegP a b ds es) (h3 : Low c d es) (h4 : Side a b c d es) (k1 : SR wr w2 g fs rest) (k2 : SegP c d es fs) (hn : ds.Nodup) (ha : a ≤ c) (hb : d ≤ b) (hl : b ≤ ds.length) : PS w w2 g rest a b ds c d :=
  ⟨fs, h1.trans k1, h2.trans (k2.mono ha hb), h3.seg k2 (h2.nodup hn) (by rw [h2.len]; omega), h4.seg k2 (h2.nodup hn) ha hb (by rw [h2.len]; exact hl)⟩
theorem PS.done {w wr w2 : World} {g a b c d : Nat} {rest : List Value} {ds es fs : List Nat} (h1 : SR w wr g es rest) (h2 : SegP a b ds es) (h4 : Side a b c d es) (k1 : SR wr w2 g fs rest) (k2 : SegP c d es fs) (k3 : Srt c d fs) (hn : ds.Nodup) (ha : a ≤ c) (hb : d ≤ b) (hl : b ≤ ds.length) : ∃ es, SR w w2 g es rest ∧ SegP a b ds es ∧ Srt a b es :=
  ⟨fs, h1.trans k1, h2.trans (k2.mono ha hb), (h4.seg k2 (h2.nodup hn) ha hb (by rw [h2.len]; exact hl)).all k3⟩
theorem PS.drewN {w wr : World} {g a b c d : Nat} {rest : List Value} {ds : List Nat} (h : PS w wr g rest a b ds c d) (n : Nat) : PS w (wr.drewN n) g rest a b ds c d := by
  obtain ⟨es, h1, h2⟩ := h
  exact ⟨es, h1.drewN n, h2⟩
set_option maxHeartbeats 8000000 in
set_option maxRecDepth 100000 in
theorem pdq_any (g n cap : Nat) (rest : List Value) (hl : n ≤ 1000000) : ∀ (k a b lim : Nat) (ds : List Nat) (w : World), b - a = k → Bl w g (ds.map uv ++ rest) 22 → n = ds.length → ds.Nodup → a ≤ b → b ≤ n → Low a b ds → lim ≤ 64 →
    Calls Try.prog 68 #[.slice (some ⟨g, 0, none⟩) n cap, .int .i64 (a : Int), .int .i64 (b : Int), .int .i64 (lim : Int)] w fun e w' => e = .returned (.tuple #[]) ∧ ∃ es, SR w w' g es rest ∧ SegP a b ds es ∧ Srt a b es := by
  intro k
  induction k using Nat.strongRecOn with
  | ind k ih =>
    intro a b lim ds w hk hB hn hd hab hb hL hlim
    have IH := hide ih
    have HB := hide hB
    have HN := hide hn
    have HD := hide hd
    have HL := hide hL
    have HK := hide hk
    have HBL : Hid (b ≤ ds.length) := by show _ ≤ _; rw [← hn]; exact hb
    clear ih hB hn hd hL hk
    go_enter Try.func68, Try.ntmps68
    go_wp2
    go_loopw [1, 2, 3, 8, 9] (fun v1 v2 v3 v8 v9 wr => ∃ (c d l : Nat) (bal par : Bool), a ≤ c ∧ c ≤ d ∧ d ≤ b ∧ l ≤ 64 ∧ v1 = .int .i64 (c : Int) ∧ v2 = .int .i64 (d : Int) ∧ v3 = .int .i64 (l : Int) ∧ v8 = .bool bal ∧ v9 = .bool par ∧ Hid (PS w wr g rest a b ds c d)) (fun v1 v2 _ _ _ _ => (intOf v2 - intOf v1).toNat)
    case atStart => exact ⟨a, b, lim, true, true, by omega, hab, by omega, hlim, rfl, rfl, rfl, rfl, rfl, ds, SR.refl HB.out, SegP.refl _ _ _, HL.out, Side.start _ _ _⟩
    case round =>
      obtain ⟨c, d, l, bal, par, hac, hcd, hdb, hl64, rfl, rfl, rfl, rfl, rfl, HP⟩ := hrel
      obtain ⟨ln, hln⟩ : ∃ ln, ln = d - c := ⟨_, rfl⟩
      have hln1 : (d : Int) - (c : Int) = (ln : Int) := by omega
      have hln2 : c + ln ≤ d ∧ d ≤ c + ln := by omega
      clear hln
      obtain ⟨es, h1, h2, h3, h4⟩ := HP.out
      have H1 := hide h1
      have H2 := hide h2
      have H3 := hide h3
      have H4 := hide h4
      have HE := hide (show n = es.length by rw [h2.len]; exact HN.out)
      clear h1 h2 h3 h4
      by_cases h12 : ln ≤ 12
      · have h12' : (ln : Int) ≤ 12 := by omega
        go_wp2_with (go_at_call 74; refine (insertion_any g n cap c d es rest wr H1.out.bl HE.out hl hcd (by omega)).mono ?_; rintro e w2 ⟨rfl, hw⟩; obtain ⟨fs, k1, k2, k3⟩ := hw; have HO := hide (PS.done H1.out H2.out H4.out k1 k2 k3 HD.out hac hdb HBL.out); clear k1 k2 k3)
        first | go_end0 | ((try simp only [Exit.inBlock, Exit.then]); refine bodyPost_ret (results_none rfl _ _ _) rfl ?_)
        exact ⟨rfl, HO.out⟩
      · have h12' : ¬ (ln : Int) ≤ 12 := by omega
        by_cases h0 : l = 0
        · subst h0
          go_wp2_with (go_at_call 75; refine (heapSort_any g n cap c d es rest wr H1.out.bl HE.out (H2.out.nodup HD.out) hl (by omega) (by omega)).mono ?_; rintro e w2 ⟨rfl, hw⟩; obtain ⟨fs, k1, k2, k3⟩ := hw; have HO := hide (PS.done H1.out H2.out H4.out k1 k2 k3 HD.out hac hdb HBL.out); clear k1 k2 k3)
          first | go_end0 | ((try simp only [Exit.inBlock, Exit.then]); refine bodyPost_ret (results_none rfl _ _ _) rfl ?_)
          exact ⟨rfl, HO.out⟩
        · have h0' : ¬ (l : Int) = 0 := by omega
          have h0b : ((l : Int) == 0) = false := by simp [h0]
          go_upto_if 35 with fail
          go_cut [3] (fun v3 wx => ∃ l' : Nat, l' ≤ 64 ∧ v3 = .int .i64 (l' : Int) ∧ Hid (PS w wx g rest a b ds c d))
          case first =>
            cases bal
            · go_wp2_with (go_at_call 76; refine (break_any g n cap c d es rest wr H1.out.bl HE.out hl (by omega) (by omega)).mono ?_; rintro e w2 ⟨rfl, hw⟩; obtain ⟨fs, k1, k2⟩ := hw; have HO := hide (PS.next H1.out H2.out H3.out H4.out k1 k2 HD.out hac hdb HBL.out); clear k1 k2)
              go_meet
              case rel => exact ⟨l - 1, by omega, by rw [show ((l - 1 : Nat) : Int) = (l : Int) - 1 by omega], HO⟩
            · go_wp2_with fail
              go_meet
              case rel => exact ⟨l, hl64, rfl, HP⟩
          case rest =>
            clear HP H1 H2 H3 H4 HE h0 h0' h0b
            obtain ⟨l', hl', rfl, HP⟩ := hcut
            obtain ⟨es2, h1, h2, h3, h4⟩ := HP.out
            have H1 := hide h1
            have H2 := hide h2
            have H3 := hide h3
            have H4 := hide h4
            have HE := hide (show n = es2.length by rw [h2.len]; exact HN.out)
            clear h1 h2 h3 h4 HP
            go_upto_if 50 with (go_at_call 77; refine (pivot_any g n cap c d es2 rest wc H1.out.bl HE.out hl (by omega) (by omega)).mono ?_; rintro e w2 ⟨k1, p, h, hp1, hp2, hh, rfl⟩; have K1 := hide (H1.out.trans k1); clear k1 H1)
            go_cut [11, 12] (fun v11 v12 wx => ∃ p h : Nat, c ≤ p ∧ p < d ∧ h ≤ 2 ∧ v11 = .int .i64 (p : Int) ∧ v12 = .int .i64 (h : Int) ∧ Hid (PS w wx g rest a b ds c d))
            case first =>
              by_cases hh2 : h = 2
              · subst hh2
                obtain ⟨pp, hpp⟩ : ∃ pp, pp = (d - 1) - (p - c) := ⟨_, rfl⟩
                have hpp1 : (d : Int) - 1 - ((p : Int) - (c : Int)) = (pp : Int) := by omega
                have hpp2 : c ≤ pp ∧ pp < d := by omega
                clear hpp
                go_wp2_with (go_at_call 78; refine (reverse_any g n cap c d es2 rest w2 K1.out.bl HE.out hl (by omega) (by omega)).mono ?_; rintro e w3 ⟨rfl, hw⟩; obtain ⟨fs, k1, k2⟩ := hw; have HO := hide (PS.next K1.out H2.out H3.out H4.out k1 k2 HD.out hac hdb HBL.out); clear k1 k2)
                go_meet
                case rel => exact ⟨pp, 1, hpp2.1, hpp2.2, by omega, by first | rfl | simp, rfl, HO⟩
              · have hh2' : ¬ (h : Int) = 2 := by omega
                have hh2b : ((h : Int) == 2) = false := by simp; omega
                go_wp2_with fail
                go_meet
                case rel => exact ⟨p, h, hp1, hp2, hh, rfl, rfl, es2, K1.out, H2.out, H3.out, H4.out⟩
            case rest =>
              clear K1 H2 H3 H4 HE hp1 hp2 hh
              obtain ⟨p, h, hp1, hp2, hh, rfl, rfl, HP⟩ := hcut
              go_upto_region 15 with fail
              go_cut [68] (fun v68 wx => ∃ t : Bool, v68 = .bool t ∧ Hid (PS w wx g rest a b ds c d))
              case first =>
                cases bal
                · go_wp2_with fail
                  go_meet
                  case rel => exact ⟨_, rfl, HP⟩
                · cases par
                  · go_wp2_with fail
                    go_meet
                    case rel => exact ⟨_, rfl, HP⟩
                  · go_wp2_with fail
                    go_meet
                    case rel => exact ⟨_, rfl, HP⟩
              case rest =>
                clear HP
                obtain ⟨t, rfl, HP⟩ := hcut
                go_upto_if 68 with fail
                go_cut [12] (fun v12 wx => v12 = .int .i64 (h : Int) ∧ Hid (PS w wx g rest a b ds c d))
                case first =>
                  cases t
                  · go_wp2_with fail
                    go_meet
                    case rel => exact ⟨rfl, HP⟩
                  · obtain ⟨es3, h1, h2, h3, h4⟩ := HP.out
                    have H1 := hide h1
                    have H2 := hide h2
                    have H3 := hide h3
                    have H4 := hide h4
                    have HE := hide (show n = es3.length by rw [h2.len]; exact HN.out)
                    clear h1 h2 h3 h4 HP
                    go_wp2_with fail
                    refine (partial_any g n cap c d es3 rest _ H1.out.bl HE.out (H2.out.nodup HD.out) H3.out hl (by omega) (by omega)).mono ?_
                    rintro e w3 (⟨rfl, hw⟩ | ⟨rfl, hw⟩)
                    · have HO : Hid (PS w w3 g rest a b ds c d) := by
                        obtain ⟨fs, k1, k2⟩ := hw.out
                        exact PS.next H1.out H2.out H3.out H4.out k1 k2 HD.out hac hdb HBL.out
                      clear hw H1 H2 H3 H4 HE
                      go_wp2_with fail
                      go_meet
                      case rel => exact ⟨rfl, HO⟩
                    · have HO : Hid (∃ es, SR w w3 g es rest ∧ SegP a b ds es ∧ Srt a b es) := by
                        obtain ⟨fs, k1, k2, k3⟩ := hw.out
                        exact PS.done H1.out H2.out H4.out k1 k2 k3 HD.out hac hdb HBL.out
                      clear hw H1 H2 H3 H4 HE
                      go_wp2_with fail
                      first | go_end0 | ((try simp only [Exit.inBlock, Exit.then]); refine bodyPost_ret (results_none rfl _ _ _) rfl ?_)
                      exact ⟨rfl, HO.out⟩
                case rest =>
                  clear HP
                  obtain ⟨rfl, HP⟩ := hcut
                  go_upto_region 17 with fail
                  go_cut [87] (fun v87 wx => v87 = .bool false ∧ Hid (PS w wx g rest a b ds c d))
                  case first =>
                    by_cases hc0 : c = 0
                    · subst hc0
                      go_wp2_with fail
                      go_quiet ((go_at_call 80; exact (less_any _ _ _).mono fun _ _ h => ⟨h.1, _, h.2⟩))
                      go_wp2
                      go_meet
                      case rel => exact ⟨rfl, HP.out.drewN _⟩
                    · have hc0' : (0 : Int) < (c : Int) := by omega
                      have hc0n : 0 < c := by omega
                      obtain ⟨es3, h1, h2, h3, h4⟩ := HP.out
                      have hel : es3.length = n := by rw [h2.len]; exact HN.out.symm
                      obtain ⟨m, hm⟩ : ∃ m, m = c - 1 := ⟨_, rfl⟩
                      have hm1 : (c : Int) - 1 = (m : Int) := by omega
                      have hm2 : m < n := by omega
                      have cm := h1.cell (t := m) (by omega)
                      have cp := h1.cell (t := p) (by omega)
                      have hlt : gt es3 m < gt es3 p := by
                        rcases h3 with h3 | h3
                        · omega
                        · rw [hm]; exact h3 p hp1 hp2
                      generalize gt es3 m = x at *
                      generalize gt es3 p = y at *
                      have hdd : decide (x < y) = true := decide_eq_true hlt
                      clear h1 h2 h3 h4 hel hm
                      go_wp2_with fail
                      go_quiet ((go_at_call 80; exact (less_any _ _ _).mono fun _ _ h => ⟨h.1, _, h.2⟩))
                      go_wp2
                      go_meet
                      case rel => exact ⟨rfl, HP.out.drewN _⟩
                  case rest =>
                    clear HP
                    obtain ⟨rfl, HP⟩ := hcut
                    obtain ⟨es3, h1, h2, h3, h4⟩ := HP.out
                    have H1 := hide h1
                    have H2 := hide h2
                    have H3 := hide h3
                    have H4 := hide h4
                    have HE := hide (show n = es3.length by rw [h2.len]; exact HN.out)
                    clear h1 h2 h3 h4 HP
                    go_wp2_with fail
                    refine (partition_any g n cap c d p es3 rest _ H1.out.bl HE.out (H2.out.nodup HD.out) hl hp1 hp2 (by omega)).mono ?_
                    rintro e w3 hw
                    obtain ⟨m, r, fs, hm1, hm2, rfl, k1, k2, k3⟩ := hw
                    have F1 := hide (H1.out.trans k1)
                    have F2 := hide (H2.out.trans (k2.mono hac hdb))
                    have F3 := hide (H3.out.seg k2 (H2.out.nodup HD.out) (by rw [← HE.out]; omega))
                    have F4 := hide (H4.out.seg k2 (H2.out.nodup HD.out) hac hdb (by rw [← HE.out]; exact hb))
                    have F5 := hide k3
                    have FE := hide (show n = fs.length by rw [k2.len]; exact HE.out)
                    have FD := hide (F2.out.nodup HD.out)
                    clear k1 k2 k3 H1 H2 H3 H4 HE
                    obtain ⟨ll, hll⟩ : ∃ ll, ll = m - c := ⟨_, rfl⟩
                    obtain ⟨rl, hrl⟩ : ∃ rl, rl = d - m := ⟨_, rfl⟩
                    have hll1 : (m : Int) - (c : Int) = (ll : Int) := by omega
                    have hrl1 : (d : Int) - (m : Int) = (rl : Int) := by omega
                    clear hll hrl
                    by_cases hlr : ll < rl
                    · have hlr' : (ll : Int) < (rl : Int) := by omega
                      have hlrd : decide (ll < rl) = true := decide_eq_true hlr
                      have R := hide (IH.out (m - c) (by have := HK.out; omega) c m l' fs w3 rfl F1.out.bl FE.out FD.out hm1 (by omega) (low_left F3.out (by omega)) hl')
                      go_wp2_with (go_at_call 68; refine R.out.mono ?_; rintro e w4 ⟨rfl, hw⟩; have HW := hide hw; clear hw)
                      have HO : Hid (PS w w4 g rest a b ds (m + 1) d) := by
                        obtain ⟨gs, j1, j2, j3⟩ := HW.out
                        have j4 := side_left F4.out F5.out j2 j3 FD.out hac hdb hm1 hm2 (by rw [← FE.out]; exact hb)
                        exact ⟨gs, F1.out.trans j1, F2.out.trans (j2.mono hac (by omega)), j4.2, j4.1⟩
                      clear HW R F1 F2 F3 F4 F5 FE FD
                      go_roundw
                      case rel => exact ⟨m + 1, d, l', _, r, by omega, by omega, hdb, hl', by simp, rfl, rfl, rfl, rfl, HO⟩
                      case measure => simp [intOf]; omega
                    · have hlr' : ¬ (ll : Int) < (rl : Int) := by omega
                      have hlrd : decide (ll < rl) = false := decide_eq_false hlr
                      have R := IH.out (d - (m + 1)) (by have := HK.out; omega) (m + 1) d l' fs w3 rfl F1.out.bl FE.out FD.out (by omega) (by omega) (low_mid F5.out) hl'
                      rw [show ((m + 1 : Nat) : Int) = (m : Int) + 1 by omega] at R
                      have R := hide R
                      go_wp2_with (go_at_call 68; refine R.out.mono ?_; rintro e w4 ⟨rfl, hw⟩; have HW := hide hw; clear hw)
                      have HO : Hid (PS w w4 g rest a b ds c m) := by
                        obtain ⟨gs, j1, j2, j3⟩ := HW.out
                        have j4 := side_right F4.out F3.out F5.out j2 j3 FD.out hac hdb hm1 hm2 (by rw [← FE.out]; exact hb)
                        exact ⟨gs, F1.out.trans j1, F2.out.trans (j2.mono (by omega) hdb), j4.2, j4.1⟩
                      clear HW R F1 F2 F3 F4 F5 FE FD
                      go_roundw
                      case rel => exact ⟨c, m, l', _, r, hac, hm1, by omega, hl', rfl, rfl, rfl, rfl, rfl, HO⟩
                      case measure => simp [intOf]; omega
theorem low_zero (b : Nat) (ds : List Nat) : Low 0 b ds := .inl rfl
set_option maxHeartbeats 1000000 in
set_option maxRecDepth 100000 in
/-- slices.Sort of distinct numbers: the row sorted, nothing else old turned. -/
theorem sortU_any (g n cap : Nat) (ds : List Nat) (rest : List Value) (w : World) (hB : Bl w g (ds.map uv ++ rest) 22) (hn : n = ds.length) (hd : ds.Nodup) (hl : n ≤ 1000000) :
    Calls Try.prog 55 #[.slice (some ⟨g, 0, none⟩) n cap] w fun e w' => e = .returned (.tuple #[]) ∧ ∃ es, SR w w' g es rest ∧ es.Perm ds ∧ Srt 0 n es := by
  have P := hide (fun (lim : Nat) (h : lim ≤ 64) => pdq_any g n cap rest hl n 0 n lim ds w (by omega) hB hn hd (Nat.zero_le _) (Nat.le_refl _) (low_zero _ _) h)
  clear hB hn hd
  go_enter Try.func55, Try.ntmps55
  go_wp2_with (first | (go_at_call 52; refine (blen_any n (by omega) _).mono ?_; rintro e w2 ⟨lim, hlim, rfl, rfl⟩) | (go_at_call 68; refine (P.out lim (by omega)).mono ?_; rintro e w3 ⟨rfl, hw⟩; have HW := hide hw; clear hw))
  go_end0
  obtain ⟨es, j1, j2, j3⟩ := HW.out
  exact ⟨rfl, es, j1, j2.perm, j3⟩
end Go.Proofs.Ytmngmkbiibhmkaa
