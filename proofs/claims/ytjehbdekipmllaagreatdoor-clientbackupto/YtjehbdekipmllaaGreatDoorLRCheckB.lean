/- The document's Check: every client. -/
import Derived.Test.YtjehbdekipmllaaGreatDoorLRCheck
import Derived.Test.YtjehbdekipmllaaGreatDoorLLaws
import Derived.Test.YtjehbdekipmllaaGreatDoorLCheck
namespace Go.Proofs.YtjehbdekipmllaaGreatDoor
open Go.RowKit

theorem rscopes_c (s : ByteArray) (l : List U) (er m : Nat) (w : World) (hO : scoOut s.data.toList = (l, er)) (hm : m = l.length) (hsz : s.size ≤ 9223372036854775807) :
    Calls Tryz.prog 55 #[.string s] w fun e w' => ∃ fo fc, e = .returned (.tuple #[.slice fo m fc, .int .i64 (er : Int)]) ∧ Hid (SOwn w' w.heap.size (.slice fo m fc) l ∧ Below w.heap.size w w') := by
  subst hm
  refine (refScopes_any s w hsz).mono ?_
  rintro e w' ⟨v, rfl, h⟩
  rw [hO] at h ⊢
  obtain ⟨fo, fc, rfl, _⟩ := h.out.1.shape
  exact ⟨fo, fc, rfl, h⟩
def pingB (secret : ByteArray) (gr : Int) (pg : Bool) : Bool := !pg || (decide (2 ≤ gr) && decide (0 < secret.size))
def rcheckB (c : Cl) : Bool := rbytesB 33 1 64 c.id && rbytesB 32 0 256 c.secret && decide (1 ≤ c.grants) && decide (c.grants ≤ 3) && pingB c.secret c.grants c.ping && rurlB c.ping c.url && (decide ((scoOut (joinS c.scopes)).2 = 0) && decide ((scoOut (joinS c.scopes)).1 = c.scopes))
theorem rcheck_eq (c : Cl) : rcheckB c = checkB c := by
  obtain ⟨id, secret, gr, pg, url, l⟩ := c
  have e1 : rbytesB 33 1 64 id = idB id := by unfold rbytesB idB; cases allB 33 id.data.toList <;> simp
  have e2 : rbytesB 32 0 256 secret = secretB secret := by unfold rbytesB secretB; cases allB 32 secret.data.toList <;> simp
  have e3 : (decide ((scoOut (joinS l)).2 = 0) && decide ((scoOut (joinS l)).1 = l)) = scopesB l := by
    unfold scopesB
    by_cases h : (scoOut (joinS l)).1 = l
    · have h32 : l.length ≤ 32 := by rw [← h]; exact scoOut_len _
      rw [decide_eq_true h, decide_eq_true h32]; simp
    · rw [decide_eq_false h]; simp
  have e4 : (pingB secret gr pg && rurlB pg url) = toldB secret gr pg url := by
    unfold pingB rurlB toldB urlB rbytesB
    cases pg
    · simp
    · have h9 : decide (9 ≤ url.size) = decide (8 < url.size) := by rw [decide_eq_decide]; omega
      simp only [Bool.not_true, Bool.false_or, if_true, h9]
      cases decide (2 ≤ gr) <;> cases decide (0 < secret.size) <;> cases decide (8 < url.size) <;> cases decide (url.size ≤ 256) <;> cases allB 33 url.data.toList <;> cases Lib.hasPrefix url.data.toList sHttps.data.toList <;> rfl
  unfold rcheckB checkB
  simp only
  rw [e1, e2, e3, Bool.and_assoc _ (pingB secret gr pg), e4]
  cases idB id <;> cases secretB secret <;> cases decide (1 ≤ gr) <;> cases decide (gr ≤ 3) <;> cases toldB secret gr pg url <;> cases scopesB l <;> rfl
set_option maxHeartbeats 4000000 in
set_option maxRecDepth 100000 in
theorem rcheck_any (id secret url : ByteArray) (gr : Int) (pg : Bool) (l : List U) (so : Option Addr) (n cp : Nat) (w : World) (hs : SAt w so n cp l) (hn : n ≤ 140737488355328) (hj : (joinS l).length ≤ 140737488355328)
    (hi : id.size ≤ 9223372036854775807) (hse : secret.size ≤ 9223372036854775807) (hu : url.size ≤ 9223372036854775807) :
    Calls Tryz.prog 33 #[.agg #[.string id, .string secret, .int .i64 gr, .bool pg, .string url, .slice so n cp]] w fun e w' => e = .returned (.int .i64 (errIf (checkB ⟨id, secret, gr, pg, url, l⟩) 111)) ∧ Below w.heap.size w w' := by
  rw [← rcheck_eq]
  have HS : Hid (SAt w so n cp l) := hs
  obtain ⟨A, HA⟩ : ∃ A, Hid (A = rbytesB 33 1 64 id) := ⟨_, hide rfl⟩
  obtain ⟨B, HB⟩ : ∃ B, Hid (B = rbytesB 32 0 256 secret) := ⟨_, hide rfl⟩
  obtain ⟨U, HU⟩ : ∃ U, Hid (U = rurlB pg url) := ⟨_, hide rfl⟩
  obtain ⟨P, HP⟩ : ∃ P, Hid (P = pingB secret gr pg) := ⟨_, hide rfl⟩
  have cA : ∀ w, Calls Tryz.prog 67 #[.string id, .int .u8 33, .int .u8 126, .int .i64 1, .int .i64 64] w fun e w' => e = .returned (.bool A) ∧ w' = w := by intro w; rw [HA.out]; exact rbytes_any id 33 1 64 w hi
  have cB : ∀ w, Calls Tryz.prog 67 #[.string secret, .int .u8 32, .int .u8 126, .int .i64 0, .int .i64 256] w fun e w' => e = .returned (.bool B) ∧ w' = w := by intro w; rw [HB.out]; exact rbytes_any secret 32 0 256 w hse
  have cU : ∀ w, Calls Tryz.prog 68 #[.agg #[.string id, .string secret, .int .i64 gr, .bool pg, .string url, .slice so n cp]] w fun e w' => e = .returned (.bool U) ∧ Below w.heap.size w w' := by intro w; rw [HU.out]; exact rurl_any id secret url gr pg so n cp w hu
  obtain ⟨J, HJ⟩ : ∃ J : ByteArray, Hid (J = ⟨(joinS l).toArray⟩) := ⟨_, hide rfl⟩
  have cJ := joined_any n cp so l (w.alloc (.cells #[.string id, .string secret, .int .i64 gr, .bool pg, .string url, .slice so n cp] 50)) hs.1 hn hj (hs.keep (below_new w _)).2.2.1
  rw [← HJ.out] at cJ
  have hJs : J.size ≤ 9223372036854775807 := by rw [HJ.out, u_size (joinS l)]; omega
  obtain ⟨r, er, hO⟩ : ∃ r er, scoOut J.data.toList = (r, er) := ⟨_, _, rfl⟩
  obtain ⟨m, hm⟩ : ∃ m, m = r.length := ⟨_, rfl⟩
  have HMR : Hid (m = r.length) := hm
  have hm32 : m ≤ 32 := by have h32 : (scoOut J.data.toList).1.length ≤ 32 := scoOut_len _; rw [hO] at h32; rw [hm]; exact h32
  have cS := rscopes_c J r er m (w.alloc (.cells #[.string id, .string secret, .int .i64 gr, .bool pg, .string url, .slice so n cp] 50)) hO hm hJs
  obtain ⟨R, HR⟩ : ∃ R, Hid (R = rcheckB ⟨id, secret, gr, pg, url, l⟩) := ⟨_, hide rfl⟩
  have HRE : Hid (R = (A && B && decide (1 ≤ gr) && decide (gr ≤ 3) && P && U && (decide (er = 0) && decide (r = l)))) := by
    show _ = _
    have e1 : J.data.toList = joinS l := by rw [HJ.out]
    rw [e1] at hO
    rw [HR.out]; unfold rcheckB; simp only; rw [hO, HA.out, HB.out, HP.out, HU.out]
  rw [← HR.out]
  have HBA : Hid (Below w.heap.size w (w.alloc (.cells #[.string id, .string secret, .int .i64 gr, .bool pg, .string url, .slice so n cp] 50))) := below_new w _
  have HD0 : Hid (D6 (w.alloc (.cells #[.string id, .string secret, .int .i64 gr, .bool pg, .string url, .slice so n cp] 50)) w.heap.size (.string id) (.string secret) (.int .i64 gr) (.bool pg) (.string url) (.slice so n cp)) := heap_alloc_new w _
  have hs0 := HD0.out.lt
  clear hs hj hm hO HA HB HU HR
  go_enter Tryz.func33, Tryz.ntmps33
  go_wp2_with (first | (go_at_call 65; refine cJ.mono ?_; rintro e wx ⟨rfl, rfl⟩) | fail)
  refine cS.mono ?_
  rintro e w2 ⟨fo, fc, rfl, HO⟩
  have HB2 : Hid (Below w.heap.size w w2) := HBA.out.trans (HO.out.2.mono HBA.out.size)
  have HD2 := hide (HD0.out.keep HO.out.2 hs0)
  have HRW := hide HO.out.1.row
  have hs2 := HB2.out.size
  clear HO cS cJ HBA HD0
  obtain ⟨c0, c1, c2, c3, c4, c5⟩ := HD2.out.cells
  have cT := rtexts_any m n fc cp fo so r l w2 HMR.out HS.out.1 (by omega) HRW.out (HS.out.keep HB2.out).2.2.1
  obtain ⟨E, HE⟩ : ∃ E, Hid (E = decide (r = l)) := ⟨_, hide rfl⟩
  rw [← HE.out] at cT HRE
  clear HE
  by_cases he : er = 0
  · subst he
    cases pg
    · have hP : P = true := HP.out
      subst hP
      cases A
      · have HF : Hid (R = false) := by show _ = _; rw [HRE.out]; first | rfl | simp [*]
        have tokA : Hid True := trivial
        go_wp2_with (first | (go_at_call 66; refine cT.mono ?_; rintro e wx ⟨rfl, q, rfl⟩) | (go_at_call 67; have _t := tokA; clear _t tokA; refine (cA _).mono ?_; rintro e wx ⟨rfl, rfl⟩) | (go_at_call 67; refine (cB _).mono ?_; rintro e wx ⟨rfl, rfl⟩))
        go_ret
        exact ⟨by rw [HF.out]; rfl, by first | exact HB2.out | exact below_drewN HB2.out _⟩
      cases B
      · have HF : Hid (R = false) := by show _ = _; rw [HRE.out]; first | rfl | simp [*]
        have tokA : Hid True := trivial
        go_wp2_with (first | (go_at_call 66; refine cT.mono ?_; rintro e wx ⟨rfl, q, rfl⟩) | (go_at_call 67; have _t := tokA; clear _t tokA; refine (cA _).mono ?_; rintro e wx ⟨rfl, rfl⟩) | (go_at_call 67; refine (cB _).mono ?_; rintro e wx ⟨rfl, rfl⟩))
        go_ret
        exact ⟨by rw [HF.out]; rfl, by first | exact HB2.out | exact below_drewN HB2.out _⟩
      by_cases h1 : 1 ≤ gr
      case neg =>
        have h1' : gr < 1 := by omega
        have h1d := decide_eq_false h1
        have HF : Hid (R = false) := by show _ = _; rw [HRE.out]; first | rfl | simp [*]
        have tokA : Hid True := trivial
        go_wp2_with (first | (go_at_call 66; refine cT.mono ?_; rintro e wx ⟨rfl, q, rfl⟩) | (go_at_call 67; have _t := tokA; clear _t tokA; refine (cA _).mono ?_; rintro e wx ⟨rfl, rfl⟩) | (go_at_call 67; refine (cB _).mono ?_; rintro e wx ⟨rfl, rfl⟩))
        go_ret
        exact ⟨by rw [HF.out]; rfl, by first | exact HB2.out | exact below_drewN HB2.out _⟩
      by_cases h3 : gr ≤ 3
      case neg =>
        have h3' : 3 < gr := by omega
        have h3d := decide_eq_false h3
        have HF : Hid (R = false) := by show _ = _; rw [HRE.out]; first | rfl | simp [*]
        have tokA : Hid True := trivial
        go_wp2_with (first | (go_at_call 66; refine cT.mono ?_; rintro e wx ⟨rfl, q, rfl⟩) | (go_at_call 67; have _t := tokA; clear _t tokA; refine (cA _).mono ?_; rintro e wx ⟨rfl, rfl⟩) | (go_at_call 67; refine (cB _).mono ?_; rintro e wx ⟨rfl, rfl⟩))
        go_ret
        exact ⟨by rw [HF.out]; rfl, by first | exact HB2.out | exact below_drewN HB2.out _⟩
      have h1d := decide_eq_true h1
      have h3d := decide_eq_true h3
      cases U
      · have HF : Hid (R = false) := by show _ = _; rw [HRE.out]; first | rfl | simp [*]
        have tokA : Hid True := trivial
        go_wp2_with (first | (go_at_call 66; refine cT.mono ?_; rintro e wx ⟨rfl, q, rfl⟩) | (go_at_call 67; have _t := tokA; clear _t tokA; refine (cA _).mono ?_; rintro e wx ⟨rfl, rfl⟩) | (go_at_call 67; refine (cB _).mono ?_; rintro e wx ⟨rfl, rfl⟩) | (go_at_call 68; refine (cU _).mono ?_; rintro e w9 ⟨rfl, hb9⟩; have HB9 := hide hb9; clear hb9))
        go_ret
        exact ⟨by rw [HF.out]; first | rfl | simp [errIf], by first | exact HB2.out.trans (HB9.out.mono hs2) | exact (below_drewN HB2.out _).trans (HB9.out.mono hs2)⟩
      cases E
      · have HF : Hid (R = false) := by show _ = _; rw [HRE.out]; first | rfl | simp [*]
        have tokA : Hid True := trivial
        go_wp2_with (first | (go_at_call 66; refine cT.mono ?_; rintro e wx ⟨rfl, q, rfl⟩) | (go_at_call 67; have _t := tokA; clear _t tokA; refine (cA _).mono ?_; rintro e wx ⟨rfl, rfl⟩) | (go_at_call 67; refine (cB _).mono ?_; rintro e wx ⟨rfl, rfl⟩) | (go_at_call 68; refine (cU _).mono ?_; rintro e w9 ⟨rfl, hb9⟩; have HB9 := hide hb9; clear hb9))
        go_ret
        exact ⟨by rw [HF.out]; first | rfl | simp [errIf], by first | exact HB2.out.trans (HB9.out.mono hs2) | exact (below_drewN HB2.out _).trans (HB9.out.mono hs2)⟩
      · have HF : Hid (R = true) := by show _ = _; rw [HRE.out]; first | rfl | simp [*]
        have tokA : Hid True := trivial
        go_wp2_with (first | (go_at_call 66; refine cT.mono ?_; rintro e wx ⟨rfl, q, rfl⟩) | (go_at_call 67; have _t := tokA; clear _t tokA; refine (cA _).mono ?_; rintro e wx ⟨rfl, rfl⟩) | (go_at_call 67; refine (cB _).mono ?_; rintro e wx ⟨rfl, rfl⟩) | (go_at_call 68; refine (cU _).mono ?_; rintro e w9 ⟨rfl, hb9⟩; have HB9 := hide hb9; clear hb9))
        go_ret
        exact ⟨by rw [HF.out]; first | rfl | simp [errIf], by first | exact HB2.out.trans (HB9.out.mono hs2) | exact (below_drewN HB2.out _).trans (HB9.out.mono hs2)⟩
    · by_cases h2 : 2 ≤ gr
      · by_cases h0 : secret.size = 0
        · have hP : P = false := by rw [HP.out]; unfold pingB; rw [decide_eq_false (p := 0 < secret.size) (by omega)]; simp
          subst hP
          have hem : (secret.toList == ([] : List UInt8)) = true := by rw [empty_of h0, Lib.toList_data]; rfl
          clear HP
          cases A
          · have HF : Hid (R = false) := by show _ = _; rw [HRE.out]; first | rfl | simp [*]
            have tokA : Hid True := trivial
            go_wp2_with (first | (go_at_call 66; refine cT.mono ?_; rintro e wx ⟨rfl, q, rfl⟩) | (go_at_call 67; have _t := tokA; clear _t tokA; refine (cA _).mono ?_; rintro e wx ⟨rfl, rfl⟩) | (go_at_call 67; refine (cB _).mono ?_; rintro e wx ⟨rfl, rfl⟩))
            go_ret
            exact ⟨by rw [HF.out]; rfl, by first | exact HB2.out | exact below_drewN HB2.out _⟩
          cases B
          · have HF : Hid (R = false) := by show _ = _; rw [HRE.out]; first | rfl | simp [*]
            have tokA : Hid True := trivial
            go_wp2_with (first | (go_at_call 66; refine cT.mono ?_; rintro e wx ⟨rfl, q, rfl⟩) | (go_at_call 67; have _t := tokA; clear _t tokA; refine (cA _).mono ?_; rintro e wx ⟨rfl, rfl⟩) | (go_at_call 67; refine (cB _).mono ?_; rintro e wx ⟨rfl, rfl⟩))
            go_ret
            exact ⟨by rw [HF.out]; rfl, by first | exact HB2.out | exact below_drewN HB2.out _⟩
          by_cases h1 : 1 ≤ gr
          case neg =>
            exfalso; omega
          by_cases h3 : gr ≤ 3
          case neg =>
            have h3' : 3 < gr := by omega
            have h3d := decide_eq_false h3
            have HF : Hid (R = false) := by show _ = _; rw [HRE.out]; first | rfl | simp [*]
            have tokA : Hid True := trivial
            go_wp2_with (first | (go_at_call 66; refine cT.mono ?_; rintro e wx ⟨rfl, q, rfl⟩) | (go_at_call 67; have _t := tokA; clear _t tokA; refine (cA _).mono ?_; rintro e wx ⟨rfl, rfl⟩) | (go_at_call 67; refine (cB _).mono ?_; rintro e wx ⟨rfl, rfl⟩))
            go_ret
            exact ⟨by rw [HF.out]; rfl, by first | exact HB2.out | exact below_drewN HB2.out _⟩
          have h1d := decide_eq_true h1
          have h3d := decide_eq_true h3
          have HF : Hid (R = false) := by show _ = _; rw [HRE.out]; first | rfl | simp [*]
          have tokA : Hid True := trivial
          go_wp2_with (first | (go_at_call 66; refine cT.mono ?_; rintro e wx ⟨rfl, q, rfl⟩) | (go_at_call 67; have _t := tokA; clear _t tokA; refine (cA _).mono ?_; rintro e wx ⟨rfl, rfl⟩) | (go_at_call 67; refine (cB _).mono ?_; rintro e wx ⟨rfl, rfl⟩))
          go_ret
          exact ⟨by rw [HF.out]; rfl, by first | exact HB2.out | exact below_drewN HB2.out _⟩
        · have hP : P = true := by rw [HP.out]; unfold pingB; rw [decide_eq_true h2, decide_eq_true (p := 0 < secret.size) (by omega)]; rfl
          subst hP
          have hem := ne_of_size h0
          clear HP
          cases A
          · have HF : Hid (R = false) := by show _ = _; rw [HRE.out]; first | rfl | simp [*]
            have tokA : Hid True := trivial
            go_wp2_with (first | (go_at_call 66; refine cT.mono ?_; rintro e wx ⟨rfl, q, rfl⟩) | (go_at_call 67; have _t := tokA; clear _t tokA; refine (cA _).mono ?_; rintro e wx ⟨rfl, rfl⟩) | (go_at_call 67; refine (cB _).mono ?_; rintro e wx ⟨rfl, rfl⟩))
            go_ret
            exact ⟨by rw [HF.out]; rfl, by first | exact HB2.out | exact below_drewN HB2.out _⟩
          cases B
          · have HF : Hid (R = false) := by show _ = _; rw [HRE.out]; first | rfl | simp [*]
            have tokA : Hid True := trivial
            go_wp2_with (first | (go_at_call 66; refine cT.mono ?_; rintro e wx ⟨rfl, q, rfl⟩) | (go_at_call 67; have _t := tokA; clear _t tokA; refine (cA _).mono ?_; rintro e wx ⟨rfl, rfl⟩) | (go_at_call 67; refine (cB _).mono ?_; rintro e wx ⟨rfl, rfl⟩))
            go_ret
            exact ⟨by rw [HF.out]; rfl, by first | exact HB2.out | exact below_drewN HB2.out _⟩
          by_cases h1 : 1 ≤ gr
          case neg =>
            exfalso; omega
          by_cases h3 : gr ≤ 3
          case neg =>
            have h3' : 3 < gr := by omega
            have h3d := decide_eq_false h3
            have HF : Hid (R = false) := by show _ = _; rw [HRE.out]; first | rfl | simp [*]
            have tokA : Hid True := trivial
            go_wp2_with (first | (go_at_call 66; refine cT.mono ?_; rintro e wx ⟨rfl, q, rfl⟩) | (go_at_call 67; have _t := tokA; clear _t tokA; refine (cA _).mono ?_; rintro e wx ⟨rfl, rfl⟩) | (go_at_call 67; refine (cB _).mono ?_; rintro e wx ⟨rfl, rfl⟩))
            go_ret
            exact ⟨by rw [HF.out]; rfl, by first | exact HB2.out | exact below_drewN HB2.out _⟩
          have h1d := decide_eq_true h1
          have h3d := decide_eq_true h3
          cases U
          · have HF : Hid (R = false) := by show _ = _; rw [HRE.out]; first | rfl | simp [*]
            have tokA : Hid True := trivial
            go_wp2_with (first | (go_at_call 66; refine cT.mono ?_; rintro e wx ⟨rfl, q, rfl⟩) | (go_at_call 67; have _t := tokA; clear _t tokA; refine (cA _).mono ?_; rintro e wx ⟨rfl, rfl⟩) | (go_at_call 67; refine (cB _).mono ?_; rintro e wx ⟨rfl, rfl⟩) | (go_at_call 68; refine (cU _).mono ?_; rintro e w9 ⟨rfl, hb9⟩; have HB9 := hide hb9; clear hb9))
            go_ret
            exact ⟨by rw [HF.out]; first | rfl | simp [errIf], by first | exact HB2.out.trans (HB9.out.mono hs2) | exact (below_drewN HB2.out _).trans (HB9.out.mono hs2)⟩
          cases E
          · have HF : Hid (R = false) := by show _ = _; rw [HRE.out]; first | rfl | simp [*]
            have tokA : Hid True := trivial
            go_wp2_with (first | (go_at_call 66; refine cT.mono ?_; rintro e wx ⟨rfl, q, rfl⟩) | (go_at_call 67; have _t := tokA; clear _t tokA; refine (cA _).mono ?_; rintro e wx ⟨rfl, rfl⟩) | (go_at_call 67; refine (cB _).mono ?_; rintro e wx ⟨rfl, rfl⟩) | (go_at_call 68; refine (cU _).mono ?_; rintro e w9 ⟨rfl, hb9⟩; have HB9 := hide hb9; clear hb9))
            go_ret
            exact ⟨by rw [HF.out]; first | rfl | simp [errIf], by first | exact HB2.out.trans (HB9.out.mono hs2) | exact (below_drewN HB2.out _).trans (HB9.out.mono hs2)⟩
          · have HF : Hid (R = true) := by show _ = _; rw [HRE.out]; first | rfl | simp [*]
            have tokA : Hid True := trivial
            go_wp2_with (first | (go_at_call 66; refine cT.mono ?_; rintro e wx ⟨rfl, q, rfl⟩) | (go_at_call 67; have _t := tokA; clear _t tokA; refine (cA _).mono ?_; rintro e wx ⟨rfl, rfl⟩) | (go_at_call 67; refine (cB _).mono ?_; rintro e wx ⟨rfl, rfl⟩) | (go_at_call 68; refine (cU _).mono ?_; rintro e w9 ⟨rfl, hb9⟩; have HB9 := hide hb9; clear hb9))
            go_ret
            exact ⟨by rw [HF.out]; first | rfl | simp [errIf], by first | exact HB2.out.trans (HB9.out.mono hs2) | exact (below_drewN HB2.out _).trans (HB9.out.mono hs2)⟩
      · have hP : P = false := by rw [HP.out]; unfold pingB; rw [decide_eq_false h2]; rfl
        subst hP
        have h2' : gr < 2 := by omega
        clear HP
        cases A
        · have HF : Hid (R = false) := by show _ = _; rw [HRE.out]; first | rfl | simp [*]
          have tokA : Hid True := trivial
          go_wp2_with (first | (go_at_call 66; refine cT.mono ?_; rintro e wx ⟨rfl, q, rfl⟩) | (go_at_call 67; have _t := tokA; clear _t tokA; refine (cA _).mono ?_; rintro e wx ⟨rfl, rfl⟩) | (go_at_call 67; refine (cB _).mono ?_; rintro e wx ⟨rfl, rfl⟩))
          go_ret
          exact ⟨by rw [HF.out]; rfl, by first | exact HB2.out | exact below_drewN HB2.out _⟩
        cases B
        · have HF : Hid (R = false) := by show _ = _; rw [HRE.out]; first | rfl | simp [*]
          have tokA : Hid True := trivial
          go_wp2_with (first | (go_at_call 66; refine cT.mono ?_; rintro e wx ⟨rfl, q, rfl⟩) | (go_at_call 67; have _t := tokA; clear _t tokA; refine (cA _).mono ?_; rintro e wx ⟨rfl, rfl⟩) | (go_at_call 67; refine (cB _).mono ?_; rintro e wx ⟨rfl, rfl⟩))
          go_ret
          exact ⟨by rw [HF.out]; rfl, by first | exact HB2.out | exact below_drewN HB2.out _⟩
        by_cases h1 : 1 ≤ gr
        case neg =>
          have h1' : gr < 1 := by omega
          have h1d := decide_eq_false h1
          have HF : Hid (R = false) := by show _ = _; rw [HRE.out]; first | rfl | simp [*]
          have tokA : Hid True := trivial
          go_wp2_with (first | (go_at_call 66; refine cT.mono ?_; rintro e wx ⟨rfl, q, rfl⟩) | (go_at_call 67; have _t := tokA; clear _t tokA; refine (cA _).mono ?_; rintro e wx ⟨rfl, rfl⟩) | (go_at_call 67; refine (cB _).mono ?_; rintro e wx ⟨rfl, rfl⟩))
          go_ret
          exact ⟨by rw [HF.out]; rfl, by first | exact HB2.out | exact below_drewN HB2.out _⟩
        by_cases h3 : gr ≤ 3
        case neg =>
          exfalso; omega
        have h1d := decide_eq_true h1
        have h3d := decide_eq_true h3
        have HF : Hid (R = false) := by show _ = _; rw [HRE.out]; first | rfl | simp [*]
        have tokA : Hid True := trivial
        go_wp2_with (first | (go_at_call 66; refine cT.mono ?_; rintro e wx ⟨rfl, q, rfl⟩) | (go_at_call 67; have _t := tokA; clear _t tokA; refine (cA _).mono ?_; rintro e wx ⟨rfl, rfl⟩) | (go_at_call 67; refine (cB _).mono ?_; rintro e wx ⟨rfl, rfl⟩))
        go_ret
        exact ⟨by rw [HF.out]; rfl, by first | exact HB2.out | exact below_drewN HB2.out _⟩
  · have hei : ((er : Int) == 0) = false := by simp; omega
    have hed := decide_eq_false he
    cases pg
    · have hP : P = true := HP.out
      subst hP
      cases A
      · have HF : Hid (R = false) := by show _ = _; rw [HRE.out]; first | rfl | simp [*]
        have tokA : Hid True := trivial
        go_wp2_with (first | (go_at_call 66; refine cT.mono ?_; rintro e wx ⟨rfl, q, rfl⟩) | (go_at_call 67; have _t := tokA; clear _t tokA; refine (cA _).mono ?_; rintro e wx ⟨rfl, rfl⟩) | (go_at_call 67; refine (cB _).mono ?_; rintro e wx ⟨rfl, rfl⟩))
        go_ret
        exact ⟨by rw [HF.out]; rfl, by first | exact HB2.out | exact below_drewN HB2.out _⟩
      cases B
      · have HF : Hid (R = false) := by show _ = _; rw [HRE.out]; first | rfl | simp [*]
        have tokA : Hid True := trivial
        go_wp2_with (first | (go_at_call 66; refine cT.mono ?_; rintro e wx ⟨rfl, q, rfl⟩) | (go_at_call 67; have _t := tokA; clear _t tokA; refine (cA _).mono ?_; rintro e wx ⟨rfl, rfl⟩) | (go_at_call 67; refine (cB _).mono ?_; rintro e wx ⟨rfl, rfl⟩))
        go_ret
        exact ⟨by rw [HF.out]; rfl, by first | exact HB2.out | exact below_drewN HB2.out _⟩
      by_cases h1 : 1 ≤ gr
      case neg =>
        have h1' : gr < 1 := by omega
        have h1d := decide_eq_false h1
        have HF : Hid (R = false) := by show _ = _; rw [HRE.out]; first | rfl | simp [*]
        have tokA : Hid True := trivial
        go_wp2_with (first | (go_at_call 66; refine cT.mono ?_; rintro e wx ⟨rfl, q, rfl⟩) | (go_at_call 67; have _t := tokA; clear _t tokA; refine (cA _).mono ?_; rintro e wx ⟨rfl, rfl⟩) | (go_at_call 67; refine (cB _).mono ?_; rintro e wx ⟨rfl, rfl⟩))
        go_ret
        exact ⟨by rw [HF.out]; rfl, by first | exact HB2.out | exact below_drewN HB2.out _⟩
      by_cases h3 : gr ≤ 3
      case neg =>
        have h3' : 3 < gr := by omega
        have h3d := decide_eq_false h3
        have HF : Hid (R = false) := by show _ = _; rw [HRE.out]; first | rfl | simp [*]
        have tokA : Hid True := trivial
        go_wp2_with (first | (go_at_call 66; refine cT.mono ?_; rintro e wx ⟨rfl, q, rfl⟩) | (go_at_call 67; have _t := tokA; clear _t tokA; refine (cA _).mono ?_; rintro e wx ⟨rfl, rfl⟩) | (go_at_call 67; refine (cB _).mono ?_; rintro e wx ⟨rfl, rfl⟩))
        go_ret
        exact ⟨by rw [HF.out]; rfl, by first | exact HB2.out | exact below_drewN HB2.out _⟩
      have h1d := decide_eq_true h1
      have h3d := decide_eq_true h3
      cases U
      · have HF : Hid (R = false) := by show _ = _; rw [HRE.out]; first | rfl | simp [*]
        have tokA : Hid True := trivial
        go_wp2_with (first | (go_at_call 66; refine cT.mono ?_; rintro e wx ⟨rfl, q, rfl⟩) | (go_at_call 67; have _t := tokA; clear _t tokA; refine (cA _).mono ?_; rintro e wx ⟨rfl, rfl⟩) | (go_at_call 67; refine (cB _).mono ?_; rintro e wx ⟨rfl, rfl⟩) | (go_at_call 68; refine (cU _).mono ?_; rintro e w9 ⟨rfl, hb9⟩; have HB9 := hide hb9; clear hb9))
        go_ret
        exact ⟨by rw [HF.out]; first | rfl | simp [errIf], by first | exact HB2.out.trans (HB9.out.mono hs2) | exact (below_drewN HB2.out _).trans (HB9.out.mono hs2)⟩
      have HF : Hid (R = false) := by show _ = _; rw [HRE.out]; first | rfl | simp [*]
      have tokA : Hid True := trivial
      go_wp2_with (first | (go_at_call 66; refine cT.mono ?_; rintro e wx ⟨rfl, q, rfl⟩) | (go_at_call 67; have _t := tokA; clear _t tokA; refine (cA _).mono ?_; rintro e wx ⟨rfl, rfl⟩) | (go_at_call 67; refine (cB _).mono ?_; rintro e wx ⟨rfl, rfl⟩) | (go_at_call 68; refine (cU _).mono ?_; rintro e w9 ⟨rfl, hb9⟩; have HB9 := hide hb9; clear hb9))
      go_ret
      exact ⟨by rw [HF.out]; first | rfl | simp [errIf], by first | exact HB2.out.trans (HB9.out.mono hs2) | exact (below_drewN HB2.out _).trans (HB9.out.mono hs2)⟩
    · by_cases h2 : 2 ≤ gr
      · by_cases h0 : secret.size = 0
        · have hP : P = false := by rw [HP.out]; unfold pingB; rw [decide_eq_false (p := 0 < secret.size) (by omega)]; simp
          subst hP
          have hem : (secret.toList == ([] : List UInt8)) = true := by rw [empty_of h0, Lib.toList_data]; rfl
          clear HP
          cases A
          · have HF : Hid (R = false) := by show _ = _; rw [HRE.out]; first | rfl | simp [*]
            have tokA : Hid True := trivial
            go_wp2_with (first | (go_at_call 66; refine cT.mono ?_; rintro e wx ⟨rfl, q, rfl⟩) | (go_at_call 67; have _t := tokA; clear _t tokA; refine (cA _).mono ?_; rintro e wx ⟨rfl, rfl⟩) | (go_at_call 67; refine (cB _).mono ?_; rintro e wx ⟨rfl, rfl⟩))
            go_ret
            exact ⟨by rw [HF.out]; rfl, by first | exact HB2.out | exact below_drewN HB2.out _⟩
          cases B
          · have HF : Hid (R = false) := by show _ = _; rw [HRE.out]; first | rfl | simp [*]
            have tokA : Hid True := trivial
            go_wp2_with (first | (go_at_call 66; refine cT.mono ?_; rintro e wx ⟨rfl, q, rfl⟩) | (go_at_call 67; have _t := tokA; clear _t tokA; refine (cA _).mono ?_; rintro e wx ⟨rfl, rfl⟩) | (go_at_call 67; refine (cB _).mono ?_; rintro e wx ⟨rfl, rfl⟩))
            go_ret
            exact ⟨by rw [HF.out]; rfl, by first | exact HB2.out | exact below_drewN HB2.out _⟩
          by_cases h1 : 1 ≤ gr
          case neg =>
            exfalso; omega
          by_cases h3 : gr ≤ 3
          case neg =>
            have h3' : 3 < gr := by omega
            have h3d := decide_eq_false h3
            have HF : Hid (R = false) := by show _ = _; rw [HRE.out]; first | rfl | simp [*]
            have tokA : Hid True := trivial
            go_wp2_with (first | (go_at_call 66; refine cT.mono ?_; rintro e wx ⟨rfl, q, rfl⟩) | (go_at_call 67; have _t := tokA; clear _t tokA; refine (cA _).mono ?_; rintro e wx ⟨rfl, rfl⟩) | (go_at_call 67; refine (cB _).mono ?_; rintro e wx ⟨rfl, rfl⟩))
            go_ret
            exact ⟨by rw [HF.out]; rfl, by first | exact HB2.out | exact below_drewN HB2.out _⟩
          have h1d := decide_eq_true h1
          have h3d := decide_eq_true h3
          have HF : Hid (R = false) := by show _ = _; rw [HRE.out]; first | rfl | simp [*]
          have tokA : Hid True := trivial
          go_wp2_with (first | (go_at_call 66; refine cT.mono ?_; rintro e wx ⟨rfl, q, rfl⟩) | (go_at_call 67; have _t := tokA; clear _t tokA; refine (cA _).mono ?_; rintro e wx ⟨rfl, rfl⟩) | (go_at_call 67; refine (cB _).mono ?_; rintro e wx ⟨rfl, rfl⟩))
          go_ret
          exact ⟨by rw [HF.out]; rfl, by first | exact HB2.out | exact below_drewN HB2.out _⟩
        · have hP : P = true := by rw [HP.out]; unfold pingB; rw [decide_eq_true h2, decide_eq_true (p := 0 < secret.size) (by omega)]; rfl
          subst hP
          have hem := ne_of_size h0
          clear HP
          cases A
          · have HF : Hid (R = false) := by show _ = _; rw [HRE.out]; first | rfl | simp [*]
            have tokA : Hid True := trivial
            go_wp2_with (first | (go_at_call 66; refine cT.mono ?_; rintro e wx ⟨rfl, q, rfl⟩) | (go_at_call 67; have _t := tokA; clear _t tokA; refine (cA _).mono ?_; rintro e wx ⟨rfl, rfl⟩) | (go_at_call 67; refine (cB _).mono ?_; rintro e wx ⟨rfl, rfl⟩))
            go_ret
            exact ⟨by rw [HF.out]; rfl, by first | exact HB2.out | exact below_drewN HB2.out _⟩
          cases B
          · have HF : Hid (R = false) := by show _ = _; rw [HRE.out]; first | rfl | simp [*]
            have tokA : Hid True := trivial
            go_wp2_with (first | (go_at_call 66; refine cT.mono ?_; rintro e wx ⟨rfl, q, rfl⟩) | (go_at_call 67; have _t := tokA; clear _t tokA; refine (cA _).mono ?_; rintro e wx ⟨rfl, rfl⟩) | (go_at_call 67; refine (cB _).mono ?_; rintro e wx ⟨rfl, rfl⟩))
            go_ret
            exact ⟨by rw [HF.out]; rfl, by first | exact HB2.out | exact below_drewN HB2.out _⟩
          by_cases h1 : 1 ≤ gr
          case neg =>
            exfalso; omega
          by_cases h3 : gr ≤ 3
          case neg =>
            have h3' : 3 < gr := by omega
            have h3d := decide_eq_false h3
            have HF : Hid (R = false) := by show _ = _; rw [HRE.out]; first | rfl | simp [*]
            have tokA : Hid True := trivial
            go_wp2_with (first | (go_at_call 66; refine cT.mono ?_; rintro e wx ⟨rfl, q, rfl⟩) | (go_at_call 67; have _t := tokA; clear _t tokA; refine (cA _).mono ?_; rintro e wx ⟨rfl, rfl⟩) | (go_at_call 67; refine (cB _).mono ?_; rintro e wx ⟨rfl, rfl⟩))
            go_ret
            exact ⟨by rw [HF.out]; rfl, by first | exact HB2.out | exact below_drewN HB2.out _⟩
          have h1d := decide_eq_true h1
          have h3d := decide_eq_true h3
          cases U
          · have HF : Hid (R = false) := by show _ = _; rw [HRE.out]; first | rfl | simp [*]
            have tokA : Hid True := trivial
            go_wp2_with (first | (go_at_call 66; refine cT.mono ?_; rintro e wx ⟨rfl, q, rfl⟩) | (go_at_call 67; have _t := tokA; clear _t tokA; refine (cA _).mono ?_; rintro e wx ⟨rfl, rfl⟩) | (go_at_call 67; refine (cB _).mono ?_; rintro e wx ⟨rfl, rfl⟩) | (go_at_call 68; refine (cU _).mono ?_; rintro e w9 ⟨rfl, hb9⟩; have HB9 := hide hb9; clear hb9))
            go_ret
            exact ⟨by rw [HF.out]; first | rfl | simp [errIf], by first | exact HB2.out.trans (HB9.out.mono hs2) | exact (below_drewN HB2.out _).trans (HB9.out.mono hs2)⟩
          have HF : Hid (R = false) := by show _ = _; rw [HRE.out]; first | rfl | simp [*]
          have tokA : Hid True := trivial
          go_wp2_with (first | (go_at_call 66; refine cT.mono ?_; rintro e wx ⟨rfl, q, rfl⟩) | (go_at_call 67; have _t := tokA; clear _t tokA; refine (cA _).mono ?_; rintro e wx ⟨rfl, rfl⟩) | (go_at_call 67; refine (cB _).mono ?_; rintro e wx ⟨rfl, rfl⟩) | (go_at_call 68; refine (cU _).mono ?_; rintro e w9 ⟨rfl, hb9⟩; have HB9 := hide hb9; clear hb9))
          go_ret
          exact ⟨by rw [HF.out]; first | rfl | simp [errIf], by first | exact HB2.out.trans (HB9.out.mono hs2) | exact (below_drewN HB2.out _).trans (HB9.out.mono hs2)⟩
      · have hP : P = false := by rw [HP.out]; unfold pingB; rw [decide_eq_false h2]; rfl
        subst hP
        have h2' : gr < 2 := by omega
        clear HP
        cases A
        · have HF : Hid (R = false) := by show _ = _; rw [HRE.out]; first | rfl | simp [*]
          have tokA : Hid True := trivial
          go_wp2_with (first | (go_at_call 66; refine cT.mono ?_; rintro e wx ⟨rfl, q, rfl⟩) | (go_at_call 67; have _t := tokA; clear _t tokA; refine (cA _).mono ?_; rintro e wx ⟨rfl, rfl⟩) | (go_at_call 67; refine (cB _).mono ?_; rintro e wx ⟨rfl, rfl⟩))
          go_ret
          exact ⟨by rw [HF.out]; rfl, by first | exact HB2.out | exact below_drewN HB2.out _⟩
        cases B
        · have HF : Hid (R = false) := by show _ = _; rw [HRE.out]; first | rfl | simp [*]
          have tokA : Hid True := trivial
          go_wp2_with (first | (go_at_call 66; refine cT.mono ?_; rintro e wx ⟨rfl, q, rfl⟩) | (go_at_call 67; have _t := tokA; clear _t tokA; refine (cA _).mono ?_; rintro e wx ⟨rfl, rfl⟩) | (go_at_call 67; refine (cB _).mono ?_; rintro e wx ⟨rfl, rfl⟩))
          go_ret
          exact ⟨by rw [HF.out]; rfl, by first | exact HB2.out | exact below_drewN HB2.out _⟩
        by_cases h1 : 1 ≤ gr
        case neg =>
          have h1' : gr < 1 := by omega
          have h1d := decide_eq_false h1
          have HF : Hid (R = false) := by show _ = _; rw [HRE.out]; first | rfl | simp [*]
          have tokA : Hid True := trivial
          go_wp2_with (first | (go_at_call 66; refine cT.mono ?_; rintro e wx ⟨rfl, q, rfl⟩) | (go_at_call 67; have _t := tokA; clear _t tokA; refine (cA _).mono ?_; rintro e wx ⟨rfl, rfl⟩) | (go_at_call 67; refine (cB _).mono ?_; rintro e wx ⟨rfl, rfl⟩))
          go_ret
          exact ⟨by rw [HF.out]; rfl, by first | exact HB2.out | exact below_drewN HB2.out _⟩
        by_cases h3 : gr ≤ 3
        case neg =>
          exfalso; omega
        have h1d := decide_eq_true h1
        have h3d := decide_eq_true h3
        have HF : Hid (R = false) := by show _ = _; rw [HRE.out]; first | rfl | simp [*]
        have tokA : Hid True := trivial
        go_wp2_with (first | (go_at_call 66; refine cT.mono ?_; rintro e wx ⟨rfl, q, rfl⟩) | (go_at_call 67; have _t := tokA; clear _t tokA; refine (cA _).mono ?_; rintro e wx ⟨rfl, rfl⟩) | (go_at_call 67; refine (cB _).mono ?_; rintro e wx ⟨rfl, rfl⟩))
        go_ret
        exact ⟨by rw [HF.out]; rfl, by first | exact HB2.out | exact below_drewN HB2.out _⟩
end Go.Proofs.YtjehbdekipmllaaGreatDoor
