/- The program's Check and what it asks: for every client. The program's Check: for every client. -/
import Derived.Test.YtjehbdekipmllaaGreatDoorLAll
import Derived.Test.YtjehbdekipmllaaGreatDoorLCl
import Derived.Test.YtjehbdekipmllaaGreatDoorXStr
import Derived.Test.YtjehbdekipmllaaGreatDoorShelf
import Derived.Shelf.Strings.OnBuilder
import Derived.Shelf.Strings.Prefix
import Derived.Shelf.Slices.Equal
import Derived.Shelf.Slices.Empties2
namespace Go.Proofs.YtjehbdekipmllaaGreatDoor
open Go.RowKit

def sHttps : ByteArray := ⟨#[104, 116, 116, 112, 115, 58, 47, 47]⟩
def urlB (s : ByteArray) : Bool := decide (8 < s.size) && decide (s.size ≤ 256) && Lib.hasPrefix s.data.toList sHttps.data.toList && allB 33 s.data.toList
set_option maxHeartbeats 400000 in
set_option maxRecDepth 100000 in
theorem isUrl_any (s : ByteArray) (w : World) (hs : s.size ≤ 9223372036854775807) :
    Calls Tryz.prog 114 #[.string s] w fun e w' => e = .returned (.bool (urlB s)) ∧ w' = w := by
  obtain ⟨A, HA⟩ : ∃ A, Hid (A = allB 33 s.data.toList) := ⟨_, hide rfl⟩
  obtain ⟨B, HB⟩ : ∃ B, Hid (B = Lib.hasPrefix s.data.toList sHttps.data.toList) := ⟨_, hide rfl⟩
  have HC : ∀ w, Calls Tryz.prog 113 #[.string s, .int .u8 33] w fun e w' => e = .returned (.bool A) ∧ w' = w := by
    intro w; rw [HA.out]; exact allFrom_any s 33 w hs
  have HP : ∀ w, Calls Tryz.prog 141 #[.string s, .string { data := #[104, 116, 116, 112, 115, 58, 47, 47] }] w fun e w' => e = .returned (.bool B) ∧ w' = w := by
    intro w; rw [HB.out]; exact Any.strings_HasPrefix lays99 s sHttps w
  by_cases h1 : 8 < s.size
  · have h1i : (8 : Int) < (s.size : Int) := by omega
    by_cases h2 : s.size ≤ 256
    · have h2i : (s.size : Int) ≤ 256 := by omega
      have HR : Hid (urlB s = (B && A)) := by show _ = _; unfold urlB; rw [decide_eq_true h1, decide_eq_true h2, HA.out, HB.out]; rfl
      cases B
      all_goals
        go_enter Tryz.func114, Tryz.ntmps114
        go_wp2_with (first | (go_at_call 141; refine (HP _).mono ?_; rintro e w' ⟨rfl, rfl⟩) | (go_at_call 113; refine (HC _).mono ?_; rintro e w' ⟨rfl, rfl⟩))
        go_ret
        exact ⟨by rw [HR.out]; first | rfl | simp, rfl⟩
    · have h2i : (256 : Int) < (s.size : Int) := by omega
      have HR : Hid (urlB s = false) := by show _ = _; unfold urlB; rw [decide_eq_false h2]; simp
      go_enter Tryz.func114, Tryz.ntmps114
      go_wp2
      go_ret
      exact ⟨by rw [HR.out]; first | rfl | simp, rfl⟩
  · have h1i : (s.size : Int) ≤ 8 := by omega
    have HR : Hid (urlB s = false) := by show _ = _; unfold urlB; rw [decide_eq_false h1]; simp
    go_enter Tryz.func114, Tryz.ntmps114
    go_wp2
    go_ret
    exact ⟨by rw [HR.out]; first | rfl | simp, rfl⟩

theorem empty_of {s : ByteArray} (h : s.size = 0) : s = { data := #[] } := by
  cases s with | mk d => simp only [ByteArray.size, Array.size_eq_zero_iff] at h; rw [h]
theorem ne_of_size {s : ByteArray} (h : s.size ≠ 0) : (s.toList == ([] : List UInt8)) = false := by
  rw [Lib.toList_data]
  cases e : s.data.toList with
  | nil => exfalso; apply h; have := congrArg List.length e; simpa using this
  | cons a l => rfl
def toldB (secret : ByteArray) (gr : Int) (pg : Bool) (url : ByteArray) : Bool := if pg then decide (2 ≤ gr) && decide (0 < secret.size) && urlB url else decide (url.size = 0)
set_option maxHeartbeats 400000 in
set_option maxRecDepth 100000 in
theorem isTold_any (id secret url : ByteArray) (gr : Int) (pg : Bool) (so : Option Addr) (n cp : Nat) (w : World) (h1 : 1 ≤ gr) (h3 : gr ≤ 3) (hs : url.size ≤ 9223372036854775807) :
    Calls Tryz.prog 93 #[.agg #[.string id, .string secret, .int .i64 gr, .bool pg, .string url, .slice so n cp]] w fun e w' => e = .returned (.bool (toldB secret gr pg url)) ∧ Below w.heap.size w w' := by
  obtain ⟨B, HB⟩ : ∃ B, Hid (B = urlB url) := ⟨_, hide rfl⟩
  have HC : ∀ w, Calls Tryz.prog 114 #[.string url] w fun e w' => e = .returned (.bool B) ∧ w' = w := by
    intro w; rw [HB.out]; exact isUrl_any url w hs
  cases pg
  · by_cases h0 : url.size = 0
    · have HR : Hid (toldB secret gr false url = true) := by show _ = _; unfold toldB; rw [if_neg (by simp), decide_eq_true h0]
      have := empty_of h0
      subst this
      clear h0
      go_enter Tryz.func93, Tryz.ntmps93
      go_wp2
      go_ret
      exact ⟨by rw [HR.out]; rfl, below_new _ _⟩
    · have HR : Hid (toldB secret gr false url = false) := by show _ = _; unfold toldB; rw [if_neg (by simp), decide_eq_false h0]
      have hne := ne_of_size h0
      go_enter Tryz.func93, Tryz.ntmps93
      go_wp2
      go_ret
      exact ⟨by rw [HR.out]; rfl, below_new _ _⟩
  · by_cases h0 : secret.size = 0
    · have HR : Hid (toldB secret gr true url = false) := by show _ = _; unfold toldB; rw [if_pos rfl, decide_eq_false (p := 0 < secret.size) (by omega)]; simp
      have := empty_of h0
      subst this
      clear h0
      obtain rfl | rfl | rfl : gr = 1 ∨ gr = 2 ∨ gr = 3 := by omega
      all_goals
        go_enter Tryz.func93, Tryz.ntmps93
        go_wp2_with (refine (HC _).mono ?_; rintro e w' ⟨rfl, rfl⟩)
        go_ret
        exact ⟨by rw [HR.out]; rfl, below_new _ _⟩
    · have hne := ne_of_size h0
      have HR : Hid (toldB secret gr true url = (decide (2 ≤ gr) && B)) := by show _ = _; unfold toldB; rw [if_pos rfl, decide_eq_true (p := 0 < secret.size) (by omega), HB.out]; simp
      obtain rfl | rfl | rfl : gr = 1 ∨ gr = 2 ∨ gr = 3 := by omega
      all_goals
        go_enter Tryz.func93, Tryz.ntmps93
        go_wp2_with (refine (HC _).mono ?_; rintro e w' ⟨rfl, rfl⟩)
        go_ret
        exact ⟨by rw [HR.out]; first | rfl | simp, below_new _ _⟩

def joinS (l : List U) : U := Lib.join l [32]
theorem joinS_any (n cp : Nat) (so : Option Addr) (l : List U) (w : World) (hs : SAt w so n cp l) (hn : n ≤ 140737488355328) (hl : (joinS l).length ≤ 140737488355328) :
    Calls Tryz.prog 70 #[.slice so n cp, .string { data := #[32] }] w fun e w' => e = .returned (.string ⟨(joinS l).toArray⟩) ∧ Below w.heap.size w w' := by
  obtain ⟨rfl, hcp, hr, -⟩ := hs
  by_cases h0 : l = []
  · subst h0
    refine (Any.strings_Join_none lays156 Builder_Extra_156 so cp ⟨#[32]⟩ w).mono ?_
    rintro e w' ⟨rfl, rfl⟩
    exact ⟨rfl, Below.refl _ _⟩
  · rcases hr with rfl | ⟨b, off, rfl, hc⟩
    · exact absurd rfl h0
    · obtain ⟨u, r, rfl⟩ : ∃ u r, l = u :: r := by cases l with | nil => exact absurd rfl h0 | cons u r => exact ⟨u, r, rfl⟩
      have e1 : ((u :: r).map fun u => (⟨u.toArray⟩ : ByteArray)).map (·.data.toList) = u :: r := by simp [Function.comp_def]
      have hlt : b < w.heap.size := World.block_lt_of_cell? w _ (hc 0 u rfl)
      have := Any.strings_Join lays156 Builder_Extra_156 b off cp ((u :: r).map fun u => ⟨u.toArray⟩) ⟨#[32]⟩ w (by
        intro j x hx
        rw [List.getElem?_map] at hx
        obtain ⟨y, hy, rfl⟩ := Option.map_eq_some_iff.1 hx
        exact hc j y hy) hlt (by rw [List.length_map]; exact hn) (by rw [List.length_map]; exact hcp) (by rw [e1]; exact hl)
      rw [e1, List.length_map] at this
      exact this
theorem eqS_any (n cp m c : Nat) (ao so : Option Addr) (a l : List U) (w : World) (hn : n = a.length) (hm : m = l.length) (hn2 : n ≤ 9223372036854775807) (hm2 : m ≤ 9223372036854775807) (ha : SRow w ao a) (hl : SRow w so l) :
    Calls Tryz.prog 115 #[.slice ao n cp, .slice so m c] w fun e w' => e = .returned (.bool (decide (a = l))) ∧ ∃ q, w' = w.drewN q := by
  by_cases hnm : n = m
  · by_cases h0 : n = 0
    · subst h0
      have e1 := List.length_eq_zero_iff.1 hn.symm
      have e2 : l = [] := List.length_eq_zero_iff.1 (by omega)
      subst e1; subst e2
      refine (Any.slices_Equal_string_empty lays193 ao so cp m c w hm2).mono ?_
      rintro e w' ⟨rfl, rfl⟩
      exact ⟨by rw [← hnm]; rfl, 0, rfl⟩
    · rcases ha with rfl | ⟨b1, o1, rfl, hc1⟩
      · exfalso; simp at hn; omega
      · rcases hl with rfl | ⟨b2, o2, rfl, hc2⟩
        · exfalso; simp at hm; omega
        · have hcl : ∀ (b o : Nat) (a : List U), (∀ i u, a[i]? = some u → w.cell? ⟨b, o + i, none⟩ = some (encStr u)) → ∀ j, j < (a.map fun u => (⟨u.toArray⟩ : ByteArray)).length → w.cell? ⟨b, o + j, none⟩ = some (.string ((a.map fun u => (⟨u.toArray⟩ : ByteArray)).getD j ByteArray.empty)) := by
            intro b o a h j hj
            rw [List.length_map] at hj
            rw [h j a[j] (List.getElem?_eq_getElem hj)]
            simp [hj]
          refine (Any.slices_Equal_string lays193 b1 o1 n cp b2 o2 m c (a.map fun u => ⟨u.toArray⟩) (l.map fun u => ⟨u.toArray⟩) w (by simp; omega) (by simp; omega) hn2 hm2 (hcl _ _ _ hc1) (hcl _ _ _ hc2)).mono ?_
          rintro e w' ⟨rfl, q, rfl⟩
          refine ⟨?_, q, rfl⟩
          rw [List.take_of_length_le (by simp; omega), List.take_of_length_le (by simp; omega)]
          congr 2
          rw [decide_eq_decide]
          constructor
          · intro h
            have := congrArg (List.map fun x : ByteArray => x.data.toList) h
            simpa [Function.comp_def] using this
          · intro h; rw [h]
  · refine (Any.slices_Equal_string_lens lays193 ao so n cp m c w hnm).mono ?_
    rintro e w' ⟨rfl, rfl⟩
    exact ⟨by rw [decide_eq_false]; intro h; subst h; omega, 0, rfl⟩

def scopesB (l : List U) : Bool := decide (l.length ≤ 32) && decide ((scoOut (joinS l)).2 = 0) && decide ((scoOut (joinS l)).1 = l)
set_option maxHeartbeats 400000 in
set_option maxRecDepth 100000 in
theorem areScopes_any (n cp : Nat) (so : Option Addr) (l : List U) (w : World) (hs : SAt w so n cp l) (hn : n ≤ 140737488355328) (hj : n ≤ 32 → (joinS l).length ≤ 140737488355328) (hM : MaxL w) :
    Calls Tryz.prog 94 #[.slice so n cp] w fun e w' => e = .returned (.bool (scopesB l)) ∧ Below w.heap.size w w' := by
  have HS : Hid (SAt w so n cp l) := hs
  have HM : Hid (MaxL w) := hM
  by_cases h32 : n ≤ 32
  · have h32i : (n : Int) ≤ 32 := by omega
    have hjl := hj h32
    obtain ⟨J, HJ⟩ : ∃ J : ByteArray, Hid (J = ⟨(joinS l).toArray⟩) := ⟨_, hide rfl⟩
    have HC : ∀ w', Below w.heap.size w w' → Calls Tryz.prog 70 #[.slice so n cp, .string { data := #[32] }] w' fun e w2 => e = .returned (.string J) ∧ Below w'.heap.size w' w2 := by
      intro w' hb; rw [HJ.out]; exact joinS_any n cp so l w' (HS.out.keep hb) hn hjl
    have hJs : J.size ≤ 9223372036854775807 := by rw [HJ.out, u_size]; omega
    obtain ⟨r, er, hO⟩ : ∃ r er, scoOut J.data.toList = (r, er) := ⟨_, _, rfl⟩
    obtain ⟨m, hm⟩ : ∃ m, m = r.length := ⟨_, rfl⟩
    have hm32 : m ≤ 32 := by have h32 : (scoOut J.data.toList).1.length ≤ 32 := scoOut_len _; rw [hO] at h32; rw [hm]; exact h32
    have HSC : ∀ w', MaxL w' → _ := fun w' hM' => scopes_m J r er m w' hO hm hJs hM'
    have HR : Hid (scopesB l = (decide (er = 0) && decide (r = l))) := by
      show _ = _
      have e1 : J.data.toList = joinS l := by rw [HJ.out]
      rw [e1] at hO
      unfold scopesB
      rw [hO, decide_eq_true (p := l.length ≤ 32) (by have := HS.out.1; omega), Bool.true_and]
    have HMR : Hid (m = r.length) := hm
    clear hm hO hj hs hM
    go_enter Tryz.func94, Tryz.ntmps94
    go_wp2_with (go_at_call 70; refine (HC _ (Below.refl _ _)).mono ?_)
    rintro e w1 ⟨rfl, hb1⟩
    have HB1 : Hid (Below w.heap.size w w1) := hb1
    have hs1 := hb1.size
    clear hb1
    go_wp2_with (go_at_call 59; refine (HSC w1 (HM.out.keep HB1.out)).mono ?_)
    rintro e w2 ⟨fo, fc, rfl, HO⟩
    have HB2 : Hid (Below w.heap.size w w2) := HB1.out.trans (HO.out.2.mono hs1)
    have HRW : Hid (SRow w2 fo r) := HO.out.1.row
    clear HO HSC
    by_cases h0 : er = 0
    · subst h0
      have HE := eqS_any m fc n cp fo so r l w2 HMR.out HS.out.1 (by omega) (by omega) HRW.out (HS.out.keep HB2.out).2.2.1
      obtain ⟨D, HD⟩ : ∃ D, Hid (D = decide (r = l)) := ⟨_, hide rfl⟩
      rw [← HD.out] at HE
      go_wp2_with (go_at_call 115; refine HE.mono ?_; rintro e w' ⟨rfl, q, rfl⟩)
      go_ret
      exact ⟨by rw [HR.out, ← HD.out]; first | rfl | simp, below_drewN HB2.out _⟩
    · have h0i : ((er : Int) == 0) = false := by simp; omega
      have HF : Hid (scopesB l = false) := by show _ = _; rw [HR.out, decide_eq_false h0]; rfl
      go_wp2
      go_ret
      exact ⟨by rw [HF.out]; rfl, HB2.out⟩
  · have h32i : (32 : Int) < (n : Int) := by omega
    have HR : Hid (scopesB l = false) := by
      show _ = _
      unfold scopesB
      rw [decide_eq_false (p := l.length ≤ 32) (by have := HS.out.1; omega)]; rfl
    go_enter Tryz.func94, Tryz.ntmps94
    go_wp2
    go_ret
    exact ⟨by rw [HR.out]; rfl, Below.refl _ _⟩
end Go.Proofs.YtjehbdekipmllaaGreatDoor
namespace Go.Proofs.YtjehbdekipmllaaGreatDoor
open Go.RowKit

def checkB (c : Cl) : Bool := idB c.id && secretB c.secret && (decide (1 ≤ c.grants) && decide (c.grants ≤ 3)) && toldB c.secret c.grants c.ping c.url && scopesB c.scopes
def errIf (b : Bool) (e : Int) : Int := if b then 0 else e
set_option maxHeartbeats 1000000 in
set_option maxRecDepth 100000 in
theorem check_any (id secret url : ByteArray) (gr : Int) (pg : Bool) (l : List U) (so : Option Addr) (n cp : Nat) (w : World) (hs : SAt w so n cp l) (hn : n ≤ 140737488355328) (hj : n ≤ 32 → (joinS l).length ≤ 140737488355328) (hM : MaxL w)
    (hi : id.size ≤ 9223372036854775807) (hse : secret.size ≤ 9223372036854775807) (hu : url.size ≤ 9223372036854775807) :
    Calls Tryz.prog 61 #[.agg #[.string id, .string secret, .int .i64 gr, .bool pg, .string url, .slice so n cp]] w fun e w' => e = .returned (.int .i64 (errIf (checkB ⟨id, secret, gr, pg, url, l⟩) 111)) ∧ Below w.heap.size w w' := by
  have HS : Hid (SAt w so n cp l) := hs
  have HM : Hid (MaxL w) := hM
  have HJ : Hid (n ≤ 32 → (joinS l).length ≤ 140737488355328) := hj
  obtain ⟨A, HA⟩ : ∃ A, Hid (A = idB id) := ⟨_, hide rfl⟩
  obtain ⟨B, HB⟩ : ∃ B, Hid (B = secretB secret) := ⟨_, hide rfl⟩
  obtain ⟨C, HC⟩ : ∃ C, Hid (C = toldB secret gr pg url) := ⟨_, hide rfl⟩
  obtain ⟨D, HD⟩ : ∃ D, Hid (D = scopesB l) := ⟨_, hide rfl⟩
  have cA : ∀ w, Calls Tryz.prog 91 #[.string id] w fun e w' => e = .returned (.bool A) ∧ w' = w := by intro w; rw [HA.out]; exact isId_any id w hi
  have cB : ∀ w, Calls Tryz.prog 92 #[.string secret] w fun e w' => e = .returned (.bool B) ∧ w' = w := by intro w; rw [HB.out]; exact isSecret_any secret w hse
  have cC : 1 ≤ gr → gr ≤ 3 → ∀ w, Calls Tryz.prog 93 #[.agg #[.string id, .string secret, .int .i64 gr, .bool pg, .string url, .slice so n cp]] w fun e w' => e = .returned (.bool C) ∧ Below w.heap.size w w' := by intro h1 h2 w; rw [HC.out]; exact isTold_any id secret url gr pg so n cp w h1 h2 hu
  have cD : ∀ w', Below w.heap.size w w' → Calls Tryz.prog 94 #[.slice so n cp] w' fun e w2 => e = .returned (.bool D) ∧ Below w'.heap.size w' w2 := by
    intro w' hb; rw [HD.out]; exact areScopes_any n cp so l w' (HS.out.keep hb) hn HJ.out (HM.out.keep hb)
  obtain ⟨R, HR⟩ : ∃ R, Hid (R = checkB ⟨id, secret, gr, pg, url, l⟩) := ⟨_, hide rfl⟩
  have HRE : Hid (R = (A && B && (decide (1 ≤ gr) && decide (gr ≤ 3)) && C && D)) := by show _ = _; rw [HR.out, HA.out, HB.out, HC.out, HD.out]; rfl
  rw [← HR.out]
  clear hs hM hj HA HB HC HD HR
  have arm : True := trivial
  cases A
  · have HF : Hid (R = false) := by show _ = _; rw [HRE.out]; simp
    go_enter Tryz.func61, Tryz.ntmps61
    go_wp2_with (first | (go_at_call 91; refine (cA _).mono ?_; rintro e w' ⟨rfl, rfl⟩))
    go_ret
    exact ⟨by rw [HF.out]; rfl, below_new _ _⟩
  cases B
  · have HF : Hid (R = false) := by show _ = _; rw [HRE.out]; simp
    go_enter Tryz.func61, Tryz.ntmps61
    go_wp2_with (first | (go_at_call 91; refine (cA _).mono ?_; rintro e w' ⟨rfl, rfl⟩) | (go_at_call 92; refine (cB _).mono ?_; rintro e w' ⟨rfl, rfl⟩))
    go_ret
    exact ⟨by rw [HF.out]; rfl, below_new _ _⟩
  by_cases h1 : 1 ≤ gr
  case neg =>
    have h1' : gr < 1 := by omega
    have HF : Hid (R = false) := by show _ = _; rw [HRE.out, decide_eq_false h1]; simp
    go_enter Tryz.func61, Tryz.ntmps61
    go_wp2_with (first | (go_at_call 91; refine (cA _).mono ?_; rintro e w' ⟨rfl, rfl⟩) | (go_at_call 92; refine (cB _).mono ?_; rintro e w' ⟨rfl, rfl⟩))
    go_ret
    exact ⟨by rw [HF.out]; rfl, below_new _ _⟩
  by_cases h3 : gr ≤ 3
  case neg =>
    have h3' : 3 < gr := by omega
    have HF : Hid (R = false) := by show _ = _; rw [HRE.out, decide_eq_false h3]; simp
    go_enter Tryz.func61, Tryz.ntmps61
    go_wp2_with (first | (go_at_call 91; refine (cA _).mono ?_; rintro e w' ⟨rfl, rfl⟩) | (go_at_call 92; refine (cB _).mono ?_; rintro e w' ⟨rfl, rfl⟩))
    go_ret
    exact ⟨by rw [HF.out]; rfl, below_new _ _⟩
  have HCD : Hid (R = (C && D)) := by show _ = _; rw [HRE.out, decide_eq_true h1, decide_eq_true h3]; simp
  have cC' := cC h1 h3
  clear cC HRE arm
  cases C
  · have HF : Hid (R = false) := by show _ = _; rw [HCD.out]; simp
    go_enter Tryz.func61, Tryz.ntmps61
    go_wp2_with (first | (go_at_call 91; refine (cA _).mono ?_; rintro e w' ⟨rfl, rfl⟩) | (go_at_call 92; refine (cB _).mono ?_; rintro e w' ⟨rfl, rfl⟩) | (go_at_call 93; refine (cC' _).mono ?_))
    rintro e w1 ⟨rfl, hb1⟩
    have HB1 : Hid (Below w.heap.size w w1) := (below_new w _).trans (hb1.mono (by simp))
    clear hb1
    go_wp2
    go_ret
    exact ⟨by rw [HF.out]; rfl, HB1.out⟩
  · go_enter Tryz.func61, Tryz.ntmps61
    go_wp2_with (first | (go_at_call 91; refine (cA _).mono ?_; rintro e w' ⟨rfl, rfl⟩) | (go_at_call 92; refine (cB _).mono ?_; rintro e w' ⟨rfl, rfl⟩) | (go_at_call 93; refine (cC' _).mono ?_))
    rintro e w1 ⟨rfl, hb1⟩
    have HB1 : Hid (Below w.heap.size w w1) := (below_new w _).trans (hb1.mono (by simp))
    have c5 : w1.cell? ⟨w.heap.size, 5, none⟩ = some (.slice so n cp) := cell_kept (by simp) hb1
    have hs1 := HB1.out.size
    clear hb1
    cases D
    · have HF : Hid (R = false) := by show _ = _; rw [HCD.out]; simp
      go_wp2_with (first | (go_at_call 94; refine (cD _ HB1.out).mono ?_))
      rintro e w2 ⟨rfl, hb2⟩
      have HB2 : Hid (Below w.heap.size w w2) := HB1.out.trans (hb2.mono hs1)
      clear hb2
      go_wp2
      go_ret
      exact ⟨by rw [HF.out]; rfl, HB2.out⟩
    · have HF : Hid (R = true) := by show _ = _; rw [HCD.out]; simp
      go_wp2_with (first | (go_at_call 94; refine (cD _ HB1.out).mono ?_))
      rintro e w2 ⟨rfl, hb2⟩
      have HB2 : Hid (Below w.heap.size w w2) := HB1.out.trans (hb2.mono hs1)
      clear hb2
      go_wp2
      go_ret
      exact ⟨by rw [HF.out]; rfl, HB2.out⟩
end Go.Proofs.YtjehbdekipmllaaGreatDoor
