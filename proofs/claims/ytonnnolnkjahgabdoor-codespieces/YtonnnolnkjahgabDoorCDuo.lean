/- The law's draw: one call on both sources. -/
import Derived.Test.YtonnnolnkjahgabDoorCDrawR
import Derived.Test.YtonnnolnkjahgabDoorCUserR
namespace Go.Proofs.YtonnnolnkjahgabDoor
open Go.RowKit Go.Shelf

/-- The program's source and the document's, side by side, with the same bytes left. -/
structure Duo (w : World) (sp rp : Nat) (xs bs cs : List Nat) : Prop where
  s : Src 49 w sp xs bs
  r : Src 31 w rp xs cs
  ap : ∀ b ∈ bs, b ∉ cs
  le : xs.length ≤ 4096
theorem Duo.keep {w w' : World} {sp rp : Nat} {xs bs cs : List Nat} (h : Duo w sp rp xs bs cs) (hb : Below w.heap.size w w') : Duo w' sp rp xs bs cs := ⟨h.s.keep hb, h.r.keep hb, h.ap, h.le⟩
theorem Duo.apart {fp : List Nat} {w w' : World} {sp rp : Nat} {xs bs cs : List Nat} (h : Duo w sp rp xs bs cs) (hf : Fr fp w w') (hn : ∀ b ∈ bs ++ cs, b ∉ fp) : Duo w' sp rp xs bs cs := ⟨h.s.apart hf (fun b hb => hn b (List.mem_append_left _ hb)), h.r.apart hf (fun b hb => hn b (List.mem_append_right _ hb)), h.ap, h.le⟩
theorem Duo.lts {w : World} {sp rp : Nat} {xs bs cs : List Nat} (h : Duo w sp rp xs bs cs) : ∀ b ∈ bs ++ cs, b < w.heap.size := fun b hb => (List.mem_append.1 hb).elim (h.s.lts b) (h.r.lts b)
/-- What draw leaves. -/
def Drew (w : World) (sp rp : Nat) (xs bs cs : List Nat) (e : Ending) (w' : World) : Prop := e = .returned (.bool true) ∧ ∃ bs' cs', Duo w' sp rp xs bs' cs' ∧ Aft (bs ++ cs) (bs' ++ cs') w w'
/-- Behind the call on the program's source. -/
theorem duo_one {w w1 : World} {sp rp : Nat} {xs bs cs bs1 : List Nat} (h : Duo w sp rp xs bs cs) (ha : Aft bs bs1 w w1) : Src 31 w1 rp xs cs ∧ ∀ b ∈ bs1, b ∉ cs := by
  refine ⟨h.r.apart ha.fr (fun b hb hc => h.ap b hc hb), fun b hb hc => ?_⟩
  rcases ha.new b hb with e | e
  · exact h.ap b e hc
  · have := h.r.lts b hc
    omega
/-- Behind the call on the document's. -/
theorem duo_two {w0 w w1 w2 : World} {sp rp : Nat} {xs1 bs cs bs1 cs1 : List Nat} (h0 : Below w0.heap.size w0 w) (h1 : Src 49 w1 sp xs1 bs1) (ha : Aft bs bs1 w w1) (hap : ∀ b ∈ bs1, b ∉ cs) (h2 : Src 31 w2 rp xs1 cs1) (hb : Aft cs cs1 w1 w2) (hle : xs1.length ≤ 4096) : Duo w2 sp rp xs1 bs1 cs1 ∧ Aft (bs ++ cs) (bs1 ++ cs1) w0 w2 := by
  refine ⟨⟨h1.apart hb.fr hap, h2, fun b hb1 hc1 => ?_, hle⟩, (Fr.of (fp := bs ++ cs) h0).trans ((show Fr (bs ++ cs) w w1 from ⟨ha.fr.os, ha.fr.tape, ha.fr.output, ha.fr.size, fun k hk hn => ha.fr.block k hk (fun e => hn (List.mem_append_left _ e))⟩).trans hb.fr (fun x hx => .inl (List.mem_append_right _ hx))) (fun x hx => .inl hx), fun b hb1 => ?_⟩
  · rcases hb.new b hc1 with e | e
    · exact hap b hb1 e
    · have := h1.lts b hb1
      omega
  · rcases List.mem_append.1 hb1 with e | e
    · rcases ha.new b e with e2 | e2
      · exact .inl (List.mem_append_left _ e2)
      · exact .inr (Nat.le_trans h0.size e2)
    · rcases hb.new b e with e2 | e2
      · exact .inl (List.mem_append_right _ e2)
      · exact .inr (Nat.le_trans (Nat.le_trans h0.size ha.fr.size) e2)
set_option maxHeartbeats 1000000 in
set_option maxRecDepth 100000 in
theorem draw_byte (sp rp n c : Nat) (ao : Option Addr) (xs bs cs : List Nat) (w : World) (h : Duo w sp rp xs bs cs) :
    Calls Tryd.prog 10 #[pf sp, pf rp, .agg #[.int .i64 1, .slice ao n c]] w fun e w' => Drew w sp rp (xs.drop 1) bs cs e w' := by
  have HB0 := hide (below_new w (.cells #[.int .i64 1, .slice ao n c] 33))
  have HD := hide (h.keep HB0.out)
  have HLT := hide h.r.lts
  have HLE := hide h.le
  clear h
  cases xs with
  | nil =>
    have HS := hide (byteDry_any sp bs _ HD.out.s)
    have HR := hide (rbyteDry_any rp cs _ HD.out.r)
    unfold pf at *
    go_enter Tryd.func10, Tryd.ntmps10
    go_wp2_with (first
      | (go_at_call 16; refine HS.out.mono ?_; rintro e wx ⟨rfl, hwx⟩; have hwy := hwx.symm; subst hwy; clear hwx)
      | (go_at_call 21; refine HR.out.mono ?_; rintro e wx ⟨rfl, hwx⟩; have hwy := hwx.symm; subst hwy; clear hwx)
      | (go_at_call 14; refine (num_any _ _).mono ?_; rintro e wx ⟨rfl, hwx⟩; have hwy := hwx.symm; subst hwy; clear hwx))
    go_ret
    exact ⟨rfl, bs, cs, HD.out, Fr.of HB0.out, fun b hb => .inl hb⟩
  | cons x ys =>
    have HS := hide (byte_any sp x ys bs _ HD.out.s)
    have HR : Hid (∀ W, Src 31 W rp (x :: ys) cs → Calls Tryd.prog 21 #[pf rp] W fun e w' => e = .returned (.tuple #[.int .u8 (x : Int), .int .i64 0]) ∧ ∃ bs', Src 31 w' rp ys bs' ∧ Aft [rp] bs' W w') := hide fun W hW => rbyte_any rp x ys cs W hW (by have := HLE.out; simp at this; omega)
    have HLE2 : Hid (ys.length ≤ 4096) := hide (by have := HLE.out; simp at this; omega)
    have HRH := hide HD.out.r.head
    unfold pf at *
    go_enter Tryd.func10, Tryd.ntmps10
    go_wp2_with (first
      | (go_at_call 16; refine HS.out.mono ?_; rintro e w1 ⟨rfl, h1, a1⟩; have H1 := hide h1; have A1 := hide a1; have HO := hide (duo_one HD.out a1); clear h1 a1)
      | (go_at_call 21; refine (HR.out _ HO.out.1).mono ?_; rintro e w2 ⟨rfl, cs1, h2, a2⟩; have HE := hide (duo_two HB0.out H1.out A1.out HO.out.2 h2 (a2.up HRH.out) HLE2.out); clear h2 a2)
      | (go_at_call 14; refine (num_any _ _).mono ?_; rintro e wx ⟨rfl, hwx⟩; have hwy := hwx.symm; subst hwy; clear hwx))
    go_ret
    exact ⟨rfl, _, _, HE.out⟩
set_option maxHeartbeats 1000000 in
set_option maxRecDepth 100000 in
theorem draw_left (sp rp n c : Nat) (ao : Option Addr) (xs bs cs : List Nat) (w : World) (h : Duo w sp rp xs bs cs) :
    Calls Tryd.prog 10 #[pf sp, pf rp, .agg #[.int .i64 2, .slice ao n c]] w fun e w' => Drew w sp rp xs bs cs e w' := by
  have HB0 := hide (below_new w (.cells #[.int .i64 2, .slice ao n c] 33))
  have HD := hide (h.keep HB0.out)
  have HLT := hide h.r.lts
  have HLE := hide h.le
  have HS := hide (fun q => left_any sp xs bs ((w.alloc (.cells #[.int .i64 2, .slice ao n c] 33)).drewN q) (HD.out.s.keep (below_drewN (Below.refl _ _) q)))
  obtain ⟨vo, vc, hbl, -, -, -⟩ := HD.out.r.parts
  have c0 : (w.alloc (.cells #[.int .i64 2, .slice ao n c] 33)).cell? ⟨rp, 0, none⟩ = some (.slice vo xs.length vc) := hbl.cell 0
  have HPD : Hid (∀ q, Drew w sp rp xs bs cs (.returned (.bool true)) ((w.alloc (.cells #[.int .i64 2, .slice ao n c] 33)).drewN q)) := hide fun q => ⟨rfl, bs, cs, HD.out.keep (below_drewN (Below.refl _ _) q), Fr.of (below_drewN HB0.out q), fun b hb => .inl hb⟩
  clear h hbl
  generalize xs.length = m at *
  unfold pf at *
  go_enter Tryd.func10, Tryd.ntmps10
  go_wp2_with fail
  generalize w.alloc (.cells #[.int .i64 2, .slice ao n c] 33) = w0 at *
  go_quiet ((go_at_call 11; exact Calls.quiet_of_same (HS.out _)))
  go_wp2_with fail
  go_ret
  exact HPD.out nq
set_option maxHeartbeats 1000000 in
set_option maxRecDepth 100000 in
theorem draw_device (sp rp n c : Nat) (ao : Option Addr) (xs bs cs : List Nat) (w : World) (h : Duo w sp rp xs bs cs) :
    Calls Tryd.prog 10 #[pf sp, pf rp, .agg #[.int .i64 4, .slice ao n c]] w fun e w' => Drew w sp rp (xs.drop 32) bs cs e w' := by
  have HB0 := hide (below_new w (.cells #[.int .i64 4, .slice ao n c] 33))
  have HD := hide (h.keep HB0.out)
  have HLT := hide h.r.lts
  have HLE := hide h.le
  have HS := hide (device_any sp xs bs _ HD.out.s)
  have HR : Hid (∀ W, Src 31 W rp xs cs → Calls Tryd.prog 22 #[pf rp] W fun e w' => e = .returned (.tuple #[.string (bstr (drawT 32 xs)), .int .i64 ((drawE 32 xs : Nat) : Int)]) ∧ ∃ bs', Src 31 w' rp (xs.drop 32) bs' ∧ Aft cs bs' W w') := hide fun W hW => rdevice_any rp xs cs W hW HLE.out
  have HLE2 : Hid ((xs.drop 32).length ≤ 4096) := hide (Nat.le_trans (by simp) HLE.out)
  clear h
  generalize xs.drop 32 = xs2 at *
  generalize bstr (drawT 32 xs) = S at *
  generalize drawE 32 xs = E at *
  unfold pf at *
  go_enter Tryd.func10, Tryd.ntmps10
  go_wp2_with (first
    | (go_at_call 12; refine HS.out.mono ?_; rintro e w1 ⟨rfl, h1, a1⟩; have H1 := hide h1; have A1 := hide a1; have HO := hide (duo_one HD.out a1); clear h1 a1)
    | (go_at_call 22; refine (HR.out _ HO.out.1).mono ?_; rintro e w2 ⟨rfl, cs1, h2, a2⟩; have HE := hide (duo_two HB0.out H1.out A1.out HO.out.2 h2 a2 HLE2.out); clear h2 a2)
    | (go_at_call 14; refine (num_any _ _).mono ?_; rintro e wx ⟨rfl, hwx⟩; have hwy := hwx.symm; subst hwy; clear hwx))
  go_ret
  exact ⟨rfl, _, _, HE.out⟩
set_option maxHeartbeats 1000000 in
set_option maxRecDepth 100000 in
theorem draw_auth (sp rp n c : Nat) (ao : Option Addr) (xs bs cs : List Nat) (w : World) (h : Duo w sp rp xs bs cs) :
    Calls Tryd.prog 10 #[pf sp, pf rp, .agg #[.int .i64 5, .slice ao n c]] w fun e w' => Drew w sp rp (xs.drop 24) bs cs e w' := by
  have HB0 := hide (below_new w (.cells #[.int .i64 5, .slice ao n c] 33))
  have HD := hide (h.keep HB0.out)
  have HLT := hide h.r.lts
  have HLE := hide h.le
  have HS := hide (auth_any sp xs bs _ HD.out.s)
  have HR : Hid (∀ W, Src 31 W rp xs cs → Calls Tryd.prog 23 #[pf rp] W fun e w' => e = .returned (.tuple #[.string (bstr (drawT 24 xs)), .int .i64 ((drawE 24 xs : Nat) : Int)]) ∧ ∃ bs', Src 31 w' rp (xs.drop 24) bs' ∧ Aft cs bs' W w') := hide fun W hW => rauth_any rp xs cs W hW HLE.out
  have HLE2 : Hid ((xs.drop 24).length ≤ 4096) := hide (Nat.le_trans (by simp) HLE.out)
  clear h
  generalize xs.drop 24 = xs2 at *
  generalize bstr (drawT 24 xs) = S at *
  generalize drawE 24 xs = E at *
  unfold pf at *
  go_enter Tryd.func10, Tryd.ntmps10
  go_wp2_with (first
    | (go_at_call 13; refine HS.out.mono ?_; rintro e w1 ⟨rfl, h1, a1⟩; have H1 := hide h1; have A1 := hide a1; have HO := hide (duo_one HD.out a1); clear h1 a1)
    | (go_at_call 23; refine (HR.out _ HO.out.1).mono ?_; rintro e w2 ⟨rfl, cs1, h2, a2⟩; have HE := hide (duo_two HB0.out H1.out A1.out HO.out.2 h2 a2 HLE2.out); clear h2 a2)
    | (go_at_call 14; refine (num_any _ _).mono ?_; rintro e wx ⟨rfl, hwx⟩; have hwy := hwx.symm; subst hwy; clear hwx))
  go_ret
  exact ⟨rfl, _, _, HE.out⟩
theorem userR_left : ∀ (xs code : List Nat), (userR code xs).2.2.length ≤ xs.length
  | [], code => by by_cases h : 8 ≤ code.length <;> simp [userR, h]
  | x :: xs, code => by
    by_cases h : 8 ≤ code.length
    · simp [userR, h]
    · rw [userR_next h]
      exact Nat.le_trans (userR_left xs _) (by simp)
set_option maxHeartbeats 1000000 in
set_option maxRecDepth 100000 in
theorem draw_user (sp rp n c : Nat) (ao : Option Addr) (xs bs cs : List Nat) (w : World) (h : Duo w sp rp xs bs cs) (hT : Lets w) (hG : 0 ∉ bs) :
    Calls Tryd.prog 10 #[pf sp, pf rp, .agg #[.int .i64 6, .slice ao n c]] w fun e w' => Drew w sp rp ((userR [] xs).2.2) bs cs e w' := by
  have HB0 := hide (below_new w (.cells #[.int .i64 6, .slice ao n c] 33))
  have HD := hide (h.keep HB0.out)
  have HLT := hide h.r.lts
  have HLE := hide h.le
  have HS := hide (user_any sp xs bs _ HD.out.s (hT.keep HB0.out) hG)
  have HR : Hid (∀ W, Src 31 W rp xs cs → Calls Tryd.prog 24 #[pf rp] W fun e w' => e = .returned (.tuple #[.string (bstr ((userR [] xs).1)), .int .i64 (((userR [] xs).2.1 : Nat) : Int)]) ∧ ∃ bs', Src 31 w' rp ((userR [] xs).2.2) bs' ∧ Aft cs bs' W w') := hide fun W hW => ruser_any rp xs cs W hW HLE.out
  have HLE2 : Hid (((userR [] xs).2.2).length ≤ 4096) := hide (Nat.le_trans (userR_left xs []) HLE.out)
  clear h hT hG
  generalize (userR [] xs).2.2 = xs2 at *
  generalize bstr ((userR [] xs).1) = S at *
  generalize (userR [] xs).2.1 = E at *
  unfold pf at *
  go_enter Tryd.func10, Tryd.ntmps10
  go_wp2_with (first
    | (go_at_call 17; refine HS.out.mono ?_; rintro e w1 ⟨rfl, h1, a1⟩; have H1 := hide h1; have A1 := hide a1; have HO := hide (duo_one HD.out a1); clear h1 a1)
    | (go_at_call 24; refine (HR.out _ HO.out.1).mono ?_; rintro e w2 ⟨rfl, cs1, h2, a2⟩; have HE := hide (duo_two HB0.out H1.out A1.out HO.out.2 h2 a2 HLE2.out); clear h2 a2)
    | (go_at_call 14; refine (num_any _ _).mono ?_; rintro e wx ⟨rfl, hwx⟩; have hwy := hwx.symm; subst hwy; clear hwx))
  go_ret
  exact ⟨rfl, _, _, HE.out⟩
set_option maxHeartbeats 1000000 in
set_option maxRecDepth 100000 in
theorem draw_else (sp rp n c : Nat) (ao : Option Addr) (xs bs cs : List Nat) (w : World) (h : Duo w sp rp xs bs cs) (kk : Int) (h1 : kk ≠ 1) (h2 : kk ≠ 2) (h3 : kk ≠ 3) (h4 : kk ≠ 4) (h5 : kk ≠ 5) (h6 : kk ≠ 6) :
    Calls Tryd.prog 10 #[pf sp, pf rp, .agg #[.int .i64 kk, .slice ao n c]] w fun e w' => Drew w sp rp xs bs cs e w' := by
  have HB0 := hide (below_new w (.cells #[.int .i64 kk, .slice ao n c] 33))
  have HD := hide (h.keep HB0.out)
  have HLT := hide h.r.lts
  have HLE := hide h.le
  have e1 : (kk == 1) = false := by simpa using h1
  have e2 : (kk == 2) = false := by simpa using h2
  have e3 : (kk == 3) = false := by simpa using h3
  have e4 : (kk == 4) = false := by simpa using h4
  have e5 : (kk == 5) = false := by simpa using h5
  have e6 : (kk == 6) = false := by simpa using h6
  clear h h1 h2 h3 h4 h5 h6
  unfold pf at *
  go_enter Tryd.func10, Tryd.ntmps10
  go_wp2_with fail
  go_ret
  exact ⟨rfl, bs, cs, HD.out, Fr.of HB0.out, fun b hb => .inl hb⟩
end Go.Proofs.YtonnnolnkjahgabDoor
