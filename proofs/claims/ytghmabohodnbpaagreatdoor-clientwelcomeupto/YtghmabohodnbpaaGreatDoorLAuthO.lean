/- The program's Authenticate: what it hands out is the call's own; the claim of header and form. -/
import Derived.Test.YtghmabohodnbpaaGreatDoorLHdr
import Derived.Test.YtghmabohodnbpaaGreatDoorLRAuth
namespace Go.Proofs.YtghmabohodnbpaaGreatDoor
open Go.RowKit

def AuOwn (w : World) (R : Aut) (e : Ending) (w' : World) : Prop := ∃ (B : Nat) (c : Cl) (so : Option Addr) (n cp : Nat), e = .returned (.tuple #[.agg #[.string c.id, .string c.secret, .int .i64 c.grants, .bool c.ping, .string c.url, .slice so n cp], .int .i64 R.how, .int .i64 (R.er : Int)]) ∧ R.cl.getD zeroCl = c ∧ (w.heap.size ≤ B ∧ B ≤ w'.heap.size) ∧ n = c.scopes.length ∧ SOwn w' B (.slice so n cp) c.scopes ∧ Below w.heap.size w w'
theorem auOwn_bad {w w' : World} {k : Nat} (hb : Below w.heap.size w w') : AuOwn w ⟨none, 0, k⟩ (.returned (.tuple #[.agg #[.string { data := #[] }, .string { data := #[] }, .int .i64 0, .bool false, .string { data := #[] }, .slice none 0 0], .int .i64 0, .int .i64 (k : Int)])) w' :=
  ⟨w.heap.size, zeroCl, none, 0, 0, rfl, rfl, ⟨Nat.le_refl _, hb.size⟩, rfl, sown_nil _ _, hb⟩
set_option maxHeartbeats 2000000 in
set_option maxRecDepth 100000 in
theorem auth_own (n c fn fc : Nat) (ao fo : Option Addr) (L : List Cl) (header : ByteArray) (t : Clm) (w : World) (hn : n = L.length) (hl : n ≤ 4398046511104) (hr : CRow w ao L) (hz : ∀ c ∈ L, ClSmall c)
    (hc : ∀ W, Below w.heap.size w W → Calls Tryz.prog 44 #[.string header, .slice fo fn fc] W fun e w' => True ∧ ClmEnd W t e w') (hh : t.how = 0 ∨ t.how = 1 ∨ t.how = 2) (hs : t.sec.size ≤ 140737488355328) :
    Calls Tryz.prog 23 #[.slice ao n c, .string header, .slice fo fn fc] w fun e w' => True ∧ AuOwn w (authR L t) e w' := by
  have HN : Hid (n = L.length) := hn
  have HR : Hid (CRow w ao L) := hr
  have HZ : Hid (∀ c ∈ L, ClSmall c) := hz
  have HBA : Hid (Below w.heap.size w (w.alloc (.cells #[.string { data := #[] }, .string { data := #[] }, .int .i64 0, .bool false, .string { data := #[] }, .slice none 0 0] 47))) := below_new w _
  have HC0 := hide (C6.new w)
  have HCL := hc _ HBA.out
  obtain ⟨h, nm, sec, er⟩ := t
  simp only at hh hs
  obtain ⟨A, HA⟩ : ∃ A, Hid (A = authR L ⟨h, nm, sec, er⟩) := ⟨_, hide rfl⟩
  rw [← HA.out]
  clear hn hr hz hc
  go_enter Tryz.func23, Tryz.ntmps23
  go_wp2_with (first | (go_at_call 44; refine HCL.mono ?_))
  rintro e w1 ⟨-, rfl, hb1⟩
  have HB1 : Hid (Below w.heap.size w w1) := HBA.out.trans (hb1.mono HBA.out.size)
  have HC1 := hide (HC0.out.keep hb1 (by simp))
  have hs1 : w.heap.size < w1.heap.size := HC1.out.lt
  have HB2 : Hid (Below w1.heap.size w1 (w1.alloc (.cells #[.int .i64 h, .string nm, .string sec] 92))) := below_new w1 _
  have HC2 := hide (HC1.out.keep HB2.out hs1)
  have HK2 : Hid (K3 (w1.alloc (.cells #[.int .i64 h, .string nm, .string sec] 92)) w1.heap.size (.int .i64 h) (.string nm) (.string sec)) := heap_alloc_new w1 _
  have hs2 := HB2.out.size
  clear hb1 HCL HC0 HBA
  simp only
  go_upto_region 2 with fail
  generalize (w1.alloc (.cells #[.int .i64 h, .string nm, .string sec] 92)) = w2 at *
  obtain ⟨d0, d1, d2, d3, d4, d5⟩ := HC2.out.cells
  obtain ⟨f0, f1, f2, f3, f4, f5⟩ := HC2.out.thaw
  obtain ⟨i0, i1, i2⟩ := HK2.out.cells
  by_cases he : er = 0
  case neg =>
    have HAE : Hid (A = ⟨none, 0, er⟩) := by show _ = _; rw [HA.out]; unfold authR; rw [if_pos he]
    have hei : ((er : Int) == 0) = false := by simp; omega
    have hei2 : ((er : Int) != 0) = true := by simp; omega
    go_wp2
    refine bodyPost_ret (c6_results3 rfl rfl rfl rfl (HC2.out.put _ _ _ _ _ _)) rfl ?_
    rw [HAE.out]
    exact ⟨trivial, auOwn_bad ((HB1.out.trans (HB2.out.mono (by omega))).trans (below_of_grown (putC_grown _ _ _ _ _ _ _ _) (Nat.le_refl _) (by omega)))⟩
  subst he
  have HFD := find_own n c ao L nm w2 HN.out (by omega) ((HR.out.keep HB1.out).keep HB2.out) HZ.out
  obtain ⟨F, HF⟩ : ∃ F, Hid (F = findR L nm) := ⟨_, hide rfl⟩
  have HAF : Hid (A = authF h sec F) := by show _ = _; rw [HA.out, HF.out]; rfl
  rw [← HF.out] at HFD
  clear HA HF
  go_wp2_with (first | (go_at_call 45; refine HFD.mono ?_))
  rintro e w3 ⟨-, q, so, m, cp, rfl, hq, hm, hown, hb3⟩
  have HQ := hide hq
  have HMM := hide hm
  have HOWN := hide hown
  have hs02 : w.heap.size < w2.heap.size := HC2.out.lt
  have hs2' := HC2.out.lt
  have HB3 : Hid (Below w.heap.size w w3) := (HB1.out.trans (HB2.out.mono (by omega))).trans (hb3.mono (by omega))
  have HC3 := hide (HC2.out.keep hb3 hs2')
  have HK3 := hide (HK2.out.keep hb3 HK2.out.lt)
  have hs3 := HC3.out.lt
  have hs23 : w2.heap.size ≤ w3.heap.size := hb3.size
  have HB4 : Hid (Below w3.heap.size w3 (w3.alloc (.cells #[.string q.id, .string q.secret, .int .i64 q.grants, .bool q.ping, .string q.url, .slice so m cp] 47))) := below_new w3 _
  have HC4 := hide (HC3.out.keep HB4.out hs3)
  have HK4 := hide (HK3.out.keep HB4.out HK3.out.lt)
  have HQ4 : Hid (C6 (w3.alloc (.cells #[.string q.id, .string q.secret, .int .i64 q.grants, .bool q.ping, .string q.url, .slice so m cp] 47)) w3.heap.size (.string q.id) (.string q.secret) (.int .i64 q.grants) (.bool q.ping) (.string q.url) (.slice so m cp)) := heap_alloc_new w3 _
  have hs4 := HB4.out.size
  have HS4 := hide (HOWN.out.keep HB4.out)
  clear hq hm hown hb3 HFD
  go_upto_region 5 with fail
  generalize (w3.alloc (.cells #[.string q.id, .string q.secret, .int .i64 q.grants, .bool q.ping, .string q.url, .slice so m cp] 47)) = w4 at *
  obtain ⟨e0, e1, e2, e3, e4, e5⟩ := HC4.out.cells
  obtain ⟨g0, g1, g2, g3, g4, g5⟩ := HC4.out.thaw
  obtain ⟨j0, j1, j2⟩ := HK4.out.cells
  obtain ⟨k0, k1, k2, k3, k4, k5⟩ := HQ4.out.cells
  cases F with
  | none =>
    have HAE : Hid (A = ⟨none, 0, 111⟩) := HAF
    rw [show (none : Option Cl).isSome = false from rfl]
    go_wp2
    refine bodyPost_ret (c6_results3 rfl rfl rfl rfl (HC4.out.put _ _ _ _ _ _)) rfl ?_
    rw [HAE.out]
    exact ⟨trivial, auOwn_bad ((HB3.out.trans (HB4.out.mono (by omega))).trans (below_of_grown (putC_grown _ _ _ _ _ _ _ _) (Nat.le_refl _) (by omega)))⟩
  | some q2 =>
    have hq2 : q2 = q := HQ.out
    subst hq2
    have HH := holds_any h nm sec q2.id q2.secret q2.url q2.grants q2.ping so m cp w4 hh hs
    obtain ⟨B, HB⟩ : ∃ B, Hid (B = holdsB h sec q2.secret) := ⟨_, hide rfl⟩
    have HAB : Hid (A = if B = true then ⟨some q2, h, 0⟩ else ⟨none, 0, 112⟩) := by show _ = _; rw [HAF.out, HB.out]; rfl
    rw [← HB.out] at HH
    rw [show (some q2 : Option Cl).isSome = true from rfl]
    clear HAF HB HQ
    cases B
    · have HAE : Hid (A = ⟨none, 0, 112⟩) := HAB
      go_wp2_with (first | (go_at_call 46; refine HH.mono ?_))
      rintro e w5 ⟨rfl, hb5⟩
      have HC5 := hide (HC4.out.keep hb5 (by omega))
      have HB5 := hide ((HB3.out.trans (HB4.out.mono (by omega))).trans (hb5.mono (by omega)))
      obtain ⟨l0, l1, l2, l3, l4, l5⟩ := HC5.out.cells
      obtain ⟨p0, p1, p2, p3, p4, p5⟩ := HC5.out.thaw
      have hs5 := HB5.out.size
      clear hb5 HH
      go_wp2
      refine bodyPost_ret (c6_results3 rfl rfl rfl rfl (HC5.out.put _ _ _ _ _ _)) rfl ?_
      rw [HAE.out]
      exact ⟨trivial, auOwn_bad (HB5.out.trans (below_of_grown (putC_grown _ _ _ _ _ _ _ _) (Nat.le_refl _) (by omega)))⟩
    · have HAE : Hid (A = ⟨some q2, h, 0⟩) := HAB
      go_wp2_with (first | (go_at_call 46; refine HH.mono ?_))
      rintro e w5 rfl hb5
      have hs25 : w2.heap.size ≤ w5.heap.size := by have := hb5.size; omega
      have HC5 := hide (HC4.out.keep hb5 (by omega))
      have HK5 := hide (HK4.out.keep hb5 HK4.out.lt)
      have HQ5 := hide (HQ4.out.keep hb5 HQ4.out.lt)
      have HS5 := hide (HS4.out.keep hb5)
      have HB5 := hide ((HB3.out.trans (HB4.out.mono (by omega))).trans (hb5.mono (by omega)))
      have hne1 : ¬ w3.heap.size = w.heap.size := by omega
      have hne2 : ¬ w1.heap.size = w.heap.size := by omega
      have hne3 : ¬ w.heap.size = w3.heap.size := by omega
      have hne4 : ¬ w.heap.size = w1.heap.size := by omega
      obtain ⟨l0, l1, l2, l3, l4, l5⟩ := HC5.out.cells
      obtain ⟨p0, p1, p2, p3, p4, p5⟩ := HC5.out.thaw
      obtain ⟨r0, r1, r2, r3, r4, r5⟩ := HQ5.out.cells
      obtain ⟨s0, s1, s2⟩ := HK5.out.cells
      have hs5 := HB5.out.size
      clear hb5 HH
      go_wp2
      go_region_held3 (fun W => W.cell? ⟨w1.heap.size, 0, none⟩ = some (.int .i64 h) ∧ W.cell? ⟨w3.heap.size, 0, none⟩ = some (.string q2.id) ∧ W.cell? ⟨w3.heap.size, 1, none⟩ = some (.string q2.secret) ∧ W.cell? ⟨w3.heap.size, 2, none⟩ = some (.int .i64 q2.grants) ∧ W.cell? ⟨w3.heap.size, 3, none⟩ = some (.bool q2.ping) ∧ W.cell? ⟨w3.heap.size, 4, none⟩ = some (.string q2.url) ∧ W.cell? ⟨w3.heap.size, 5, none⟩ = some (.slice so m cp)) (go_keep) (fail)
      go_wp2
      refine bodyPost_ret (c6_results3 rfl rfl rfl rfl (HC5.out.put _ _ _ _ _ _).drew) rfl ?_
      rw [HAE.out]
      refine ⟨trivial, w2.heap.size, q2, so, m, cp, rfl, rfl, ⟨by omega, Nat.le_trans (Nat.le_trans hs25 (Nat.le_refl _)) (grown_drew (putC_grown _ _ _ _ _ _ _ _)).size⟩, HMM.out, HS5.out.grown (grown_drew (putC_grown _ _ _ _ _ _ _ _)) hs02, HB5.out.trans (below_of_grown (grown_drew (putC_grown _ _ _ _ _ _ _ _)) (Nat.le_refl _) (by omega))⟩

theorem claimT_any (header : ByteArray) (n c : Nat) (ao : Option Addr) (l : List Two) (w : World) (hn : n = l.length) (hl : n ≤ 4398046511104) (hb : ∀ q ∈ l, bytes2 q) (hz : ∀ q ∈ l, q.2.length ≤ 281474976710656) (hr : PRow w ao l) (hM : MaxL w) :
    Calls Tryz.prog 44 #[.string header, .slice ao n c] w fun e w' => True ∧ ClmEnd w (claimT header l) e w' := by
  unfold claimT
  by_cases h : header.size = 0
  · rw [if_pos h, empty_of h]
    exact claimOf_none n c ao l w hn hl hb hz hr
  · rw [if_neg h]
    exact claimOf_header header h n c ao l w hn hl hb hz hr hM
theorem formT_facts (l : List Two) (b : Nat) (hz : ∀ q ∈ l, q.2.length ≤ b) : ((formT l).how = 0 ∨ (formT l).how = 1 ∨ (formT l).how = 2) ∧ (formT l).sec.size ≤ b := by
  unfold formT
  split
  · exact ⟨.inl rfl, Nat.zero_le _⟩
  · split
    · exact ⟨.inl rfl, Nat.zero_le _⟩
    · refine ⟨?_, ?_⟩
      · dsimp only
        split
        · exact .inl rfl
        · exact .inr (.inr rfl)
      · dsimp only
        rw [bstr_size]
        rcases ones_from nSec l with h | ⟨q, hq, h⟩
        · rw [h]; exact Nat.zero_le _
        · rw [h]; exact hz q hq
theorem basT_sec {h a s : List Nat} (hb : basT h = some (a, s)) : s.length ≤ 1024 := by
  unfold basT at hb
  split at hb
  · cases hb
  · rename_i h1
    split at hb
    · cases hd : decT ((h.drop ((upTo 32 h).length + 1)).dropWhile (· == 32)) with
      | none => rw [hd] at hb; cases hb
      | some t =>
        rw [hd] at hb
        have ht := (decT_lt hd).2
        have h3 := (List.dropWhile_sublist (fun x => x == 32) (l := h.drop ((upTo 32 h).length + 1))).length_le
        rw [List.length_drop] at h3
        have hnt : nameT t = some (a, s) := hb
        unfold nameT at hnt
        cases h4 : un (upTo 58 t) 0 with
        | error x => rw [h4] at hnt; cases hnt
        | ok u =>
          cases h5 : un (t.drop ((upTo 58 t).length + 1)) 0 with
          | error x => rw [h4, h5] at hnt; cases hnt
          | ok v =>
            rw [h4, h5] at hnt
            dsimp only at hnt
            split at hnt
            · injection hnt with hnt
              injection hnt with e1 e2
              have h6 := (un_lt _ _ _ _ (Nat.le_refl _) h5).2
              rw [List.length_drop] at h6
              rw [← e2]
              have h1' : ¬ 1024 < h.length := h1
              have ht' : t.length ≤ h.length := by
                refine Nat.le_trans ht (Nat.le_trans h3 (Nat.sub_le _ _))
              omega
            · cases hnt
    · cases hb
theorem claimT_facts (header : ByteArray) (l : List Two) (hz : ∀ q ∈ l, q.2.length ≤ 1048576) : ((claimT header l).how = 0 ∨ (claimT header l).how = 1 ∨ (claimT header l).how = 2) ∧ (claimT header l).sec.size ≤ 1048576 := by
  have hf := formT_facts l 1048576 hz
  unfold claimT
  split
  · unfold claim0
    split
    · exact ⟨.inl rfl, Nat.zero_le _⟩
    · split
      · exact ⟨.inl rfl, Nat.zero_le _⟩
      · exact hf
  · unfold claimH
    split
    · exact ⟨.inl rfl, Nat.zero_le _⟩
    · unfold hdrT
      cases hB : basT (sbytes header) with
      | none => exact ⟨.inl rfl, Nat.zero_le _⟩
      | some ab =>
        obtain ⟨a, s⟩ := ab
        dsimp only
        split
        · exact ⟨.inl rfl, Nat.zero_le _⟩
        · split
          · exact ⟨.inl rfl, Nat.zero_le _⟩
          · refine ⟨.inr (.inl rfl), ?_⟩
            dsimp only
            rw [bstr_size]
            have := basT_sec hB
            omega
end Go.Proofs.YtghmabohodnbpaaGreatDoor
