/- The contract of the document's New. -/
import Derived.Test.YticbfcognnofbaaEOp9
import Derived.Test.YticbfcognnofbaaDNew3
namespace Go.Proofs.Yticbfcognnofbaa
open Go.RowKit Go.Maps

/-- The disk that New has made of the first files. -/
def begS (fs : List Fi) (room : Nat) (k : Nat) : DS := { room := room, files := (fs.take k).map fun f => ⟨f.2, f.2.length⟩, dir := dirAt fs k, safe := [], chg := [], ops := 0, armed := 0, dead := false }
def ENewPost (fs : List Fi) (room : Int) (w : World) (e : Ending) (w' : World) : Prop :=
  (if newErr fs room = 0 then ∃ rp L, e = .returned (.tuple #[pf rp, .int .i64 0]) ∧ RRep w' rp (born fs room.toNat) L ∧ (∀ b ∈ L.mut rp ++ L.imm, w.heap.size ≤ b) else e = .returned (.tuple #[.pointer none, .int .i64 (newErr fs room : Int)])) ∧ Below w.heap.size w w'
theorem enew_refused {fs : List Fi} {room : Int} {w w' : World} {m : Nat} (h : newErr fs room = m) (h0 : m ≠ 0) (hb : Below w.heap.size w w') : ENewPost fs room w (.returned (.tuple #[.pointer none, .int .i64 (m : Int)])) w' := by
  unfold ENewPost
  rw [h, if_neg h0]
  exact ⟨rfl, hb⟩
theorem rrep_zero (w : World) (fs : List Fi) (room : Nat) : RRep (w.alloc (.cells #[.int .i64 (room : Int), .slice none 0 0, .slice none 0 0, .slice none 0 0, .slice none 0 0, .int .i64 0, .int .i64 0, .bool false] 73)) w.heap.size (begS fs room 0) ⟨.slice none 0 0, .slice none 0 0, .slice none 0 0, .slice none 0 0, []⟩ where
  nod := RL.nod_of (fun g hg => by simp [Value.ownBlock] at hg) (fun g hg => by simp [Value.ownBlock] at hg)
  sep := fun b hb => by simp [RL.imm, vb, Value.ownBlock] at hb
  box := Bl.new w _ _
  files := World.ownsRow_nil _ _ _ _
  ulen := rfl
  byte := fun i u f h1 _ => by simp at h1
  dir := eown_nil _ _
  safe := eown_nil _ _
  chg := World.ownsRow_nil _ _ _ _
theorem begS_len {fs : List Fi} {room k : Nat} (hk : k ≤ fs.length) : (begS fs room k).files.length = k := by simp [begS]; omega
theorem total_take {fs : List Fi} {k : Nat} {x : Fi} (h : fs[k]? = some x) : total (fs.take (k + 1)) = total (fs.take k) + x.2.length := by
  rw [List.take_add_one, h]
  simp [total]
theorem total_take_le (fs : List Fi) : ∀ k, (∀ j, j < k → faultAt fs j = 0) → total (fs.take k) ≤ 4194304 * k
  | 0, _ => by simp [total]
  | k + 1, h => by
    have ih := total_take_le fs k (fun j hj => h j (by omega))
    by_cases hk : k < fs.length
    · have e : fs[k]? = some fs[k] := List.getElem?_eq_getElem hk
      rw [total_take e]
      have hz := (fault_zero (h k (by omega))).2.2
      rw [List.getD_eq_getElem?_getD, e] at hz
      simp only [Option.getD_some] at hz
      omega
    · rw [List.take_of_length_le (by omega)]
      rw [List.take_of_length_le (by omega)] at ih
      omega
theorem err_fault {fs : List Fi} {room : Int} {k : Nat} (h0 : ¬ room < 0) (h64 : fs.length ≤ 64) (hk : k < fs.length) (h : ∀ j, j < k → faultAt fs j = 0) (he : faultAt fs k ≠ 0) : newErr fs room = faultAt fs k := by
  unfold newErr
  rw [if_neg h0, if_neg (by omega), first_some hk h he]
theorem err_total {fs : List Fi} {room : Int} (h0 : ¬ room < 0) (h64 : fs.length ≤ 64) (h : ∀ j, j < fs.length → faultAt fs j = 0) : newErr fs room = if room < (total fs : Int) then 5 else 0 := by
  unfold newErr
  rw [if_neg h0, if_neg (by omega), first_none h]
theorem rising_place {d : Dir} (hr : Rising d) {k k' : Nat} {p q : Nm × Nat} (h1 : d[k]? = some p) (h2 : d[k']? = some q) (e : p.1 = q.1) : k = k' := by
  have l1 := lt_of_get h1
  have l2 := lt_of_get h2
  rw [List.getElem?_eq_getElem l1] at h1
  rw [List.getElem?_eq_getElem l2] at h2
  injection h1 with h1
  injection h2 with h2
  unfold Rising at hr
  rw [List.pairwise_iff_getElem] at hr
  rcases Nat.lt_trichotomy k k' with h | h | h
  · have := hr k k' l1 l2 h
    rw [h1, h2, e, WideAt.bytes_irrefl] at this
    cases this
  · exact h
  · have := hr k' k l2 l1 h
    rw [h1, h2, e, WideAt.bytes_irrefl] at this
    cases this
/-- Where a name is found hangs on the directory alone. -/
theorem efind_place {v : Value} {d : Dir} {nm : Nm} {i : Nat} (hr : Rising d) (hg : dget nm d = some i) : ∃ kk : Nat, ∀ W, EOwn W 0 v d → d.length ≤ 1000000 → Calls Try.prog 65 #[v, .string (str nm)] W fun e w' => e = .returned (.int .i64 (kk : Int)) ∧ w' = W := by
  obtain ⟨kk, hkk, e⟩ := List.getElem_of_mem (dget_some hg)
  refine ⟨kk, fun W hE hl => (efind_some hE hl hg).mono fun e' w' ⟨k, hk, he, hw⟩ => ⟨?_, hw⟩⟩
  have : k = kk := rising_place hr hk (by rw [List.getElem?_eq_getElem hkk, e]) rfl
  rw [← this]
  exact he
set_option maxHeartbeats 8000000 in
set_option maxRecDepth 100000 in
theorem enew_any (ao : Option Addr) (n c : Nat) (fs : List Fi) (room : Int) (w : World) (hs : FSee w ao fs) (hn : n = fs.length) (hcap : n ≤ c) (hl : ∀ f ∈ fs, f.1.length ≤ maxLen ∧ f.1.length ≤ 281474976710656 ∧ f.2.length ≤ 140737488355328) :
    Calls Try.prog 32 #[.slice ao n c, .int .i64 room] w fun e w' => True ∧ ENewPost fs room w e w' := by
  obtain ⟨PP, hPP⟩ : ∃ PP, PP = ENewPost fs room w := ⟨_, rfl⟩
  rw [← hPP]
  have HPR : Hid (∀ (m : Nat) w', newErr fs room = m → m ≠ 0 → Below w.heap.size w w' → PP (.returned (.tuple #[.pointer none, .int .i64 (m : Int)])) w') := fun m w' h1 h2 h3 => by rw [hPP]; exact enew_refused h1 h2 h3
  have HPY : Hid (∀ rp L w', newErr fs room = 0 → RRep w' rp (born fs room.toNat) L → (∀ b ∈ L.mut rp ++ L.imm, w.heap.size ≤ b) → Below w.heap.size w w' → PP (.returned (.tuple #[.pointer (some ⟨rp, 0, none⟩), .int .i64 0])) w') := fun rp L w' h1 h2 h3 h4 => by rw [hPP]; unfold ENewPost; rw [if_pos h1]; exact ⟨⟨rp, L, rfl, h2, h3⟩, h4⟩
  clear hPP
  by_cases h0 : room < 0
  · have HE : Hid (newErr fs room = 2) := by show _ = _; unfold newErr; rw [if_pos h0]
    go_enter Try.func32, Try.ntmps32
    go_wp2
    first | (go_ret2; exact ⟨trivial, HPR.out 2 w HE.out (by decide) (Below.refl _ _)⟩) | exact HPR.out 2 w HE.out (by decide) (Below.refl _ _)
  by_cases h64 : 64 < n
  · have HE : Hid (newErr fs room = 32) := by show _ = _; unfold newErr; rw [if_neg h0, if_pos (by omega)]
    have q : decide ((64 : Int) < (n : Int)) = true := decide_eq_true (by omega)
    have hnb : ¬ room < 0 := h0
    clear h64 hn
    go_enter Try.func32, Try.ntmps32
    go_wp2
    first | (go_ret2; exact ⟨trivial, HPR.out 32 w HE.out (by decide) (Below.refl _ _)⟩) | exact HPR.out 32 w HE.out (by decide) (Below.refl _ _)
  have q64 : decide ((64 : Int) < (n : Int)) = false := decide_eq_false (by omega)
  have HS := hide hs
  have HN := hide hn
  have HL := hide hl
  have H64 : Hid (n ≤ 64) := by show _ ≤ _; omega
  obtain ⟨rm, hrm⟩ : ∃ rm : Nat, rm = room.toNat := ⟨_, rfl⟩
  have hrn : room = (rm : Int) := by omega
  rw [← hrm] at HPY
  subst hrn
  have HH0 := hide h0
  have HZ := hide (rrep_zero w fs rm)
  have HU := hide (below_new w (.cells #[.int .i64 (rm : Int), .slice none 0 0, .slice none 0 0, .slice none 0 0, .slice none 0 0, .int .i64 0, .int .i64 0, .bool false] 73))
  obtain ⟨N, hN⟩ : ∃ N, N = w.heap.size := ⟨_, rfl⟩
  rw [← hN] at HZ
  clear hs hn hl h64 hrm
  go_enter Try.func32, Try.ntmps32
  go_wp2_with fail
  rw [← hN]
  have HNW := hide hN
  clear hN
  generalize w.alloc (.cells #[.int .i64 (rm : Int), .slice none 0 0, .slice none 0 0, .slice none 0 0, .slice none 0 0, .int .i64 0, .int .i64 0, .bool false] 73) = u at *
  go_loopw [7, 8] (fun z i wr => ∃ (k : Nat) (L : RL), k ≤ n ∧ i = .int .i64 (k : Int) ∧ z = .int .i64 ((total (fs.take k) : Nat) : Int) ∧ Hid (RRep wr N (begS fs rm k) L) ∧ Hid (∀ b ∈ L.mut N ++ L.imm, N ≤ b) ∧ Hid (∀ j, j < k → faultAt fs j = 0) ∧ Hid (Below N w wr)) (fun _ i _ => n - (intOf i).toNat)
  case atStart => exact ⟨0, _, Nat.zero_le _, rfl, rfl, HZ, fun b hb => by simp [RL.mut, RL.imm, vb, Value.ownBlock] at hb; omega, fun j hj => by omega, by rw [HNW.out]; exact HU.out⟩
  case round =>
    clear HZ HU
    obtain ⟨k, L, hk, rfl, rfl, HR, HBL, HF, HB⟩ := hrel
    have hbw : Below w.heap.size w wr := by rw [← HNW.out]; exact HB.out
    by_cases hlt : k < n
    · obtain ⟨⟨nm, xs⟩, hx⟩ : ∃ x, fs[k]? = some x := ⟨_, List.getElem?_eq_getElem (by rw [← HN.out]; exact hlt)⟩
      obtain ⟨ab, aoff, bao, bc, rfl, x1, x2, x3⟩ := HS.out.cell k _ hx
      have y1 := cell_kept x1 hbw
      have y2 := cell_kept x2 hbw
      have HY3 := hide (x3.keep hbw)
      have HNB : Hid (∀ a, bao = some a → xs ≠ [] → a.block < N) := fun a ha hne => by
        rcases x3 with e | ⟨b, off, e, hc⟩
        · exact absurd e hne
        · rw [ha] at e
          injection e with e
          subst e
          rw [HNW.out]
          exact World.block_lt_of_cell? w _ (hc 0 (by cases xs with | nil => exact absurd rfl hne | cons => simp))
      simp only at y1 y2 HY3
      obtain ⟨l1, l2, l3⟩ := HL.out _ (List.mem_of_getElem? hx)
      simp only at l1 l2 l3
      have hgx : fs.getD k ([], []) = (nm, xs) := by simp [List.getD, hx]
      have HFA : Hid (faultAt fs k = faultOf (dirAt fs k) nm xs.length) := by show _ = _; unfold faultAt; rw [hgx]
      have HEF : Hid (faultAt fs k ≠ 0 → newErr fs (rm : Int) = faultAt fs k) := fun he => err_fault (by have := HH0.out; omega) (by have := H64.out; have := HN.out; omega) (by have := HN.out; omega) HF.out he
      -- the file's own variable
      have HV := hide (Bl.new wr #[.string (str nm), .slice bao xs.length bc] 104)
      have HBV := hide (below_new wr (.cells #[.string (str nm), .slice bao xs.length bc] 104))
      have HNA : Hid (∀ W, Calls Try.prog 64 #[.string (str nm)] W fun e w' => e = .returned (.bool (isNm nm)) ∧ w' = W) := fun W => ename_any nm W l1
      have hki : (k : Int) < (n : Int) := by omega
      have HXL := hide l3
      have HHX := hide hx
      have HDO : Hid (dirAt fs (k + 1) = dput nm k (dirAt fs k)) := by show dput (fs.getD k ([], [])).1 k (dirAt fs k) = _; rw [hgx]
      have hDok := (dirAt_ok (fs := fs) k (by have := HN.out; omega) (by have := H64.out; omega) HF.out).1
      have HDL := hide hDok.len
      have HRI := hide hDok.rising
      clear x1 x2 x3 hgx hDok l1 l2 l3 hx
      go_upto_region 11 with fail
      obtain ⟨V, hV⟩ : ∃ V, V = wr.heap.size := ⟨_, rfl⟩
      have HVW := hide hV
      rw [← hV] at HV ⊢
      clear hV
      have HR2 := hide (HR.out.below HBV.out)
      have HY4 := hide (HY3.out.keep HBV.out)
      have HBW2 := hide (hbw.trans (HBV.out.mono hbw.size))
      obtain ⟨bl, hbl⟩ : ∃ bl, bl = xs.length := ⟨_, rfl⟩
      have HXLN := hide hbl
      rw [← hbl] at HV HFA HXL y2 HBV HR2 HY4 HBW2 ⊢
      clear hbl y1 y2 HY3 hbw
      generalize wr.alloc (.cells #[.string (str nm), .slice bao bl bc] 104) = u2 at *
      have v0 : u2.cell? ⟨V, 0, none⟩ = some (.string (str nm)) := HV.out.cell 0
      have v1 : u2.cell? ⟨V, 1, none⟩ = some (.slice bao bl bc) := HV.out.cell 1
      cases hin : isNm nm with
      | false =>
        rw [hin] at HNA
        have hfa : faultAt fs k = 50 := by rw [HFA.out]; unfold faultOf; rw [if_pos hin]
        have HE := hide (HPR.out 50 u2 (by rw [HEF.out (by rw [hfa]; decide), hfa]) (by decide) HBW2.out)
        clear hfa hin
        go_wp2_with (first | (go_at_call 64; refine (HNA.out _).mono ?_; rintro e w3 ⟨rfl, hw⟩; have hw2 := hw.symm; subst hw2; clear hw) | fail)
        first | (go_ret2; exact ⟨trivial, HE.out⟩) | exact HE.out
      | true =>
        rw [hin] at HNA
        have c2 := HR2.out.c.2.2.1
        cases hg : dget nm (dirAt fs k) with
        | some i =>
          have hfa : faultAt fs k = 34 := by rw [HFA.out]; unfold faultOf; rw [if_neg (by rw [hin]; decide), hg]; rfl
          have HE : Hid (∀ q, PP (.returned (.tuple #[.pointer none, .int .i64 34])) (u2.drewN q)) := fun q => HPR.out 34 (u2.drewN q) (by rw [HEF.out (by rw [hfa]; decide), hfa]) (by decide) (below_drewN HBW2.out q)
          obtain ⟨kk, hkk⟩ : ∃ kk : Nat, ∀ m, Calls Try.prog 65 #[L.dv, .string (str nm)] (u2.drewN m) fun e w' => e = .returned (.int .i64 (kk : Int)) ∧ w' = u2.drewN m := by
            obtain ⟨kk, hkk⟩ := efind_place (v := L.dv) HRI.out hg
            exact ⟨kk, fun m => hkk (u2.drewN m) ((HR2.out.drewN m).dir) (by have := HDL.out; show (dirAt fs k).length ≤ _; omega)⟩
          have HKK := hide hkk
          have hk0 : decide ((0 : Int) ≤ (kk : Int)) = true := decide_eq_true (by omega)
          clear hfa hin hg hkk
          go_upto_region 13 with (first | (go_at_call 64; refine (HNA.out _).mono ?_; rintro e w3 ⟨rfl, hw⟩; have hw2 := hw.symm; subst hw2; clear hw) | fail)
          go_quiet ((go_at_call 65; exact Calls.quiet_of_same (HKK.out _)))
          go_wp2_with fail
          first | (go_ret2; exact ⟨trivial, HE.out _⟩) | exact HE.out _
        | none =>
          have HFN : Hid (∀ m, Calls Try.prog 65 #[L.dv, .string (str nm)] (u2.drewN m) fun e w' => e = .returned (.int .i64 (-1)) ∧ w' = u2.drewN m) := fun m => efind_none (HR2.out.drewN m).dir (by have := HDL.out; show (dirAt fs k).length ≤ _; omega) hg
          by_cases hbig : 4194304 < bl
          · have hfa : faultAt fs k = 1 := by rw [HFA.out]; unfold faultOf; rw [if_neg (by rw [hin]; decide), hg, if_pos hbig]; rfl
            have HE : Hid (∀ q, PP (.returned (.tuple #[.pointer none, .int .i64 1])) (u2.drewN q)) := fun q => HPR.out 1 (u2.drewN q) (by rw [HEF.out (by rw [hfa]; decide), hfa]) (by decide) (below_drewN HBW2.out q)
            have qb : decide ((4194304 : Int) < (bl : Int)) = true := decide_eq_true (by omega)
            clear hfa hin hg hbig
            go_upto_region 13 with (first | (go_at_call 64; refine (HNA.out _).mono ?_; rintro e w3 ⟨rfl, hw⟩; have hw2 := hw.symm; subst hw2; clear hw) | fail)
            go_quiet ((go_at_call 65; exact Calls.quiet_of_same (HFN.out _)))
            go_wp2_with fail
            first | (go_ret2; exact ⟨trivial, HE.out _⟩) | exact HE.out _
          · have hfa : faultAt fs k = 0 := by rw [HFA.out]; unfold faultOf; rw [if_neg (by rw [hin]; decide), hg, if_neg hbig]; rfl
            have HF2 : Hid (∀ j, j < k + 1 → faultAt fs j = 0) := fun j hj => by
              rcases Nat.lt_or_eq_of_le (Nat.le_of_lt_succ hj) with h | h
              · exact HF.out j h
              · rw [h]; exact hfa
            have qb : decide ((4194304 : Int) < (bl : Int)) = false := decide_eq_false (by omega)
            have HBG : Hid (bl ≤ 4194304) := by show _ ≤ _; omega
            have htt := total_take HHX.out
            have htl := total_take_le fs k HF.out
            have HTT : Hid (total (fs.take (k + 1)) = total (fs.take k) + bl) := by show _ = _; rw [htt, HXLN.out]
            have hsum : ((total (fs.take k) : Nat) : Int) + (bl : Int) ≤ 4611686018427387904 := by have := H64.out; omega
            clear hfa hin hg hbig htt htl
            go_upto_region 13 with (first | (go_at_call 64; refine (HNA.out _).mono ?_; rintro e w3 ⟨rfl, hw⟩; have hw2 := hw.symm; subst hw2; clear hw) | fail)
            go_quiet ((go_at_call 65; exact Calls.quiet_of_same (HFN.out _)))
            have HR3 := hide (HR2.out.drewN nq)
            have HV3 : Hid (Bl (u2.drewN nq) V [.string (str nm), .slice bao bl bc] 104) := HV.out.drewN nq
            have HY5 := hide (HY4.out.drewN nq)
            have HB3 := hide (below_drewN HBW2.out nq)
            clear v0 v1 c2 HV HR2 HY4 HBW2 HFN HNA HBV
            generalize u2.drewN nq = u3 at *
            have v0 : u3.cell? ⟨V, 0, none⟩ = some (.string (str nm)) := HV3.out.cell 0
            have v1 : u3.cell? ⟨V, 1, none⟩ = some (.slice bao bl bc) := HV3.out.cell 1
            have c2 := HR3.out.c.2.2.1
            obtain ⟨dao, dcap, hdv⟩ := ownsRow_slice HR3.out.dir
            have hVN : V ≠ N := by
              have h1 := HVW.out
              have h2 := HR.out.box.lt
              omega
            have HWT : Hid (∀ W, Below u3.heap.size u3 W → Calls Try.prog 66 #[L.dv, .string (str nm), .int .i64 (k : Int)] W fun e w' => ∃ v, e = .returned v ∧ EOwn w' W.heap.size v (dirAt fs (k + 1)) ∧ Below W.heap.size W w') := fun W hW => by
              rw [HDO.out]
              exact ewith_any L.dv (dirAt fs k) 0 nm k W (owns_keep HR3.out.dir hW) (by have := HDL.out; omega)
            have HA : Hid (∀ w2 v2, EOwn w2 u3.heap.size v2 (dirAt fs (k + 1)) → Below u3.heap.size u3 w2 → w2.cell? ⟨N, 2, none⟩ = some L.dv ∧ w2.frozen? ⟨N, 2, none⟩ = false ∧ RRep (w2.setCell ⟨N, 2, none⟩ v2) N { begS fs rm k with dir := dirAt fs (k + 1) } { L with dv := v2 } ∧ Bl (w2.setCell ⟨N, 2, none⟩ v2) V [.string (str nm), .slice bao bl bc] 104 ∧ Row (w2.setCell ⟨N, 2, none⟩ v2) bao xs ∧ w2.cell? ⟨V, 0, none⟩ = some (.string (str nm))) := fun w2 v2 h1 h2 => by
              have hr2 := HR3.out.below h2
              refine ⟨hr2.c.2.2.1, hr2.box.frozen 2, hr2.dirTo (owns_lower h1 (Nat.zero_le _)) (fun g hg hm => ?_), (HV3.out.keep h2).other hVN 2 v2, ?_, (HV3.out.keep h2).cell 0⟩
              · have := owns_ge h1 g hg
                have := HR3.out.lt g (List.mem_append.2 (.inl hm))
                omega
              · rcases Classical.em (xs = []) with e | e
                · exact .inl e
                · exact (HY5.out.keep h2).but (But.setCell N w2 2 v2) (fun a ha => by have := HNB.out a ha e; omega)
            have HLST : Hid (∀ b ∈ L.mut N ++ L.imm, N ≤ b) := HBL.out
            have HN3 : Hid (N ≤ u3.heap.size) := by have := HB3.out.size; have := HNW.out; show _ ≤ _; omega
            -- what the last region leaves
            have HFI : Hid (∀ w2 v2 w4 w9 u ao9 cap9 o, EOwn w2 u3.heap.size v2 (dirAt fs (k + 1)) → Below u3.heap.size u3 w2 → Below (w2.setCell ⟨N, 2, none⟩ v2).heap.size (w2.setCell ⟨N, 2, none⟩ v2) w4 → Own w4 0 u xs → (∀ g, u.ownBlock = some g → (w2.setCell ⟨N, 2, none⟩ v2).heap.size ≤ g) → RRep (w2.setCell ⟨N, 2, none⟩ v2) N { begS fs rm k with dir := dirAt fs (k + 1) } { L with dv := v2 } → w9.ownsRow 0 108 2 (.slice ao9 (k + 1) cap9) (k + 1) (bcells (begS fs rm k).files L.us ++ [u, .int .i64 (bl : Int)]) → (w4.alloc o).grownBy w9 L.fv.ownBlock → (Value.ownBlock (.slice ao9 (k + 1) cap9) = L.fv.ownBlock ∨ Value.ownBlock (.slice ao9 (k + 1) cap9) = some (w4.alloc o).heap.size) →
                w9.cell? ⟨N, 1, none⟩ = some L.fv ∧ w9.frozen? ⟨N, 1, none⟩ = false ∧ RRep (w9.setCell ⟨N, 1, none⟩ (.slice ao9 (k + 1) cap9)) N (begS fs rm (k + 1)) { L with dv := v2, fv := .slice ao9 (k + 1) cap9, us := L.us ++ [u] } ∧ (∀ b ∈ ({ L with dv := v2, fv := .slice ao9 (k + 1) cap9, us := L.us ++ [u] } : RL).mut N ++ ({ L with dv := v2, fv := .slice ao9 (k + 1) cap9, us := L.us ++ [u] } : RL).imm, N ≤ b) ∧ Below N w (w9.setCell ⟨N, 1, none⟩ (.slice ao9 (k + 1) cap9))) := fun w2 v2 w4 w9 u ao9 cap9 o a1 a2 a3 a4 a5 a6 g1 g2 g3 => by
              have hX : (w2.setCell ⟨N, 2, none⟩ v2).heap.size = w2.heap.size := by simp [World.setCell]
              have hr4 := a6.below a3
              have hfl : ({ begS fs rm k with dir := dirAt fs (k + 1) } : DS).files.length = k := begS_len (room := rm) (by have := HN.out; omega)
              have hp := hr4.pushF (f := ⟨xs, bl⟩) (u := u) (ao := ao9) (cap := cap9) (o := o) (w9 := w9) a4 (fun g hg hm => by
                have h5 := a5 g hg
                have h6 := a6.lt g (List.mem_append.2 (.inl hm))
                omega)
              rw [hfl] at hp
              obtain ⟨k1, k2, k3, k4⟩ := hp g1 g2 g3
              have hS : ({ begS fs rm k with dir := dirAt fs (k + 1), files := (begS fs rm k).files ++ [⟨xs, bl⟩] } : DS) = begS fs rm (k + 1) := by
                unfold begS
                rw [List.take_add_one, HHX.out, HXLN.out]
                simp
              have hNx : N ≤ w2.heap.size := by have := a2.size; have := HN3.out; omega
              refine ⟨k4.cell 1, k4.frozen 1, by rw [← hS]; exact k1, fun b hb => ?_, ?_⟩
              · rcases List.mem_append.1 hb with hb | hb
                · rcases k3 b hb with e | e
                  · exact HLST.out b (List.mem_append.2 (.inl e))
                  · have := a3.size; omega
                · rcases (RL.mem_imm _ b).1 hb with e | e | ⟨u', hu', e⟩
                  · have := owns_ge a1 b e
                    have := HN3.out
                    omega
                  · exact HLST.out b (List.mem_append.2 (.inr ((L.mem_imm b).2 (.inr (.inl e)))))
                  · have hu2 : u' ∈ L.us ++ [u] := hu'
                    rcases List.mem_append.1 hu2 with hm | hm
                    · exact HLST.out b (List.mem_append.2 (.inr ((L.mem_imm b).2 (.inr (.inr ⟨u', hm, e⟩)))))
                    · rw [List.mem_singleton.1 hm] at e
                      have := a5 b e
                      omega
              · have b1 : Below N w u3 := by have := HB3.out; rw [← HNW.out] at this; exact this
                have b2 : Below N u3 w2 := a2.mono HN3.out
                have b3 : Below N w2 (w2.setCell ⟨N, 2, none⟩ v2) := (Below.refl N w2).setCell (by show N ≤ N; omega) v2
                have b4 : Below N (w2.setCell ⟨N, 2, none⟩ v2) w4 := a3.mono (by omega)
                have b5 : Below N w4 (w9.setCell ⟨N, 1, none⟩ (.slice ao9 (k + 1) cap9)) := k2.below N (by have := a3.size; omega) (fun x hx => HLST.out x (List.mem_append.2 (.inl hx)))
                exact (((b1.trans b2).trans b3).trans b4).trans b5
            generalize str nm = s at *
            have hkb : (k : Int) + 1 ≤ 4611686018427387904 := by have := H64.out; omega
            have HKB := hide hkb
            clear hkb
            go_upto_region 18 with fail
            go_cut [57] (fun c wx => ∃ (vao : Option Addr) (vcap : Nat) (w2 : World), c = .slice vao (dirAt fs (k + 1)).length vcap ∧ wx = w2.setCell ⟨N, 2, none⟩ (.slice vao (dirAt fs (k + 1)).length vcap) ∧ Hid (EOwn w2 u3.heap.size (.slice vao (dirAt fs (k + 1)).length vcap) (dirAt fs (k + 1))) ∧ Hid (Below u3.heap.size u3 w2))
            case first =>
              clear HFI hsum
              go_region_law (first | (refine law_call rfl 57 rfl 66 #[L.dv, .string s, .int .i64 (k : Int)] (by unfold execOp; simp; go_simp) (HWT.out _ (below_drewN (Below.refl _ _) 1)) ?_; rintro ε w2 ⟨v2, rfl, h1, h2⟩; obtain ⟨vao, vcap, rfl⟩ := ownsRow_slice h1; refine ⟨_, rfl, ?_⟩; have hb2 := below_undrew h2; obtain ⟨k1, k2, k3, k4, k5, k6⟩ := HA.out w2 _ h1 hb2; have H1 := hide h1; have HB2 := hide hb2; clear h1 h2 hb2 k3 k4 k5))
              all_goals
                (try go_wp2_with fail)
                go_meet
                case rel => exact ⟨vao, vcap, w2, rfl, rfl, H1, HB2⟩
            case rest =>
              obtain ⟨vao, vcap, w2, rfl, hwc, H1, HB2⟩ := hcut
              have K3 := hide (HA.out w2 _ H1.out HB2.out).2.2.1
              have K4 := hide (HA.out w2 _ H1.out HB2.out).2.2.2.1
              have K5 := hide (HA.out w2 _ H1.out HB2.out).2.2.2.2.1
              have HFX := hide (fun w4 w9 u ao9 cap9 o a3 a4 a5 g1 g2 g3 => HFI.out w2 _ w4 w9 u ao9 cap9 o H1.out HB2.out a3 a4 a5 K3.out g1 g2 g3)
              rw [← hwc] at K3 K4 K5 HFX
              clear HFI HA HWT H1 HB2 v0 v1 c2 hwc
              generalize wc = X at *
              generalize (dirAt fs (k + 1)).length = dl at *
              have v1 : X.cell? ⟨V, 1, none⟩ = some (.slice bao bl bc) := K4.out.cell 1
              have c1 := K3.out.c.2.1
              have HE := hide (own_new X 0 [] (Nat.zero_le _) (Nat.zero_le _))
              have HYE := hide (K5.out.keep (below_new X (.cells #[] 5)))
              have v1a := cell_kept v1 (below_new X (.cells #[] 5))
              have c1a := cell_kept c1 (below_new X (.cells #[] 5))
              simp only at c1 c1a
              have HROW : Hid (X.ownsRow 0 108 2 L.fv k (bcells (begS fs rm k).files L.us)) := by
                have h1 := K3.out.files
                have hfl : ({ begS fs rm k with dir := dirAt fs (k + 1) } : DS).files.length = k := begS_len (room := rm) (by have := HN.out; omega)
                rw [hfl] at h1
                exact h1
              have HK64 : Hid (k ≤ 64) := by have := H64.out; show _ ≤ _; omega
              generalize bcells (begS fs rm k).files L.us = bcs at *
              clear hsum
              go_upto_region 19 with fail
              go_region_law (first
                | (refine law_appB rfl (.tmp 65) (.tmp 67) rfl (.slice (some ⟨X.heap.size, 0, none⟩) 0 0) [] rfl HE.out bao bl bc xs HXLN.out rfl HYE.out (by have := HXLN.out; have := HBG.out; simp; omega) ?_; intro uao un ucap w4 h2 g2 l2; have HOU := hide (show Own w4 0 (.slice uao un ucap) xs from h2); have han := app_new (grown_undrew g2) l2; have HCUR := hide han.1; have HNG := hide han.2; have r1 := cell_kept v1 han.1; have r2 := cell_kept c1 han.1; have r3 := (fun o => cell_kept r2 (below_new w4 o)); have r4 := (fun o => cell_kept r1 (below_new w4 o)); clear h2 g2 l2 han)
                | (refine law_app1 appO rfl (.tmp 64) (.tmp 73) rfl 0 L.fv k bcs [.slice uao un ucap, .int .i64 (bl : Int)] rfl (World.ownsRow.alloc (owns_keep HROW.out HCUR.out) _) w4.heap.size rfl (Bl.new _ _ _) rfl (fil_one _ _ rfl) (by have := HK64.out; omega) (Nat.zero_le _) ?_; intro ao9 cap9 w9 g1 g2 g3; obtain ⟨f1, f2, f3, f4, f5⟩ := HFX.out w4 w9 _ ao9 cap9 _ HCUR.out HOU.out HNG.out g1 g2 g3; have F3 := hide f3; have F4 := hide f4; have F5 := hide f5; clear g1 g2 g3 f3 f4 f5))
              all_goals
                clear HFX HROW HOU HNG HCUR HE HYE r1 r2 r3 r4 v1 c1 v1a c1a K3 K4 K5
                have hkb := HKB.out
                go_wp2_with fail
                go_roundw
                case rel => exact ⟨k + 1, _, by omega, by simp, by rw [HTT.out]; simp, by first | exact F3 | exact hide (F3.out.drewN 1), F4, HF2, by first | exact F5 | exact hide (below_drewN F5.out 1)⟩
                case measure => simp [intOf]; omega
    · have hki : ¬ (k : Int) < (n : Int) := by omega
      obtain rfl : k = n := by omega
      have hte : fs.take k = fs := List.take_of_length_le (by have := HN.out; omega)
      have HET : Hid (newErr fs (rm : Int) = if (rm : Int) < (total fs : Int) then 5 else 0) := err_total (by have := HH0.out; omega) (by have := H64.out; have := HN.out; omega) (by rw [← HN.out]; exact HF.out)
      rw [hte]
      by_cases hfu : (rm : Int) < (total fs : Int)
      · have HE := hide (HPR.out 5 wr (by rw [HET.out, if_pos hfu]) (by decide) hbw)
        clear hte hlt
        go_wp2_with fail
        first | (go_ret2; exact ⟨trivial, HE.out⟩) | exact HE.out
      · have hS : ({ begS fs rm k with safe := dirAt fs k } : DS) = born fs rm := by
          unfold begS born
          rw [hte, ← HN.out]
        have HRS : Hid (RRep (wr.setCell ⟨N, 3, none⟩ L.dv) N (born fs rm) { L with sv := L.dv }) := by
          rw [← hS]
          exact HR.out.synced.2
        have c2 := HR.out.c.2.2.1
        have c3 := HR.out.c.2.2.2.1
        have f3 := HR.out.box.frozen 3
        obtain ⟨dao, dcap, hdv⟩ := ownsRow_slice HR.out.dir
        have HE := hide (HPY.out N _ _ (by rw [HET.out, if_neg hfu]) HRS.out (fun b hb => by
          rw [← HNW.out]
          rcases List.mem_append.1 hb with hb | hb
          · exact HBL.out b (List.mem_append.2 (.inl hb))
          · rcases (RL.mem_imm _ b).1 hb with e | e | e
            · exact HBL.out b (List.mem_append.2 (.inr ((L.mem_imm b).2 (.inl e))))
            · exact HBL.out b (List.mem_append.2 (.inr ((L.mem_imm b).2 (.inl e))))
            · exact HBL.out b (List.mem_append.2 (.inr ((L.mem_imm b).2 (.inr (.inr e)))))) (hbw.setCell (by show w.heap.size ≤ N; have := HNW.out; omega) L.dv))
        rw [hdv] at HE c2
        generalize (begS fs rm k).dir.length = dl at *
        clear hte hlt hS HRS hdv
        go_wp2_with fail
        first | (go_ret2; exact ⟨trivial, HE.out⟩) | exact HE.out
end Go.Proofs.Yticbfcognnofbaa
