/- The program's lineOf: the line of every client that Check takes. -/
import Derived.Test.YtjehbdekipmllaaGreatDoorLPrG
namespace Go.Proofs.YtjehbdekipmllaaGreatDoor
open Go.RowKit

/-- The names of a line, in their order. -/
def nmOf (k : Nat) : ByteArray := if k = 0 then sId else if k = 1 then sSecret else if k = 2 then sGrants else if k = 3 then sPing else if k = 4 then sUrl else sScope
theorem nmOf_is {k : Nat} (hk : k < 6) : isName (nmOf k) = true ∧ (nmOf k).size ≤ 6 := by
  rcases (show k = 0 ∨ k = 1 ∨ k = 2 ∨ k = 3 ∨ k = 4 ∨ k = 5 by omega) with rfl | rfl | rfl | rfl | rfl | rfl <;> exact ⟨by decide, by decide⟩
def lpAt (c : Cl) (k : Nat) : List Two := if (valOf c (nmOf k)).size = 0 then [] else [(sbytes (nmOf k), sbytes (valOf c (nmOf k)))]
def lnPre (c : Cl) : Nat → List Two
  | 0 => []
  | k + 1 => lnPre c k ++ lpAt c k
/-- The pairs of a client's line. -/
def lnPairs (c : Cl) : List Two := lnPre c 6
/-- What is known of a client that Check takes. -/
structure ClOk (c : Cl) : Prop where
  id : c.id.size ≤ 64
  secret : c.secret.size ≤ 256
  url : c.url.size ≤ 256
  gr : c.grants = 1 ∨ c.grants = 2 ∨ c.grants = 3
  few : c.scopes.length ≤ 32
  sco : (joinS c.scopes).length ≤ 16384
theorem clok {c : Cl} (h : checkB c = true) : ClOk c := by
  unfold checkB idB secretB toldB scopesB at h
  simp only [Bool.and_eq_true, decide_eq_true_eq] at h
  obtain ⟨⟨⟨⟨⟨⟨h1, h2⟩, h3⟩, h4, h5⟩, h6, h7⟩, h8⟩, ⟨h9, h10⟩, h11⟩ := h
  refine ⟨h2, h4, ?_, by omega, h9, ?_⟩
  · split at h8
    · unfold urlB at h8
      simp only [Bool.and_eq_true, decide_eq_true_eq] at h8
      omega
    · simp only [decide_eq_true_eq] at h8
      omega
  · unfold scoOut at h10
    split at h10
    · cases h10
    · omega
theorem val_size {c : Cl} (h : ClOk c) (nm : ByteArray) : (valOf c nm).size ≤ 16384 := by
  have h1 := h.id
  have h2 := h.secret
  have h3 := h.url
  have h4 := h.sco
  unfold valOf
  split
  · omega
  · split
    · omega
    · split
      · rcases h.gr with e | e | e <;> rw [e] <;> decide
      · split
        · cases c.ping <;> decide
        · split
          · omega
          · rw [u_size]; exact h4
theorem lnPre_len (c : Cl) : ∀ k, (lnPre c k).length ≤ k
  | 0 => by simp [lnPre]
  | k + 1 => by
    have := lnPre_len c k
    unfold lnPre lpAt
    split <;> simp <;> omega
theorem lnPre_mem {c : Cl} (h : ClOk c) : ∀ k, k ≤ 6 → ∀ q ∈ lnPre c k, bytes2 q ∧ q.1.length ≤ 6 ∧ q.2.length ≤ 16384
  | 0, _, q, hq => by simp [lnPre] at hq
  | k + 1, hk, q, hq => by
    unfold lnPre at hq
    rcases List.mem_append.1 hq with hq | hq
    · exact lnPre_mem h k (by omega) q hq
    · unfold lpAt at hq
      split at hq
      · cases hq
      · have e := List.mem_singleton.1 hq
        rw [e]
        refine ⟨⟨sbytes_lt _, sbytes_lt _⟩, ?_, ?_⟩
        · rw [sbytes_length]; exact (nmOf_is (by omega)).2
        · rw [sbytes_length]; exact val_size h _
theorem tot2_le {l : List Two} {m : Nat} (h : ∀ q ∈ l, q.1.length + q.2.length + 3 ≤ m) : tot2 l ≤ m * l.length := by
  induction l with
  | nil => simp [tot2]
  | cons p l ih =>
    have h1 := ih (fun q hq => h q (by simp [hq]))
    have h2 := h p (by simp)
    unfold tot2 at *
    simp only [List.map_cons, List.sum_cons, List.length_cons]
    rw [Nat.mul_add]
    omega
theorem lnPairs_tot {c : Cl} (h : ClOk c) : tot2 (lnPairs c) ≤ 98358 := by
  have h1 := tot2_le (l := lnPairs c) (m := 16393) (fun q hq => by have := lnPre_mem h 6 (by omega) q hq; omega)
  have h2 : (lnPairs c).length ≤ 6 := lnPre_len c 6
  have h3 : 16393 * (lnPairs c).length ≤ 16393 * 6 := Nat.mul_le_mul_left _ h2
  omega
theorem write_any (nm : ByteArray) (hnm : isName nm = true) (c : Cl) (hc : ClOk c) (so : Option Addr) (n cp : Nat) (w : World) (hs : SAt w so n cp c.scopes) :
    Calls Tryz.prog (writeFn nm) #[cAgg c so n cp] w fun e w' => e = .returned (.string (valOf c nm)) ∧ Below w.heap.size w w' := by
  rcases six_names hnm with rfl | rfl | rfl | rfl | rfl | rfl
  · exact writeId_any c so n cp w
  · exact writeSecret_any c so n cp w
  · exact writeGrants_any c so n cp w hc.gr
  · exact writePing_any c so n cp w
  · exact writeUrl_any c so n cp w
  · exact writeScopes_any c so n cp w hs (by have := hs.1; have := hc.few; omega) (by have := hc.sco; omega)
theorem write_enters (nm : ByteArray) (hnm : isName nm = true) : ∀ (args : Array Value) (w : World), (callFunc (writeFn nm) args).run Tryz.prog w = .ok (.enter (writeFn nm) args) w := by
  rcases six_names hnm with rfl | rfl | rfl | rfl | rfl | rfl
  · exact enters_of Tryz.func36 (by kernel_rfl) rfl
  · exact enters_of Tryz.func38 (by kernel_rfl) rfl
  · exact enters_of Tryz.func40 (by kernel_rfl) rfl
  · exact enters_of Tryz.func42 (by kernel_rfl) rfl
  · exact enters_of Tryz.func44 (by kernel_rfl) rfl
  · exact enters_of Tryz.func46 (by kernel_rfl) rfl
theorem look_in0 (w : World) (g : Nat) (es : Array MapEntry) (clock : Nat) (k : ByteArray) (i : Nat) (v : Value) (hk : k.size ≤ maxLen) (hb : w.heap[g]? = some (.map es clock)) (hf : Instr.findNow .string (.string k) es.toList 0 = some (some (i, v))) :
    (Instr.lookup 42 (.map (some g)) (.string k) false).run Tryz.prog w = .ok v w := by
  simp [Instr.lookup, run_underlying und_map, MapKept.run_getObj_map hb, key_check _ _ _ hk, key_find _ _ _ hf, Result.andThen]
theorem known_look0 (w : World) (gm : Nat) (nm : ByteArray) (hK : Known w gm) (hnm : isName nm = true) (hs : nm.size ≤ maxLen) :
    (Instr.lookup 42 (.map (some gm)) (.string nm) false).run Tryz.prog w = .ok (.agg #[.func (.func (readFn nm)) #[] #[], .func (.func (writeFn nm)) #[] #[]]) w := by
  rcases six_names hnm with rfl | rfl | rfl | rfl | rfl | rfl
  · exact look_in0 w gm knownEs 6 sId 0 _ hs hK rfl
  · exact look_in0 w gm knownEs 6 sSecret 1 _ hs hK rfl
  · exact look_in0 w gm knownEs 6 sGrants 2 _ hs hK rfl
  · exact look_in0 w gm knownEs 6 sPing 3 _ hs hK rfl
  · exact look_in0 w gm knownEs 6 sUrl 4 _ hs hK rfl
  · exact look_in0 w gm knownEs 6 sScope 5 _ hs hK rfl
theorem infoAPL : (Tryz.prog.info? 58).map (fun i => (i.zero, i.size, i.bytes)) = some (some (.agg #[.string { data := #[] }, .string { data := #[] }]), 2, 32) := by kernel_rfl
set_option maxRecDepth 100000 in
theorem ix6 (V : Nat → ByteArray) {k : Nat} (hk : k < 6) (w : World) : (Instr.index 93 (.agg #[.string (V 0), .string (V 1), .string (V 2), .string (V 3), .string (V 4), .string (V 5)]) (.int .i64 (k : Int))).run Tryz.prog w = .ok (.string (V k)) w := by
  rcases (show k = 0 ∨ k = 1 ∨ k = 2 ∨ k = 3 ∨ k = 4 ∨ k = 5 by omega) with rfl | rfl | rfl | rfl | rfl | rfl <;> rfl
set_option maxRecDepth 100000 in
theorem field1 (F G : Nat) (w : World) : (Instr.field 82 (.agg #[.func (.func F) #[] #[], .func (.func G) #[] #[]]) 1).run Tryz.prog w = .ok (.func (.func G) #[] #[]) w := by rfl
/-- The program's table of names in memory. -/
def NG (w : World) : Prop := ∀ k, k < 6 → w.cell? ⟨0, k, none⟩ = some (.string (nmOf k))
theorem NG.keep {w w' : World} (h : NG w) (hb : Below w.heap.size w w') : NG w' := fun k hk => cell_kept (h k hk) hb
theorem prow_one (w : World) (a b : ByteArray) : PRow (w.alloc (.cells #[.string a, .string b] 58)) (some ⟨w.heap.size, 0, none⟩) [(sbytes a, sbytes b)] := by
  have h := prow_new w [(sbytes a, sbytes b)]
  rw [show (flat2 [(sbytes a, sbytes b)]).toArray = #[.string a, .string b] by simp [flat2, bstr_sbytes]] at h
  exact h
set_option linter.unusedSimpArgs false in
set_option maxHeartbeats 4000000 in
set_option maxRecDepth 100000 in
theorem lineOf_any (c : Cl) (hc : ClOk c) (so : Option Addr) (n cp gm : Nat) (w : World) (hs : SAt w so n cp c.scopes) (hK : Known w gm) (hG : NG w) :
    Calls Tryz.prog 29 #[.agg #[.string c.id, .string c.secret, .int .i64 c.grants, .bool c.ping, .string c.url, .slice so n cp], .map (some gm)] w fun e w' => e = .returned (.string (bstr (prt (lnPairs c)))) ∧ Below w.heap.size w w' := by
  have HC := hide hc
  obtain ⟨i0, hi, hz0, hz1, hz2⟩ := info_parts infoAPL
  have HB0 : Hid (Below w.heap.size w (w.alloc (.cells #[.string c.id, .string c.secret, .int .i64 c.grants, .bool c.ping, .string c.url, .slice so n cp] 47))) := below_new w _
  have HC0 : Hid (CB (w.alloc (.cells #[.string c.id, .string c.secret, .int .i64 c.grants, .bool c.ping, .string c.url, .slice so n cp] 47)) w.heap.size c so n cp) := heap_alloc_new w _
  have HS0 := hide (hs.keep HB0.out)
  have HK0 := hide (hK.keep HB0.out hK.lt)
  have HG0 := hide (hG.keep HB0.out)
  obtain ⟨V, hV⟩ : ∃ V : Nat → ByteArray, V = nmOf := ⟨_, rfl⟩
  have HV := hide hV
  have HWR : Hid (∀ k, k < 6 → ∀ W, SAt W so n cp c.scopes → Calls Tryz.prog (writeFn (V k)) #[cAgg c so n cp] W fun e w' => e = .returned (.string (valOf c (V k))) ∧ Below W.heap.size W w') := fun k hk W hW => by
    rw [hV]
    exact write_any _ (nmOf_is hk).1 c HC.out so n cp W hW
  clear hc hs hK hG hV
  go_enter Tryz.func29, Tryz.ntmps29
  go_upto_region 1 with fail
  generalize (w.alloc (.cells #[.string c.id, .string c.secret, .int .i64 c.grants, .bool c.ping, .string c.url, .slice so n cp] 47)) = w1 at *
  have hz := HB0.out.size
  have hNm : ∀ k, k < 6 → w1.cell? ⟨0, k, none⟩ = some (.string (V k)) := fun k hk => by rw [HV.out]; exact HG0.out k hk
  have g0 := hNm 0 (by omega)
  have g1 := hNm 1 (by omega)
  have g2 := hNm 2 (by omega)
  have g3 := hNm 3 (by omega)
  have g4 := hNm 4 (by omega)
  have g5 := hNm 5 (by omega)
  clear hNm
  go_wp2
  clear g0 g1 g2 g3 g4 g5
  go_loopw [5, 10] (fun v i wr => ∃ (k m cap : Nat) (ao : Option Addr), k ≤ 6 ∧ v = .slice ao m cap ∧ i = .int .i64 (k : Int) ∧ Hid (m = (lnPre c k).length) ∧ Hid (POwn 58 wr w1.heap.size (.slice ao m cap) (lnPre c k)) ∧ Hid (Below w1.heap.size w1 wr)) (fun _ i _ => 6 - (intOf i).toNat)
  case atStart => exact ⟨0, 0, 0, none, by omega, rfl, rfl, rfl, pown_nil _ _ _, Below.refl _ _⟩
  case round =>
    obtain ⟨k, m, cap, ao, hk, rfl, rfl, HM, HO, HB⟩ := hrel
    have hsr := HB.out.size
    by_cases hlt : k < 6
    · have hHC := HWR.out k hlt
      have HNM : Hid (isName (V k) = true ∧ (V k).size ≤ 6) := by rw [HV.out]; exact nmOf_is hlt
      have HPN : Hid (lnPre c (k + 1) = lnPre c k ++ lpAt c k) := rfl
      have HPA : Hid (lpAt c k = if (valOf c (V k)).size = 0 then [] else [(sbytes (V k), sbytes (valOf c (V k)))]) := by show _ = _; rw [HV.out]; rfl
      have hki : (k : Int) < 6 := by omega
      have hkd : decide ((k : Int) < 6) = true := decide_eq_true hki
      have hix := ix6 V hlt wr
      have HKW := hide ((HK0.out.keep HB.out HK0.out.lt))
      have hlk := known_look0 wr gm (V k) HKW.out HNM.out.1 (by have := HNM.out.2; unfold maxLen; omega)
      have hen := write_enters (V k) HNM.out.1
      have HCW := hide (HC0.out.keep HB.out HC0.out.lt)
      obtain ⟨j0, j1, j2, j3, j4, j5⟩ := HCW.out.six
      have hwr := hHC wr (HS0.out.keep HB.out)
      unfold cAgg at hwr
      obtain ⟨F, hF⟩ : ∃ F, F = readFn (V k) := ⟨_, rfl⟩
      obtain ⟨G, hG⟩ : ∃ G, G = writeFn (V k) := ⟨_, rfl⟩
      rw [← hF, ← hG] at hlk
      rw [← hG] at hwr hen
      obtain ⟨vl, hvl⟩ : ∃ x, x = valOf c (V k) := ⟨_, rfl⟩
      rw [← hvl] at hwr HPA
      have HVL : Hid (vl.size ≤ 16384) := by show _ ≤ _; rw [hvl]; exact val_size HC.out _
      have HWQ := hide hwr
      have hfd := field1 F G wr
      clear hF hG hvl hHC hwr
      go_wp2_with (first | (refine HWQ.out.mono ?_) | fail)
      rintro e w2 ⟨rfl, hb2⟩
      have hs2 := hb2.size
      have HB2 : Hid (Below w1.heap.size w1 w2) := HB.out.trans (hb2.mono hsr)
      have HO2 := hide (HO.out.keep hb2)
      clear hb2 HWQ j0 j1 j2 j3 j4 j5 hlk hen hix hfd HKW HCW
      by_cases h0 : vl.size = 0
      · have he := empty_of h0
        subst he
        have HN2 : Hid (lnPre c (k + 1) = lnPre c k) := by show _ = _; rw [HPN.out, HPA.out, if_pos h0, List.append_nil]
        clear h0
        go_wp2
        go_roundw
        case rel => exact ⟨k + 1, m, cap, ao, by omega, rfl, by go_num, by rw [HN2.out]; exact HM.out, by rw [HN2.out]; exact HO2.out, HB2⟩
        case measure => simp [intOf]; omega
      · have hne : (vl.toList == ([] : List UInt8)) = false := ne_of_size h0
        have hnn : (vl.toList != ([] : List UInt8)) = true := by rw [bne, hne]; rfl
        have HN2 : Hid (lnPre c (k + 1) = lnPre c k ++ [(sbytes (V k), sbytes vl)]) := by show _ = _; rw [HPN.out, HPA.out, if_neg h0]
        have HLN : Hid (m ≤ 6) := by show _ ≤ _; rw [HM.out]; have := lnPre_len c k; omega
        generalize V k = nm at *
        have HBX : Hid (Below w2.heap.size w2 (w2.alloc (.cells #[.string nm, .string vl] 58))) := below_new w2 _
        have HPR : Hid (PRow (w2.alloc (.cells #[.string nm, .string vl] 58)) (some ⟨w2.heap.size, 0, none⟩) [(sbytes nm, sbytes vl)]) := prow_one w2 nm vl
        have hxs := HBX.out.size
        clear h0
        go_wp2_with (first | (at_builtin; refine wpList_append_pairs (i0 := i0) rfl (.tmp 21) (.tmp 25) rfl Tryz.underlying59 hi hz0 hz1 hz2 w1.heap.size (.slice ao m cap) (lnPre c k) [(sbytes nm, sbytes vl)] rfl (HO2.out.keep HBX.out) (some ⟨w2.heap.size, 0, none⟩) 1 1 rfl rfl HPR.out (by rw [← HM.out]; have := HLN.out; simp; omega) (by omega) ?_))
        intro v' w5 hown5 hgr5
        obtain ⟨ao', cap', hv', _, _, _⟩ := hown5.shape
        have hlen : (lnPre c k ++ [(sbytes nm, sbytes vl)]).length = m + 1 := by rw [List.length_append, ← HM.out]; rfl
        rw [hlen] at hv'
        subst hv'
        have HO5 := hide hown5
        have HLE := hide hlen.symm
        have HB5 : Hid (Below w1.heap.size w1 w5) := (HB2.out.trans (HBX.out.mono (by omega))).grown hgr5 (by omega) (fun x hx => (World.ownsRow.lt HO2.out x hx).1)
        clear hown5 hgr5 hlen
        go_wp2
        go_roundw
        case rel => exact ⟨k + 1, m + 1, cap', ao', by omega, rfl, by go_num, by rw [HN2.out]; exact HLE.out, by rw [HN2.out]; exact HO5.out, HB5⟩
        case measure => simp [intOf]; omega
    · obtain rfl : k = 6 := by omega
      have HOE : Hid (POwn 58 wr w1.heap.size (.slice ao m cap) (lnPairs c)) := HO
      have HRW : Hid (PRow wr ao (lnPairs c)) := by
        obtain ⟨a', c', e, _, hr, _⟩ := HOE.out.shape
        cases e; exact hr
      have HPP := hide (print_any m cap ao (lnPairs c) wr HM.out (by have := lnPairs_tot HC.out; omega) (fun q hq => (lnPre_mem HC.out 6 (by omega) q hq).1) HRW.out)
      go_wp2_with fail
      refine HPP.out.mono ?_
      rintro e w3 ⟨rfl, hb3⟩
      have HB3 := hide ((HB0.out.trans (HB.out.mono hz)).trans (hb3.mono (by omega)))
      clear hb3 HPP
      go_wp2
      go_ret
      exact ⟨rfl, HB3.out⟩
end Go.Proofs.YtjehbdekipmllaaGreatDoor
