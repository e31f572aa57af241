/- The program's hasTwins and listFault: every list of clients. -/
import Derived.Test.YtjehbdekipmllaaGreatDoorLPrL
import Derived.Maps.OwnSet
import Derived.Maps.Views
namespace Go.Proofs.YtjehbdekipmllaaGreatDoor
open Go.RowKit Go.Maps

def keyL (s : ByteArray) : Lit := .string s.data.toList
theorem keyL_inj {a b : ByteArray} (h : keyL a = keyL b) : a = b := by
  unfold keyL at h
  injection h with h
  exact ByteArray.ext (Array.toList_inj.1 h)
/-- What a map of clients' names holds behind some of them. -/
structure TwD (a : List Cl) (D : DataW Unit) : Prop where
  tidy : Maps.Tidy D
  hasIt : ∀ s : ByteArray, Maps.has D (keyL s) = a.any (fun c => decide (c.id = s))
  le : Maps.size D ≤ a.length
  eq : Maps.size D = a.length ↔ (a.map Cl.id).Nodup
theorem twd_nil : TwD [] (.map []) := ⟨Maps.tidy_empty, fun s => rfl, Nat.le_refl _, by simp [Maps.size]⟩
theorem key_lit (s : ByteArray) : WideAt.IsKeyLit (keyL s) := by
  first | trivial | (unfold WideAt.IsKeyLit keyL; trivial) | exact ⟨_, rfl⟩ | simp [WideAt.IsKeyLit, keyL]
theorem TwD.put {a : List Cl} {D : DataW Unit} (h : TwD a D) (c : Cl) (d : DataW Unit) : TwD (a ++ [c]) (D.put (keyL c.id) d) := by
  have hs := Maps.size_put (k := keyL c.id) h.tidy d
  have hh := h.hasIt c.id
  refine ⟨h.tidy.put (key_lit _) d, fun s => ?_, ?_, ?_⟩
  · by_cases e : s = c.id
    · subst e
      rw [Maps.has_put_same h.tidy.isMap (key_lit _)]
      simp
    · rw [Maps.has_put_other (fun e2 => e (keyL_inj e2)), h.hasIt s]
      simp
      intro e2
      exact absurd e2.symm e
  · rw [hs, List.length_append]
    have := h.le
    split <;> simp <;> omega
  · rw [hs, hh, List.length_append, List.map_append, List.map_cons, List.map_nil]
    have hle := h.le
    by_cases hm : c.id ∈ a.map Cl.id
    · have ha : a.any (fun c' => decide (c'.id = c.id)) = true := by
        obtain ⟨x, hx, hxe⟩ := List.mem_map.1 hm
        exact List.any_eq_true.2 ⟨x, hx, by simp [hxe]⟩
      rw [ha, if_pos rfl]
      constructor
      · intro e; simp at e; omega
      · intro e
        have := (List.nodup_append.1 e).2.2 c.id hm c.id (by simp)
        exact absurd rfl this
    · have ha : a.any (fun c' => decide (c'.id = c.id)) = false := by
        rw [Bool.eq_false_iff]
        intro e
        obtain ⟨x, hx, hxe⟩ := List.any_eq_true.1 e
        exact hm (List.mem_map.2 ⟨x, hx, by simpa using hxe⟩)
      rw [ha, if_neg (by simp)]
      constructor
      · intro e
        have e2 : Maps.size D = a.length := by simp at e; omega
        refine List.nodup_append.2 ⟨h.eq.1 e2, by simp, fun x hx y hy e3 => ?_⟩
        simp at hy
        subst hy
        exact hm (by rw [← e3]; exact hx)
      · intro e
        have := h.eq.2 (List.nodup_append.1 e).1
        simp; omega
def RN : Value → Option (DataW Unit × List MemPlace) := fun _ => some (.nil, [])
theorem lawS : Maps.Keyed Tryz.prog 9 := Maps.string_keyed Tryz.underlying9
set_option maxRecDepth 100000 in
theorem key_of (s : ByteArray) (h : s.size ≤ maxLen) : keyOf Tryz.prog 9 (.string s) = some (keyL s) := WideMaps.keyOf_string_mk Tryz.underlying9 h
set_option maxRecDepth 100000 in
theorem make_map (n : Int) (w : World) : (Instr.makeMap 137 (some (.int .i64 n))).run Tryz.prog w = .ok (.map (some w.heap.size)) (w.alloc (.map #[] 0)) := by
  have h : (asInt (.int .i64 n)).run Tryz.prog w = .ok n w := rfl
  simp [Instr.makeMap, run_underlying Tryz.underlying137, Result.andThen, h]
def twB (L : List Cl) : Bool := decide (¬ (L.map Cl.id).Nodup)
set_option linter.unusedSimpArgs false in
set_option maxHeartbeats 2000000 in
set_option maxRecDepth 100000 in
theorem hasTwins_any (n c : Nat) (ao : Option Addr) (L : List Cl) (w : World) (hn : n = L.length) (hl : n ≤ 1099511627776) (hz : ∀ c ∈ L, c.id.size ≤ 64) (hr : CRow w ao L) :
    Calls Tryz.prog 62 #[.slice ao n c] w fun e w' => e = .returned (.bool (twB L)) ∧ Below w.heap.size w w' := by
  have HN := hide hn
  have HR := hide hr
  have HZ : Hid (∀ c ∈ L, c.id.size ≤ 64) := hz
  have hmm := make_map (n : Int) w
  have HM0 : Hid ((w.alloc (.map #[] 0)).ownsMap Tryz.prog 9 RN w.heap.size 0 (.map [])) := World.ownsMap_made w _ _ _
  have HB0 : Hid (Below w.heap.size w (w.alloc (.map #[] 0))) := below_new w _
  clear hn hr hz
  go_enter Tryz.func62, Tryz.ntmps62
  go_upto_region 2 with fail
  generalize (w.alloc (.map #[] 0)) = w1 at *
  go_wp2
  go_loopw [11] (fun i wr => ∃ (k : Nat) (D : DataW Unit), k ≤ n ∧ i = .int .i64 (k : Int) ∧ Hid (TwD (L.take k) D) ∧ Hid (wr.ownsMap Tryz.prog 9 RN w.heap.size k D) ∧ Hid (Below w.heap.size w wr)) (fun i _ => n - (intOf i).toNat)
  case atStart => exact ⟨0, .map [], by omega, rfl, twd_nil, HM0, HB0⟩
  case round =>
    obtain ⟨k, D, hk, rfl, HT, HO, HB⟩ := hrel
    have hsr := HB.out.size
    by_cases hlt : k < n
    · obtain ⟨b, off, rfl⟩ := HR.out.form (by rw [← HN.out]; omega)
      obtain ⟨q, hq⟩ : ∃ q, L[k]? = some q := ⟨_, List.getElem?_eq_getElem (by rw [← HN.out]; exact hlt)⟩
      obtain ⟨so, m, cp, d0, d1, d2, d3, d4, d5, -⟩ := (HR.out.keep HB.out).cell hq
      have HTK : Hid (L.take (k + 1) = L.take k ++ [q]) := by show _ = _; rw [List.take_add_one, hq]; rfl
      have hkey := key_of q.id (by have := HZ.out q (List.mem_of_getElem? hq); unfold maxLen; omega)
      have HKY := hide hkey
      have hki : (k : Int) < (n : Int) := by omega
      have HBX : Hid (Below wr.heap.size wr (wr.alloc (.cells #[.string q.id, .string q.secret, .int .i64 q.grants, .bool q.ping, .string q.url, .slice so m cp] 47))) := below_new wr _
      have HOX : Hid ((wr.alloc (.cells #[.string q.id, .string q.secret, .int .i64 q.grants, .bool q.ping, .string q.url, .slice so m cp] 47)).ownsMap Tryz.prog 9 RN w.heap.size k D) := HO.out.alloc _
      clear hq hkey
      go_wp2_with (first | (at_mapUpdate; refine wpList_mapUpdate_own _ rfl _ _ _ 137 rfl 9 3 lawS Tryz.underlying137 RN w.heap.size k D rfl HOX.out (by unfold maxLen; omega) _ _ (keyL q.id) rfl rfl HKY.out .nil [] rfl ?_) | fail)
      intro w2 ho2 hg2
      have HO2 := hide ho2
      have HT2 : Hid (TwD (L.take (k + 1)) (D.put (keyL q.id) .nil)) := by rw [HTK.out]; exact HT.out.put q _
      have HB2 : Hid (Below w.heap.size w w2) := (HB.out.trans (HBX.out.mono hsr)).grown hg2 (by have := HBX.out.size; omega) (fun x hx => by cases hx; exact Nat.le_refl _)
      clear ho2 hg2
      go_wp2
      go_roundw
      case rel => exact ⟨k + 1, _, by omega, by go_num, HT2, HO2, HB2⟩
      case measure => simp [intOf]; omega
    · obtain rfl : k = n := by omega
      have HTE : Hid (TwD L D) := by
        have h := HT.out
        rw [List.take_of_length_le (by rw [← HN.out]; omega)] at h
        exact h
      have HRS : Hid (decide (Maps.size D < k) = twB L) := by
        show _ = _
        unfold twB
        have h1 := HTE.out.le
        have h2 := HTE.out.eq
        rw [← HN.out] at h1 h2
        rw [decide_eq_decide, ← h2]
        omega
      obtain ⟨sz, hsz⟩ : ∃ sz, sz = Maps.size D := ⟨_, rfl⟩
      rw [← hsz] at HRS
      have HSZ := hide hsz
      clear hsz
      go_wp2_with (first | (at_len; refine wpList_len_own _ rfl _ 137 rfl 9 3 Tryz.underlying137 RN w.heap.size k D rfl HO.out ?_; rw [← HSZ.out]) | fail)
      go_ret
      exact ⟨by rw [← HRS.out]; rfl, HB.out⟩

/-- How great a client's parts are. -/
def ClBd (c : Cl) : Prop := c.id.size ≤ 1048576 ∧ c.secret.size ≤ 1048576 ∧ c.url.size ≤ 1048576 ∧ c.scopes.length ≤ 1048576 ∧ (joinS c.scopes).length ≤ 1048576
/-- Why clients are no registry, whatever length their text has. -/
def faultR (L : List Cl) : Nat := if L.all checkB = true then (if twB L = true then 8 else if 256 < L.length then 32 else 0) else 111
theorem all_bad {L : List Cl} {k : Nat} {q : Cl} (hq : L[k]? = some q) (h : checkB q = false) : faultR L = 111 := by
  unfold faultR
  rw [if_neg]
  intro h2
  have := List.all_eq_true.1 h2 q (List.mem_of_getElem? hq)
  rw [h] at this; cases this
theorem all_take {L : List Cl} {k : Nat} {q : Cl} (h : (L.take k).all checkB = true) (hq : L[k]? = some q) (hc : checkB q = true) : (L.take (k + 1)).all checkB = true := by
  rw [List.take_add_one, hq, List.all_append, h]
  simp [hc]
set_option linter.unusedSimpArgs false in
set_option maxHeartbeats 2000000 in
set_option maxRecDepth 100000 in
theorem listFault_any (n c : Nat) (ao : Option Addr) (L : List Cl) (w : World) (hn : n = L.length) (hl : n ≤ 1099511627776) (hz : ∀ c ∈ L, ClBd c) (hr : CRow w ao L) (hM : MaxL w) :
    Calls Tryz.prog 27 #[.slice ao n c] w fun e w' => e = .returned (.int .i64 (faultR L : Int)) ∧ Below w.heap.size w w' := by
  have HN := hide hn
  have HR := hide hr
  have HM := hide hM
  have HZ : Hid (∀ c ∈ L, ClBd c) := hz
  obtain ⟨R, hR⟩ : ∃ R, R = faultR L := ⟨_, rfl⟩
  have HRE := hide hR
  rw [← hR]
  clear hn hr hz hM hR
  go_enter Tryz.func27, Tryz.ntmps27
  go_wp2
  go_loopw [8] (fun i wr => ∃ k : Nat, k ≤ n ∧ i = .int .i64 (k : Int) ∧ Hid ((L.take k).all checkB = true) ∧ Hid (Below w.heap.size w wr)) (fun i _ => n - (intOf i).toNat)
  case atStart => exact ⟨0, by omega, rfl, rfl, Below.refl _ _⟩
  case round =>
    obtain ⟨k, hk, rfl, HA, HB⟩ := hrel
    have hsr := HB.out.size
    by_cases hlt : k < n
    · obtain ⟨b, off, rfl⟩ := HR.out.form (by rw [← HN.out]; omega)
      obtain ⟨q, hq⟩ : ∃ q, L[k]? = some q := ⟨_, List.getElem?_eq_getElem (by rw [← HN.out]; exact hlt)⟩
      obtain ⟨so, m, cp, d0, d1, d2, d3, d4, d5, hsat⟩ := (HR.out.keep HB.out).cell hq
      have HQ := hide hq
      have HS := hide hsat
      have hqs := HZ.out q (List.mem_of_getElem? hq)
      have HQS := hide hqs
      have hki : (k : Int) < (n : Int) := by omega
      have HBX : Hid (Below wr.heap.size wr (wr.alloc (.cells #[.string q.id, .string q.secret, .int .i64 q.grants, .bool q.ping, .string q.url, .slice so m cp] 47))) := below_new wr _
      have HCK := hide (check_any q.id q.secret q.url q.grants q.ping q.scopes so m cp (wr.alloc (.cells #[.string q.id, .string q.secret, .int .i64 q.grants, .bool q.ping, .string q.url, .slice so m cp] 47)) (HS.out.keep HBX.out) (by have := hsat.1; have := hqs.2.2.2.1; omega) (fun _ => by have := hqs.2.2.2.2; omega) ((HM.out.keep HB.out).keep HBX.out) (by have := hqs.1; omega) (by have := hqs.2.1; omega) (by have := hqs.2.2.1; omega))
      have hsx := HBX.out.size
      clear hq hsat hqs
      go_wp2_with fail
      refine HCK.out.mono ?_
      rintro e w2 ⟨rfl, hb2⟩
      have HB2 : Hid (Below w.heap.size w w2) := (HB.out.trans (HBX.out.mono hsr)).trans (hb2.mono (by omega))
      clear hb2 HCK
      by_cases hck : checkB q = true
      · have hE : errIf (checkB ⟨q.id, q.secret, q.grants, q.ping, q.url, q.scopes⟩) 111 = 0 := if_pos hck
        have HA2 := hide (all_take HA.out HQ.out hck)
        rw [hE]
        clear hE hck
        go_wp2
        go_roundw
        case rel => exact ⟨k + 1, by omega, by go_num, HA2, HB2⟩
        case measure => simp [intOf]; omega
      · have hE : errIf (checkB ⟨q.id, q.secret, q.grants, q.ping, q.url, q.scopes⟩) 111 = 111 := if_neg hck
        have HF : Hid (R = 111) := by show _ = _; rw [HRE.out]; exact all_bad HQ.out (by simpa using hck)
        rw [hE]
        clear hE hck
        go_wp2
        go_ret
        exact ⟨by rw [HF.out]; rfl, HB2.out⟩
    · obtain rfl : k = n := by omega
      have HAE : Hid (L.all checkB = true) := by
        have h := HA.out
        rw [List.take_of_length_le (by rw [← HN.out]; omega)] at h
        exact h
      have HRF : Hid (R = if twB L = true then 8 else if 256 < L.length then 32 else 0) := by show _ = _; rw [HRE.out]; unfold faultR; rw [if_pos HAE.out]
      have HTW := hide (hasTwins_any k c ao L wr HN.out hl (fun q hq => (clok (List.all_eq_true.1 HAE.out q hq)).id) (HR.out.keep HB.out))
      obtain ⟨tb, htb⟩ : ∃ tb, tb = twB L := ⟨_, rfl⟩
      rw [← htb] at HTW HRF
      clear HRE HA htb
      go_wp2_with fail
      refine HTW.out.mono ?_
      rintro e w2 ⟨rfl, hb2⟩
      have HB2 : Hid (Below w.heap.size w w2) := HB.out.trans (hb2.mono hsr)
      clear hb2 HTW
      cases tb with
      | true =>
        have HF : Hid (R = 8) := by show _ = _; rw [HRF.out]; rfl
        go_wp2
        go_ret
        exact ⟨by rw [HF.out]; rfl, HB2.out⟩
      | false =>
        by_cases h256 : 256 < k
        · have h256i : (256 : Int) < (k : Int) := by omega
          have HF : Hid (R = 32) := by show _ = _; rw [HRF.out, if_neg (by decide), if_pos (by rw [← HN.out]; exact h256)]
          go_wp2
          go_ret
          exact ⟨by rw [HF.out]; rfl, HB2.out⟩
        · have h256i : ¬ (256 : Int) < (k : Int) := by omega
          have HF : Hid (R = 0) := by show _ = _; rw [HRF.out, if_neg (by decide), if_neg (by rw [← HN.out]; exact h256)]
          go_wp2
          go_ret
          exact ⟨by rw [HF.out]; rfl, HB2.out⟩
end Go.Proofs.YtjehbdekipmllaaGreatDoor
