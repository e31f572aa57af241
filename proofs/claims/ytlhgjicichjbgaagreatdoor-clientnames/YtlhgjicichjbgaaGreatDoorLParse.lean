/- The program's Parse: every registry's text. -/
import Derived.Test.YtlhgjicichjbgaaGreatDoorLNext
import Derived.Test.YtlhgjicichjbgaaGreatDoorLLines
import Derived.Test.YtlhgjicichjbgaaGreatDoorLMap
namespace Go.Proofs.YtlhgjicichjbgaaGreatDoor
open Go.RowKit

def clOf (s : ByteArray) : Cl := (lineR (sbytes s)).getD zeroCl
/-- What the lines from the k-th on say, behind a list of clients: the clients, the error, its line. -/
def pRun : List U → Nat → List Cl → List Cl × Nat × Nat
  | [], _, a => (a, 0, 0)
  | u :: r, k, a => if nothingB ⟨u.toArray⟩ = true then pRun r (k + 1) a else if nextErr a ⟨u.toArray⟩ = 0 then pRun r (k + 1) (a ++ [clOf ⟨u.toArray⟩]) else ([], nextErr a ⟨u.toArray⟩, k + 1)
def parR (t : U) : List Cl × Nat × Nat := if 65536 < t.length then ([], 1, 0) else pRun (cutLn t) 0 []
theorem cutLn_len : ∀ t : U, (cutLn t).length ≤ t.length + 1
  | [] => by simp [cutLn]
  | c :: t => by
    have ih := cutLn_len t
    obtain ⟨a, r, e⟩ := cutLn_ne t
    by_cases hc : c = 10
    · rw [cutLn, if_pos hc]; simp; omega
    · rw [cutLn_cons hc e]; rw [e] at ih; simp at ih ⊢; omega
theorem cutLn_small : ∀ (t u : U), u ∈ cutLn t → u.length ≤ t.length
  | [], u, h => by simp [cutLn] at h; simp [h]
  | c :: t, u, h => by
    obtain ⟨a, r, e⟩ := cutLn_ne t
    have ih := cutLn_small t
    by_cases hc : c = 10
    · rw [cutLn, if_pos hc] at h
      rcases List.mem_cons.1 h with rfl | h
      · simp
      · have := ih u h; simp; omega
    · rw [cutLn_cons hc e] at h
      rcases List.mem_cons.1 h with rfl | h
      · have := ih a (by rw [e]; simp); simp; omega
      · have := ih u (by rw [e]; simp [h]); simp; omega
theorem nextErr_zero {l : List Cl} {s : ByteArray} (h : nextErr l s = 0) : l.length ≠ 256 := by
  unfold nextErr nextE at h
  split at h
  · simp at h
  · split at h
    · simp at h
    · split at h
      · simp at h
      · assumption
def PrEnd (w : World) (R : List Cl × Nat × Nat) (e : Ending) (w' : World) : Prop := ∃ v, e = .returned (.tuple #[v, .int .i64 (R.2.1 : Int), .int .i64 (R.2.2 : Int)]) ∧ COwn w' w.heap.size v R.1 ∧ Below w.heap.size w w'
set_option maxHeartbeats 2000000 in
set_option maxRecDepth 100000 in
theorem clParse_any (s : ByteArray) (w : World) (hM : MaxL w) :
    Calls Tryz.prog 15 #[.string s] w fun e w' => True ∧ PrEnd w (parR s.data.toList) e w' := by
  have HM : Hid (MaxL w) := hM
  obtain ⟨i0, hi, hz0, hz1, hz2⟩ := info_parts infoClient
  obtain ⟨R, HR⟩ : ∃ R, Hid (R = parR s.data.toList) := ⟨_, hide rfl⟩
  rw [← HR.out]
  clear hM
  by_cases hsz : s.size ≤ 65536
  · have hszi : (s.size : Int) ≤ 65536 := by omega
    have hszn : ¬ (65536 : Int) < (s.size : Int) := by omega
    obtain ⟨ls, HLS⟩ : ∃ ls, Hid (ls = cutLn s.data.toList) := ⟨_, hide rfl⟩
    obtain ⟨m, hm⟩ : ∃ m, m = ls.length := ⟨_, rfl⟩
    have HML : Hid (m = ls.length) := hm
    have hml : m ≤ 65537 := by have := cutLn_len s.data.toList; rw [hm, HLS.out]; simp at this ⊢; omega
    have HSM : Hid (∀ u ∈ ls, u.length ≤ 65536) := by
      intro u hu; rw [HLS.out] at hu; have := cutLn_small _ _ hu; simp at this; omega
    have HRE : Hid (R = pRun ls 0 []) := by show _ = _; rw [HR.out]; unfold parR; rw [if_neg (by simp; omega), HLS.out]
    have HFD := fields_any w
    have HK1 : Hid (Known (w.alloc (.map knownEs 6)) w.heap.size) := heap_alloc_new w _
    have HSP := lines_any s (w.alloc (.map knownEs 6)) hsz (HM.out.keep (below_new w _))
    rw [← HLS.out, ← hm] at HSP
    clear hm
    go_enter Tryz.func15, Tryz.ntmps15
    go_wp2_with (first | (go_at_call 39; refine HFD.mono ?_; rintro e wf ⟨rfl, rfl⟩) | (go_at_call 40; refine HSP.mono ?_))
    rintro e w1 ⟨rfl, hw1⟩
    have HB1 : Hid (Below w.heap.size w w1) := by rw [hw1]; exact (below_new w _).trans ((below_new _ _).mono (by simp))
    have HKN : Hid (Known w1 w.heap.size) := by rw [hw1]; exact HK1.out.keep (below_new _ _) (by simp)
    have HSL : Hid (SBlk w1 (w.heap.size + 1) ls) := by
      rw [hw1]
      have h := heap_alloc_new (w.alloc (.map knownEs 6)) (.cells (ls.map encStr).toArray 9)
      rw [show (w.alloc (.map knownEs 6)).heap.size = w.heap.size + 1 by simp] at h
      exact h
    have hsz0 : (w.alloc (.map knownEs 6)).heap.size = w.heap.size + 1 := by simp
    rw [hsz0]
    have hs1 : w.heap.size + 1 < w1.heap.size := HSL.out.lt
    clear hw1 HSP HFD HK1
    go_wp2
    go_loopw [6, 18] (fun v i wr => ∃ (k : Nat) (a : List Cl) (ao : Option Addr) (n cap : Nat), (k ≤ m ∧ n ≤ 256) ∧ v = .slice ao n cap ∧ i = .int .i64 (k : Int) ∧ Hid (n = a.length) ∧ Hid (R = pRun (ls.drop k) k a) ∧ Hid (COwn wr w1.heap.size (.slice ao n cap) a) ∧ Hid (Below w1.heap.size w1 wr)) (fun _ i _ => m - (intOf i).toNat)
    case atStart => exact ⟨0, [], none, 0, 0, ⟨Nat.zero_le _, by omega⟩, rfl, rfl, rfl, HRE, cown_nil _ _, Below.refl _ _⟩
    case round =>
      obtain ⟨k, a, ao, n, cap, ⟨hk, hn⟩, rfl, rfl, HNA, HRK, HOW, HBW⟩ := hrel
      have hsr := HBW.out.size
      by_cases hlt : k < m
      · obtain ⟨u, hu⟩ : ∃ u, ls[k]? = some u := ⟨_, List.getElem?_eq_getElem (by rw [← HML.out]; exact hlt)⟩
        have c0 : wr.cell? ⟨w.heap.size + 1, k, none⟩ = some (.string ⟨u.toArray⟩) := (HSL.out.below HBW.out hs1).cell hu
        have HDR : Hid (ls.drop k = u :: ls.drop (k + 1)) := by
          show _ = _
          rw [List.drop_eq_getElem_cons (by rw [← HML.out]; exact hlt)]
          congr 1
          exact (List.getElem?_eq_some_iff.1 hu).2
        have hul : (⟨u.toArray⟩ : ByteArray).size ≤ 9223372036854775807 := by
          have := HSM.out u (List.mem_of_getElem? hu); rw [u_size]; omega
        obtain ⟨sb, HSB⟩ : ∃ sb : ByteArray, Hid (sb = ⟨u.toArray⟩) := ⟨_, hide rfl⟩
        have HRS : Hid (R = if nothingB sb = true then pRun (ls.drop (k + 1)) (k + 1) a else if nextErr a sb = 0 then pRun (ls.drop (k + 1)) (k + 1) (a ++ [clOf sb]) else ([], nextErr a sb, k + 1)) := by
          show _ = _
          rw [HRK.out, HDR.out, HSB.out]; rfl
        rw [← HSB.out] at c0 hul
        have hoff : w.heap.size + 1 = w.heap.size + 1 := rfl
        have HSN := saysNothing_any sb wr hul
        clear hu HRK HDR HSB hoff
        by_cases hno : nothingB sb = true
        · rw [hno] at HSN
          have HR2 : Hid (R = pRun (ls.drop (k + 1)) (k + 1) a) := by show _ = _; rw [HRS.out, if_pos hno]
          clear hno HRS
          go_wp2_with (first | (go_at_call 41; refine HSN.mono ?_; rintro e wx ⟨rfl, rfl⟩))
          go_roundw
          case rel => exact ⟨k + 1, a, ao, n, cap, ⟨by omega, hn⟩, rfl, by go_num, HNA, HR2, HOW, HBW⟩
          case measure => simp [intOf]; omega
        · have hnof : nothingB sb = false := by simpa using hno
          rw [hnof] at HSN
          have HNX := nextClient_any n cap w.heap.size ao a sb wr HNA.out hn (by
            obtain ⟨x, y, e, _, h, _⟩ := HOW.out.shape
            cases e; exact h) (HKN.out.keep HBW.out (by omega)) ((HM.out.keep HB1.out).keep HBW.out) hul
          by_cases he : nextErr a sb = 0
          · have HR2 : Hid (R = pRun (ls.drop (k + 1)) (k + 1) (a ++ [clOf sb])) := by show _ = _; rw [HRS.out, if_neg hno, if_pos he]
            have h256 := nextErr_zero he
            have hn2 : n + 1 ≤ 256 := by rw [HNA.out] at hn ⊢; omega
            have HHE := hide he
            clear hno hnof HRS he h256
            go_wp2_with (first | (go_at_call 41; refine HSN.mono ?_; rintro e wx ⟨rfl, rfl⟩) | (go_at_call 42; refine HNX.mono ?_))
            rintro e w4 ⟨-, q, so, j, cp, rfl, hq, hsat, hb4⟩
            have HQ : Hid (clOf sb = q) := by show _ = _; unfold clOf; rw [hq HHE.out]; rfl
            rw [HHE.out]
            have HSAT := hide hsat
            have HB4 := hide hb4
            have HO4 := hide (HOW.out.keep hb4)
            clear hq hsat hb4 HNX HSN
            rw [show ((0 : Nat) : Int) = 0 from rfl]
            have hs4 := HB4.out.size
            have HBX : Hid (Below w4.heap.size w4 ((w4.alloc (.cells #[.string q.id, .string q.secret, .int .i64 q.grants, .bool q.ping, .string q.url, .slice so j cp] 27)).alloc (.cells #[.string q.id, .string q.secret, .int .i64 q.grants, .bool q.ping, .string q.url, .slice so j cp] 27))) := (below_new w4 _).trans ((below_new _ _).mono (by simp))
            have HC6 : Hid (C6 ((w4.alloc (.cells #[.string q.id, .string q.secret, .int .i64 q.grants, .bool q.ping, .string q.url, .slice so j cp] 27)).alloc (.cells #[.string q.id, .string q.secret, .int .i64 q.grants, .bool q.ping, .string q.url, .slice so j cp] 27)) (w4.heap.size + 1) (.string q.id) (.string q.secret) (.int .i64 q.grants) (.bool q.ping) (.string q.url) (.slice so j cp)) := by
              have h := heap_alloc_new (w4.alloc (.cells #[.string q.id, .string q.secret, .int .i64 q.grants, .bool q.ping, .string q.url, .slice so j cp] 27)) (.cells #[.string q.id, .string q.secret, .int .i64 q.grants, .bool q.ping, .string q.url, .slice so j cp] 27)
              rw [show (w4.alloc (.cells #[.string q.id, .string q.secret, .int .i64 q.grants, .bool q.ping, .string q.url, .slice so j cp] 27)).heap.size = w4.heap.size + 1 by simp] at h
              exact h
            go_wp2_with (first | (at_builtin; refine wpList_append_client (i0 := i0) rfl (.tmp 37) (.tmp 39) rfl hi hz0 hz1 hz2 w1.heap.size _ a q so j cp rfl (HO4.out.keep HBX.out) (w4.heap.size + 1) rfl HC6.out (HSAT.out.keep HBX.out) (by rw [← HNA.out]; omega) (by have := HBX.out.size; omega) ?_))
            intro v' w5 hown5 hgr5
            obtain ⟨ao', cap', hv', _, _, _⟩ := hown5.shape
            have hlen : (a ++ [q]).length = n + 1 := by rw [List.length_append, ← HNA.out]; rfl
            rw [hlen] at hv'
            subst hv'
            have HO5 := hide hown5
            have HB5 : Hid (Below w1.heap.size w1 w5) := (HBW.out.trans ((HB4.out.trans (HBX.out.mono (by omega))).mono (by omega))).grown hgr5 (by have := HBX.out.size; omega) (fun x hx => by
              obtain ⟨_, ho, _⟩ := HO4.out
              exact (World.ownsRow.lt ho x hx).1)
            clear hown5 hgr5
            go_wp2
            go_roundw
            case rel => exact ⟨k + 1, a ++ [q], ao', n + 1, cap', ⟨by omega, hn2⟩, rfl, by go_num, hlen.symm, by rw [← HQ.out]; exact HR2.out, HO5, HB5⟩
            case measure => simp [intOf]; omega
          · have HR2 : Hid (R = ([], nextErr a sb, k + 1)) := by show _ = _; rw [HRS.out, if_neg hno, if_neg he]
            obtain ⟨er, her⟩ : ∃ er, er = nextErr a sb := ⟨_, rfl⟩
            unfold NxEnd at HNX
            rw [← her] at HNX HR2 he
            have hei : ((er : Int) != 0) = true := by simp; omega
            have hei2 : ((er : Int) == 0) = false := by simp; omega
            clear hno hnof HRS her
            go_wp2_with (first | (go_at_call 41; refine HSN.mono ?_; rintro e wx ⟨rfl, rfl⟩) | (go_at_call 42; refine HNX.mono ?_))
            rintro e w4 ⟨-, q, so, j, cp, rfl, -, -, hb4⟩
            have HB4 : Hid (Below w.heap.size w (w4.alloc (.cells #[.string q.id, .string q.secret, .int .i64 q.grants, .bool q.ping, .string q.url, .slice so j cp] 27))) := ((HB1.out.trans (HBW.out.mono (by omega))).trans (hb4.mono (by omega))).trans ((below_new w4 _).mono (by have := hb4.size; omega))
            clear hb4 HNX HSN
            go_wp2
            go_ret3
            refine (fun h => by first | exact ⟨trivial, h⟩ | exact h) (?_ : PrEnd w R _ _)
            rw [HR2.out]
            exact ⟨.slice none 0 0, by go_num, cown_nil _ _, HB4.out⟩
      · have HR2 : Hid (R = (a, 0, 0)) := by
          show _ = _
          rw [HRK.out, List.drop_eq_nil_of_le (by rw [← HML.out]; omega)]; rfl
        go_wp2
        go_ret3
        refine (fun h => by first | exact ⟨trivial, h⟩ | exact h) (?_ : PrEnd w R _ _)
        rw [HR2.out]
        refine ⟨.slice ao n cap, rfl, ?_, HB1.out.trans (HBW.out.mono (by omega))⟩
        obtain ⟨cs, ho, hf⟩ := HOW.out
        refine ⟨cs, ⟨ho.1, ?_⟩, hf⟩
        rcases ho.2 with h2 | ⟨g, cap, cur, e, hg, r⟩
        · exact .inl h2
        · exact .inr ⟨g, cap, cur, e, by show w.heap.size ≤ g; omega, r⟩
  · have hszi : (65536 : Int) < (s.size : Int) := by omega
    have HR2 : Hid (R = ([], 1, 0)) := by show _ = _; rw [HR.out]; unfold parR; rw [if_pos (by simp; omega)]
    go_enter Tryz.func15, Tryz.ntmps15
    go_wp2
    go_ret3
    refine (fun h => by first | exact ⟨trivial, h⟩ | exact h) (?_ : PrEnd w R _ _)
    rw [HR2.out]
    exact ⟨.slice none 0 0, rfl, cown_nil _ _, Below.refl _ _⟩
end Go.Proofs.YtlhgjicichjbgaaGreatDoor
