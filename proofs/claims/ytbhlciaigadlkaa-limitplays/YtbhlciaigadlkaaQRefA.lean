/- The document's limit in memory: at, open, known. -/
import Derived.Test.YtbhlciaigadlkaaQOps
import Derived.Test.YtbhlciaigadlkaaQPlayM
import Derived.Test.YtbhlciaigadlkaaQLeft
namespace Go.Proofs.Ytbhlciaigadlkaa
open Go.RowKit Go.Maps

abbrev Win : Type := Nm × (Nat × Nat)
/-- The document's windows in memory. -/
def VSee (w : World) (ao : Option Addr) (L : Tab) : Prop := L = [] ∨ ∃ b off, ao = some ⟨b, off, none⟩ ∧ ∀ (i : Nat) (x : Win), L[i]? = some x → w.cell? ⟨b, off + i * 3, none⟩ = some (.string (str x.1)) ∧ w.cell? ⟨b, off + i * 3 + 1, none⟩ = some (.int .u64 (x.2.1 : Int)) ∧ w.cell? ⟨b, off + i * 3 + 2, none⟩ = some (.int .i64 (x.2.2 : Int))
theorem VSee.at {w : World} {ao : Option Addr} {L : Tab} (h : VSee w ao L) {i : Nat} {x : Win} (hx : L[i]? = some x) : ∃ b off, ao = some ⟨b, off, none⟩ ∧ w.cell? ⟨b, off + i * 3, none⟩ = some (.string (str x.1)) ∧ w.cell? ⟨b, off + i * 3 + 1, none⟩ = some (.int .u64 (x.2.1 : Int)) ∧ w.cell? ⟨b, off + i * 3 + 2, none⟩ = some (.int .i64 (x.2.2 : Int)) := by
  rcases h with rfl | ⟨b, off, rfl, hc⟩
  · simp at hx
  · exact ⟨b, off, rfl, hc i x hx⟩
theorem VSee.keep {w w' : World} {ao : Option Addr} {L : Tab} (h : VSee w ao L) (hb : Below w.heap.size w w') : VSee w' ao L := by
  rcases h with h | ⟨b, off, rfl, hc⟩
  · exact .inl h
  · exact .inr ⟨b, off, rfl, fun i x hx => ⟨cell_kept (hc i x hx).1 hb, cell_kept (hc i x hx).2.1 hb, cell_kept (hc i x hx).2.2 hb⟩⟩
def rcl (S : LS) (v : Value) : List Value := [.int .i64 (S.tries : Int), .int .u64 (S.win : Int), .int .i64 (S.subs : Int), .int .u64 (S.clock : Int), v]
set_option maxHeartbeats 400000 in
set_option maxRecDepth 100000 in
theorem rat_any (S : LS) (ao : Option Addr) (n c now : Nat) (w : World) : Calls Try.prog 38 #[.agg (rcl S (.slice ao n c)).toArray, .int .u64 (now : Int)] w fun e w' => e = .returned (.int .u64 ((max now S.clock : Nat) : Int)) ∧ Below w.heap.size w w' := by
  have HBN := hide (below_new w (.cells #[.int .i64 (S.tries : Int), .int .u64 (S.win : Int), .int .i64 (S.subs : Int), .int .u64 (S.clock : Int), .slice ao n c] 32))
  unfold rcl
  by_cases h : S.clock < now
  · have h' : (S.clock : Int) < (now : Int) := by omega
    rw [show max now S.clock = now by omega]
    clear h
    go_enter Try.func38, Try.ntmps38
    go_wp2
    go_ret
    exact ⟨rfl, HBN.out⟩
  · have h' : ¬ (S.clock : Int) < (now : Int) := by omega
    rw [show max now S.clock = S.clock by omega]
    clear h
    go_enter Try.func38, Try.ntmps38
    go_wp2
    go_ret
    exact ⟨rfl, HBN.out⟩
def idxV (o : Option Nat) : Int := match o with | some i => (i : Int) | none => -1
set_option maxHeartbeats 2000000 in
set_option maxRecDepth 100000 in
theorem ropen_any (S : LS) (ao : Option Addr) (n c t : Nat) (nm : Nm) (L : Tab) (w : World) (hn : n = L.length) (hV : VSee w ao L) (hE : ∀ p ∈ L, p.2.1 ≤ t) (ht : t < 18446744073709551616) (hnb : n ≤ 9223372036854775807) :
    Calls Try.prog 39 #[.agg (rcl S (.slice ao n c)).toArray, .string (str nm), .int .u64 (t : Int)] w fun e w' => e = .returned (.int .i64 (idxV (idx S.win t nm L))) ∧ Below w.heap.size w w' := by
  have HB := hide (Bl.new w #[.int .i64 (S.tries : Int), .int .u64 (S.win : Int), .int .i64 (S.subs : Int), .int .u64 (S.clock : Int), .slice ao n c] 32)
  have HBN := hide (below_new w (.cells #[.int .i64 (S.tries : Int), .int .u64 (S.win : Int), .int .i64 (S.subs : Int), .int .u64 (S.clock : Int), .slice ao n c] 32))
  have HN := hide hn
  have HV := hide hV
  have HE := hide hE
  obtain ⟨res, hres⟩ : ∃ r, r = idxV (idx S.win t nm L) := ⟨_, rfl⟩
  rw [← hres]
  have HRES := hide hres
  clear hn hV hE hres
  unfold rcl
  go_enter Try.func39, Try.ntmps39
  go_upto_region 1 with fail
  obtain ⟨N, hN⟩ : ∃ N, N = w.heap.size := ⟨_, rfl⟩
  rw [← hN] at HB ⊢
  clear hN
  generalize w.alloc (.cells #[.int .i64 (S.tries : Int), .int .u64 (S.win : Int), .int .i64 (S.subs : Int), .int .u64 (S.clock : Int), .slice ao n c] 32) = u at *
  go_wp2
  go_loopw [7] (fun a7 wr => ∃ i : Nat, a7 = .int .i64 (i : Int) ∧ i ≤ n ∧ Hid (Below w.heap.size w wr ∧ Bl wr N [.int .i64 (S.tries : Int), .int .u64 (S.win : Int), .int .i64 (S.subs : Int), .int .u64 (S.clock : Int), .slice ao n c] 32 ∧ ∀ (j : Nat) (x : Win), j < i → L[j]? = some x → (x.1 == nm && alive S.win t x) = false))
    (fun a7 _ => n - (match a7 with | .int _ x => x.toNat | _ => 0))
  case atStart => exact ⟨0, rfl, Nat.zero_le _, hide ⟨HBN.out, HB.out, fun j x hj _ => absurd hj (Nat.not_lt_zero _)⟩⟩
  case round =>
    obtain ⟨i, rfl, hi, hrel⟩ := hrel
    obtain ⟨hbw, hbx, hno⟩ := hrel.out
    have HBW := hide hbw
    have HBX := hide hbx
    have HNO := hide hno
    have b1 : wr.cell? ⟨N, 1, none⟩ = some (.int .u64 (S.win : Int)) := hbx.cell 1
    have b4 : wr.cell? ⟨N, 4, none⟩ = some (.slice ao n c) := hbx.cell 4
    clear hrel hbw hbx hno
    by_cases hin : i < n
    · have hin' : (i : Int) < (n : Int) := by omega
      obtain ⟨x, hx⟩ : ∃ x, L[i]? = some x := ⟨_, List.getElem?_eq_getElem (by rw [← HN.out]; exact hin)⟩
      obtain ⟨bb, off, hao, q0, q1, q2⟩ := (HV.out.keep HBW.out).at hx
      subst hao
      have hbeg := HE.out x (List.mem_of_getElem? hx)
      have HX := hide hx
      have HIN := hide hin
      have hwri : IntKind.i64.wrap ((i : Int) + 1) = ((i + 1 : Nat) : Int) := by rw [IntKind.wrap_i64]; omega
      obtain ⟨xs, xb, xc⟩ := x
      simp only at q0 q1 q2 hbeg
      have HXO := hide (Bl.new wr #[.string (str xs), .int .u64 (xb : Int), .int .i64 (xc : Int)] 79)
      have HWB := hide (HBW.out.trans ((below_new wr (.cells #[.string (str xs), .int .u64 (xb : Int), .int .i64 (xc : Int)] 79)).mono HBW.out.size))
      have HBO := hide (HBX.out.alloc (.cells #[.string (str xs), .int .u64 (xb : Int), .int .i64 (xc : Int)] 79))
      clear hi hx hin
      go_upto_region 5 with fail
      obtain ⟨A, hA⟩ : ∃ A, A = wr.heap.size := ⟨_, rfl⟩
      rw [← hA] at HXO ⊢
      clear hA q0 q1 q2 b1 b4
      generalize wr.alloc (.cells #[.string (str xs), .int .u64 (xb : Int), .int .i64 (xc : Int)] 79) = u1 at *
      have q0 : u1.cell? ⟨A, 0, none⟩ = some (.string (str xs)) := HXO.out.cell 0
      have q1 : u1.cell? ⟨A, 1, none⟩ = some (.int .u64 (xb : Int)) := HXO.out.cell 1
      have q2 : u1.cell? ⟨A, 2, none⟩ = some (.int .i64 (xc : Int)) := HXO.out.cell 2
      have b1 : u1.cell? ⟨N, 1, none⟩ = some (.int .u64 (S.win : Int)) := HBO.out.cell 1
      obtain ⟨F, hF⟩ : ∃ F, F = (xs == nm && alive S.win t (xs, (xb, xc))) := ⟨_, rfl⟩
      have HF := hide hF
      clear hF
      go_cut [38] (fun a wx => a = .bool F ∧ wx = u1)
      case first =>
        by_cases hxe : xs = nm
        · have hq : ((str xs).toList == (str nm).toList) = true := by rw [str_beq]; exact decide_eq_true hxe
          by_cases hc0 : 0 < xc
          · have hc' : 0 < (xc : Int) := by omega
            by_cases ho : t - xb < S.win
            · have ho' : (t : Int) - (xb : Int) < (S.win : Int) := by omega
              have HT : Hid (F = true) := hide (by rw [HF.out]; unfold alive opens; simp [hxe, hc0, ho])
              clear hxe hc0 ho
              go_wp2
              go_meet
              case rel => exact ⟨by rw [HT.out], rfl⟩
            · have ho' : ¬ (t : Int) - (xb : Int) < (S.win : Int) := by omega
              have HT : Hid (F = false) := hide (by rw [HF.out]; unfold alive opens; simp [ho])
              clear hxe hc0 ho
              go_wp2
              go_meet
              case rel => exact ⟨by rw [HT.out], rfl⟩
          · have hc' : ¬ 0 < (xc : Int) := by omega
            have HT : Hid (F = false) := hide (by rw [HF.out]; unfold alive opens; simp [hc0])
            clear hxe hc0
            go_wp2
            go_meet
            case rel => exact ⟨by rw [HT.out], rfl⟩
        · have hq : ((str xs).toList == (str nm).toList) = false := by rw [str_beq]; exact decide_eq_false hxe
          have HT : Hid (F = false) := hide (by rw [HF.out]; simp [hxe])
          clear hxe
          go_wp2
          go_meet
          case rel => exact ⟨by rw [HT.out], rfl⟩
      case rest =>
        obtain ⟨rfl, hwc⟩ := hcut
        have hwd := hwc.symm
        subst hwd
        clear hwc
        cases F with
        | true =>
          go_wp2
          go_ret
          refine ⟨ret_int ?_, HWB.out⟩
          rw [HRES.out]
          have e : idx S.win t nm L = some i := by
            unfold idx
            rw [List.findIdx?_eq_some_iff_getElem]
            obtain ⟨hlt, hget⟩ := List.getElem?_eq_some_iff.1 HX.out
            exact ⟨hlt, by rw [hget]; exact HF.out.symm, fun j hj => by
              have := HNO.out j L[j] hj (List.getElem?_eq_getElem (by omega))
              rw [this]; decide⟩
          rw [e]
          rfl
        | false =>
          go_wp2
          go_roundw
          case rel =>
            refine ⟨i + 1, by first | rfl | simp, HIN.out, hide ⟨HWB.out, HBO.out, fun j x hj hx => ?_⟩⟩
            by_cases hji : j = i
            · subst hji
              rw [HX.out] at hx
              cases hx
              exact HF.out.symm
            · exact HNO.out j x (by omega) hx
          case measure => have := HIN.out; simp; omega
    · have hin' : ¬ (i : Int) < (n : Int) := by omega
      have HII : Hid (i = n) := hide (by omega)
      clear hi hin
      go_wp2
      go_ret
      refine ⟨ret_int ?_, HBW.out⟩
      rw [HRES.out]
      have e : idx S.win t nm L = none := by
        unfold idx
        rw [List.findIdx?_eq_none_iff]
        intro x hx
        obtain ⟨j, hj⟩ := List.getElem?_of_mem hx
        refine HNO.out j x ?_ hj
        rw [HII.out, HN.out]
        exact (List.getElem?_eq_some_iff.1 hj).1
      rw [e]
      rfl
end Go.Proofs.Ytbhlciaigadlkaa
