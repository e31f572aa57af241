/- The document's Subjects. -/
import Derived.Test.YtbhlciaigadlkaaQSubj
import Derived.Test.YtbhlciaigadlkaaQSubM
namespace Go.Proofs.Ytbhlciaigadlkaa
open Go.RowKit Go.Maps

theorem TSee.take {w : World} {ao : Option Addr} {s : List Nm} (h : TSee w ao s) (k : Nat) : TSee w ao (s.take k) := by
  rcases h with rfl | ⟨b, off, rfl, hc⟩
  · exact .inl (by simp)
  · exact .inr ⟨b, off, rfl, fun i x hx => hc i x (by rw [List.getElem?_take] at hx; split at hx; exact hx; cases hx)⟩
theorem TSee.drop {w : World} {g : Nat} {s : List Nm} (h : TSee w (some ⟨g, 0, none⟩) s) (k : Nat) : TSee w (some ⟨g, k, none⟩) (s.drop k) := by
  rcases h with rfl | ⟨b, off, he, hc⟩
  · exact .inl (by simp)
  · cases he
    exact .inr ⟨g, k, rfl, fun i x hx => by
      rw [List.getElem?_drop] at hx
      have := hc (k + i) x hx
      rw [Nat.zero_add] at this
      exact this⟩
theorem less_before : ∀ a b : List UInt8, Op.bytesLess a b = bytesBefore a b
  | [], [] => rfl
  | [], _ :: _ => rfl
  | _ :: _, [] => rfl
  | x :: r, y :: t => by
    have ih := less_before r t
    simp only [Op.bytesLess, bytesBefore, ih]
theorem elemT : Try.prog.elem 50 = 9 := by kernel_rfl
theorem underT : Try.prog.underlying 50 = some (.slice (Try.prog.elem 50)) := by rw [elemT]; exact Try.underlying50
theorem sizeT (w : World) : (sizeOf (Try.prog.elem 50)).run Try.prog w = .ok 1 w := by
  obtain ⟨i0, hi, hz0, hz1, hz2⟩ := info_parts infoT
  rw [elemT]
  simp [sizeOf, typeInfo, hi, hz1]
theorem slice_hi (ao : Option Addr) (n c k : Nat) (hk : k ≤ n) (hc : n ≤ c) (w : World) : (Instr.slice 50 (.slice ao n c) none (some (.int .i64 (k : Int))) none).run Try.prog w = .ok (.slice ao k c) w := by
  rw [run_slice_h w 50 ao n c underT .i64 (k : Int) (by omega) (by omega), sizeT]
  cases ao with
  | none => simp [Result.andThen, sliced]
  | some a =>
    obtain ⟨b, o, s⟩ := a
    cases s <;> simp [Result.andThen, sliced, Addr.add]
theorem slice_lo (g n c k : Nat) (hk : k ≤ n) : ∃ ao, (∀ w, (Instr.slice 50 (.slice (some ⟨g, 0, none⟩) n c) (some (.int .i64 (k : Int))) none none).run Try.prog w = .ok (.slice ao (n - k) (c - k)) w) ∧ (k < c → ao = some ⟨g, k, none⟩) := by
  refine ⟨if c = k then some ⟨g, 0, none⟩ else some ⟨g, k, none⟩, fun w => ?_, fun h => by rw [if_neg (by omega)]⟩
  rw [run_slice_l w 50 (some ⟨g, 0, none⟩) n c underT .i64 (k : Int) (by omega) (by omega), sizeT]
  simp [Result.andThen, sliced, add_none]
theorem slice_lo_nil (w : World) : (Instr.slice 50 (.slice none 0 0) (some (.int .i64 0)) none none).run Try.prog w = .ok (.slice none 0 0) w := by
  rw [run_slice_l w 50 none 0 0 underT .i64 0 (by omega) (by omega), sizeT]
  simp [Result.andThen, sliced]
theorem TOwn.see' {w : World} {B : Nat} {ao : Option Addr} {n c : Nat} {s : List Nm} (h : TOwn w B (.slice ao n c) s) : TSee w ao s := by
  obtain ⟨ao2, c2, e, _, see, _⟩ := h.form
  cases e
  exact see
/-- The tail of a row that is one's own. -/
theorem tail_of {w : World} {B k : Nat} {v : Value} {s : List Nm} (h : TOwn w B v s) (hk : k ≤ s.length) : ∃ ao m d, m = (s.drop k).length ∧ (∀ W, (Instr.slice 50 v (some (.int .i64 (k : Int))) none none).run Try.prog W = .ok (.slice ao m d) W) ∧ TSee w ao (s.drop k) := by
  obtain ⟨ao, c, rfl, hc, see, _, fm⟩ := h.form
  cases ao with
  | none =>
    have hs : s = [] := by
      rcases see with h | ⟨_, _, e, _⟩
      · exact h
      · cases e
    subst hs
    have hk0 : k = 0 := by simpa using hk
    subst hk0
    have hc0 : c = 0 := by
      rcases h.2 with ⟨e, _⟩ | ⟨_, _, _, e, _⟩
      · injection e
      · cases e
    subst hc0
    exact ⟨none, 0, 0, rfl, slice_lo_nil, .inl rfl⟩
  | some a =>
    obtain ⟨g, rfl⟩ := fm a rfl
    obtain ⟨ao2, h1, h2⟩ := slice_lo g s.length c k hk
    refine ⟨ao2, s.length - k, c - k, by rw [List.length_drop], h1, ?_⟩
    by_cases hkc : k < c
    · rw [h2 hkc]; exact see.drop k
    · exact .inl (List.drop_eq_nil_of_le (by omega))
/-- What the law's Subjects has at each round's head. -/
structure SuI (w wr : World) (N i : Nat) (S : LS) (L : Tab) (v : Value) (s : List Nm) (cs : List Value) : Prop where
  bel : Below w.heap.size w wr
  box : Bl wr N cs 32
  own : TOwn wr w.heap.size v s
  eq : s = subN ((Mi S.win S.clock L i).map (·.1))
set_option maxHeartbeats 2000000 in
set_option maxRecDepth 100000 in
theorem rsubjects_any (S : LS) (hS : Ok S) (ao : Option Addr) (n c : Nat) (L : Tab) (w : World) (hn : n = L.length) (hV : VSee w ao L) (hR : RI S L) (hnb : n * 32 ≤ 140737488355328) :
    Calls Try.prog 26 #[.agg (rcl S (.slice ao n c)).toArray] w fun e w' => ∃ (ao' : Option Addr) (n' c' : Nat), e = .returned (.slice ao' n' c') ∧ Hid (TOwn w' w.heap.size (.slice ao' n' c') (S.tab.map (·.1)) ∧ Below w.heap.size w w') := by
  have HB := hide (Bl.new w #[.int .i64 (S.tries : Int), .int .u64 (S.win : Int), .int .i64 (S.subs : Int), .int .u64 (S.clock : Int), .slice ao n c] 32)
  have HBN := hide (below_new w (.cells #[.int .i64 (S.tries : Int), .int .u64 (S.win : Int), .int .i64 (S.subs : Int), .int .u64 (S.clock : Int), .slice ao n c] 32))
  have hcl := hS.clock
  have hwin := hS.win2
  have HN := hide hn
  have HV := hide hV
  have HE : Hid (∀ p ∈ L, p.2.1 ≤ S.clock) := hide fun p hp => (hR.each p hp).1
  have HRES := hide (subN_tab hS hR)
  have HML : Hid (∀ i, (subN ((Mi S.win S.clock L i).map (·.1))).length ≤ n) := hide fun i => by
    have hlen : ∀ M : List Nm, (subN M).length = M.length := fun M => by
      unfold subN
      have : ∀ (M s : List Nm), (M.foldl (fun s x => insN x s) s).length = s.length + M.length := fun M => by
        induction M with
        | nil => intro s; rfl
        | cons x r ih => intro s; rw [List.foldl_cons, ih, (insN_perm x s).length_eq, List.length_cons, List.length_cons]; omega
      have := this M []
      simpa using this
    rw [hlen, List.length_map, hn]
    unfold Mi
    exact Nat.le_trans (List.length_filter_le _ _) (by rw [List.length_take]; omega)
  generalize hres : S.tab.map (·.1) = res at *
  have HNB := hide hnb
  clear hn hV hR hS hres hnb
  unfold rcl
  go_enter Try.func26, Try.ntmps26
  go_upto_region 1 with fail
  obtain ⟨N, hN⟩ : ∃ N, N = w.heap.size := ⟨_, rfl⟩
  rw [← hN] at HB ⊢
  clear hN
  generalize w.alloc (.cells #[.int .i64 (S.tries : Int), .int .u64 (S.win : Int), .int .i64 (S.subs : Int), .int .u64 (S.clock : Int), .slice ao n c] 32) = u at *
  have HCUR := HBN
  have HBC := HB
  clear HB HBN
  have b0 : u.cell? ⟨N, 0, none⟩ = some (.int .i64 (S.tries : Int)) := HBC.out.cell 0; have b1 : u.cell? ⟨N, 1, none⟩ = some (.int .u64 (S.win : Int)) := HBC.out.cell 1; have b2 : u.cell? ⟨N, 2, none⟩ = some (.int .i64 (S.subs : Int)) := HBC.out.cell 2; have b3 : u.cell? ⟨N, 3, none⟩ = some (.int .u64 (S.clock : Int)) := HBC.out.cell 3; have b4 : u.cell? ⟨N, 4, none⟩ = some (.slice ao n c) := HBC.out.cell 4
  clear b0 b1 b2 b3 b4
  go_wp2
  go_loopw [3, 4] (fun a3 a4 wr => ∃ (i : Nat) (v : Value) (s : List Nm), a3 = v ∧ a4 = .int .i64 (i : Int) ∧ i ≤ n ∧ Hid (SuI w wr N i S L v s [.int .i64 (S.tries : Int), .int .u64 (S.win : Int), .int .i64 (S.subs : Int), .int .u64 (S.clock : Int), .slice ao n c]))
    (fun _ a4 _ => n - (match a4 with | .int _ x => x.toNat | _ => 0))
  case atStart => exact ⟨0, _, [], rfl, rfl, Nat.zero_le _, hide ⟨HCUR.out, HBC.out, town_nil _ _, rfl⟩⟩
  case round =>
    obtain ⟨i, v, s, hv, rfl, hi, hrel⟩ := hrel
    subst hv
    have HI := hrel
    have b1 : wr.cell? ⟨N, 1, none⟩ = some (.int .u64 (S.win : Int)) := hrel.out.box.cell 1
    have b3 : wr.cell? ⟨N, 3, none⟩ = some (.int .u64 (S.clock : Int)) := hrel.out.box.cell 3
    have b4 : wr.cell? ⟨N, 4, none⟩ = some (.slice ao n c) := hrel.out.box.cell 4
    clear hrel
    obtain ⟨sao, sc, rfl, hsc, ssee, slt, sfm⟩ := HI.out.own.form
    by_cases hin : i < n
    · have hin' : (i : Int) < (n : Int) := by omega
      obtain ⟨x, hx⟩ : ∃ x, L[i]? = some x := ⟨_, List.getElem?_eq_getElem (by rw [← HN.out]; exact hin)⟩
      obtain ⟨bb, off, hao, q0, q1, q2⟩ := (HV.out.keep HI.out.bel).at hx
      subst hao
      have hbeg := HE.out x (List.mem_of_getElem? hx)
      have HSU := hide (mi_succ (win := S.win) (t := S.clock) hx)
      have HIN := hide hin
      have hwri : IntKind.i64.wrap ((i : Int) + 1) = ((i + 1 : Nat) : Int) := by have := HNB.out; rw [IntKind.wrap_i64]; omega
      obtain ⟨xs, xb, xc⟩ := x
      simp only at q0 q1 q2 hbeg
      have HXO := hide (Bl.new wr #[.string (str xs), .int .u64 (xb : Int), .int .i64 (xc : Int)] 79)
      have HWN := hide (below_new wr (.cells #[.string (str xs), .int .u64 (xb : Int), .int .i64 (xc : Int)] 79))
      have HWB := hide (HI.out.bel.trans (HWN.out.mono HI.out.bel.size))
      have HBO := hide (HI.out.box.keep HWN.out)
      have HOO := hide (HI.out.own.keep HWN.out)
      have HEQ := hide HI.out.eq
      have HSL := hide (show s.length ≤ n by rw [HI.out.eq]; exact HML.out i)
      generalize hsl : s.length = sn at *
      have HSN := hide hsl
      have HSC := hide hsc
      clear hi hx hin ssee slt sfm hsl hsc HI
      go_upto_region 6 with fail
      obtain ⟨A, hA⟩ : ∃ A, A = wr.heap.size := ⟨_, rfl⟩
      rw [← hA] at HXO ⊢
      clear hA q0 q1 q2 b1 b3 b4 HWN
      generalize wr.alloc (.cells #[.string (str xs), .int .u64 (xb : Int), .int .i64 (xc : Int)] 79) = u1 at *
      have q0 : u1.cell? ⟨A, 0, none⟩ = some (.string (str xs)) := HXO.out.cell 0
      have q1 : u1.cell? ⟨A, 1, none⟩ = some (.int .u64 (xb : Int)) := HXO.out.cell 1
      have q2 : u1.cell? ⟨A, 2, none⟩ = some (.int .i64 (xc : Int)) := HXO.out.cell 2
      have b1 : u1.cell? ⟨N, 1, none⟩ = some (.int .u64 (S.win : Int)) := HBO.out.cell 1
      have b3 : u1.cell? ⟨N, 3, none⟩ = some (.int .u64 (S.clock : Int)) := HBO.out.cell 3
      by_cases hc0 : xc = 0
      · have hc' : ((xc : Int) == 0) = true := by simp; omega
        have ha : ¬ alive S.win S.clock (xs, (xb, xc)) = true := by unfold alive opens; simp [hc0]
        rw [if_neg ha, List.append_nil] at HSU
        clear ha hc0
        go_wp2
        go_roundw
        case rel => exact ⟨i + 1, _, s, rfl, by first | rfl | simp, HIN.out, hide ⟨HWB.out, HBO.out, HOO.out, by rw [HSU.out]; exact HEQ.out⟩⟩
        case measure => have := HIN.out; simp; omega
      · have hc' : ((xc : Int) == 0) = false := by simp; omega
        by_cases ho : S.clock - xb < S.win
        · have ho' : ¬ (S.win : Int) ≤ (S.clock : Int) - (xb : Int) := by omega
          have ha : alive S.win S.clock (xs, (xb, xc)) = true := by unfold alive opens; simp [ho]; omega
          rw [if_pos ha] at HSU
          clear ha hc0 ho
          go_wp2
          go_loopw [6] (fun a6 wq => ∃ k : Nat, a6 = .int .i64 (k : Int) ∧ k ≤ sn ∧ Hid (Below u1.heap.size u1 wq ∧ ∀ (j : Nat) (y : Nm), j < k → s[j]? = some y → bytesBefore y xs = true))
            (fun a6 _ => sn - (match a6 with | .int _ x => x.toNat | _ => 0))
          case atStart => exact ⟨0, rfl, Nat.zero_le _, hide ⟨Below.refl _ _, fun j y hj _ => absurd hj (Nat.not_lt_zero _)⟩⟩
          case round =>
            obtain ⟨k, rfl, hk, hrl⟩ := hrel
            have HBQ := hide hrl.out.1
            have HJ := hide hrl.out.2
            clear hrl
            generalize hwq : wr = wq at HBQ ⊢
            clear hwq
            have p0 := cell_kept q0 HBQ.out
            by_cases hkn : k < sn
            · have hkn' : (k : Int) < (sn : Int) := by omega
              obtain ⟨y, hy⟩ : ∃ y, s[k]? = some y := ⟨_, List.getElem?_eq_getElem (by rw [HSN.out]; exact hkn)⟩
              obtain ⟨sb, so, hsao, py⟩ := ((HOO.out.keep HBQ.out).see' ).at hy
              subst hsao
              by_cases hbf : bytesBefore y xs = true
              · have hlt : Op.bytesLess (str y).toList (str xs).toList = true := by rw [str_toList, str_toList, less_before]; exact hbf
                have HBF := hide hbf
                have hwrk : IntKind.i64.wrap ((k : Int) + 1) = ((k + 1 : Nat) : Int) := by have := HSL.out; have := HNB.out; rw [IntKind.wrap_i64]; omega
                have HKN := hide hkn
                have HY := hide hy
                clear hbf hkn hk hy
                go_upto_region 8 with fail
                go_quiet (fail)
                go_wp2
                go_roundw
                case rel =>
                  refine ⟨k + 1, by first | rfl | simp, HKN.out, hide ⟨below_drewN HBQ.out _, fun j z hj hz => ?_⟩⟩
                  by_cases hjk : j = k
                  · subst hjk
                    rw [HY.out] at hz
                    cases hz
                    exact HBF.out
                  · exact HJ.out j z (by omega) hz
                case measure => have := HKN.out; simp; omega
              · have hlt : Op.bytesLess (str y).toList (str xs).toList = false := by rw [str_toList, str_toList, less_before]; simpa using hbf
                have HKS : Hid (k ≤ sn) := hide hk
                have HNX : Hid (∀ z, s[k]? = some z → bytesBefore z xs = false) := hide fun z hz => by rw [hy] at hz; cases hz; simpa using hbf
                clear hbf hkn hk hy
                go_upto_region 8 with fail
                go_quiet (fail)
                have HC5 := hide (below_drewN HBQ.out nq)
                generalize wq.drewN nq = w5 at *
                clear p0
                have HO5 := hide (HOO.out.keep HC5.out)
                have HX5 := hide (HXO.out.keep HC5.out)
                have hsl1 : ∀ W, (Instr.slice 50 (.slice (some ⟨sb, so, none⟩) sn sc) none (some (.int .i64 (k : Int))) none).run Try.prog W = .ok (.slice (some ⟨sb, so, none⟩) k sc) W := fun W => slice_hi (some ⟨sb, so, none⟩) sn sc k HKS.out HSC.out W
                obtain ⟨tao, tm, td, htm, hsl2, tsee⟩ := tail_of HO5.out (k := k) (by rw [HSN.out]; exact HKS.out)
                have HTM := hide htm
                have HTS := hide tsee
                have HE1 := hide (town_new w5 w5.heap.size (Nat.le_refl _))
                have HBE := hide (below_new w5 (.cells #[] 9))
                have HKT : Hid (k = (s.take k).length) := hide (by rw [List.length_take, HSN.out]; have := HKS.out; omega)
                have HLT2 : Hid (sn * 32 + 32 ≤ 140737488355328 + 32) := hide (by have := HSL.out; have := HNB.out; omega)
                have tok1 : True := trivial
                have tok2 : True := trivial
                clear htm tsee
                go_wp2_with (first
                  | (at_builtin; have _t := tok1; refine wpList_append_texts rfl _ _ rfl w5.heap.size _ [] (s.take k) rfl HE1.out (some ⟨sb, so, none⟩) k sc HKT.out rfl ((HO5.out.see'.take k).keep HBE.out) (by have h1 := HKT.out; have h2 := HKS.out; have h3 := HLT2.out; simp only [List.length_nil]; omega) (by simp) ?_; intro v6 w6 h6 g6; have hw6 : Below w5.heap.size w5 w6 := HBE.out.grown g6 (by simp) (fun j hj => (World.ownsRow.lt HE1.out j hj).1); have HO6 := hide (show TOwn w6 w5.heap.size v6 (s.take k) from h6); have HB6 := hide hw6; have p6 : w6.cell? ⟨A, 0, none⟩ = some (.string (str xs)) := (HX5.out.keep hw6).cell 0; clear h6 g6 hw6 tok1)
                  | (at_builtin; have _t := tok2; refine wpList_append_texts rfl _ _ rfl w5.heap.size _ (s.take k) [xs] rfl (HO6.out.keep (below_new w6 _)) (some ⟨w6.heap.size, 0, none⟩) 1 1 rfl rfl (tsee_one w6 xs) (by have h1 := HKT.out; have h2 := HKS.out; have h3 := HLT2.out; simp only [List.length_cons, List.length_nil]; omega) (by have h1 := HB6.out.size; simp; omega) ?_; intro v7 w7 h7 g7; have hw7 : Below w5.heap.size w6 w7 := ((below_new w6 _).mono HB6.out.size).grown g7 (by have h1 := HB6.out.size; simp; omega) (fun j hj => (World.ownsRow.lt HO6.out j hj).1); have HO7 := hide h7; have HB7 := hide (HB6.out.trans hw7); clear h7 g7 hw7 tok2)
                  | (at_builtin; refine wpList_append_texts rfl _ _ rfl w5.heap.size _ (s.take k ++ [xs]) (s.drop k) rfl HO7.out tao tm td HTM.out rfl (HTS.out.keep HB7.out) (by have h1 := HKT.out; have h2 := HKS.out; have h3 := HLT2.out; have h4 := HSN.out; simp only [List.length_append, List.length_cons, List.length_nil, List.length_take, List.length_drop]; omega) HB7.out.size ?_; intro v8 w8 h8 g8; have hw8 : Below w5.heap.size w5 w8 := HB7.out.grown g8 HB7.out.size (fun j hj => (World.ownsRow.lt HO7.out j hj).1); have HO8 := hide h8; have HB8 := hide (HC5.out.trans (hw8.mono HC5.out.size)); clear h8 g8 hw8))
                rw [← insN_at HJ.out (by rw [HSN.out]; exact HKS.out) HNX.out] at HO8
                go_roundw
                case rel => exact ⟨i + 1, _, _, rfl, by first | rfl | simp, HIN.out, hide ⟨HWB.out.trans (HB8.out.mono HWB.out.size), HBO.out.keep HB8.out, HO8.out.lower (Nat.le_trans HWB.out.size HC5.out.size), by rw [HSU.out, List.map_append, HEQ.out]; exact (subN_snoc _ _).symm⟩⟩
                case measure => have := HIN.out; simp; omega
            · have hkn' : ¬ (k : Int) < (sn : Int) := by omega
              have HKS : Hid (k ≤ sn) := hide hk
              have HNX : Hid (∀ z, s[k]? = some z → bytesBefore z xs = false) := hide fun z hz => by
                have := (List.getElem?_eq_some_iff.1 hz).1
                have := HSN.out
                omega
              clear hkn hk
              go_upto_region 8 with fail
              go_quiet (fail)
              have HC5 := hide (below_drewN HBQ.out nq)
              generalize wq.drewN nq = w5 at *
              clear p0
              have HO5 := hide (HOO.out.keep HC5.out)
              have HX5 := hide (HXO.out.keep HC5.out)
              have hsl1 : ∀ W, (Instr.slice 50 (.slice sao sn sc) none (some (.int .i64 (k : Int))) none).run Try.prog W = .ok (.slice sao k sc) W := fun W => slice_hi sao sn sc k HKS.out HSC.out W
              obtain ⟨tao, tm, td, htm, hsl2, tsee⟩ := tail_of HO5.out (k := k) (by rw [HSN.out]; exact HKS.out)
              have HTM := hide htm
              have HTS := hide tsee
              have HE1 := hide (town_new w5 w5.heap.size (Nat.le_refl _))
              have HBE := hide (below_new w5 (.cells #[] 9))
              have HKT : Hid (k = (s.take k).length) := hide (by rw [List.length_take, HSN.out]; have := HKS.out; omega)
              have HLT2 : Hid (sn * 32 + 32 ≤ 140737488355328 + 32) := hide (by have := HSL.out; have := HNB.out; omega)
              have tok1 : True := trivial
              have tok2 : True := trivial
              clear htm tsee
              go_wp2_with (first
                | (at_builtin; have _t := tok1; refine wpList_append_texts rfl _ _ rfl w5.heap.size _ [] (s.take k) rfl HE1.out sao k sc HKT.out rfl ((HO5.out.see'.take k).keep HBE.out) (by have h1 := HKT.out; have h2 := HKS.out; have h3 := HLT2.out; simp only [List.length_nil]; omega) (by simp) ?_; intro v6 w6 h6 g6; have hw6 : Below w5.heap.size w5 w6 := HBE.out.grown g6 (by simp) (fun j hj => (World.ownsRow.lt HE1.out j hj).1); have HO6 := hide (show TOwn w6 w5.heap.size v6 (s.take k) from h6); have HB6 := hide hw6; have p6 : w6.cell? ⟨A, 0, none⟩ = some (.string (str xs)) := (HX5.out.keep hw6).cell 0; clear h6 g6 hw6 tok1)
                | (at_builtin; have _t := tok2; refine wpList_append_texts rfl _ _ rfl w5.heap.size _ (s.take k) [xs] rfl (HO6.out.keep (below_new w6 _)) (some ⟨w6.heap.size, 0, none⟩) 1 1 rfl rfl (tsee_one w6 xs) (by have h1 := HKT.out; have h2 := HKS.out; have h3 := HLT2.out; simp only [List.length_cons, List.length_nil]; omega) (by have h1 := HB6.out.size; simp; omega) ?_; intro v7 w7 h7 g7; have hw7 : Below w5.heap.size w6 w7 := ((below_new w6 _).mono HB6.out.size).grown g7 (by have h1 := HB6.out.size; simp; omega) (fun j hj => (World.ownsRow.lt HO6.out j hj).1); have HO7 := hide h7; have HB7 := hide (HB6.out.trans hw7); clear h7 g7 hw7 tok2)
                | (at_builtin; refine wpList_append_texts rfl _ _ rfl w5.heap.size _ (s.take k ++ [xs]) (s.drop k) rfl HO7.out tao tm td HTM.out rfl (HTS.out.keep HB7.out) (by have h1 := HKT.out; have h2 := HKS.out; have h3 := HLT2.out; have h4 := HSN.out; simp only [List.length_append, List.length_cons, List.length_nil, List.length_take, List.length_drop]; omega) HB7.out.size ?_; intro v8 w8 h8 g8; have hw8 : Below w5.heap.size w5 w8 := HB7.out.grown g8 HB7.out.size (fun j hj => (World.ownsRow.lt HO7.out j hj).1); have HO8 := hide h8; have HB8 := hide (HC5.out.trans (hw8.mono HC5.out.size)); clear h8 g8 hw8))
              rw [← insN_at HJ.out (by rw [HSN.out]; exact HKS.out) HNX.out] at HO8
              go_roundw
              case rel => exact ⟨i + 1, _, _, rfl, by first | rfl | simp, HIN.out, hide ⟨HWB.out.trans (HB8.out.mono HWB.out.size), HBO.out.keep HB8.out, HO8.out.lower (Nat.le_trans HWB.out.size HC5.out.size), by rw [HSU.out, List.map_append, HEQ.out]; exact (subN_snoc _ _).symm⟩⟩
              case measure => have := HIN.out; simp; omega
        · have ho' : (S.win : Int) ≤ (S.clock : Int) - (xb : Int) := by omega
          have ha : ¬ alive S.win S.clock (xs, (xb, xc)) = true := by unfold alive opens; simp [ho]
          rw [if_neg ha, List.append_nil] at HSU
          clear ha hc0 ho
          go_wp2
          go_roundw
          case rel => exact ⟨i + 1, _, s, rfl, by first | rfl | simp, HIN.out, hide ⟨HWB.out, HBO.out, HOO.out, by rw [HSU.out]; exact HEQ.out⟩⟩
          case measure => have := HIN.out; simp; omega
    · have hin' : ¬ (i : Int) < (n : Int) := by omega
      have HII : Hid (i = n) := hide (by omega)
      clear hi hin
      go_wp2
      go_ret
      refine ⟨sao, s.length, sc, rfl, hide ⟨?_, HI.out.bel⟩⟩
      have := HI.out.own
      rw [← HRES.out, ← mi_all (win := S.win) (t := S.clock) HN.out, ← HII.out, ← HI.out.eq]
      exact this
end Go.Proofs.Ytbhlciaigadlkaa
