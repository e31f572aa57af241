/- The contract of the document's with. -/
import Derived.Test.YticbfcognnofbaaEDir
namespace Go.Proofs.Yticbfcognnofbaa
open Go.RowKit Go.Maps

/-- One entry more, as a step of a walk. -/
theorem eown_step {wr w9 w : World} {W0 : Nat} {l : Dir} {p : Nm × Nat} {uao ao9 : Option Addr} {ucap cap9 : Nat} {o : Obj} (hu : EOwn wr W0 (.slice uao l.length ucap) l) (hB : Below W0 w wr) (hW : W0 ≤ wr.heap.size)
    (g1 : w9.ownsRow W0 110 2 (.slice ao9 (l.length + 1) cap9) (l.length + 1) (ecells l ++ [.string (str p.1), .int .i64 (p.2 : Int)])) (g2 : (wr.alloc o).grownBy w9 (Value.ownBlock (.slice uao l.length ucap))) : EOwn w9 W0 (.slice ao9 (l ++ [p]).length cap9) (l ++ [p]) ∧ Below W0 w w9 := by
  refine ⟨?_, hB.trans (app_below hu hW g2)⟩
  unfold EOwn
  rw [List.length_append, ecells_snoc]
  exact g1
theorem one_cells2 (s : ByteArray) (z : Int) : ∀ u ∈ [Value.string s, .int .i64 z], u.oneCell' = true := by intro x hx; simp only [List.mem_cons, List.not_mem_nil, or_false] at hx; rcases hx with rfl | rfl <;> rfl
theorem less_before : ∀ (a b : List UInt8), Op.bytesLess a b = bytesBefore a b
  | [], [] => rfl
  | _ :: _, [] => rfl
  | [], _ :: _ => rfl
  | a :: x, b :: y => by
    have := less_before x y
    simp [Op.bytesLess, bytesBefore, this]
theorem before_tri {a b : Nm} (h : a ≠ b) (h1 : bytesBefore a b = false) (h2 : bytesBefore b a = false) : False := by
  rcases WideAt.bytes_total a b h with e | e
  · rw [h1] at e; cases e
  · rw [h2] at e; cases e
set_option maxHeartbeats 4000000 in
set_option maxRecDepth 100000 in
theorem ewith_any (v : Value) (d : Dir) (B : Nat) (nm : Nm) (fi : Nat) (w : World) (h : EOwn w B v d) (hl : d.length ≤ 100000) :
    Calls Try.prog 66 #[v, .string (str nm), .int .i64 (fi : Int)] w fun e w' => ∃ u, e = .returned u ∧ EOwn w' w.heap.size u (dput nm fi d) ∧ Below w.heap.size w w' := by
  have HC := hide (ewithout_any v d B nm w h (by omega))
  obtain ⟨d1, hd1⟩ : ∃ d1, d1 = ddel nm d := ⟨_, rfl⟩
  have hl1 : d1.length ≤ 100000 := by rw [hd1]; have := ddel_length_le nm d; omega
  have HL1 := hide hl1
  have HNN : Hid (∀ p ∈ d1, p.1 ≠ nm) := by rw [hd1]; exact fun p hp => ((ddel_mem nm d p).1 hp).2
  unfold dput
  rw [← hd1] at HC ⊢
  obtain ⟨W0, hW0⟩ : ∃ W0, W0 = w.heap.size := ⟨_, rfl⟩
  have HW := hide hW0
  rw [← hW0] at HC ⊢
  clear h hl hd1 hl1 hW0
  go_enter Try.func66, Try.ntmps66
  go_wp2_with (first | (go_at_call 78; refine HC.out.mono ?_; rintro e w1 ⟨u1, rfl, h1, b1⟩; obtain ⟨ao1, cap1, rfl⟩ := ownsRow_slice h1; have H1 := hide h1; have B1 := hide b1; clear h1 b1 HC) | fail)
  obtain ⟨n, hn⟩ : ∃ n, n = d1.length := ⟨_, rfl⟩
  have HN := hide hn
  rw [← hn] at H1 HL1 ⊢
  clear hn
  go_loopw [7, 8, 9] (fun u dn i wr => ∃ (k : Nat) (l : Dir) (q : Bool), k ≤ n ∧ i = .int .i64 (k : Int) ∧ dn = .bool q ∧ Hid (l ++ (if q then d1.drop k else dins (nm, fi) (d1.drop k)) = dins (nm, fi) d1) ∧ Hid (EOwn wr W0 u l) ∧ Hid (EOwn wr W0 (.slice ao1 n cap1) d1) ∧ Hid (∀ g, Value.ownBlock (.slice ao1 n cap1) = some g → u.ownBlock ≠ some g) ∧ Hid (Below W0 w wr)) (fun _ _ i _ => n - (intOf i).toNat)
  case atStart => exact ⟨0, [], false, Nat.zero_le _, rfl, rfl, hide rfl, eown_nil _ _, H1, fun g _ => by simp [Value.ownBlock], B1⟩
  case round =>
    obtain ⟨k, l, q, hk, rfl, rfl, HK, HU, HD, HNE, HB⟩ := hrel
    clear H1 B1
    obtain ⟨uao, ucap, hu⟩ := ownsRow_slice HU.out
    subst hu
    have hWr : W0 ≤ wr.heap.size := by have := HB.out.size; have := HW.out; omega
    have HWR := hide hWr
    have hbw : Below w.heap.size w wr := by rw [← HW.out]; exact HB.out
    by_cases hlt : k < n
    · obtain ⟨⟨pn, pi⟩, hp⟩ : ∃ p, d1[k]? = some p := ⟨_, List.getElem?_eq_getElem (by rw [← HN.out]; exact hlt)⟩
      obtain ⟨g, rfl, c1, c2, -, hcap⟩ := HD.out.at hp
      have HDR := HK.out
      rw [drop_at hp] at HDR
      have HLL : Hid (l.length ≤ 300000) := by
        have h1 := congrArg List.length HDR
        rw [List.length_append, dins_length] at h1
        have := HN.out
        have := HL1.out
        show _ ≤ _
        omega
      have hki : (k : Int) < (n : Int) := by omega
      have hkb : (k : Int) + 1 ≤ 4611686018427387904 := by have := HL1.out; omega
      -- what a step leaves
      have HST : Hid (∀ (u : World) (l2 : Dir) (uao2 : Option Addr) (ucap2 : Nat) (p : Nm × Nat) (ao9 : Option Addr) (cap9 : Nat) (w9 : World) (o : Obj), EOwn u W0 (.slice uao2 l2.length ucap2) l2 → EOwn u W0 (.slice (some ⟨g, 0, none⟩) n cap1) d1 → (∀ g2, Value.ownBlock (.slice (some ⟨g, 0, none⟩) n cap1) = some g2 → Value.ownBlock (.slice uao2 l2.length ucap2) ≠ some g2) → Below W0 w u → W0 ≤ u.heap.size → w9.ownsRow W0 110 2 (.slice ao9 (l2.length + 1) cap9) (l2.length + 1) (ecells l2 ++ [.string (str p.1), .int .i64 (p.2 : Int)]) → (u.alloc o).grownBy w9 (Value.ownBlock (.slice uao2 l2.length ucap2)) → (Value.ownBlock (.slice ao9 (l2.length + 1) cap9) = Value.ownBlock (.slice uao2 l2.length ucap2) ∨ Value.ownBlock (.slice ao9 (l2.length + 1) cap9) = some (u.alloc o).heap.size) →
          EOwn w9 W0 (.slice ao9 (l2 ++ [p]).length cap9) (l2 ++ [p]) ∧ EOwn w9 W0 (.slice (some ⟨g, 0, none⟩) n cap1) d1 ∧ (∀ g2, Value.ownBlock (.slice (some ⟨g, 0, none⟩) n cap1) = some g2 → Value.ownBlock (.slice ao9 (l2 ++ [p]).length cap9) ≠ some g2) ∧ Below W0 w w9 ∧ W0 ≤ w9.heap.size) := fun u l2 uao2 ucap2 p ao9 cap9 w9 o a1 a2 a3 a4 a5 a6 a7 a8 => by
        obtain ⟨e1, e2⟩ := eown_step (p := p) a1 a4 a5 a6 a7
        have hz : (u.alloc o).heap.size = u.heap.size + 1 := by simp
        have hgl : g < u.heap.size := (World.ownsRow.lt a2 g rfl).2
        refine ⟨e1, owns_same a2 fun b hb => ?_, fun g2 hg2 => ?_, e2, by have := a7.size; omega⟩
        · have hb2 : g = b := by simpa [Value.ownBlock] using hb
          subst hb2
          rw [a7.block g (by omega) (fun e => a3 g rfl e.symm), Below.heap_alloc u o g hgl]
        · have hb2 : g = g2 := by simpa [Value.ownBlock] using hg2
          subst hb2
          rw [List.length_append]
          rcases a8 with e | e
          · rw [show [p].length = 1 from rfl, e]; exact a3 g rfl
          · rw [show [p].length = 1 from rfl, e]; intro e3; injection e3 with e3; omega
      cases q with
      | true =>
        have HD2 : Hid (l ++ [(pn, pi)] ++ (if true = true then d1.drop (k + 1) else dins (nm, fi) (d1.drop (k + 1))) = dins (nm, fi) d1) := by rw [List.append_assoc]; exact HDR
        have HR : Hid ((wr.alloc (.cells #[.string (str pn), .int .i64 (pi : Int)] 110)).ownsRow W0 110 2 (.slice uao l.length ucap) l.length (ecells l)) := World.ownsRow.alloc HU.out _
        have HBN := hide (Bl.new wr #[.string (str pn), .int .i64 (pi : Int)] 110)
        have HS1 := hide (fun ao9 cap9 w9 a6 a7 a8 => HST.out wr l uao ucap (pn, pi) ao9 cap9 w9 (.cells #[.string (str pn), .int .i64 (pi : Int)] 110) HU.out HD.out HNE.out HB.out hWr a6 a7 a8)
        clear hp HDR HK hbw hWr HST
        generalize str pn = s at *
        go_wp2_with (first | (at_builtin; refine wpList_app1 appE rfl _ _ rfl W0 _ _ (ecells l) [.string s, .int .i64 (pi : Int)] rfl HR.out wr.heap.size rfl HBN.out rfl (one_cells2 _ _) (by have := HLL.out; omega) (by have := HWR.out; simp; omega) ?_; intro ao9 cap9 w9 g1 g2 g3; have HS9 := hide (HS1.out ao9 cap9 w9 g1 g2 g3); clear g1 g2 g3) | fail)
        go_roundw
        case rel => exact ⟨k + 1, l ++ [(pn, pi)], true, by omega, by simp, rfl, HD2, by rw [List.length_append] at HS9; exact hide HS9.out.1, hide HS9.out.2.1, by rw [List.length_append] at HS9; exact hide HS9.out.2.2.1, hide HS9.out.2.2.2.1⟩
        case measure => simp [intOf]; omega
      | false =>
        have hpn : pn ≠ nm := HNN.out _ (List.mem_of_getElem? hp)
        cases hbf : bytesBefore nm pn with
        | false =>
          have HD2 : Hid (l ++ [(pn, pi)] ++ (if false = true then d1.drop (k + 1) else dins (nm, fi) (d1.drop (k + 1))) = dins (nm, fi) d1) := by
            show _ = _
            rw [List.append_assoc, ← HDR]
            simp [dins, hbf]
          have f1 : Op.bytesLess (str pn).toList (str nm).toList = true := by rw [str_toList, str_toList, less_before, ← Bool.not_eq_false]; intro h2; exact absurd (before_tri hpn h2 hbf) id
          have HR : Hid ((wr.alloc (.cells #[.string (str pn), .int .i64 (pi : Int)] 110)).ownsRow W0 110 2 (.slice uao l.length ucap) l.length (ecells l)) := World.ownsRow.alloc HU.out _
          have HBN := hide (Bl.new wr #[.string (str pn), .int .i64 (pi : Int)] 110)
          have HS1 := hide (fun ao9 cap9 w9 a6 a7 a8 => HST.out wr l uao ucap (pn, pi) ao9 cap9 w9 (.cells #[.string (str pn), .int .i64 (pi : Int)] 110) HU.out HD.out HNE.out HB.out hWr a6 a7 a8)
          clear hp HDR HK hbw hWr HST hpn hbf
          generalize str pn = s at *
          generalize str nm = t at *
          go_wp2_with (first | (at_builtin; refine wpList_app1 appE rfl _ _ rfl W0 _ _ (ecells l) [.string s, .int .i64 (pi : Int)] rfl HR.out wr.heap.size rfl HBN.out rfl (one_cells2 _ _) (by have := HLL.out; omega) (by have := HWR.out; simp; omega) ?_; intro ao9 cap9 w9 g1 g2 g3; have HS9 := hide (HS1.out ao9 cap9 w9 g1 g2 g3); clear g1 g2 g3) | fail)
          go_roundw
          case rel => exact ⟨k + 1, l ++ [(pn, pi)], false, by omega, by simp, rfl, HD2, by rw [List.length_append] at HS9; exact hide HS9.out.1, hide HS9.out.2.1, by rw [List.length_append] at HS9; exact hide HS9.out.2.2.1, hide HS9.out.2.2.2.1⟩
          case measure => simp [intOf]; omega
        | true =>
          have HD2 : Hid (l ++ [(nm, fi)] ++ [(pn, pi)] ++ (if true = true then d1.drop (k + 1) else dins (nm, fi) (d1.drop (k + 1))) = dins (nm, fi) d1) := by
            show _ = _
            rw [List.append_assoc, List.append_assoc, ← HDR]
            simp [dins, hbf]
          have f1 : Op.bytesLess (str pn).toList (str nm).toList = false := by rw [str_toList, str_toList, less_before]; cases h2 : bytesBefore pn nm with | false => rfl | true => have := WideShapes.bytes_trans _ _ _ h2 hbf; rw [WideAt.bytes_irrefl] at this; cases this
          obtain ⟨n1, n2⟩ := str_ne hpn
          have HR : Hid ((wr.alloc (.cells #[.string (str nm), .int .i64 (fi : Int)] 110)).ownsRow W0 110 2 (.slice uao l.length ucap) l.length (ecells l)) := World.ownsRow.alloc HU.out _
          have HBN := hide (Bl.new wr #[.string (str nm), .int .i64 (fi : Int)] 110)
          have HS1 := hide (fun ao9 cap9 w9 a6 a7 a8 => HST.out wr l uao ucap (nm, fi) ao9 cap9 w9 (.cells #[.string (str nm), .int .i64 (fi : Int)] 110) HU.out HD.out HNE.out HB.out hWr a6 a7 a8)
          have HS2 : Hid (∀ ao9 cap9 w9 ao8 cap8 w8, (EOwn w9 W0 (.slice ao9 (l ++ [(nm, fi)]).length cap9) (l ++ [(nm, fi)]) ∧ EOwn w9 W0 (.slice (some ⟨g, 0, none⟩) n cap1) d1 ∧ (∀ g2, Value.ownBlock (.slice (some ⟨g, 0, none⟩) n cap1) = some g2 → Value.ownBlock (.slice ao9 (l ++ [(nm, fi)]).length cap9) ≠ some g2) ∧ Below W0 w w9 ∧ W0 ≤ w9.heap.size) → w8.ownsRow W0 110 2 (.slice ao8 ((l ++ [(nm, fi)]).length + 1) cap8) ((l ++ [(nm, fi)]).length + 1) (ecells (l ++ [(nm, fi)]) ++ [.string (str pn), .int .i64 (pi : Int)]) → (w9.alloc (.cells #[.string (str pn), .int .i64 (pi : Int)] 110)).grownBy w8 (Value.ownBlock (.slice ao9 (l ++ [(nm, fi)]).length cap9)) → (Value.ownBlock (.slice ao8 ((l ++ [(nm, fi)]).length + 1) cap8) = Value.ownBlock (.slice ao9 (l ++ [(nm, fi)]).length cap9) ∨ Value.ownBlock (.slice ao8 ((l ++ [(nm, fi)]).length + 1) cap8) = some (w9.alloc (.cells #[.string (str pn), .int .i64 (pi : Int)] 110)).heap.size) → _) := fun ao9 cap9 w9 ao8 cap8 w8 hh a6 a7 a8 => HST.out w9 (l ++ [(nm, fi)]) ao9 cap9 (pn, pi) ao8 cap8 w8 _ hh.1 hh.2.1 hh.2.2.1 hh.2.2.2.1 hh.2.2.2.2 a6 a7 a8
          have HCC : Hid (∀ w9, EOwn w9 W0 (.slice (some ⟨g, 0, none⟩) n cap1) d1 → w9.cell? ⟨g, k * 2, none⟩ = some (.string (str pn)) ∧ w9.cell? ⟨g, k * 2 + 1, none⟩ = some (.int .i64 (pi : Int))) := fun w9 h9 => by
            obtain ⟨g', e, x1, x2, -, -⟩ := h9.at hp
            injection e with e
            injection e with e
            subst e
            exact ⟨x1, x2⟩
          clear hp HDR HK hbw hWr HST hpn hbf
          obtain ⟨l2, hl2⟩ : ∃ l2, l2 = l ++ [(nm, fi)] := ⟨_, rfl⟩
          have hll2 : l.length + 1 = l2.length := by rw [hl2]; simp
          rw [← hl2] at HS1 HS2 HD2
          have HL2 : Hid (l2.length ≤ 300001) := by have := HLL.out; show _ ≤ _; omega
          have HLEN := hide hll2
          clear hl2 hll2
          generalize str pn = s at *
          generalize str nm = t at *
          have tok : True := trivial
          go_wp2_with (first | (at_builtin; have _t := tok; refine wpList_app1 appE rfl _ _ rfl W0 _ _ (ecells l) [.string t, .int .i64 (fi : Int)] rfl HR.out wr.heap.size rfl HBN.out rfl (one_cells2 _ _) (by have := HLL.out; omega) (by have := HWR.out; simp; omega) ?_; intro ao9 cap9 w9 g1 g2 g3; have hs9 := HS1.out ao9 cap9 w9 g1 g2 g3; rw [HLEN.out]; have HS9 := hide hs9; obtain ⟨x1, x2⟩ := HCC.out w9 hs9.2.1; have HR2 : Hid ((w9.alloc (.cells #[.string s, .int .i64 (pi : Int)] 110)).ownsRow W0 110 2 (.slice ao9 l2.length cap9) l2.length (ecells l2)) := World.ownsRow.alloc hs9.1 _; have HBN2 := hide (Bl.new w9 #[.string s, .int .i64 (pi : Int)] 110); have HW9 := hide hs9.2.2.2.2; clear g1 g2 g3 hs9 tok) | (at_builtin; refine wpList_app1 appE rfl _ _ rfl W0 _ _ (ecells l2) [.string s, .int .i64 (pi : Int)] rfl HR2.out w9.heap.size rfl HBN2.out rfl (one_cells2 _ _) (by have := HL2.out; omega) (by have := HW9.out; simp; omega) ?_; intro ao8 cap8 w8 g1 g2 g3; have HS8 := hide (HS2.out ao9 cap9 w9 ao8 cap8 w8 HS9.out g1 g2 g3); clear g1 g2 g3) | fail)
          go_roundw
          case rel => exact ⟨k + 1, l2 ++ [(pn, pi)], true, by omega, by simp, rfl, HD2, by rw [List.length_append] at HS8; exact hide HS8.out.1, hide HS8.out.2.1, by rw [List.length_append] at HS8; exact hide HS8.out.2.2.1, hide HS8.out.2.2.2.1⟩
          case measure => simp [intOf]; omega
    · have hki : ¬ (k : Int) < (n : Int) := by omega
      have HE := HK.out
      rw [List.drop_eq_nil_of_le (by rw [← HN.out]; omega)] at HE
      cases q with
      | true =>
        rw [if_pos rfl, List.append_nil] at HE
        subst HE
        clear HK hbw hWr
        go_wp2_with fail
        go_ret
        exact ⟨_, rfl, HU.out, HB.out⟩
      | false =>
        have HE2 : l ++ [(nm, fi)] = dins (nm, fi) d1 := HE
        have HLL : Hid (l.length ≤ 300000) := by
          have h1 := congrArg List.length HE2
          rw [List.length_append, dins_length] at h1
          have := HN.out
          have := HL1.out
          show _ ≤ _
          omega
        have HR : Hid ((wr.alloc (.cells #[.string (str nm), .int .i64 (fi : Int)] 110)).ownsRow W0 110 2 (.slice uao l.length ucap) l.length (ecells l)) := World.ownsRow.alloc HU.out _
        have HBN := hide (Bl.new wr #[.string (str nm), .int .i64 (fi : Int)] 110)
        have HS1 : Hid (∀ ao9 cap9 w9, w9.ownsRow W0 110 2 (.slice ao9 (l.length + 1) cap9) (l.length + 1) (ecells l ++ [.string (str nm), .int .i64 (fi : Int)]) → (wr.alloc (.cells #[.string (str nm), .int .i64 (fi : Int)] 110)).grownBy w9 (Value.ownBlock (.slice uao l.length ucap)) → EOwn w9 W0 (.slice ao9 (l.length + 1) cap9) (dins (nm, fi) d1) ∧ Below W0 w w9) := fun ao9 cap9 w9 a6 a7 => by
          have := eown_step (p := (nm, fi)) HU.out HB.out hWr a6 a7
          rw [HE2] at this
          rw [show l.length + 1 = (dins (nm, fi) d1).length by rw [← HE2]; simp]
          exact this
        clear HK hbw hWr HE HE2
        generalize str nm = t at *
        go_wp2_with (first | (at_builtin; refine wpList_app1 appE rfl _ _ rfl W0 _ _ (ecells l) [.string t, .int .i64 (fi : Int)] rfl HR.out wr.heap.size rfl HBN.out rfl (one_cells2 _ _) (by have := HLL.out; omega) (by have := HWR.out; simp; omega) ?_; intro ao9 cap9 w9 g1 g2 g3; have HS9 := hide (HS1.out ao9 cap9 w9 g1 g2); clear g1 g2 g3) | fail)
        go_ret
        exact ⟨_, rfl, HS9.out.1, HS9.out.2⟩
end Go.Proofs.Yticbfcognnofbaa
