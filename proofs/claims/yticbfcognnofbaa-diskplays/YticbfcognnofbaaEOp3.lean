/- The contract of the document's change. -/
import Derived.Test.YticbfcognnofbaaEOp2
namespace Go.Proofs.Yticbfcognnofbaa
open Go.RowKit Go.Maps

theorem RRep.dirTo {w : World} {rp : Nat} {S : DS} {L : RL} (h : RRep w rp S L) {v : Value} {d : Dir} (hv : EOwn w 0 v d) (hn : ∀ g, v.ownBlock = some g → g ∉ L.mut rp) : RRep (w.setCell ⟨rp, 2, none⟩ v) rp { S with dir := d } { L with dv := v } :=
  h.setBox (S' := { S with dir := d }) (L' := { L with dv := v }) 2 v rfl rfl rfl rfl hv h.safe rfl rfl (fun b hb => by
    rcases (RL.mem_imm _ b).1 hb with e | e
    · exact hn b e
    · exact h.sep b ((L.mem_imm b).2 (.inr e)))
theorem chg_one (s t : ByteArray) (z : Int) : ∀ u ∈ [Value.string s, .string t, .int .i64 z], u.oneCell' = true := by intro x hx; simp only [List.mem_cons, List.not_mem_nil, or_false] at hx; rcases hx with rfl | rfl | rfl <;> rfl
set_option maxHeartbeats 2000000 in
set_option maxRecDepth 100000 in
theorem echange_any (rp : Nat) (S : DS) (L : RL) (c : Ch) (w : World) (h : RRep w rp S L) (hl : S.dir.length ≤ 100000) (hnm : ∀ p ∈ S.dir, p.1 ≠ []) (hcl : S.chg.length ≤ 10000000) :
    Calls Try.prog 71 #[pf rp, .agg #[.string (str c.fr), .string (str c.tn), .int .i64 (c.fl : Int)]] w fun e w' => e = .returned (.tuple #[]) ∧ RAft w w' rp L (change c S) := by
  obtain ⟨fr, tn, fl⟩ := c
  simp only
  have HB := hide (below_new w (.cells #[.string (str fr), .string (str tn), .int .i64 (fl : Int)] 113))
  have HBN := hide (Bl.new w #[.string (str fr), .string (str tn), .int .i64 (fl : Int)] 113)
  have HR := hide (h.below HB.out)
  have HRW := hide h
  have HCL := hide hcl
  have HC : Hid (∀ W, Below w.heap.size w W → Calls Try.prog 69 #[L.dv, .agg #[.string (str fr), .string (str tn), .int .i64 (fl : Int)]] W fun e w' => ∃ u, e = .returned u ∧ EOwn w' 0 u (chd ⟨fr, tn, fl⟩ S.dir) ∧ (∀ g, u.ownBlock = some g → L.dv.ownBlock = some g ∨ W.heap.size ≤ g) ∧ Below W.heap.size W w') := fun W hW => echanged_any L.dv S.dir 0 ⟨fr, tn, fl⟩ W (owns_keep h.dir hW) hl hnm
  unfold pf
  obtain ⟨N, hN⟩ : ∃ N, N = w.heap.size := ⟨_, rfl⟩
  have HNW := hide hN
  have hrpN : rp < N := by rw [hN]; exact h.box.lt
  clear h hl hnm hcl
  go_enter Try.func71, Try.ntmps71
  go_upto_region 1 with fail
  rw [← hN] at HBN ⊢
  clear hN
  generalize w.alloc (.cells #[.string (str fr), .string (str tn), .int .i64 (fl : Int)] 113) = u at *
  have b0 : u.cell? ⟨N, 0, none⟩ = some (.string (str fr)) := HBN.out.cell 0
  have b1 : u.cell? ⟨N, 1, none⟩ = some (.string (str tn)) := HBN.out.cell 1
  have b2 : u.cell? ⟨N, 2, none⟩ = some (.int .i64 (fl : Int)) := HBN.out.cell 2
  have c2 := HR.out.c.2.2.1
  -- what the first region leaves
  have HA : Hid (∀ w2 v2, EOwn w2 0 v2 (chd ⟨fr, tn, fl⟩ S.dir) → (∀ g, v2.ownBlock = some g → L.dv.ownBlock = some g ∨ u.heap.size ≤ g) → Below u.heap.size u w2 → RRep w2 rp S L ∧ RRep (w2.setCell ⟨rp, 2, none⟩ v2) rp { S with dir := chd ⟨fr, tn, fl⟩ S.dir } { L with dv := v2 } ∧ Bl (w2.setCell ⟨rp, 2, none⟩ v2) N [.string (str fr), .string (str tn), .int .i64 (fl : Int)] 113 ∧ Bl w2 N [.string (str fr), .string (str tn), .int .i64 (fl : Int)] 113) := fun w2 v2 h1 h2 h3 => by
    have hr2 := HR.out.below h3
    refine ⟨hr2, hr2.dirTo h1 (fun g hg hm => ?_), (HBN.out.keep h3).other (by omega) 2 v2, HBN.out.keep h3⟩
    rcases h2 g hg with e | e
    · exact HR.out.sep g ((L.mem_imm g).2 (.inl e)) hm
    · have := HR.out.lt g (List.mem_append.2 (.inl hm)); omega
  have HF : Hid (∀ w2 v2 w9 ao9 cap9 o, RRep (w2.setCell ⟨rp, 2, none⟩ v2) rp { S with dir := chd ⟨fr, tn, fl⟩ S.dir } { L with dv := v2 } → (∀ g, v2.ownBlock = some g → L.dv.ownBlock = some g ∨ u.heap.size ≤ g) → Below u.heap.size u w2 → w9.ownsRow 0 113 3 (.slice ao9 (S.chg.length + 1) cap9) (S.chg.length + 1) (ccells S.chg ++ [.string (str fr), .string (str tn), .int .i64 (fl : Int)]) → ((w2.setCell ⟨rp, 2, none⟩ v2).alloc o).grownBy w9 L.cv.ownBlock → (Value.ownBlock (.slice ao9 (S.chg.length + 1) cap9) = L.cv.ownBlock ∨ Value.ownBlock (.slice ao9 (S.chg.length + 1) cap9) = some ((w2.setCell ⟨rp, 2, none⟩ v2).alloc o).heap.size) → RAft w (w9.setCell ⟨rp, 4, none⟩ (.slice ao9 (S.chg.length + 1) cap9)) rp L (change ⟨fr, tn, fl⟩ S) ∧ w9.cell? ⟨rp, 4, none⟩ = some L.cv ∧ w9.frozen? ⟨rp, 4, none⟩ = false) := fun w2 v2 w9 ao9 cap9 o h1 h2 h3 g1 g2 g3 => by
    obtain ⟨k1, k2⟩ := h1.pushC (c := ⟨fr, tn, fl⟩) g1 g2 g3
    refine ⟨?_, k2.cell 4, k2.frozen 4⟩
    have hbw : Below w.heap.size w w2 := HB.out.trans (h3.mono HB.out.size)
    refine RAft.then (L2 := { L with dv := v2 }) ((Fr.of hbw).trans (Fr.rp (L := L)) (fun x hx => .inl hx)) ?_ (fun b hb => .inl hb) k1
    intro b hb
    rcases List.mem_append.1 hb with hb | hb
    · exact .inl (List.mem_append.2 (.inl hb))
    · rcases (RL.mem_imm _ b).1 hb with e | e
      · rcases h2 b e with e2 | e2
        · exact .inl (List.mem_append.2 (.inr ((L.mem_imm b).2 (.inl e2))))
        · exact .inr (by have := HB.out.size; omega)
      · exact .inl (List.mem_append.2 (.inr ((L.mem_imm b).2 (.inr e))))
  generalize str fr = s1 at *
  generalize str tn = s2 at *
  go_region_law (first | (refine law_call rfl 10 rfl 69 #[L.dv, .agg #[.string s1, .string s2, .int .i64 (fl : Int)]] (by unfold execOp; simp; go_simp) (HC.out _ (below_drewN HB.out 1)) ?_; rintro ε w2 ⟨v2, rfl, h1, h2, h3⟩; obtain ⟨vao, vcap, rfl⟩ := ownsRow_slice h1; refine ⟨_, rfl, ?_⟩; have hb2 := below_undrew h3; obtain ⟨k1, k2, k3, k4⟩ := HA.out w2 _ h1 h2 hb2; have e2 := k1.c.2.2.1; have f2 := k1.box.frozen 2; have HK2 := hide k2; have HK3 := hide k3; have H2 := hide h2; have HB2 := hide hb2; have m0 := k4.cell 0; have m1 := k4.cell 1; have m2 := k4.cell 2; clear h1 h2 h3 hb2 k1 k2 k3 k4))
  all_goals
    have HR4 := hide HK2.out.chg
    have x4 := HK2.out.c.2.2.2.2.1
    have HFF := hide (fun w9 ao9 cap9 g1 g2 g3 => HF.out w2 _ w9 ao9 cap9 (.cells #[.string s1, .string s2, .int .i64 (fl : Int)] 113) HK2.out H2.out HB2.out g1 g2 g3)
    have y0 := HK3.out.cell 0
    have y1 := HK3.out.cell 1
    have y2 := HK3.out.cell 2
    clear HA HF HC b0 b1 b2 c2 m0 m1 m2 e2 f2 HK2 HK3 H2 HB2
    simp only at HR4 x4
    generalize w2.setCell ⟨rp, 2, none⟩ (.slice vao (chd ⟨fr, tn, fl⟩ S.dir).length vcap) = X at *
    have HRA := hide (World.ownsRow.alloc HR4.out (.cells #[.string s1, .string s2, .int .i64 (fl : Int)] 113))
    have x4a := cell_kept x4 (below_new X (.cells #[.string s1, .string s2, .int .i64 (fl : Int)] 113))
    have HXN := hide (Bl.new X #[.string s1, .string s2, .int .i64 (fl : Int)] 113)
    go_upto_region 2 with fail
    go_region_law (first | (refine law_app1 appC rfl (.tmp 17) (.tmp 19) rfl 0 L.cv S.chg.length (ccells S.chg) [.string s1, .string s2, .int .i64 (fl : Int)] rfl HRA.out X.heap.size rfl HXN.out rfl (chg_one _ _ _) (by have := HCL.out; omega) (Nat.zero_le _) ?_; intro ao9 cap9 w9 g1 g2 g3; obtain ⟨r1, r2, r3⟩ := HFF.out w9 ao9 cap9 g1 (by first | exact g2 | exact grown_undrew g2) g3; have HE := hide r1; clear g1 g2 g3 r1))
    all_goals
      go_wp2_with fail
      go_end0
      exact ⟨rfl, HE.out⟩
end Go.Proofs.Yticbfcognnofbaa
