/- The contract of List. -/
import Derived.Test.YticbfcognnofbaaDLeft1
namespace Go.Proofs.Yticbfcognnofbaa
open Go.RowKit Go.Maps

theorem set_same {α : Type} {l : List α} {i : Nat} {x : α} (h : l[i]? = some x) : l.set i x = l := by
  have hi : i < l.length := by
    rcases Nat.lt_or_ge i l.length with h1 | h1
    · exact h1
    · rw [List.getElem?_eq_none h1] at h; cases h
  have : l[i] = x := by rw [List.getElem?_eq_getElem hi] at h; exact Option.some.inj h
  rw [← this]
  exact List.set_getElem_self hi
theorem TOwn.at {w : World} {g n cap : Nat} {ns : List Nm} (h : TOwn w (.slice (some ⟨g, 0, none⟩) n cap) ns) {k : Nat} {nm : Nm} (hk : ns[k]? = some nm) : w.cell? ⟨g, k, none⟩ = some (.string (str nm)) := by
  have := World.ownsRow.cells h (g := g) rfl k (encStr nm) (by rw [List.getElem?_map, hk]; rfl)
  rwa [add_none, Nat.zero_add] at this
theorem TOwn.stored {w : World} {g cap : Nat} {ns : List Nm} (h : TOwn w (.slice (some ⟨g, 0, none⟩) ns.length cap) ns) {k : Nat} {nm : Nm} (hk : ns[k]? = some nm) : TOwn (w.setCell ⟨g, k, none⟩ (.string (str nm))) (.slice (some ⟨g, 0, none⟩) ns.length cap) ns ∧ w.grownBy (w.setCell ⟨g, k, none⟩ (.string (str nm))) (some g) := by
  have := World.ownsRow.stored h k (.string (str nm))
  rw [set_same (by rw [List.getElem?_map, hk]; rfl)] at this
  exact this
theorem TOwn.frozen {w : World} {g n cap : Nat} {ns : List Nm} (h : TOwn w (.slice (some ⟨g, 0, none⟩) n cap) ns) (k : Nat) : w.frozen? ⟨g, k, none⟩ = false := by
  rcases h.2 with ⟨e, _⟩ | ⟨g', cap', cur, e, _, hg, _⟩
  · cases e
  · injection e with e _ _
    injection e with e
    injection e with e _ _
    subst e
    exact frozen_of_row w g k _ _ hg
set_option maxHeartbeats 2000000 in
set_option maxRecDepth 100000 in
theorem list_any (dp nx : Nat) (S : DS) (L : Lay) (w : World) (h : Rep w dp S L nx) (hO : Ok S) :
    Calls Try.prog 18 #[pf dp] w fun e w' => ∃ v, e = .returned v ∧ TOwn w' v (if S.dead then [] else S.dir.map (·.1)) ∧ (∀ g, v.ownBlock = some g → w.heap.size ≤ g) ∧ Below w.heap.size w w' := by
  obtain ⟨c0, c1, c2, c3, c4, c5, c6, c7⟩ := h.c
  cases hd : S.dead with
  | true =>
    rw [hd] at c7
    simp only [if_true]
    unfold pf
    clear h hO hd
    go_enter Try.func18, Try.ntmps18
    go_wp2
    go_ret
    exact ⟨_, rfl, World.ownsRow_nil _ _ _ _, fun g hg => by simp [Value.ownBlock] at hg, Below.refl _ _⟩
  | false =>
    rw [hd] at c7
    simp only [Bool.false_eq_true, if_false]
    have HC := hide (rising_any L.bn L.bs S.dir w h.names hO.dir.rising (by have := hO.dir.len; omega))
    have HNL : Hid (∀ nm ∈ S.dir.map (·.1), nm.length ≤ 32) := fun nm hm => by
      obtain ⟨p, hp, rfl⟩ := List.mem_map.1 hm
      exact (isNm_ne (hO.dir.name p hp)).2
    have HDL : Hid ((S.dir.map (·.1)).length ≤ 64) := by rw [List.length_map]; exact hO.dir.len
    generalize S.dir.map (·.1) = ns at *
    unfold pf
    clear h hO hd
    go_enter Try.func18, Try.ntmps18
    go_wp2_with (first | (go_at_call 52; refine HC.out.mono ?_; rintro e w2 ⟨v, rfl, h2, g2, b2⟩; obtain ⟨ao, cap, rfl⟩ := ownsRow_slice h2; have H2 := hide h2; have G2 := hide g2; have B2 := hide b2; clear h2 g2 b2))
    obtain ⟨n, hn⟩ : ∃ n, n = ns.length := ⟨_, rfl⟩
    have HN := hide hn
    rw [← hn] at HDL H2 G2 ⊢
    clear hn c0 c1 c2 c3 c4 c5 c6 c7 HC
    go_loopw [21] (fun i wr => ∃ k : Nat, k ≤ n ∧ i = .int .i64 (k : Int) ∧ Hid (TOwn wr (.slice ao n cap) ns) ∧ Hid (Below w.heap.size w wr)) (fun i _ => n - (intOf i).toNat)
    case atStart => exact ⟨0, Nat.zero_le _, rfl, H2.out, B2.out⟩
    case round =>
      obtain ⟨k, hk, rfl, HT, HB⟩ := hrel
      by_cases hlt : k < n
      · obtain ⟨nm, hnm⟩ : ∃ nm, ns[k]? = some nm := ⟨_, List.getElem?_eq_getElem (by rw [← HN.out]; exact hlt)⟩
        obtain ⟨g, rfl⟩ : ∃ g, ao = some ⟨g, 0, none⟩ := by
          rcases HT.out.2 with ⟨e, e2⟩ | ⟨g, cap', cur, e, _⟩
          · have := HN.out; omega
          · injection e with e _ _; exact ⟨g, e⟩
        have hge := G2.out g rfl
        have k0 := HT.out.at hnm
        have f0 := HT.out.frozen k
        have HST : Hid (∀ W, Below wr.heap.size wr W → TOwn (W.setCell ⟨g, k, none⟩ (.string (str nm))) (.slice (some ⟨g, 0, none⟩) n cap) ns ∧ Below w.heap.size w (W.setCell ⟨g, k, none⟩ (.string (str nm))) ∧ W.cell? ⟨g, k, none⟩ = some (.string (str nm)) ∧ W.frozen? ⟨g, k, none⟩ = false) := fun W hW => by
          have hT : TOwn W (.slice (some ⟨g, 0, none⟩) n cap) ns := owns_same HT.out fun b hb => hW.block b (World.ownsRow.lt HT.out b hb).2
          have hT2 := hT
          rw [HN.out] at hT2
          have hs := hT2.stored hnm
          rw [← HN.out] at hs
          have hBW : Below w.heap.size w W := HB.out.trans (hW.mono HB.out.size)
          exact ⟨hs.1, hBW.grown hs.2 hBW.size (fun j hj => by injection hj with hj; rw [← hj]; exact hge), hT.at hnm, hT.frozen k⟩
        have HCL := hide (clone_any (str nm) wr (by rw [str_size]; have := HNL.out nm (List.mem_of_getElem? hnm); omega))
        have hcap : n ≤ cap := by
          rcases HT.out.2 with ⟨e, _⟩ | ⟨g', cap', cur, e, _, _, h3, _⟩
          · cases e
          · injection e with _ _ e3; have := HN.out; omega
        have hkn : (k : Int) < (n : Int) := by omega
        have hkb : (k : Int) + 1 ≤ 4611686018427387904 := by have := HDL.out; omega
        clear hnm HT HB
        generalize str nm = s at *
        go_wp2_with (first | (go_at_call 53; refine HCL.out.mono ?_; rintro e w3 ⟨rfl, hb3⟩; obtain ⟨s1, s2, s3, s4⟩ := HST.out w3 hb3; have S1 := hide s1; have S2 := hide s2; clear s1 s2 hb3))
        go_roundw
        case rel => exact ⟨k + 1, by omega, by simp, S1, S2⟩
        case measure => simp [intOf]; omega
      · have hkn : ¬ (k : Int) < (n : Int) := by omega
        go_wp2_with fail
        go_ret
        exact ⟨_, rfl, HT.out, G2.out, HB.out⟩
end Go.Proofs.Yticbfcognnofbaa
