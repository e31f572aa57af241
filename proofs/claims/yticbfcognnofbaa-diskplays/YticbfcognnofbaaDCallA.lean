/- The contracts of Count, Dead, Arm, Free, Read. -/
import Derived.Test.YticbfcognnofbaaDFile
namespace Go.Proofs.Yticbfcognnofbaa
open Go.RowKit Go.Maps

set_option maxHeartbeats 400000 in
set_option maxRecDepth 100000 in
theorem count_any (dp nx : Nat) (S : DS) (L : Lay) (w : World) (h : Rep w dp S L nx) :
    Calls Try.prog 19 #[pf dp] w fun e w' => e = .returned (.int .i64 (S.ops : Int)) ∧ w' = w := by
  obtain ⟨c0, c1, c2, c3, c4, c5, c6, c7⟩ := h.c
  clear h c0 c1 c2 c3 c4 c6 c7
  unfold pf
  go_enter Try.func19, Try.ntmps19
  go_wp2
  go_ret
  exact ⟨rfl, rfl⟩
set_option maxHeartbeats 400000 in
set_option maxRecDepth 100000 in
theorem dead_any (dp nx : Nat) (S : DS) (L : Lay) (w : World) (h : Rep w dp S L nx) :
    Calls Try.prog 16 #[pf dp] w fun e w' => e = .returned (.bool S.dead) ∧ w' = w := by
  obtain ⟨c0, c1, c2, c3, c4, c5, c6, c7⟩ := h.c
  clear h c0 c1 c2 c3 c4 c5 c6
  unfold pf
  go_enter Try.func16, Try.ntmps16
  go_wp2
  go_ret
  exact ⟨rfl, rfl⟩
set_option maxHeartbeats 400000 in
set_option maxRecDepth 100000 in
theorem arm_any (dp nx : Nat) (S : DS) (L : Lay) (n : Int) (w : World) (h : Rep w dp S L nx) :
    Calls Try.prog 17 #[pf dp, .int .i64 n] w fun e w' => e = .returned (.tuple #[]) ∧ Rep w' dp (arm S n) L nx ∧ Fr [dp] w w' := by
  obtain ⟨c0, c1, c2, c3, c4, c5, c6, c7⟩ := h.c
  have f6 := h.box.frozen 6
  have H := hide h
  unfold arm
  unfold pf
  cases hd : S.dead with
  | true =>
    rw [hd] at c7
    clear h hd
    go_enter Try.func17, Try.ntmps17
    go_wp2
    (try simp only [Exit.inBlock, Exit.then]); refine bodyPost_ret (results_none rfl _ _ _) rfl ?_
    exact ⟨rfl, by simpa using H.out, Fr.refl _ _⟩
  | false =>
    rw [hd] at c7
    have HS : Hid (Rep (w.setCell ⟨dp, 6, none⟩ (.int .i64 (max n 0))) dp { S with armed := n.toNat, dead := false } L nx) := by
      rw [show max n 0 = (n.toNat : Int) by omega, show ({ S with armed := n.toNat, dead := false } : DS) = { S with armed := n.toNat } by rw [← hd]]
      exact h.setBox (S' := { S with armed := n.toNat }) (nx' := nx) 6 _ rfl rfl rfl rfl rfl
    clear h hd
    go_enter Try.func17, Try.ntmps17
    go_wp2
    go_end0
    exact ⟨rfl, by simpa using HS.out, Fr.setCell [dp] w dp 6 _ (by simp)⟩
theorem Rep.at {w : World} {dp nx : Nat} {S : DS} {L : Lay} (h : Rep w dp S L nx) {i : Nat} (hi : i < S.files.length) : ∃ b ao cap, L.bs[i]? = some b ∧ L.bs.getD i 0 = b ∧ L.rv[i]? = some (.slice ao (flAt S.files i).bys.length cap) ∧ Bl w b (fileCells i (.slice ao (flAt S.files i).bys.length cap) (flAt S.files i)) 96 ∧ Own w 0 (.slice ao (flAt S.files i).bys.length cap) (flAt S.files i).bys ∧ Row w ao (flAt S.files i).bys := by
  have h1 : L.bs[i]? = some (L.bs[i]'(by rw [h.blen]; exact hi)) := List.getElem?_eq_getElem _
  have h2 : L.rv[i]? = some (L.rv[i]'(by rw [h.rlen]; exact hi)) := List.getElem?_eq_getElem _
  obtain ⟨hb, ho⟩ := h.file i _ _ h1 h2
  obtain ⟨ao, cap, hv, hle, hr⟩ := ho.read
  rw [hv] at h2 hb ho
  exact ⟨_, ao, cap, h1, by simp [List.getD, h1], h2, hb, ho, hr⟩
theorem Rep.lens {w : World} {dp nx : Nat} {S : DS} {L : Lay} (h : Rep w dp S L nx) (hO : Ok S) : ∀ p ∈ S.dir, ∃ ao cap, w.cell? ⟨L.bs.getD p.2 0, 1, none⟩ = some (.slice ao ((fun i => (flAt S.files i).bys.length) p.2) cap) := fun p hp => by
  obtain ⟨b, ao, cap, _, e, _, hb, _⟩ := h.at (hO.dir.num p hp)
  exact ⟨ao, cap, by rw [e]; exact hb.cell 1⟩
theorem sum_bound (fs : List Fl) (hf : ∀ f ∈ fs, Fok f) : ∀ d : Dir, sizes fs d ≤ 4194304 * d.length
  | [] => Nat.le_refl _
  | p :: d => by
    have := sum_bound fs hf d
    have h2 := (Fok.at hf p.2).len
    rw [sizes_cons, List.length_cons]
    omega
theorem Ok.small {S : DS} (h : Ok S) : sizes S.files S.dir ≤ 268435456 := by
  have h1 := sum_bound S.files h.file S.dir
  have h2 := h.dir.len
  omega
theorem size_disk (dp nx : Nat) (S : DS) (L : Lay) (w : World) (h : Rep w dp S L nx) (hO : Ok S) :
    Calls Try.prog 62 #[.map (some L.bn)] w fun e w' => e = .returned (.int .i64 (sizes S.files S.dir : Int)) ∧ Below w.heap.size w w' := by
  have := size_any L.bn L.bs S.dir (fun i => (flAt S.files i).bys.length) w h.names hO.dir.rising (h.lens hO) (by have := hO.small; unfold sizes at this; omega)
  exact this
theorem below_undrew {w w' : World} (h : Below w.drew.heap.size w.drew w') : Below w.heap.size w w' := ⟨h.os, h.tape, h.output, h.size, h.block⟩
set_option maxHeartbeats 1000000 in
set_option maxRecDepth 100000 in
theorem free_any (dp nx : Nat) (S : DS) (L : Lay) (w : World) (h : Rep w dp S L nx) (hO : Ok S) :
    Calls Try.prog 36 #[pf dp] w fun e w' => e = .returned (.int .i64 (if S.dead then 0 else (S.room : Int) - (sizes S.files S.dir : Int))) ∧ Below w.heap.size w w' := by
  obtain ⟨c0, c1, c2, c3, c4, c5, c6, c7⟩ := h.c
  have HU := hide hO.used
  have HRM := hide hO.room
  have HC := hide (size_disk dp nx S L w.drew (h.drewN 1) hO)
  generalize sizes S.files S.dir = z at *
  generalize S.room = m at *
  unfold pf
  cases hd : S.dead with
  | true =>
    rw [hd] at c7
    clear h hd hO HC
    go_enter Try.func36, Try.ntmps36
    go_wp2
    go_ret
    exact ⟨rfl, Below.refl _ _⟩
  | false =>
    rw [hd] at c7
    have q : wrap64 ((m : Int) - (z : Int)) = (m : Int) - (z : Int) := by have := HU.out; have := HRM.out; unfold wrap64; omega
    have q2 : IntKind.i64.wrap ((m : Int) - (z : Int)) = (m : Int) - (z : Int) := by have := HU.out; have := HRM.out; rw [IntKind.wrap_i64]; omega
    clear h hd hO c1 c2 c4 c5 c6
    go_enter Try.func36, Try.ntmps36
    go_wp2_with fail
    go_region_held (fun W => W.cell? ⟨dp, 3, none⟩ = some (.int .i64 (m : Int)) ∧ W.cell? ⟨dp, 0, none⟩ = some (.map (some L.bn))) (go_keep) (first | (go_at_call 62; refine HC.out.mono ?_; rintro e w2 ⟨rfl, hb⟩; have hb2 := below_undrew hb; have HB2 := hide hb2; have e0 := cell_kept c0 hb2; have e3 := cell_kept c3 hb2; clear hb hb2))
    go_wp2_with fail
    go_ret
    exact ⟨rfl, HB2.out⟩
set_option maxHeartbeats 1000000 in
set_option maxRecDepth 100000 in
theorem read_any (dp nx : Nat) (S : DS) (L : Lay) (nm : Nm) (w : World) (h : Rep w dp S L nx) (hO : Ok S) (hl : nm.length ≤ maxLen) :
    Calls Try.prog 24 #[pf dp, .string (str nm)] w fun e w' => (match (if S.dead then none else dget nm S.dir) with
      | none => e = .returned (.tuple #[.slice none 0 0, .int .i64 (if S.dead then 51 else 7)])
      | some i => ∃ v, e = .returned (.tuple #[v, .int .i64 0]) ∧ Own w' 0 v (flAt S.files i).bys ∧ (∀ g, v.ownBlock = some g → w.heap.size ≤ g)) ∧ Below w.heap.size w w' := by
  have HC := hide (find_any dp nx S L nm w h hl)
  unfold findAns at HC
  cases hd : S.dead with
  | true =>
    rw [hd] at HC
    simp only [if_true] at HC ⊢
    unfold pf at *
    clear h hO hd
    go_enter Try.func24, Try.ntmps24
    go_wp2_with (go_at_call 54; refine HC.out.mono ?_; rintro e w2 ⟨rfl, rfl⟩)
    go_ret2
    exact ⟨rfl, Below.refl _ _⟩
  | false =>
    rw [hd] at HC
    cases hg : dget nm S.dir with
    | none =>
      rw [hg] at HC
      simp only [Bool.false_eq_true, if_false] at HC ⊢
      unfold pf at *
      clear h hO hd hg
      go_enter Try.func24, Try.ntmps24
      go_wp2_with (go_at_call 54; refine HC.out.mono ?_; rintro e w2 ⟨rfl, rfl⟩)
      go_ret2
      exact ⟨rfl, Below.refl _ _⟩
    | some i =>
      rw [hg] at HC
      obtain ⟨b, ao, cap, e1, e2, e3, hb, ho, hr⟩ := h.at (hO.dir.num _ (dget_some hg))
      simp only [Bool.false_eq_true, if_false] at HC ⊢
      rw [e2] at HC
      have b1 : w.cell? ⟨b, 1, none⟩ = some (.slice ao (flAt S.files i).bys.length cap) := hb.cell 1
      have HCL := hide (bytesClone_any ao _ cap (flAt S.files i).bys w rfl hr (by have := (Fok.at hO.file i).len; omega))
      generalize (flAt S.files i).bys = xs at *
      unfold pf at *
      clear h hO hd hg e1 e2 e3 hb ho hr
      go_enter Try.func24, Try.ntmps24
      go_wp2_with (first | (go_at_call 54; refine HC.out.mono ?_; rintro e w2 ⟨rfl, rfl⟩) | (go_at_call 60; refine HCL.out.mono ?_; rintro e w3 ⟨v, rfl, h3, h4, h5⟩; have H3 := hide h3; have H4 := hide h4; have H5 := hide h5; clear h3 h4 h5))
      go_ret2
      exact ⟨⟨v, rfl, H3.out, H4.out⟩, H5.out⟩
end Go.Proofs.Yticbfcognnofbaa
