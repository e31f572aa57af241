/- maps.Keys, Collect, Sorted as calls: the ids by their rising. -/
import Derived.Test.YtmngmkbiibhmkaaVSorted
namespace Go.Proofs.Ytmngmkbiibhmkaa
open Go.RowKit Go.Shelf Go.Maps

abbrev keysF (Bm : Nat) : Value := .func (.func 56) #[] #[.pointer (some ⟨Bm, 0, none⟩)]
set_option maxHeartbeats 1000000 in
theorem keys_any (b : Nat) (w : World) : Calls Try.prog 49 #[.map (some b)] w fun e w' => e = .returned (keysF w.heap.size) ∧ w' = w.alloc (.cells #[.map (some b)] 64) := by
  go_enter Try.func49, Try.ntmps49
  go_wp2
  go_ret
  exact ⟨rfl, rfl⟩
theorem srt_eq {es ks : List Nat} (hp : es.Perm ks) (hs : Srt 0 es.length es) (hk : ks.Pairwise (· ≤ ·)) : es = ks := by
  refine List.Perm.eq_of_pairwise (le := (· ≤ ·)) (fun a b _ _ h1 h2 => Nat.le_antisymm h1 h2) ?_ hk hp
  rw [List.pairwise_iff_getElem]
  intro i j hi hj hij
  have := hs i j (Nat.zero_le _) hij hj
  simpa [gt, List.getD, hi, hj] using this
set_option maxHeartbeats 1000000 in
theorem collect_any (Bm b : Nat) (L : List Tm) (hn : (L.map Prod.fst).Nodup) (hhas : ∀ x : Nat, has (DT L) (.int .u64 (x : Int)) = true ↔ x ∈ L.map Prod.fst) (hl : L.length ≤ 1000000) (w : World)
    (hBm : Bm < w.heap.size) (hm : w.cell? ⟨Bm, 0, none⟩ = some (.map (some b))) (hown : MapAt w b L) :
    Calls Try.prog 54 #[keysF Bm] w fun e w' => ∃ (v : Value) (ss : List Nat), e = .returned v ∧ ss.Perm (L.map Prod.fst) ∧ Own w' w.heap.size v ss ∧ Below w.heap.size w w' := by
  have A := hide (callsIn_wide.1 (appendSeq_in 9 Bm b L hn hhas hl w hBm hm hown))
  clear hn hhas hm hown
  go_enter Try.func54, Try.ntmps54
  go_wp2_with (go_at_call 67; refine A.out.mono ?_; rintro e w2 ⟨v, ss, rfl, hw⟩; have HW := hide hw; clear hw A)
  go_ret
  exact ⟨v, ss, rfl, HW.out⟩
set_option maxHeartbeats 1000000 in
theorem sorted_any (Bm b : Nat) (L : List Tm) (hn : (L.map Prod.fst).Pairwise (· < ·)) (hhas : ∀ x : Nat, has (DT L) (.int .u64 (x : Int)) = true ↔ x ∈ L.map Prod.fst) (hl : L.length ≤ 1000000) (w : World)
    (hBm : Bm < w.heap.size) (hm : w.cell? ⟨Bm, 0, none⟩ = some (.map (some b))) (hown : MapAt w b L) :
    Calls Try.prog 48 #[keysF Bm] w fun e w' => ∃ v, e = .returned v ∧ Own w' w.heap.size v (L.map Prod.fst) ∧ Below w.heap.size w w' := by
  have hnd : (L.map Prod.fst).Nodup := hn.imp fun h => Nat.ne_of_lt h
  have A := hide (collect_any Bm b L hnd hhas hl w hBm hm hown)
  have HN := hide hn
  have HD := hide hnd
  clear hn hhas hm hown hnd
  go_enter Try.func48, Try.ntmps48
  go_wp2_with fail
  refine A.out.mono ?_
  rintro e w2 ⟨v, ss, rfl, h1, h2, h3⟩
  have S := sortOwn_any w.heap.size v ss w2 h2 (h1.nodup_iff.2 HD.out) (by rw [h1.length_eq, List.length_map]; exact hl)
  have HE : Hid (∀ w3, (∃ es, es.Perm ss ∧ Srt 0 ss.length es ∧ Own w3 w.heap.size v es ∧ w2.grownBy w3 v.ownBlock) → Own w3 w.heap.size v (L.map Prod.fst) ∧ Below w.heap.size w w3) := by
    rintro w3 ⟨es, k1, k2, k3, k4⟩
    have he : es = L.map Prod.fst := srt_eq (k1.trans h1) (by rw [k1.length_eq]; exact k2) (HN.out.imp Nat.le_of_lt)
    rw [he] at k3
    exact ⟨k3, h3.grown k4 h3.size (fun j hj => (h2.lt j hj).1)⟩
  obtain ⟨ao, k, cap, rfl⟩ := own_shape h2
  have HS := hide S
  clear A h1 h2 h3 S
  go_wp2_with (go_at_call 55; refine HS.out.mono ?_; rintro e w3 ⟨rfl, hw⟩; have HW := hide (HE.out w3 hw); clear hw)
  go_ret
  exact ⟨_, rfl, HW.out⟩
end Go.Proofs.Ytmngmkbiibhmkaa
