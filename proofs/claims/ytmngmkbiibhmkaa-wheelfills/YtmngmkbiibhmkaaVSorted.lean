/- slices.Sorted(maps.Keys(m)). -/
import Derived.Test.YtmngmkbiibhmkaaVColl
namespace Go.Proofs.Ytmngmkbiibhmkaa
open Go.RowKit Go.Shelf Go.Maps

set_option maxHeartbeats 1000000 in
theorem insertNil_any (w : World) : Calls Try.prog 74 #[.slice none 0 0, .int .i64 0, .int .i64 0] w fun e w' => e = .returned (.tuple #[]) ∧ w' = w := by
  go_enter Try.func74, Try.ntmps74
  go_wp2
  go_loopw [6] (fun v6 wr => v6 = .int .i64 1 ∧ wr = w) (fun _ _ => 0)
  case atStart => exact ⟨rfl, rfl⟩
  case round =>
    obtain ⟨rfl, rfl⟩ := hrel
    go_wp2_with fail
    go_end0
    exact ⟨rfl, rfl⟩
set_option maxHeartbeats 1000000 in
theorem pdqNil_any (lim : Nat) (w : World) : Calls Try.prog 68 #[.slice none 0 0, .int .i64 0, .int .i64 0, .int .i64 (lim : Int)] w fun e w' => e = .returned (.tuple #[]) ∧ w' = w := by
  go_enter Try.func68, Try.ntmps68
  go_wp2
  go_loopw [1, 2, 3, 8, 9] (fun v1 v2 v3 v8 v9 wr => v1 = .int .i64 0 ∧ v2 = .int .i64 0 ∧ v3 = .int .i64 (lim : Int) ∧ v8 = .bool true ∧ v9 = .bool true ∧ wr = w) (fun _ _ _ _ _ _ => 0)
  case atStart => exact ⟨rfl, rfl, rfl, rfl, rfl, rfl⟩
  case round =>
    obtain ⟨rfl, rfl, rfl, rfl, rfl, rfl⟩ := hrel
    go_wp2_with (go_at_call 74; refine (insertNil_any _).mono ?_; rintro e w2 ⟨rfl, hw⟩; have h := hw.symm; subst h)
    first | go_end0 | ((try simp only [Exit.inBlock, Exit.then]); refine bodyPost_ret (results_none rfl _ _ _) rfl ?_)
    exact ⟨rfl, rfl⟩
set_option maxHeartbeats 1000000 in
theorem sortNil_any (w : World) : Calls Try.prog 55 #[.slice none 0 0] w fun e w' => e = .returned (.tuple #[]) ∧ w' = w := by
  have B := hide (blen_any 0 (by decide) w)
  go_enter Try.func55, Try.ntmps55
  go_wp2_with (first | (go_at_call 52; refine B.out.mono ?_; rintro e w2 ⟨lim, hlim, rfl, hw⟩; have h := hw.symm; subst h) | (go_at_call 68; refine (pdqNil_any lim _).mono ?_; rintro e w3 ⟨rfl, hw⟩; have h := hw.symm; subst h))
  go_end0
  exact ⟨rfl, rfl⟩
theorem sortOwn_any (B : Nat) (v : Value) (ss : List Nat) (w : World) (hO : Own w B v ss) (hd : ss.Nodup) (hl : ss.length ≤ 1000000) :
    Calls Try.prog 55 #[v] w fun e w' => e = .returned (.tuple #[]) ∧ ∃ es, es.Perm ss ∧ Srt 0 ss.length es ∧ Own w' B v es ∧ w.grownBy w' v.ownBlock := by
  have h1 := hO.1
  rcases hO.2 with ⟨hv, hx⟩ | ⟨g, cap, cur, rfl, hb, hg, c1, c2, c3, c4⟩
  · subst hv
    have hs : ss = [] := by simpa using hx
    subst hs
    exact (sortNil_any w).mono fun e w' h => ⟨h.1, [], .refl _, fun p q k1 k2 k3 => by simp at k3, by rw [h.2]; exact hO, by rw [h.2]; exact ⟨rfl, rfl, rfl, Nat.le_refl _, fun _ _ _ => rfl⟩⟩
  · have hc : cur.toList = ss.map uv ++ cur.toList.drop ss.length := by
      rw [Nat.mul_one] at c4
      rw [← c4, List.take_append_drop]
    have hB : Bl w g (ss.map uv ++ cur.toList.drop ss.length) 22 := by
      unfold Bl
      rw [← hc, hg]
    refine (sortU_any g ss.length cap ss _ w hB rfl hd hl).mono ?_
    rintro e w' ⟨rfl, es, j1, j2, j3⟩
    refine ⟨rfl, es, j2, j3, ?_, ⟨j1.but.os, j1.but.tape, j1.but.output, j1.but.size, fun k hk hne => j1.but.block k hk (fun e => hne (by rw [e]; rfl))⟩⟩
    have hle : es.length = ss.length := j2.length_eq
    refine ⟨by simp, .inr ⟨g, cap, (es.map uv ++ cur.toList.drop ss.length).toArray, by rw [hle], hb, j1.bl, by rw [hle]; exact c1, c2, ?_, ?_⟩⟩
    · have e := congrArg List.length hc
      simp only [Array.length_toList, List.length_append, List.length_map] at e
      simp only [List.size_toArray, List.length_append, List.length_map, hle]
      rw [← e]; exact c3
    · simp
end Go.Proofs.Ytmngmkbiibhmkaa
