/- Reading and printing, as the laws meet them: what is read, and what is not. -/
import Derived.Test.YtaenccjlokiejaaGreatDoorHLive
import Derived.Test.YtaenccjlokiejaaGreatDoorHResp
import Derived.Test.YtaenccjlokiejaaGreatDoorHBackM
namespace Go.Proofs.YtaenccjlokiejaaGreatDoor
open Go.RowKit Go.Shelf

abbrev S0 : Value := .string { data := #[] }
theorem pReqE {raw : U} {e : Nat × Nat} (h : parseReqR raw = .error e) (w : World) (hl : raw.length ≤ 9223372036854775807) (E : Env w) :
    Calls Tryz.prog 14 #[.string (str raw)] w fun r w' => r = .returned (.tuple #[.agg #[.string { data := #[] }, .string { data := #[] }, .slice none 0 0, .string { data := #[] }], .int .i64 (e.1 : Int), .int .i64 (e.2 : Int)]) ∧ e.1 ≠ 0 ∧ Below w.heap.size w w' := by
  have hp := parseRequest_any raw w hl E
  rw [h] at hp
  refine hp.mono ?_
  rintro r w' ⟨v, rfl, hne, hb⟩
  exact ⟨rfl, hne, hb⟩
theorem pReqO {raw : U} {q : Rq} (h : parseReqR raw = .ok q) (w : World) (hl : raw.length ≤ 9223372036854775807) (E : Env w) :
    Calls Tryz.prog 14 #[.string (str raw)] w fun r w' => ∃ ao cap, r = .returned (.tuple #[.agg #[.string (str q.m), .string (str q.t), .slice ao q.fs.length cap, .string (str q.b)], .int .i64 0, .int .i64 0]) ∧ FOwn 78 w' w.heap.size (.slice ao q.fs.length cap) q.fs ∧ q.fs.length ≤ 64 ∧ Below w.heap.size w w' := by
  have hp := parseRequest_any raw w hl E
  rw [h] at hp
  refine hp.mono ?_
  rintro r w' ⟨v, rfl, ⟨ho, h64⟩, hb⟩
  obtain ⟨ao, cap, rfl, _, _, _⟩ := ho.shape
  exact ⟨ao, cap, rfl, ho, h64, hb⟩
theorem parseResponseE {raw : U} {e : Nat × Nat} (h : parseRespR raw = .error e) (w : World) (hl : raw.length ≤ 9223372036854775807) (E : Env w) :
    Calls Tryz.prog 18 #[.string (str raw)] w fun r w' => r = .returned (.tuple #[.agg #[.int .i64 0, .slice none 0 0, .string { data := #[] }], .int .i64 (e.1 : Int), .int .i64 (e.2 : Int)]) ∧ e.1 ≠ 0 ∧ Below w.heap.size w w' := by
  have hp := parseResponse_any raw w hl E
  rw [h] at hp
  refine hp.mono ?_
  rintro r w' ⟨v, rfl, hne, hb⟩
  exact ⟨rfl, hne, hb⟩
theorem parseResponseO {raw : U} {q : Rs} (h : parseRespR raw = .ok q) (w : World) (hl : raw.length ≤ 9223372036854775807) (E : Env w) :
    Calls Tryz.prog 18 #[.string (str raw)] w fun r w' => ∃ ao cap, r = .returned (.tuple #[.agg #[.int .i64 (q.n : Int), .slice ao q.fs.length cap, .string (str q.b)], .int .i64 0, .int .i64 0]) ∧ FOwn 78 w' w.heap.size (.slice ao q.fs.length cap) q.fs ∧ q.fs.length ≤ 64 ∧ Below w.heap.size w w' := by
  have hp := parseResponse_any raw w hl E
  rw [h] at hp
  refine hp.mono ?_
  rintro r w' ⟨v, rfl, ⟨ho, h64⟩, hb⟩
  obtain ⟨ao, cap, rfl, _, _, _⟩ := ho.shape
  exact ⟨ao, cap, rfl, ho, h64, hb⟩
theorem rem_nat {c n : Nat} (_ : 0 < n) : ((c : Int).tmod (n : Int)) = ((c % n : Nat) : Int) := by
  rw [Int.tmod_eq_emod_of_nonneg (by omega)]
  exact (Int.natCast_emod c n).symm
theorem add_strH {x y : U} (h : x.length + y.length ≤ 9223372036854775807) : ∀ w, (Op.stringOp .add (str x) (str y)).run Tryz.prog w = .ok (.string (str (x ++ y))) w := fun w => by
  have e := str_app x y
  have h1 := str_size x
  have h2 := str_size y
  simp [Op.stringOp, e]
  omega
end Go.Proofs.YtaenccjlokiejaaGreatDoor
