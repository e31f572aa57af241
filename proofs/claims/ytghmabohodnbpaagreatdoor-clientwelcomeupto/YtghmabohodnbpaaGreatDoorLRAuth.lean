/- The document's byHeader and Authenticate. -/
import Derived.Test.YtghmabohodnbpaaGreatDoorLHdr
import Derived.Test.YtghmabohodnbpaaGreatDoorLRBasic
import Derived.Test.YtghmabohodnbpaaGreatDoorLLaws
namespace Go.Proofs.YtghmabohodnbpaaGreatDoor
open Go.RowKit

def RAuEnd (w : World) (R : Aut) (e : Ending) (w' : World) : Prop := ∃ (c : Cl) (so : Option Addr) (n cp : Nat), e = .returned (.tuple #[.agg #[.string c.id, .string c.secret, .int .i64 c.grants, .bool c.ping, .string c.url, .slice so n cp], .int .i64 R.how, .int .i64 (R.er : Int)]) ∧ R.cl.getD zeroCl = c ∧ SAt w' so n cp c.scopes ∧ Below w.heap.size w w'
theorem rauEnd_bad {w w' : World} {k : Nat} (hb : Below w.heap.size w w') : RAuEnd w ⟨none, 0, k⟩ (.returned (.tuple #[.agg #[.string { data := #[] }, .string { data := #[] }, .int .i64 0, .bool false, .string { data := #[] }, .slice none 0 0], .int .i64 0, .int .i64 (k : Int)])) w' :=
  ⟨zeroCl, none, 0, 0, rfl, rfl, sat_nil w', hb⟩
theorem d6_results3 {fn : Func} {slot s2 s3 N : Nat} (h : fn.results = #[.cell slot 48, .tmp s2, .tmp s3]) {tmps : Array Value} (hs : tmps.getD slot undef = .pointer (some ⟨N, 0, none⟩)) {x y : Value} (hx : tmps.getD s2 undef = x) (hy : tmps.getD s3 undef = y) {w : World} {v0 v1 v2 v3 v4 v5 : Value} (hb : D6 w N v0 v1 v2 v3 v4 v5) : (results fn tmps).run Tryz.prog w = .ok (.tuple #[.agg #[v0, v1, v2, v3, v4, v5], x, y]) w := by
  obtain ⟨j0, j1, j2, j3, j4, j5⟩ := hb.cells
  have hs' : tmps[slot]?.getD undef = .pointer (some ⟨N, 0, none⟩) := by simpa using hs
  have hx' : tmps[s2]?.getD undef = x := by simpa using hx
  have hy' : tmps[s3]?.getD undef = y := by simpa using hy
  simp [results, h, go_sem, hs', hx', hy', j0, j1, j2, j3, j4, j5]
theorem SAt.put {w : World} {N : Nat} {so : Option Addr} {n cp : Nat} {l : List U} {v0 v1 v2 v3 v4 v5 : Value} (h : SAt w so n cp l) (hd : D6 w N v0 v1 v2 v3 v4 v5) (u0 u1 u2 u3 u4 u5 : Value) : SAt (putD w N u0 u1 u2 u3 u4 u5) so n cp l := by
  have hne : ∀ a, so = some a → l ≠ [] → some a.block ≠ some N := by
    intro a ha h0 e
    rcases h.2.2.2 with h2 | h2
    · exact h0 h2
    · obtain ⟨cs, fz, hh⟩ := h2 a ha
      have h3 : w.heap[N]? = _ := hd
      rw [Option.some.inj e, h3] at hh
      simp at hh
  exact ⟨h.1, h.2.1, h.2.2.1.grownR (putD_grown _ _ _ _ _ _ _ _) hne, h.2.2.2.grown (putD_grown _ _ _ _ _ _ _ _) hne⟩
/-- What a header's words answer, in the document's own order. -/
def byH (L : List Cl) (B : Option (List Nat × List Nat)) (id : ByteArray) (hi hs : Bool) : Aut := match B with
  | none => ⟨none, 0, 113⟩
  | some (a, s) => if hs = true then ⟨none, 0, 34⟩ else if hi = true ∧ id ≠ bstr a then ⟨none, 0, 112⟩ else authF 1 (bstr s) (findR L (bstr a))
/-- What both answer: the claim of header and form. -/
def claimT (header : ByteArray) (l : List Two) : Clm := if header.size = 0 then claim0 (formT l) else claimH (basT (sbytes header)) (formT l)
/-- The document's order comes to the same. -/
theorem auth_doc (L : List Cl) (header : ByteArray) (l : List Two) (x y : List Nat) (i j : Nat) (h1 : ones nId l = (x, i)) (h2 : ones nSec l = (y, j)) :
    (1 < i ∨ 1 < j → authR L (claimT header l) = ⟨none, 0, 34⟩) ∧
    (¬ 1 < i → ¬ 1 < j → header.size ≠ 0 → authR L (claimT header l) = byH L (basT (sbytes header)) (bstr x) (!x.isEmpty) (!y.isEmpty)) ∧
    (¬ 1 < i → ¬ 1 < j → header.size = 0 → x = [] → authR L (claimT header l) = ⟨none, 0, 7⟩) ∧
    (¬ 1 < i → ¬ 1 < j → header.size = 0 → x ≠ [] → authR L (claimT header l) = authF (if y = [] then 0 else 2) (bstr y) (findR L (bstr x))) := by
  have hf : formT l = if 1 < i then badClm 34 else if 1 < j then badClm 34 else ⟨if y = [] then 0 else 2, bstr x, bstr y, 0⟩ := by unfold formT; rw [h1, h2]
  have hbz : ∀ z : List Nat, (bstr z).size = 0 ↔ z = [] := fun z => by rw [bstr_size]; exact List.length_eq_zero_iff
  refine ⟨fun h => ?_, fun a b c => ?_, fun a b c d => ?_, fun a b c d => ?_⟩
  · have hb : formT l = badClm 34 := by
      rw [hf]
      by_cases hi : 1 < i
      · rw [if_pos hi]
      · rw [if_neg hi, if_pos (by omega)]
    unfold claimT claim0 claimH
    rw [hb]
    by_cases hz : header.size = 0
    · rw [if_pos hz]; rfl
    · rw [if_neg hz]; rfl
  · unfold claimT
    rw [if_neg c]
    unfold claimH
    rw [hf, if_neg a, if_neg b, if_neg (by simp)]
    cases hB : basT (sbytes header) with
    | none => rfl
    | some ab =>
      obtain ⟨u, v⟩ := ab
      unfold byH hdrT
      dsimp only
      by_cases hy : y = []
      · subst hy
        rw [if_neg (by simp [(hbz []).2 rfl]), if_neg (show ¬ (!([] : List Nat).isEmpty) = true by simp)]
        by_cases hx : x = []
        · subst hx
          rw [if_neg (fun h => h.1 ((hbz []).2 rfl)), if_neg (by simp)]
          rfl
        · have hx2 : (!x.isEmpty) = true := by cases x with | nil => exact absurd rfl hx | cons => rfl
          by_cases he : bstr x = bstr u
          · rw [if_neg (fun h => h.2 he), if_neg (fun h => h.2 he)]
            rfl
          · rw [if_pos ⟨fun h => hx ((hbz x).1 h), he⟩, if_pos ⟨hx2, he⟩]
            rfl
      · have hy2 : (!y.isEmpty) = true := by cases y with | nil => exact absurd rfl hy | cons => rfl
        rw [if_pos (fun h => hy ((hbz y).1 h)), if_pos hy2]
        rfl
  · unfold claimT
    rw [if_pos c]
    unfold claim0
    rw [hf, if_neg a, if_neg b, if_neg (by simp), if_pos (by rw [d]; rfl)]
    rfl
  · unfold claimT
    rw [if_pos c]
    unfold claim0
    rw [hf, if_neg a, if_neg b, if_neg (by simp), if_neg (fun h => d ((hbz x).1 h))]
    unfold authR
    rw [if_neg (by simp)]
/-- By its name and what it told. -/
theorem auth_form (y : List Nat) (q : Cl) : authF (if y = [] then 0 else 2) (bstr y) (some q) = if q.secret = bstr y then (if q.secret.size = 0 then ⟨some q, 0, 0⟩ else ⟨some q, 2, 0⟩) else ⟨none, 0, 112⟩ := by
  have hbz : ∀ z : List Nat, (bstr z).size = 0 ↔ z = [] := fun z => by rw [bstr_size]; exact List.length_eq_zero_iff
  by_cases hy : y = []
  · subst hy
    rw [if_pos rfl]
    have e : holdsB 0 (bstr []) q.secret = decide (bstr [] = q.secret) := by unfold holdsB; rw [if_neg (by decide), if_pos rfl]
    show (if holdsB 0 (bstr []) q.secret = true then _ else _) = _
    rw [e]
    by_cases he : q.secret = bstr []
    · rw [if_pos he, if_pos (decide_eq_true he.symm), if_pos (by rw [he]; rfl)]
    · rw [if_neg he, if_neg (by rw [decide_eq_false (fun e => he e.symm)]; simp)]
  · rw [if_neg hy]
    have e : holdsB 2 (bstr y) q.secret = (decide (0 < q.secret.size) && decide (bstr y = q.secret)) := by unfold holdsB; rw [if_pos (by decide)]
    show (if holdsB 2 (bstr y) q.secret = true then _ else _) = _
    rw [e]
    by_cases he : q.secret = bstr y
    · have hz : ¬ q.secret.size = 0 := by rw [he]; exact fun h => hy ((hbz y).1 h)
      rw [if_pos he, if_neg hz, if_pos (by rw [decide_eq_true (p := 0 < q.secret.size) (by omega), decide_eq_true he.symm]; rfl)]
    · rw [if_neg he, if_neg (by rw [decide_eq_false (p := bstr y = q.secret) (fun e => he e.symm)]; simp)]
end Go.Proofs.YtghmabohodnbpaaGreatDoor
