/- A text turned into bytes in a drawn region. -/
import Derived.Test.YtghmabohodnbpaaGreatDoorLWelN
import Derived.Test.YtghmabohodnbpaaGreatDoorLProofW
import Derived.Test.YtghmabohodnbpaaGreatDoorLSameA
import Derived.Test.YtghmabohodnbpaaGreatDoorLRCheckB
namespace Go.Proofs.YtghmabohodnbpaaGreatDoor
open Go.RowKit

theorem law_conv {w : World} {ops : Array Oper} {o : Oper} {a : Act} {K : Act → World → Prop} {Q : Exit → Act → World → Prop} {E : Prop} (hgd : o.guard = none) (x : Operand)
    (ho : o.op = .convert 9 55 x) (s : ByteArray) (hx : a.eval x = .string s)
    (h : ∀ c w', Row w' (some ⟨w.heap.size, 0, none⟩) (sbytes s) → Below w.heap.size w w' → K (a.put o.dst (.slice (some ⟨w.heap.size, 0, none⟩) s.size c)) w') : if Region.wanted o (yielded ops a.tmps) = true then Oper.wp Tryz.prog o a w K Q else E := by
  rw [if_pos (by simp [Region.wanted, hgd])]
  obtain ⟨c, w', hrun, hrow⟩ := conv_bytes w s
  unfold Oper.wp
  simp [execOp, ho, hx, hrun, Result.andThen]
  exact h c w' hrow.out.1 hrow.out.2.1
end Go.Proofs.YtghmabohodnbpaaGreatDoor
/- What the walk of ClientWelcome stands on: who is found, how long, and a header step by step. -/
namespace Go.Proofs.YtghmabohodnbpaaGreatDoor
open Go.RowKit

theorem find_mem {L : List Cl} {q : Cl} (h : q ∈ L) : ∃ q2, findR L q.id = some q2 ∧ q2.id = q.id := by
  cases hF : findR L q.id with
  | some q2 => exact ⟨q2, rfl, (find_id hF).1⟩
  | none =>
    exfalso
    unfold findR at hF
    cases hp : posOf L q.id with
    | none =>
      unfold posOf at hp
      rw [List.findIdx?_eq_none_iff] at hp
      have := hp q h
      simp at this
    | some i =>
      rw [hp] at hF
      have hi := posOf_lt hp
      have : L[i]? = none := hF
      rw [List.getElem?_eq_getElem hi] at this
      cases this
theorem find_in {L : List Cl} {nm : ByteArray} {q : Cl} (h : findR L nm = some q) : q ∈ L := by
  unfold findR at h
  cases hp : posOf L nm with
  | none => rw [hp] at h; cases h
  | some i => rw [hp] at h; exact List.mem_of_getElem? h
theorem check_sizes {c : Cl} (h : checkB c = true) : (1 ≤ c.id.size ∧ c.id.size ≤ 64) ∧ c.secret.size ≤ 256 := by
  unfold checkB idB secretB at h
  simp only [Bool.and_eq_true, decide_eq_true_eq] at h
  exact ⟨h.1.1.1.1.1, h.1.1.1.2.1⟩
/-- What a header is made of, step by step. -/
structure Spell (sch : List Nat) (a b : ByteArray) (EA EB EC ED EF EW : ByteArray) : Prop where
  e1 : ∀ W : World, Calls Tryz.prog 22 #[.string a] W fun e w' => e = .returned (.string EA) ∧ Below W.heap.size W w'
  e2 : ∀ W : World, Calls Tryz.prog 22 #[.string b] W fun e w' => e = .returned (.string EB) ∧ Below W.heap.size W w'
  a1 : ∀ w, (Op.stringOp .add EA { data := #[58] }).run Tryz.prog w = .ok (.string EC) w
  a2 : ∀ w, (Op.stringOp .add EC EB).run Tryz.prog w = .ok (.string ED) w
  bc : ∀ (W : World) ao c, Row W ao (sbytes ED) → Calls Tryz.prog 21 #[.slice ao ED.size c] W fun e w' => e = .returned (.string EF) ∧ Below W.heap.size W w'
  a3 : ∀ w, (Op.stringOp .add (bstr sch) EF).run Tryz.prog w = .ok (.string EW) w
  is : EW = bstr (wordT sch a b)
theorem spell (sch : List Nat) (hs : sch.length ≤ 7) (a b : ByteArray) (ha : a.size ≤ 1048576) (hb : b.size ≤ 1048576) : ∃ EA EB EC ED EF EW, Spell sch a b EA EB EC ED EF EW := by
  have la := (esc_len (sbytes a)).2
  have lb := (esc_len (sbytes b)).2
  rw [sbytes_length] at la lb
  have hp : ∀ y ∈ esc (sbytes a) ++ 58 :: esc (sbytes b), y < 256 := by
    intro y hy
    rcases List.mem_append.1 hy with hy | hy
    · exact esc_lt (sbytes_lt a) y hy
    · rcases List.mem_cons.1 hy with rfl | hy
      · decide
      · exact esc_lt (sbytes_lt b) y hy
  obtain ⟨-, -, -, -, lp⟩ := bcOf_split (esc (sbytes a) ++ 58 :: esc (sbytes b))
  have ll : (esc (sbytes a) ++ 58 :: esc (sbytes b)).length = (esc (sbytes a)).length + (esc (sbytes b)).length + 1 := by simp; omega
  refine ⟨bstr (esc (sbytes a)), bstr (esc (sbytes b)), bstr (esc (sbytes a) ++ [58]), bstr (esc (sbytes a) ++ 58 :: esc (sbytes b)), bstr (bcOf (esc (sbytes a) ++ 58 :: esc (sbytes b))), _, ⟨fun W => refEscape_any a W (by omega), fun W => refEscape_any b W (by omega), add_str2 (y := [58]) (by simp; omega), ?_, ?_, ?_, rfl⟩⟩
  · have := add_str2 (x := esc (sbytes a) ++ [58]) (y := esc (sbytes b)) (by simp; omega)
    rw [show esc (sbytes a) ++ [58] ++ esc (sbytes b) = esc (sbytes a) ++ 58 :: esc (sbytes b) by simp] at this
    exact this
  · intro W ao c hr
    rw [sbytes_bstr hp] at hr
    exact lbase64_any _ c ao _ W (by rw [bstr_size]) (by rw [bstr_size]; omega) hr hp
  · exact add_str2 (by omega)
/-- A text turned into bytes, whatever the world. -/
theorem conv_all (s : ByteArray) : ∃ (cf : World → Nat) (wf : World → World), ∀ W, (convert 9 55 (.string s)).run Tryz.prog W = .ok (.slice (some ⟨W.heap.size, 0, none⟩) s.size (cf W)) (wf W) ∧ Row (wf W) (some ⟨W.heap.size, 0, none⟩) (sbytes s) ∧ Below W.heap.size W (wf W) := by
  refine ⟨fun W => (conv_bytes W s).choose, fun W => (conv_bytes W s).choose_spec.choose, fun W => ?_⟩
  have h := (conv_bytes W s).choose_spec.choose_spec
  exact ⟨h.1, h.2.out.1, h.2.out.2.1⟩
end Go.Proofs.YtghmabohodnbpaaGreatDoor
/- What Authenticate answers to the four askings of the law ClientWelcome, and the pairs that they send. -/
namespace Go.Proofs.YtghmabohodnbpaaGreatDoor
open Go.RowKit

/-- Two cells in a block: a pair. -/
def P2 (w : World) (N : Nat) (v0 v1 : Value) : Prop := w.heap[N]? = some (.cells #[v0, v1] 58 (0, 0))
theorem P2.lt {w : World} {N : Nat} {v0 v1 : Value} (h : P2 w N v0 v1) : N < w.heap.size := (Array.getElem?_eq_some_iff.1 h).1
theorem P2.keep {w w' : World} {N B : Nat} {v0 v1 : Value} (h : P2 w N v0 v1) (hb : Below B w w') (hB : N < B) : P2 w' N v0 v1 := (hb.block N hB).trans h
theorem P2.cells {w : World} {N : Nat} {v0 v1 : Value} (h : P2 w N v0 v1) : w.cell? ⟨N, 0, none⟩ = some v0 ∧ w.cell? ⟨N, 1, none⟩ = some v1 := by
  refine ⟨?_, ?_⟩ <;> (rw [cell_of_row w N _ _ 58 (0, 0) h]; rfl)
theorem bstr_nId : bstr nId = { data := #[99, 108, 105, 101, 110, 116, 95, 105, 100] } := by kernel_rfl
theorem bstr_nSec : bstr nSec = { data := #[99, 108, 105, 101, 110, 116, 95, 115, 101, 99, 114, 101, 116] } := by kernel_rfl
theorem nId_lt : ∀ x ∈ nId, x < 256 := by decide
theorem nSec_lt : ∀ x ∈ nSec, x < 256 := by decide
theorem prow_one (w : World) (a : ByteArray) : PRow (w.alloc (.cells #[.string { data := #[99, 108, 105, 101, 110, 116, 95, 105, 100] }, .string a] 58)) (some ⟨w.heap.size, 0, none⟩) [(nId, sbytes a)] := by
  have h := prow_new w [(nId, sbytes a)]
  rw [show flat2 [(nId, sbytes a)] = [.string { data := #[99, 108, 105, 101, 110, 116, 95, 105, 100] }, .string a] by simp only [flat2, List.flatMap_cons, List.flatMap_nil, List.append_nil, bstr_sbytes, bstr_nId]] at h
  exact h
theorem prow_two (w : World) (a b : ByteArray) : PRow (w.alloc (.cells #[.string { data := #[99, 108, 105, 101, 110, 116, 95, 105, 100] }, .string a, .string { data := #[99, 108, 105, 101, 110, 116, 95, 115, 101, 99, 114, 101, 116] }, .string b] 58)) (some ⟨w.heap.size, 0, none⟩) [(nId, sbytes a), (nSec, sbytes b)] := by
  have h := prow_new w [(nId, sbytes a), (nSec, sbytes b)]
  rw [show flat2 [(nId, sbytes a), (nSec, sbytes b)] = [.string { data := #[99, 108, 105, 101, 110, 116, 95, 105, 100] }, .string a, .string { data := #[99, 108, 105, 101, 110, 116, 95, 115, 101, 99, 114, 101, 116] }, .string b] by simp only [flat2, List.flatMap_cons, List.flatMap_nil, List.append_nil, List.cons_append, List.nil_append, bstr_sbytes, bstr_nId, bstr_nSec]] at h
  exact h
theorem prow_two2 (w : World) (a b : ByteArray) : PRow (w.alloc (.cells #[.string { data := #[99, 108, 105, 101, 110, 116, 95, 115, 101, 99, 114, 101, 116] }, .string b, .string { data := #[99, 108, 105, 101, 110, 116, 95, 105, 100] }, .string a] 58)) (some ⟨w.heap.size, 0, none⟩) [(nSec, sbytes b), (nId, sbytes a)] := by
  have h := prow_new w [(nSec, sbytes b), (nId, sbytes a)]
  rw [show flat2 [(nSec, sbytes b), (nId, sbytes a)] = [.string { data := #[99, 108, 105, 101, 110, 116, 95, 115, 101, 99, 114, 101, 116] }, .string b, .string { data := #[99, 108, 105, 101, 110, 116, 95, 105, 100] }, .string a] by simp only [flat2, List.flatMap_cons, List.flatMap_nil, List.append_nil, List.cons_append, List.nil_append, bstr_sbytes, bstr_nId, bstr_nSec]] at h
  exact h
def AuthEnd (w : World) (rc : Option Cl) (h : Int) (er : Nat) (e : Ending) (w' : World) : Prop := ∃ (c : Cl) (so : Option Addr) (n cp : Nat), e = .returned (.tuple #[.agg #[.string c.id, .string c.secret, .int .i64 c.grants, .bool c.ping, .string c.url, .slice so n cp], .int .i64 h, .int .i64 (er : Int)]) ∧ rc.getD zeroCl = c ∧ n = c.scopes.length ∧ SRow w' so c.scopes ∧ Below w.heap.size w w'
/-- The pairs of an asking. -/
def Asks (a b : ByteArray) (l : List Two) : Prop := l = [] ∨ l = [(nId, sbytes a)] ∨ l = [(nId, sbytes a), (nSec, sbytes b)] ∨ l = [(nSec, sbytes b), (nId, sbytes a)]
theorem asks_bytes {a b : ByteArray} {l : List Two} (h : Asks a b l) : ∀ q ∈ l, bytes2 q := by
  rcases h with rfl | rfl | rfl | rfl <;> intro q hq <;> simp only [List.mem_cons, List.not_mem_nil, or_false] at hq
  · subst hq; exact ⟨nId_lt, sbytes_lt a⟩
  · rcases hq with rfl | rfl
    · exact ⟨nId_lt, sbytes_lt a⟩
    · exact ⟨nSec_lt, sbytes_lt b⟩
  · rcases hq with rfl | rfl
    · exact ⟨nSec_lt, sbytes_lt b⟩
    · exact ⟨nId_lt, sbytes_lt a⟩
theorem asks_small {a b : ByteArray} {l : List Two} (h : Asks a b l) (ha : a.size ≤ 1048576) (hb : b.size ≤ 1048576) : l.length ≤ 2 ∧ ∀ q ∈ l, q.2.length ≤ 1048576 := by
  have ha2 : (sbytes a).length ≤ 1048576 := by rw [sbytes_length]; exact ha
  have hb2 : (sbytes b).length ≤ 1048576 := by rw [sbytes_length]; exact hb
  rcases h with rfl | rfl | rfl | rfl <;> refine ⟨by simp, fun q hq => ?_⟩ <;> simp only [List.mem_cons, List.not_mem_nil, or_false] at hq
  · subst hq; exact ha2
  · rcases hq with rfl | rfl
    · exact ha2
    · exact hb2
  · rcases hq with rfl | rfl
    · exact hb2
    · exact ha2
theorem auth_of (n c fn fc : Nat) (ao fo : Option Addr) (L : List Cl) (header a b : ByteArray) (l : List Two) (rc : Option Cl) (h : Int) (er : Nat) (hR : authR L (claimT header l) = ⟨rc, h, er⟩) (w : World) (hn : n = L.length) (hl : n ≤ 4398046511104) (hr : CRow w ao L) (hz : ∀ c ∈ L, ClSmall c)
    (hA : Asks a b l) (ha : a.size ≤ 1048576) (hb : b.size ≤ 1048576) (hfn : fn = l.length) (hp : PRow w fo l) (hM : MaxL w) :
    Calls Tryz.prog 23 #[.slice ao n c, .string header, .slice fo fn fc] w fun e w' => True ∧ AuthEnd w rc h er e w' := by
  obtain ⟨h2, h3⟩ := asks_small hA ha hb
  have hbl := asks_bytes hA
  obtain ⟨f1, f2⟩ := claimT_facts header l h3
  have := auth_own n c fn fc ao fo L header (claimT header l) w hn hl hr hz (fun W hW => claimT_any header fn fc fo l W hfn (by omega) hbl (fun q hq => Nat.le_trans (h3 q hq) (by omega)) (hp.keep hW) (hM.keep hW)) f1 (by omega)
  rw [hR] at this
  refine this.mono ?_
  rintro e w' ⟨-, B, q, so, k, cp, rfl, hq, -, hk, hown, hbw⟩
  exact ⟨trivial, q, so, k, cp, rfl, hq, hk, hown.row, hbw⟩
/-- What the four askings are told. -/
structure Told (q : Cl) (sec : ByteArray) (SW SW2 : ByteArray) (r1 r2 r3 r4 : Aut) : Prop where
  own : SW.size ≤ 1024 → SW2.size ≤ 1024 → r1 = (if 0 < q.secret.size then ⟨some q, 1, 0⟩ else ⟨none, 0, 112⟩) ∧ r3 = if 0 < q.secret.size ∧ sec = q.secret then ⟨some q, 1, 0⟩ else ⟨none, 0, 112⟩
  two : r2 = ⟨some q, if q.secret.size = 0 then 0 else 2, 0⟩
  four : r4 = if sec = q.secret then ⟨some q, if sec.size = 0 then 0 else 2, 0⟩ else ⟨none, 0, 112⟩
theorem told (L : List Cl) (q : Cl) (hF : findR L q.id = some q) (hid : q.id.size ≠ 0) (sec SW SW2 : ByteArray) (h1 : SW = bstr (wordT sch1 q.id q.secret)) (h2 : SW2 = bstr (wordT sch2 q.id sec)) :
    Told q sec SW SW2 (authR L (claimT SW [])) (authR L (claimT { data := #[] } [(nId, sbytes q.id), (nSec, sbytes q.secret)])) (authR L (claimT SW2 [(nId, sbytes q.id)])) (authR L (claimT { data := #[] } [(nSec, sbytes sec), (nId, sbytes q.id)])) := by
  subst h1 h2
  refine ⟨fun a b => ⟨?_, ?_⟩, ?_, ?_⟩
  · rw [bstr_size] at a
    rw [wel_word L q hF sch1 (.inl rfl) q.secret a [] (.inl rfl)]
    by_cases h : 0 < q.secret.size
    · rw [if_pos h, if_pos ⟨h, rfl⟩]
    · rw [if_neg h, if_neg (fun h2 => h h2.1)]
  · rw [bstr_size] at b
    exact wel_word L q hF sch2 (.inr rfl) sec b _ (.inr rfl)
  · rw [wel_fields L q hF hid q.secret _ (.inl rfl), if_pos rfl]
  · exact wel_fields L q hF hid sec _ (.inr rfl)
/-- What the law holds from the askings on: its try, the client, the one found, the pair of its name, the list. -/
structure WB (w : World) (ao : Option Addr) (L : List Cl) (g V gp : Nat) (t0 t1 t2 t3 t4 c0 c1 c2 c3 c4 c5 d0 d1 d2 d3 d4 d5 p0 p1 : Value) (so2 : Option Addr) (l2 : List U) (W : World) : Prop where
  bel : Below w.heap.size w W
  t : T5 W w.heap.size t0 t1 t2 t3 t4
  c : C6 W g c0 c1 c2 c3 c4 c5
  d : D6 W V d0 d1 d2 d3 d4 d5
  p : P2 W gp p0 p1
  r : CRow W ao L
  s : SRow W so2 l2
theorem WB.keep {w : World} {ao : Option Addr} {L : List Cl} {g V gp : Nat} {t0 t1 t2 t3 t4 c0 c1 c2 c3 c4 c5 d0 d1 d2 d3 d4 d5 p0 p1 : Value} {so2 : Option Addr} {l2 : List U} {W W' : World} (h : WB w ao L g V gp t0 t1 t2 t3 t4 c0 c1 c2 c3 c4 c5 d0 d1 d2 d3 d4 d5 p0 p1 so2 l2 W) (hb : Below W.heap.size W W') :
    WB w ao L g V gp t0 t1 t2 t3 t4 c0 c1 c2 c3 c4 c5 d0 d1 d2 d3 d4 d5 p0 p1 so2 l2 W' :=
  ⟨h.bel.trans (hb.mono h.bel.size), h.t.keep hb h.t.lt, h.c.keep hb h.c.lt, h.d.keep hb h.d.lt, h.p.keep hb h.p.lt, h.r.keep hb, h.s.keep hb⟩
end Go.Proofs.YtghmabohodnbpaaGreatDoor
