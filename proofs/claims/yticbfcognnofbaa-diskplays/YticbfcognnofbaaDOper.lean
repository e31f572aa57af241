/- The contracts of fails, find and operate. -/
import Derived.Test.YticbfcognnofbaaDDir
namespace Go.Proofs.Yticbfcognnofbaa
open Go.RowKit Go.Maps

/-- The disk's own cells turn; all else stays. -/
theorem Rep.turn {w w' : World} {dp nx nx' : Nat} {S S' : DS} {L : Lay} (h : Rep w dp S L nx) (hs : w.heap.size ≤ w'.heap.size) (hbox : Bl w' dp (diskCells L S' nx') 87) (hb : ∀ b ∈ L.blocks dp, b ≠ dp → w'.heap[b]? = w.heap[b]?)
    (e1 : S'.dir = S.dir) (e2 : S'.safe = S.safe) (e3 : S'.chg = S.chg) (e4 : S'.files = S.files) : Rep w' dp S' L nx' := by
  have hn := h.nod
  unfold Lay.blocks at hn
  rw [List.nodup_cons] at hn
  have tl : ∀ b, b ∈ L.bn :: L.sf :: (vb L.kv ++ (L.bs ++ L.rv.flatMap vb)) → w'.heap[b]? = w.heap[b]? := fun b hm => hb b (List.mem_cons_of_mem _ hm) (fun e => hn.1 (e ▸ hm))
  refine ⟨h.nod, fun b hm => Nat.lt_of_lt_of_le (h.lt b hm) hs, hbox, ?_, ?_, ?_, ?_, ?_, ?_⟩
  · rw [e1]; exact h.names.same (tl _ (by simp))
  · rw [e2]; exact h.safe.same (tl _ (by simp))
  · rw [e3]; exact owns_same h.kept fun g hg => tl g (by simp [mem_vb.2 hg])
  · rw [e4]; exact h.blen
  · rw [e4]; exact h.rlen
  · intro i b v h1 h2
    rw [e4]
    exact ⟨(tl b (by simp [List.mem_of_getElem? h1])).trans (h.file i b v h1 h2).1, owns_same (h.file i b v h1 h2).2 fun g hg => tl g (by
      simp only [List.mem_cons, List.mem_append]
      exact .inr (.inr (.inr (.inr (List.mem_flatMap.2 ⟨v, List.mem_of_getElem? h2, mem_vb.2 hg⟩)))))⟩
theorem Rep.setBox {w : World} {dp nx nx' : Nat} {S S' : DS} {L : Lay} (h : Rep w dp S L nx) (i : Nat) (v : Value) (hc : (diskCells L S nx).set i v = diskCells L S' nx')
    (e1 : S'.dir = S.dir) (e2 : S'.safe = S.safe) (e3 : S'.chg = S.chg) (e4 : S'.files = S.files) : Rep (w.setCell ⟨dp, i, none⟩ v) dp S' L nx' := by
  refine h.turn (by simp [World.setCell]) ?_ (fun b _ hne => heap_setCell_other w ⟨dp, i, none⟩ b v hne) e1 e2 e3 e4
  rw [← hc]
  exact h.box.set i v
theorem Rep.c {w : World} {dp nx : Nat} {S : DS} {L : Lay} (h : Rep w dp S L nx) : w.cell? ⟨dp, 0, none⟩ = some (.map (some L.bn)) ∧ w.cell? ⟨dp, 1, none⟩ = some (.map (some L.sf)) ∧ w.cell? ⟨dp, 2, none⟩ = some L.kv ∧ w.cell? ⟨dp, 3, none⟩ = some (.int .i64 (S.room : Int)) ∧ w.cell? ⟨dp, 4, none⟩ = some (.int .i64 (nx : Int)) ∧ w.cell? ⟨dp, 5, none⟩ = some (.int .i64 (S.ops : Int)) ∧ w.cell? ⟨dp, 6, none⟩ = some (.int .i64 (S.armed : Int)) ∧ w.cell? ⟨dp, 7, none⟩ = some (.bool S.dead) :=
  ⟨h.box.cell 0, h.box.cell 1, h.box.cell 2, h.box.cell 3, h.box.cell 4, h.box.cell 5, h.box.cell 6, h.box.cell 7⟩

set_option maxHeartbeats 1000000 in
set_option maxRecDepth 100000 in
theorem fails_any (dp nx : Nat) (S : DS) (L : Lay) (w : World) (h : Rep w dp S L nx) (ha : S.armed ≤ 9223372036854775807) :
    Calls Try.prog 75 #[pf dp] w fun e w' => e = .returned (.bool (decide (S.armed = 1))) ∧ Rep w' dp { S with dead := decide (S.armed = 1), armed := S.armed - 1 } L nx ∧ Fr [dp] w w' := by
  obtain ⟨c0, c1, c2, c3, c4, c5, c6, c7⟩ := h.c
  have f6 := h.box.frozen 6
  have f7 := h.box.frozen 7
  have H := hide h
  have HR : ∀ r : Bool, Hid (∀ q : Nat, (decide (S.armed = 1) = r) → S.armed - 1 = q → Rep ((w.setCell ⟨dp, 7, none⟩ (.bool r)).setCell ⟨dp, 6, none⟩ (.int .i64 (q : Int))) dp { S with dead := decide (S.armed = 1), armed := S.armed - 1 } L nx) := fun r q hr hq => by
    have h1 := h.setBox (S' := { S with dead := r }) (nx' := nx) 7 (.bool r) rfl rfl rfl rfl rfl
    have h2 := h1.setBox (S' := { S with dead := r, armed := q }) (nx' := nx) 6 (.int .i64 (q : Int)) rfl rfl rfl rfl rfl
    rw [hr, hq]
    exact h2
  have HFr : ∀ (r : Bool) (q : Int), Hid (Fr [dp] w ((w.setCell ⟨dp, 7, none⟩ (.bool r)).setCell ⟨dp, 6, none⟩ (.int .i64 q))) := fun r q => (Fr.setCell [dp] w dp 7 _ (by simp)).trans (Fr.setCell [dp] _ dp 6 _ (by simp)) (fun x hx => .inl hx)
  clear h
  generalize hA : S.armed = A at *
  rcases Nat.lt_trichotomy A 1 with h1 | h1 | h1
  · obtain rfl : A = 0 := by omega
    have HR1 := HR false
    clear HR
    unfold pf
    go_enter Try.func75, Try.ntmps75
    go_wp2
    go_ret
    exact ⟨rfl, HR1.out 0 rfl rfl, (HFr false 0).out⟩
  · subst h1
    have HR1 := HR true
    clear HR
    unfold pf
    go_enter Try.func75, Try.ntmps75
    go_wp2
    go_ret
    exact ⟨rfl, HR1.out 0 rfl rfl, (HFr true 0).out⟩
  · have hd : decide (A = 1) = false := by simp; omega
    have he : ((A : Int) == 1) = false := by rw [beq_eq_false_iff_ne]; omega
    have HR1 := HR false
    clear HR
    rw [hd]
    unfold pf
    go_enter Try.func75, Try.ntmps75
    go_wp2
    go_ret
    refine ⟨rfl, ?_, ?_⟩
    · have := HR1.out (A - 1) hd rfl
      rw [hd] at this
      rw [show ((A - 1 : Nat) : Int) = (A : Int) - 1 by omega] at this
      exact this
    · exact (HFr false _).out
theorem Rep.drewN {w : World} {dp nx : Nat} {S : DS} {L : Lay} (h : Rep w dp S L nx) (n : Nat) : Rep (w.drewN n) dp S L nx := h.keep (Nat.le_refl _) (fun _ _ => rfl)
def findAns (S : DS) (L : Lay) (nm : Nm) : Value := if S.dead then .tuple #[.pointer none, .int .i64 51] else match dget nm S.dir with
  | none => .tuple #[.pointer none, .int .i64 7]
  | some i => .tuple #[pf (L.bs.getD i 0), .int .i64 0]
set_option maxHeartbeats 1000000 in
set_option maxRecDepth 100000 in
theorem find_any (dp nx : Nat) (S : DS) (L : Lay) (nm : Nm) (w : World) (h : Rep w dp S L nx) (hl : nm.length ≤ maxLen) :
    Calls Try.prog 54 #[pf dp, .string (str nm)] w fun e w' => e = .returned (findAns S L nm) ∧ w' = w := by
  obtain ⟨c0, c1, c2, c3, c4, c5, c6, c7⟩ := h.c
  have hlk := h.names.look hl
  unfold findAns
  cases hdd : S.dead with
  | true =>
    rw [hdd] at c7
    unfold pf
    go_enter Try.func54, Try.ntmps54
    go_wp2
    go_ret2
    exact ⟨rfl, rfl⟩
  | false =>
    rw [hdd] at c7
    cases hg : dget nm S.dir with
    | none =>
      rw [hg] at hlk
      rw [show ptrOf L.bs none = .pointer none from rfl] at hlk
      unfold pf
      go_enter Try.func54, Try.ntmps54
      go_wp2
      go_ret2
      exact ⟨rfl, rfl⟩
    | some i =>
      rw [hg] at hlk
      rw [show ptrOf L.bs (some i) = pf (L.bs.getD i 0) from rfl] at hlk
      show Calls _ _ _ w fun e w' => e = .returned (.tuple #[pf (L.bs.getD i 0), .int .i64 0]) ∧ w' = w
      generalize L.bs.getD i 0 = b at *
      unfold pf at *
      go_enter Try.func54, Try.ntmps54
      go_wp2
      go_ret2
      exact ⟨rfl, rfl⟩
end Go.Proofs.Yticbfcognnofbaa
