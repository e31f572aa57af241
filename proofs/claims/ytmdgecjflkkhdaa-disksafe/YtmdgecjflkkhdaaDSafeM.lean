/- Syncing every file: what the disk then is, what a failure then leaves. -/
import Derived.Test.YtmdgecjflkkhdaaDTailM
namespace Go.Proofs.Ytmdgecjflkkhdaa
open Go.RowKit Go.Maps

/-- A disk whose first k files are synced. -/
structure Syn (S T : DS) (k : Nat) : Prop where
  dead : T.dead = false
  armed : T.armed = 0
  dir : T.dir = S.dir
  ops : T.ops = S.ops + k
  syn : ∀ j, j < k → ∀ p, S.dir[j]? = some p → (flAt T.files p.2).syn = (flAt T.files p.2).bys.length
theorem syn_begin {S : DS} (hd : S.dead = false) : Syn S (arm S 0) 0 := by
  have e : arm S 0 = { S with armed := 0 } := by unfold arm; rw [hd]; rfl
  rw [e]
  exact ⟨hd, rfl, rfl, rfl, fun j hj => absurd hj (Nat.not_lt_zero _)⟩
theorem goes_done {S : DS} (f : DS → DS) (ho : S.ops < 1048576) (ha : S.armed = 0) : goes S f = (0, f { S with armed := 0, ops := S.ops + 1 }) := by
  unfold goes
  rw [if_neg (by omega), if_neg (by omega), ha]
theorem flAt_syn (fs : List Fl) (i j : Nat) (f : Fl) (hf : f.syn = f.bys.length) (h : i ≠ j → (flAt fs j).syn = (flAt fs j).bys.length) (hi : i < fs.length) : (flAt (fs.set i f) j).syn = (flAt (fs.set i f) j).bys.length := by
  unfold flAt at *
  rw [List.getD_eq_getElem?_getD] at *
  rw [List.getElem?_set]
  by_cases e : i = j
  · subst e
    rw [if_pos rfl, if_pos hi]
    exact hf
  · rw [if_neg e]
    exact h e
theorem syn_step {S T : DS} {k : Nat} (h : Syn S T k) (ho : Ok T) (hl : S.ops + k < 1048576) {p : Nm × Nat} (hp : S.dir[k]? = some p) : (sync T p.1).1 = 0 ∧ Syn S (sync T p.1).2 (k + 1) := by
  have hm : p ∈ T.dir := by rw [h.dir]; exact List.mem_of_getElem? hp
  have hg : dget p.1 T.dir = some p.2 := dget_of ho.dir.rising (i := p.2) hm
  have e : sync T p.1 = (0, setFile p.2 ⟨(flAt T.files p.2).bys, (flAt T.files p.2).bys.length⟩ { T with armed := 0, ops := T.ops + 1 }) := by
    unfold sync
    rw [if_neg (by rw [h.dead]; decide), hg]
    exact goes_done _ (by have := h.ops; omega) h.armed
  rw [e]
  refine ⟨rfl, h.dead, rfl, h.dir, by show T.ops + 1 = _; rw [h.ops]; omega, fun j hj q hq => ?_⟩
  refine flAt_syn T.files p.2 q.2 _ rfl (fun hne => ?_) (ho.dir.num p hm)
  refine h.syn j ?_ q hq
  rcases Nat.lt_or_ge j k with h1 | h1
  · exact h1
  · have hjk : j = k := by omega
    subst hjk
    rw [hp] at hq
    injection hq with hq
    exact absurd (congrArg Prod.snd hq) hne
theorem syn_end {S T : DS} {k : Nat} (h : Syn S T k) (hk : k = S.dir.length) (hl : S.ops + k < 1048576) : (syncDir T).1 = 0 ∧ (syncDir T).2.dead = false ∧ (syncDir T).2.dir = S.dir ∧ ∀ dir ts, left (syncDir T).2 dir ts = whole (syncDir T).2 := by
  have e : syncDir T = (0, { T with armed := 0, ops := T.ops + 1, safe := T.dir, chg := [] }) := by
    unfold syncDir
    rw [if_neg (by rw [h.dead]; decide)]
    exact goes_done _ (by have := h.ops; omega) h.armed
  rw [e]
  refine ⟨rfl, h.dead, h.dir, fun dir ts => ?_⟩
  unfold left whole
  simp only [List.take_nil, chds, List.foldl_nil]
  apply List.map_congr_left
  intro p hp
  rw [h.dir] at hp
  obtain ⟨j, hj⟩ := List.getElem?_of_mem hp
  have hjl : j < k := by
    rw [hk]
    rcases Nat.lt_or_ge j S.dir.length with h1 | h1
    · exact h1
    · rw [List.getElem?_eq_none h1] at hj; cases hj
  have hs := h.syn j hjl p hj
  unfold leftF
  rw [hs]
  simp only [Nat.sub_self, Prod.mk.injEq, true_and]
  exact List.take_of_length_le (by omega)
end Go.Proofs.Ytmdgecjflkkhdaa
