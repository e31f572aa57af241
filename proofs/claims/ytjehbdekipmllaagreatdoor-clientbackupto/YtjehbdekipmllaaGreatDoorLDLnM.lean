/- A line of the registry: the pairs in their order against six askings. -/
import Derived.Test.YtjehbdekipmllaaGreatDoorLDGr
namespace Go.Proofs.YtjehbdekipmllaaGreatDoor
open Go.RowKit

theorem yes_size : sYes.size ≠ 0 := by decide
/-- The texts that a line has for its names. -/
def build6 (v : ByteArray → List Nat) : Cl := ⟨bstr (v sId), bstr (v sSecret), ((grD (bstr (v sGrants)).data.toList : Nat) : Int), decide (bstr (v sPing) = sYes), bstr (v sUrl), (scoOut (bstr (v sScope)).data.toList).1⟩
def okF (nm : ByteArray) (v : List Nat) : Bool := v.isEmpty || ((decide (nm ≠ sGrants) || (grantsR (bstr v).data.toList 0).isSome) && (decide (nm ≠ sPing) || decide (bstr v = sYes)) && (decide (nm ≠ sScope) || decide ((scoOut (bstr v).data.toList).2 = 0)))
/-- What has been read of a line's pairs when some names have come. -/
def seen6 (l : List Two) (D : List (List Nat)) (nm : ByteArray) : List Nat := if sbytes nm ∈ D then (ones (sbytes nm) l).1 else []
theorem sco_nil : scoOut [] = ([], 0) := by
  unfold scoOut
  rw [if_neg (by simp), if_pos rfl]
theorem grD_nil : grD [] = 0 := by
  unfold grD
  rw [sco_nil]; rfl
theorem build_nil (l : List Two) : build6 (seen6 l []) = zeroCl := by
  have h : ∀ nm, seen6 l [] nm = [] := fun nm => by unfold seen6; rw [if_neg (by simp)]
  unfold build6
  rw [h, h, h, h, h, h]
  show (⟨bstr [], bstr [], ((grD [] : Nat) : Int), decide (bstr [] = sYes), bstr [], (scoOut []).1⟩ : Cl) = _
  rw [grD_nil, sco_nil]
  have : decide (bstr [] = sYes) = false := by decide
  rw [this]; rfl
theorem seen_in (l : List Two) (D : List (List Nat)) (nm : ByteArray) : seen6 l (D ++ [sbytes nm]) nm = (ones (sbytes nm) l).1 := by unfold seen6; rw [if_pos (by simp)]
theorem sbytes_ne {a b : ByteArray} (h : a ≠ b) : sbytes a ≠ sbytes b := fun e => h (by rw [← bstr_sbytes a, ← bstr_sbytes b, e])
theorem seen_off (l : List Two) (D : List (List Nat)) {nm nm2 : ByteArray} (h : nm2 ≠ nm) : seen6 l (D ++ [sbytes nm]) nm2 = seen6 l D nm2 := by
  have := sbytes_ne h
  unfold seen6
  by_cases hd : sbytes nm2 ∈ D
  · rw [if_pos (by simp [hd]), if_pos hd]
  · rw [if_neg (by simp [hd, this]), if_neg hd]
theorem seen_same (l : List Two) (D : List (List Nat)) (nm : ByteArray) (h0 : (ones (sbytes nm) l).1 = []) : seen6 l (D ++ [sbytes nm]) = seen6 l D := by
  funext nm2
  by_cases h : nm2 = nm
  · subst h
    rw [seen_in, h0]
    unfold seen6
    split
    · rw [h0]
    · rfl
  · exact seen_off l D h
theorem six_ne : sId ≠ sSecret ∧ sId ≠ sGrants ∧ sId ≠ sPing ∧ sId ≠ sUrl ∧ sId ≠ sScope ∧ sSecret ≠ sGrants ∧ sSecret ≠ sPing ∧ sSecret ≠ sUrl ∧ sSecret ≠ sScope ∧ sGrants ≠ sPing ∧ sGrants ≠ sUrl ∧ sGrants ≠ sScope ∧ sPing ≠ sUrl ∧ sPing ≠ sScope ∧ sUrl ≠ sScope := by decide
/-- One pair more: the name is one of six, has come once, and its text may stand there. -/
theorem ln_step (l : List Two) (D : List (List Nat)) (q : Two) (hb : bytes2 q) (hD : q.1 ∉ D) :
    lnStep l (build6 (seen6 l D)) q = if isName (bstr q.1) = true ∧ ¬ 1 < (ones q.1 l).2 ∧ okF (bstr q.1) (ones q.1 l).1 = true then some (build6 (seen6 l (D ++ [q.1]))) else none := by
  obtain ⟨nm, hnm⟩ : ∃ nm, nm = bstr q.1 := ⟨_, rfl⟩
  have hq : q.1 = sbytes nm := by rw [hnm, sbytes_bstr hb.1]
  rw [hq] at hD ⊢
  unfold lnStep
  rw [hq, bstr_sbytes]
  by_cases hn : isName nm = true
  rotate_left
  · rw [if_neg hn, if_neg (fun h => hn h.1)]
  rw [if_pos hn]
  by_cases h1 : 1 < (ones (sbytes nm) l).2
  · rw [if_pos h1, if_neg (fun h => h.2.1 h1)]
  rw [if_neg h1]
  by_cases h0 : (ones (sbytes nm) l).1 = []
  · rw [if_pos h0, if_pos ⟨hn, h1, by unfold okF; rw [h0]; rfl⟩, seen_same l D nm h0]
  rw [if_neg h0]
  have hem : (ones (sbytes nm) l).1.isEmpty = false := by
    cases hv : (ones (sbytes nm) l).1 with
    | nil => exact absurd hv h0
    | cons a b => rfl
  obtain ⟨g1, g2, g3, g4, g5, g6, g7, g8, g9, g10, g11, g12, g13, g14, g15⟩ := six_ne
  have hz : seen6 l D nm = [] := by unfold seen6; rw [if_neg hD]
  have si := seen_in l D nm
  have so : ∀ nm2, nm2 ≠ nm → seen6 l (D ++ [sbytes nm]) nm2 = seen6 l D nm2 := fun nm2 h => seen_off l D h
  generalize (ones (sbytes nm) l).1 = v at *
  unfold okF
  rw [hem]
  rcases six_names hn with rfl | rfl | rfl | rfl | rfl | rfl
  · rw [if_pos ⟨hn, h1, by simp [g2, g3, g5]⟩]
    unfold fieldR
    rw [if_pos rfl]
    unfold build6
    rw [si, so sSecret g1.symm, so sGrants g2.symm, so sPing g3.symm, so sUrl g4.symm, so sScope g5.symm]
  · rw [if_pos ⟨hn, h1, by simp [g6, g7, g9]⟩]
    unfold fieldR
    rw [if_neg g1.symm, if_pos rfl]
    unfold build6
    rw [si, so sId g1, so sGrants g6.symm, so sPing g7.symm, so sUrl g8.symm, so sScope g9.symm]
  · have hg : (build6 (seen6 l D)).grants.toNat = 0 := by
      show (((grD (bstr (seen6 l D sGrants)).data.toList : Nat) : Int)).toNat = 0
      rw [hz]
      show (((grD [] : Nat) : Int)).toNat = 0
      rw [grD_nil]; rfl
    unfold fieldR
    rw [if_neg g2.symm, if_neg g6.symm, if_pos rfl, hg]
    cases hgr : grantsR (bstr v).data.toList 0 with
    | none => rw [if_neg (by simp [g10, g12])]; rfl
    | some j =>
      rw [if_pos ⟨hn, h1, by simp [g10, g12]⟩]
      show some (withG (build6 (seen6 l D)) j) = _
      have hgd : grD (bstr v).data.toList = j := by rw [grD_eq, hgr]; rfl
      unfold withG build6
      rw [si, so sId g2, so sSecret g6, so sPing g10.symm, so sUrl g11.symm, so sScope g12.symm, hgd]
  · unfold fieldR
    rw [if_neg g3.symm, if_neg g7.symm, if_neg g10.symm, if_pos rfl]
    by_cases hy : bstr v = sYes
    · rw [if_pos hy, if_pos ⟨hn, h1, by simp [g10.symm, g14, hy]⟩]
      unfold build6
      rw [si, so sId g3, so sSecret g7, so sGrants g10, so sUrl g13.symm, so sScope g14.symm, hy]
      simp
    · rw [if_neg hy, if_neg (by simp [g10.symm, g14, hy])]
  · rw [if_pos ⟨hn, h1, by simp [g11.symm, g13.symm, g15]⟩]
    unfold fieldR
    rw [if_neg g4.symm, if_neg g8.symm, if_neg g11.symm, if_neg g13.symm, if_pos rfl]
    unfold build6
    rw [si, so sId g4, so sSecret g8, so sGrants g11, so sPing g13, so sScope g15.symm]
  · unfold fieldR
    rw [if_neg g5.symm, if_neg g9.symm, if_neg g12.symm, if_neg g14.symm, if_neg g15.symm, if_pos rfl]
    by_cases hs : (scoOut (bstr v).data.toList).2 = 0
    · rw [if_pos hs, if_pos ⟨hn, h1, by simp [g12.symm, g14.symm, hs]⟩]
      unfold withS build6
      rw [si, so sId g5, so sSecret g9, so sGrants g12, so sPing g14, so sUrl g15]
    · rw [if_neg hs, if_neg (by simp [g12.symm, g14.symm, hs])]
end Go.Proofs.YtjehbdekipmllaaGreatDoor
