/- A disk of the call's own that leaves given blocks alone. -/
import Derived.Test.YtmdgecjflkkhdabDDsk
namespace Go.Proofs.Ytmdgecjflkkhdab
open Go.RowKit Go.Maps

/-- A disk that was made since w0, none of whose blocks is among the given ones. -/
structure DskG (G : Nat → Prop) (w0 w : World) (dp : Nat) (S : DS) : Prop where
  rep : ∃ L, Rep w dp S L S.files.length ∧ ∀ b ∈ L.blocks dp, w0.heap.size ≤ b ∧ ¬ G b
  ok : Ok S
  bel : Below w0.heap.size w0 w
  old : ∀ g, G g → g < w.heap.size
/-- The given blocks stay. -/
def Held (G : Nat → Prop) (w w' : World) : Prop := w.heap.size ≤ w'.heap.size ∧ ∀ g, G g → w'.heap[g]? = w.heap[g]?
theorem Held.refl (G : Nat → Prop) (w : World) : Held G w w := ⟨Nat.le_refl _, fun _ _ => rfl⟩
theorem Held.trans {G : Nat → Prop} {a b c : World} (h : Held G a b) (k : Held G b c) : Held G a c := ⟨Nat.le_trans h.1 k.1, fun g hg => (k.2 g hg).trans (h.2 g hg)⟩
theorem Held.own {G : Nat → Prop} {w w' : World} (h : Held G w w') {B : Nat} {e : TypeId} {sz n : Nat} {v : Value} {xs : List Value} (ho : w.ownsRow B e sz v n xs) (hg : ∀ g, v.ownBlock = some g → G g) : w'.ownsRow B e sz v n xs := owns_same ho fun g h1 => h.2 g (hg g h1)
theorem DskG.dsk {G : Nat → Prop} {w0 w : World} {dp : Nat} {S : DS} (h : DskG G w0 w dp S) : Dsk w0 w dp S := by
  obtain ⟨L, h1, h2⟩ := h.rep
  exact ⟨⟨L, h1, fun b hb => (h2 b hb).1⟩, h.ok, h.bel⟩
/-- What was made behind the disk is none of its own. -/
theorem Dsk.guard {w0 w w' : World} {dp : Nat} {S : DS} (h : Dsk w0 w dp S) (hb : Below w.heap.size w w') : DskG (fun g => w.heap.size ≤ g ∧ g < w'.heap.size) w0 w' dp S := by
  obtain ⟨L, h1, h2⟩ := h.rep
  exact ⟨⟨L, h1.below hb, fun b hm => ⟨h2 b hm, fun hg => by have := h1.lt b hm; omega⟩⟩, h.ok, (h.below hb).bel, fun g hg => hg.2⟩
theorem DskG.below {G : Nat → Prop} {w0 w w' : World} {dp : Nat} {S : DS} (h : DskG G w0 w dp S) (hb : Below w.heap.size w w') : DskG G w0 w' dp S ∧ Held G w w' := by
  obtain ⟨L, h1, h2⟩ := h.rep
  exact ⟨⟨⟨L, h1.below hb, h2⟩, h.ok, h.bel.trans (hb.mono h.bel.size), fun g hg => Nat.lt_of_lt_of_le (h.old g hg) hb.size⟩, hb.size, fun g hg => hb.block g (h.old g hg)⟩
theorem DskG.aft {G : Nat → Prop} {w0 w w' : World} {dp : Nat} {S S' : DS} {L : Lay} (h : DskG G w0 w dp S) (hL : ∀ b ∈ L.blocks dp, w0.heap.size ≤ b ∧ ¬ G b) (hA : Aft w w' dp L S' S'.files.length) (hO : Ok S') : DskG G w0 w' dp S' ∧ Held G w w' := by
  obtain ⟨L', h1, h2, h3⟩ := hA
  refine ⟨⟨⟨L', h1, fun b hb => ?_⟩, hO, h.bel.trans (h2.below w0.heap.size h.bel.size (fun x hx => (hL x hx).1)), fun g hg => Nat.lt_of_lt_of_le (h.old g hg) h2.size⟩, h2.size, fun g hg => h2.block g (h.old g hg) (fun hm => (hL g hm).2 hg)⟩
  rcases h3 b hb with e | e
  · exact hL b e
  · exact ⟨Nat.le_trans h.bel.size e, fun hg => by have := h.old b hg; omega⟩
section
variable {G : Nat → Prop} {w0 w : World} {dp : Nat} {S : DS}
theorem create_g (h : DskG G w0 w dp S) (nm : Nm) (hl : nm.length ≤ maxLen) : Calls Try.prog 25 #[pf dp, .string (str nm)] w fun e w' => e = .returned (.int .i64 ((create S nm).1 : Int)) ∧ DskG G w0 w' dp (create S nm).2 ∧ Held G w w' := by
  obtain ⟨L, h1, h2⟩ := h.rep
  exact (create_any dp S L nm w h1 h.ok hl).mono fun e w' ⟨he, hA⟩ => ⟨he, h.aft h2 hA (ok_create h.ok nm)⟩
theorem sync_g (h : DskG G w0 w dp S) (nm : Nm) (hl : nm.length ≤ maxLen) : Calls Try.prog 27 #[pf dp, .string (str nm)] w fun e w' => e = .returned (.int .i64 ((sync S nm).1 : Int)) ∧ DskG G w0 w' dp (sync S nm).2 ∧ Held G w w' := by
  obtain ⟨L, h1, h2⟩ := h.rep
  exact (sync_any dp _ S L nm w h1 h.ok hl).mono fun e w' ⟨he, hA⟩ => ⟨he, h.aft h2 (by rw [sync_files]; exact hA) (ok_sync h.ok nm)⟩
theorem rename_g (h : DskG G w0 w dp S) (a b : Nm) (hl : a.length ≤ maxLen) (hl2 : b.length ≤ maxLen) : Calls Try.prog 28 #[pf dp, .string (str a), .string (str b)] w fun e w' => e = .returned (.int .i64 ((rename S a b).1 : Int)) ∧ DskG G w0 w' dp (rename S a b).2 ∧ Held G w w' := by
  obtain ⟨L, h1, h2⟩ := h.rep
  exact (rename_any dp _ S L a b w h1 h.ok hl hl2).mono fun e w' ⟨he, hA⟩ => ⟨he, h.aft h2 (by rw [rename_files]; exact hA) (ok_rename h.ok a b)⟩
theorem remove_g (h : DskG G w0 w dp S) (nm : Nm) (hl : nm.length ≤ maxLen) : Calls Try.prog 29 #[pf dp, .string (str nm)] w fun e w' => e = .returned (.int .i64 ((remove S nm).1 : Int)) ∧ DskG G w0 w' dp (remove S nm).2 ∧ Held G w w' := by
  obtain ⟨L, h1, h2⟩ := h.rep
  exact (remove_any dp _ S L nm w h1 h.ok hl).mono fun e w' ⟨he, hA⟩ => ⟨he, h.aft h2 (by rw [remove_files]; exact hA) (ok_remove h.ok nm)⟩
theorem syncDir_g (h : DskG G w0 w dp S) : Calls Try.prog 21 #[pf dp] w fun e w' => e = .returned (.int .i64 ((syncDir S).1 : Int)) ∧ DskG G w0 w' dp (syncDir S).2 ∧ Held G w w' := by
  obtain ⟨L, h1, h2⟩ := h.rep
  exact (syncDir_any dp _ S L w h1 h.ok).mono fun e w' ⟨he, hA⟩ => ⟨he, h.aft h2 (by rw [syncDir_files]; exact hA) (ok_syncDir h.ok)⟩
theorem arm_g (h : DskG G w0 w dp S) (n : Int) (hn : n ≤ 9223372036854775807) : Calls Try.prog 19 #[pf dp, .int .i64 n] w fun e w' => e = .returned (.tuple #[]) ∧ DskG G w0 w' dp (arm S n) ∧ Held G w w' := by
  obtain ⟨L, h1, h2⟩ := h.rep
  exact (arm_any dp _ S L n w h1).mono fun e w' ⟨he, h3, h4⟩ => ⟨he, h.aft h2 (by rw [arm_files]; exact Aft.dp h3 h4) (ok_arm h.ok n hn)⟩
theorem append_g {w2 : World} (h : DskG G w0 w dp S) (nm : Nm) (hl : nm.length ≤ maxLen) (hb : Below w.heap.size w w2) (ao : Option Addr) (n c : Nat) (p : List Nat) (hn : n = p.length) (hr : Row w2 ao p) (hoff : ∀ a, ao = some a → w.heap.size ≤ a.block) (hnl : n ≤ 140737488355328) (hp : ∀ x ∈ p, x < 256) : Calls Try.prog 26 #[pf dp, .string (str nm), .slice ao n c] w2 fun e w' => e = .returned (.int .i64 ((append S nm p).1 : Int)) ∧ DskG G w0 w' dp (append S nm p).2 ∧ Held G w w' := by
  obtain ⟨L, h1, h2⟩ := h.rep
  obtain ⟨hg, hh⟩ := h.below hb
  exact (append_any dp S.files.length S L nm ao n c p w2 (h1.below hb) h.ok hl hn hr (fun a ha hm => by have := h1.lt _ hm; have := hoff a ha; omega) hnl).mono fun e w' ⟨he, hA⟩ => ⟨he, (hg.aft h2 (by rw [append_files]; exact hA) (ok_append h.ok nm p hp)).1, hh.trans (hg.aft h2 (by rw [append_files]; exact hA) (ok_append h.ok nm p hp)).2⟩
end
end Go.Proofs.Ytmdgecjflkkhdab
