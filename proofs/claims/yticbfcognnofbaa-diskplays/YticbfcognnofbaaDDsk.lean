/- A disk of the call's own: each call in one sentence. -/
import Derived.Test.YticbfcognnofbaaDLeft3
import Derived.Test.YticbfcognnofbaaDNew3
namespace Go.Proofs.Yticbfcognnofbaa
open Go.RowKit Go.Maps

theorem goes_files {S : DS} {f : DS → DS} (hf : ∀ T, (f T).files.length = T.files.length) : (goes S f).2.files.length = S.files.length := by
  unfold goes
  split
  · rfl
  split
  · rfl
  · rw [hf]
theorem append_files (S : DS) (nm : Nm) (p : List Nat) : (append S nm p).2.files.length = S.files.length := by
  unfold append
  split
  · rfl
  split
  · rfl
  split
  · rfl
  exact goes_files fun T => by simp [setFile]
theorem sync_files (S : DS) (nm : Nm) : (sync S nm).2.files.length = S.files.length := by
  unfold sync
  split
  · rfl
  split
  · rfl
  exact goes_files fun T => by simp [setFile]
theorem rename_files (S : DS) (a b : Nm) : (rename S a b).2.files.length = S.files.length := by
  unfold rename
  split
  · rfl
  split
  · rfl
  split
  · rfl
  split
  · exact goes_files fun T => rfl
  · exact goes_files fun T => rfl
theorem remove_files (S : DS) (a : Nm) : (remove S a).2.files.length = S.files.length := by
  unfold remove
  split
  · rfl
  split
  · rfl
  exact goes_files fun T => rfl
theorem syncDir_files (S : DS) : (syncDir S).2.files.length = S.files.length := by
  unfold syncDir
  split
  · rfl
  exact goes_files fun T => rfl
theorem arm_files (S : DS) (n : Int) : (arm S n).files.length = S.files.length := by
  unfold arm
  split <;> rfl
/-- A disk that was made since w0. -/
structure Dsk (w0 w : World) (dp : Nat) (S : DS) : Prop where
  rep : ∃ L, Rep w dp S L S.files.length ∧ ∀ b ∈ L.blocks dp, w0.heap.size ≤ b
  ok : Ok S
  bel : Below w0.heap.size w0 w
theorem Dsk.below {w0 w w' : World} {dp : Nat} {S : DS} (h : Dsk w0 w dp S) (hb : Below w.heap.size w w') : Dsk w0 w' dp S := by
  obtain ⟨L, h1, h2⟩ := h.rep
  exact ⟨⟨L, h1.below hb, h2⟩, h.ok, h.bel.trans (hb.mono h.bel.size)⟩
theorem Dsk.aft {w0 w w' : World} {dp : Nat} {S S' : DS} {L : Lay} (h : Dsk w0 w dp S) (hL : ∀ b ∈ L.blocks dp, w0.heap.size ≤ b) (hA : Aft w w' dp L S' S'.files.length) (hO : Ok S') : Dsk w0 w' dp S' := by
  obtain ⟨L', h1, h2, h3⟩ := hA
  refine ⟨⟨L', h1, fun b hb => ?_⟩, hO, h.bel.trans (h2.below w0.heap.size h.bel.size hL)⟩
  rcases h3 b hb with e | e
  · exact hL b e
  · exact Nat.le_trans h.bel.size e
theorem Dsk.drewN {w0 w : World} {dp : Nat} {S : DS} (h : Dsk w0 w dp S) (n : Nat) : Dsk w0 (w.drewN n) dp S := h.below (below_drewN (Below.refl _ _) n)
theorem create_dsk {w0 w : World} {dp : Nat} {S : DS} (h : Dsk w0 w dp S) (nm : Nm) (hl : nm.length ≤ maxLen) : Calls Try.prog 28 #[pf dp, .string (str nm)] w fun e w' => e = .returned (.int .i64 ((create S nm).1 : Int)) ∧ Dsk w0 w' dp (create S nm).2 := by
  obtain ⟨L, h1, h2⟩ := h.rep
  exact (create_any dp S L nm w h1 h.ok hl).mono fun e w' ⟨he, hA⟩ => ⟨he, h.aft h2 hA (ok_create h.ok nm)⟩
theorem append_dsk {w0 w w2 : World} {dp : Nat} {S : DS} (h : Dsk w0 w dp S) (nm : Nm) (hl : nm.length ≤ maxLen) (hb : Below w.heap.size w w2) (ao : Option Addr) (n c : Nat) (p : List Nat) (hn : n = p.length) (hr : Row w2 ao p) (hoff : ∀ a, ao = some a → w.heap.size ≤ a.block) (hnl : n ≤ 140737488355328) (hp : ∀ x ∈ p, x < 256) : Calls Try.prog 29 #[pf dp, .string (str nm), .slice ao n c] w2 fun e w' => e = .returned (.int .i64 ((append S nm p).1 : Int)) ∧ Dsk w0 w' dp (append S nm p).2 := by
  obtain ⟨L, h1, h2⟩ := h.rep
  refine (append_any dp S.files.length S L nm ao n c p w2 (h1.below hb) h.ok hl hn hr (fun a ha hm => by have := h1.lt _ hm; have := hoff a ha; omega) hnl).mono fun e w' ⟨he, hA⟩ => ⟨he, (h.below hb).aft h2 (by rw [append_files]; exact hA) (ok_append h.ok nm p hp)⟩
theorem sync_dsk {w0 w : World} {dp : Nat} {S : DS} (h : Dsk w0 w dp S) (nm : Nm) (hl : nm.length ≤ maxLen) : Calls Try.prog 20 #[pf dp, .string (str nm)] w fun e w' => e = .returned (.int .i64 ((sync S nm).1 : Int)) ∧ Dsk w0 w' dp (sync S nm).2 := by
  obtain ⟨L, h1, h2⟩ := h.rep
  exact (sync_any dp _ S L nm w h1 h.ok hl).mono fun e w' ⟨he, hA⟩ => ⟨he, h.aft h2 (by rw [sync_files]; exact hA) (ok_sync h.ok nm)⟩
theorem rename_dsk {w0 w : World} {dp : Nat} {S : DS} (h : Dsk w0 w dp S) (a b : Nm) (hl : a.length ≤ maxLen) (hl2 : b.length ≤ maxLen) : Calls Try.prog 44 #[pf dp, .string (str a), .string (str b)] w fun e w' => e = .returned (.int .i64 ((rename S a b).1 : Int)) ∧ Dsk w0 w' dp (rename S a b).2 := by
  obtain ⟨L, h1, h2⟩ := h.rep
  exact (rename_any dp _ S L a b w h1 h.ok hl hl2).mono fun e w' ⟨he, hA⟩ => ⟨he, h.aft h2 (by rw [rename_files]; exact hA) (ok_rename h.ok a b)⟩
theorem remove_dsk {w0 w : World} {dp : Nat} {S : DS} (h : Dsk w0 w dp S) (nm : Nm) (hl : nm.length ≤ maxLen) : Calls Try.prog 46 #[pf dp, .string (str nm)] w fun e w' => e = .returned (.int .i64 ((remove S nm).1 : Int)) ∧ Dsk w0 w' dp (remove S nm).2 := by
  obtain ⟨L, h1, h2⟩ := h.rep
  exact (remove_any dp _ S L nm w h1 h.ok hl).mono fun e w' ⟨he, hA⟩ => ⟨he, h.aft h2 (by rw [remove_files]; exact hA) (ok_remove h.ok nm)⟩
theorem syncDir_dsk {w0 w : World} {dp : Nat} {S : DS} (h : Dsk w0 w dp S) : Calls Try.prog 21 #[pf dp] w fun e w' => e = .returned (.int .i64 ((syncDir S).1 : Int)) ∧ Dsk w0 w' dp (syncDir S).2 := by
  obtain ⟨L, h1, h2⟩ := h.rep
  exact (syncDir_any dp _ S L w h1 h.ok).mono fun e w' ⟨he, hA⟩ => ⟨he, h.aft h2 (by rw [syncDir_files]; exact hA) (ok_syncDir h.ok)⟩
theorem arm_dsk {w0 w : World} {dp : Nat} {S : DS} (h : Dsk w0 w dp S) (n : Int) (hn : n ≤ 9223372036854775807) : Calls Try.prog 17 #[pf dp, .int .i64 n] w fun e w' => e = .returned (.tuple #[]) ∧ Dsk w0 w' dp (arm S n) := by
  obtain ⟨L, h1, h2⟩ := h.rep
  exact (arm_any dp _ S L n w h1).mono fun e w' ⟨he, h3, h4⟩ => ⟨he, h.aft h2 (by rw [arm_files]; exact Aft.dp h3 h4) (ok_arm h.ok n hn)⟩
theorem dead_dsk {w0 w : World} {dp : Nat} {S : DS} (h : Dsk w0 w dp S) : Calls Try.prog 16 #[pf dp] w fun e w' => e = .returned (.bool S.dead) ∧ w' = w := by
  obtain ⟨L, h1, _⟩ := h.rep
  exact dead_any dp _ S L w h1
theorem count_dsk {w0 w : World} {dp : Nat} {S : DS} (h : Dsk w0 w dp S) : Calls Try.prog 19 #[pf dp] w fun e w' => e = .returned (.int .i64 (S.ops : Int)) ∧ w' = w := by
  obtain ⟨L, h1, _⟩ := h.rep
  exact count_any dp _ S L w h1
theorem list_dsk {w0 w : World} {dp : Nat} {S : DS} (h : Dsk w0 w dp S) : Calls Try.prog 18 #[pf dp] w fun e w' => ∃ ao n cap, e = .returned (.slice ao n cap) ∧ TOwn w' (.slice ao n cap) (if S.dead then [] else S.dir.map (·.1)) ∧ n = (if S.dead then [] else S.dir.map (·.1)).length ∧ (∀ g, (Value.slice ao n cap).ownBlock = some g → w.heap.size ≤ g) ∧ Dsk w0 w' dp S ∧ Below w.heap.size w w' := by
  obtain ⟨L, h1, _⟩ := h.rep
  refine (list_any dp _ S L w h1 h.ok).mono fun e w' ⟨v, he, hT, hg, hb⟩ => ?_
  obtain ⟨ao, cap, rfl⟩ := ownsRow_slice hT
  exact ⟨ao, _, cap, he, hT, rfl, hg, h.below hb, hb⟩
theorem left_dsk {w0 w : World} {dp : Nat} {S : DS} (h : Dsk w0 w dp S) (dir : Int) (ao : Option Addr) (tn tc : Nat) (ts : List Int) (ht : IRow w ao ts) (htn : tn = ts.length) (htl : tn ≤ 4611686018427387904) : Calls Try.prog 22 #[pf dp, .agg #[.int .i64 dir, .slice ao tn tc]] w fun e w' => ∃ vao n cap, e = .returned (.slice vao n cap) ∧ (∃ us, FOwn w' w.heap.size (.slice vao n cap) (left S dir ts) us) ∧ n = (left S dir ts).length ∧ Dsk w0 w' dp S ∧ Below w.heap.size w w' := by
  obtain ⟨L, h1, _⟩ := h.rep
  refine (disk_left dp _ S L dir ao tn tc ts w h1 h.ok ht htn htl).mono fun e w' ⟨v, he, ⟨us, hF⟩, hb⟩ => ?_
  obtain ⟨vao, cap, rfl⟩ := ownsRow_slice hF.row
  exact ⟨vao, _, cap, he, ⟨us, hF⟩, rfl, h.below hb, hb⟩
theorem read_dsk {w0 w : World} {dp : Nat} {S : DS} (h : Dsk w0 w dp S) (nm : Nm) (hl : nm.length ≤ maxLen) {i : Nat} (hd : S.dead = false) (hg : dget nm S.dir = some i) : Calls Try.prog 24 #[pf dp, .string (str nm)] w fun e w' => ∃ ao n cap, e = .returned (.tuple #[.slice ao n cap, .int .i64 0]) ∧ Row w' ao (flAt S.files i).bys ∧ n = (flAt S.files i).bys.length ∧ (∀ g, (Value.slice ao n cap).ownBlock = some g → w.heap.size ≤ g) ∧ Dsk w0 w' dp S ∧ Below w.heap.size w w' := by
  obtain ⟨L, h1, _⟩ := h.rep
  have := read_any dp _ S L nm w h1 h.ok hl
  rw [hd, hg] at this
  refine this.mono fun e w' ⟨⟨v, he, ho, hn⟩, hb⟩ => ?_
  obtain ⟨ao, cap, hv, _, hr⟩ := ho.read
  subst hv
  exact ⟨ao, _, cap, he, hr, rfl, hn, h.below hb, hb⟩
theorem new_dsk (ao : Option Addr) (n c : Nat) (fs : List Fi) (room : Int) (w : World) (hs : FSee w ao fs) (hn : n = fs.length) (hcap : n ≤ c) (hl : ∀ f ∈ fs, f.1.length ≤ maxLen ∧ f.1.length ≤ 281474976710656 ∧ f.2.length ≤ 140737488355328) (hlt : ∀ f ∈ fs, ∀ x ∈ f.2, x < 256) (hr : room ≤ 9223372036854775807) (h0 : newErr fs room = 0) :
    Calls Try.prog 27 #[.slice ao n c, .int .i64 room] w fun e w' => ∃ dp, e = .returned (.tuple #[.pointer (some ⟨dp, 0, none⟩), .int .i64 0]) ∧ Dsk w w' dp (born fs room.toNat) := by
  refine (new_any ao n c fs room w hs hn hcap hl hr).mono fun e w' ⟨_, hp⟩ => ?_
  unfold NewPost at hp
  rw [if_pos h0] at hp
  obtain ⟨⟨dp, L, he, hR, hL⟩, hB⟩ := hp
  obtain ⟨z1, z2, z3, z4⟩ := new_zero h0
  have e : (born fs room.toNat).files.length = fs.length := by simp [born]
  exact ⟨dp, he, ⟨L, by rw [e]; exact hR, hL⟩, ok_born z2 z3 (by omega) (by omega) hlt, hB⟩
theorem new_none (ao : Option Addr) (n c : Nat) (fs : List Fi) (room : Int) (w : World) (hs : FSee w ao fs) (hn : n = fs.length) (hcap : n ≤ c) (hl : ∀ f ∈ fs, f.1.length ≤ maxLen ∧ f.1.length ≤ 281474976710656 ∧ f.2.length ≤ 140737488355328) (hr : room ≤ 9223372036854775807) (h0 : newErr fs room ≠ 0) :
    Calls Try.prog 27 #[.slice ao n c, .int .i64 room] w fun e w' => e = .returned (.tuple #[.pointer none, .int .i64 (newErr fs room : Int)]) ∧ Below w.heap.size w w' := by
  refine (new_any ao n c fs room w hs hn hcap hl hr).mono fun e w' ⟨_, hp⟩ => ?_
  unfold NewPost at hp
  rw [if_neg h0] at hp
  exact hp
end Go.Proofs.Yticbfcognnofbaa
