/- A disk of the call's own that leaves given blocks alone. -/
import Derived.Test.YticbfcognnofbaaDDsk
import Derived.Test.YticbfcognnofbaaDOurs
import Derived.Deep.QuietTactic
import Derived.BigQuiet
import Derived.Test.YticbfcognnofbaaDCrash
import Derived.Test.YticbfcognnofbaaDRows
import Derived.Test.YticbfcognnofbaaEBase
import Derived.Test.YticbfcognnofbaaELeft
import Derived.Test.YticbfcognnofbaaENew
namespace Go.Proofs.Yticbfcognnofbaa
open Go.RowKit Go.Maps

/-- A disk that was made since w0, none of whose blocks is among the given ones. -/
structure DskG (G : Nat → Prop) (w0 w : World) (dp : Nat) (S : DS) : Prop where
  rep : ∃ L, Rep w dp S L S.files.length ∧ ∀ b ∈ L.blocks dp, w0.heap.size ≤ b ∧ ¬ G b
  ok : Ok S
  bel : Below w0.heap.size w0 w
  old : ∀ g, G g → g < w.heap.size
/-- The given blocks stay. -/
def Held (G : Nat → Prop) (w w' : World) : Prop := w.heap.size ≤ w'.heap.size ∧ ∀ g, G g → w'.heap[g]? = w.heap[g]?
theorem Held.refl (G : Nat → Prop) (w : World) : Held G w w := ⟨Nat.le_refl _, fun _ _ => rfl⟩
theorem Held.trans {G : Nat → Prop} {a b c : World} (h : Held G a b) (k : Held G b c) : Held G a c := ⟨Nat.le_trans h.1 k.1, fun g hg => (k.2 g hg).trans (h.2 g hg)⟩
theorem Held.own {G : Nat → Prop} {w w' : World} (h : Held G w w') {B : Nat} {e : TypeId} {sz n : Nat} {v : Value} {xs : List Value} (ho : w.ownsRow B e sz v n xs) (hg : ∀ g, v.ownBlock = some g → G g) : w'.ownsRow B e sz v n xs := owns_same ho fun g h1 => h.2 g (hg g h1)
theorem DskG.dsk {G : Nat → Prop} {w0 w : World} {dp : Nat} {S : DS} (h : DskG G w0 w dp S) : Dsk w0 w dp S := by
  obtain ⟨L, h1, h2⟩ := h.rep
  exact ⟨⟨L, h1, fun b hb => (h2 b hb).1⟩, h.ok, h.bel⟩
/-- What was made behind the disk is none of its own. -/
theorem Dsk.guard {w0 w w' : World} {dp : Nat} {S : DS} (h : Dsk w0 w dp S) (hb : Below w.heap.size w w') : DskG (fun g => w.heap.size ≤ g ∧ g < w'.heap.size) w0 w' dp S := by
  obtain ⟨L, h1, h2⟩ := h.rep
  exact ⟨⟨L, h1.below hb, fun b hm => ⟨h2 b hm, fun hg => by have := h1.lt b hm; omega⟩⟩, h.ok, (h.below hb).bel, fun g hg => hg.2⟩
theorem DskG.below {G : Nat → Prop} {w0 w w' : World} {dp : Nat} {S : DS} (h : DskG G w0 w dp S) (hb : Below w.heap.size w w') : DskG G w0 w' dp S ∧ Held G w w' := by
  obtain ⟨L, h1, h2⟩ := h.rep
  exact ⟨⟨⟨L, h1.below hb, h2⟩, h.ok, h.bel.trans (hb.mono h.bel.size), fun g hg => Nat.lt_of_lt_of_le (h.old g hg) hb.size⟩, hb.size, fun g hg => hb.block g (h.old g hg)⟩
theorem DskG.aft {G : Nat → Prop} {w0 w w' : World} {dp : Nat} {S S' : DS} {L : Lay} (h : DskG G w0 w dp S) (hL : ∀ b ∈ L.blocks dp, w0.heap.size ≤ b ∧ ¬ G b) (hA : Aft w w' dp L S' S'.files.length) (hO : Ok S') : DskG G w0 w' dp S' ∧ Held G w w' := by
  obtain ⟨L', h1, h2, h3⟩ := hA
  refine ⟨⟨⟨L', h1, fun b hb => ?_⟩, hO, h.bel.trans (h2.below w0.heap.size h.bel.size (fun x hx => (hL x hx).1)), fun g hg => Nat.lt_of_lt_of_le (h.old g hg) h2.size⟩, h2.size, fun g hg => h2.block g (h.old g hg) (fun hm => (hL g hm).2 hg)⟩
  rcases h3 b hb with e | e
  · exact hL b e
  · exact ⟨Nat.le_trans h.bel.size e, fun hg => by have := h.old b hg; omega⟩
section
variable {G : Nat → Prop} {w0 w : World} {dp : Nat} {S : DS}
theorem create_g (h : DskG G w0 w dp S) (nm : Nm) (hl : nm.length ≤ maxLen) : Calls Try.prog 28 #[pf dp, .string (str nm)] w fun e w' => e = .returned (.int .i64 ((create S nm).1 : Int)) ∧ DskG G w0 w' dp (create S nm).2 ∧ Held G w w' := by
  obtain ⟨L, h1, h2⟩ := h.rep
  exact (create_any dp S L nm w h1 h.ok hl).mono fun e w' ⟨he, hA⟩ => ⟨he, h.aft h2 hA (ok_create h.ok nm)⟩
theorem sync_g (h : DskG G w0 w dp S) (nm : Nm) (hl : nm.length ≤ maxLen) : Calls Try.prog 20 #[pf dp, .string (str nm)] w fun e w' => e = .returned (.int .i64 ((sync S nm).1 : Int)) ∧ DskG G w0 w' dp (sync S nm).2 ∧ Held G w w' := by
  obtain ⟨L, h1, h2⟩ := h.rep
  exact (sync_any dp _ S L nm w h1 h.ok hl).mono fun e w' ⟨he, hA⟩ => ⟨he, h.aft h2 (by rw [sync_files]; exact hA) (ok_sync h.ok nm)⟩
theorem rename_g (h : DskG G w0 w dp S) (a b : Nm) (hl : a.length ≤ maxLen) (hl2 : b.length ≤ maxLen) : Calls Try.prog 44 #[pf dp, .string (str a), .string (str b)] w fun e w' => e = .returned (.int .i64 ((rename S a b).1 : Int)) ∧ DskG G w0 w' dp (rename S a b).2 ∧ Held G w w' := by
  obtain ⟨L, h1, h2⟩ := h.rep
  exact (rename_any dp _ S L a b w h1 h.ok hl hl2).mono fun e w' ⟨he, hA⟩ => ⟨he, h.aft h2 (by rw [rename_files]; exact hA) (ok_rename h.ok a b)⟩
theorem remove_g (h : DskG G w0 w dp S) (nm : Nm) (hl : nm.length ≤ maxLen) : Calls Try.prog 46 #[pf dp, .string (str nm)] w fun e w' => e = .returned (.int .i64 ((remove S nm).1 : Int)) ∧ DskG G w0 w' dp (remove S nm).2 ∧ Held G w w' := by
  obtain ⟨L, h1, h2⟩ := h.rep
  exact (remove_any dp _ S L nm w h1 h.ok hl).mono fun e w' ⟨he, hA⟩ => ⟨he, h.aft h2 (by rw [remove_files]; exact hA) (ok_remove h.ok nm)⟩
theorem syncDir_g (h : DskG G w0 w dp S) : Calls Try.prog 21 #[pf dp] w fun e w' => e = .returned (.int .i64 ((syncDir S).1 : Int)) ∧ DskG G w0 w' dp (syncDir S).2 ∧ Held G w w' := by
  obtain ⟨L, h1, h2⟩ := h.rep
  exact (syncDir_any dp _ S L w h1 h.ok).mono fun e w' ⟨he, hA⟩ => ⟨he, h.aft h2 (by rw [syncDir_files]; exact hA) (ok_syncDir h.ok)⟩
theorem arm_g (h : DskG G w0 w dp S) (n : Int) (hn : n ≤ 9223372036854775807) : Calls Try.prog 17 #[pf dp, .int .i64 n] w fun e w' => e = .returned (.tuple #[]) ∧ DskG G w0 w' dp (arm S n) ∧ Held G w w' := by
  obtain ⟨L, h1, h2⟩ := h.rep
  exact (arm_any dp _ S L n w h1).mono fun e w' ⟨he, h3, h4⟩ => ⟨he, h.aft h2 (by rw [arm_files]; exact Aft.dp h3 h4) (ok_arm h.ok n hn)⟩
theorem append_g {w2 : World} (h : DskG G w0 w dp S) (nm : Nm) (hl : nm.length ≤ maxLen) (hb : Below w.heap.size w w2) (ao : Option Addr) (n c : Nat) (p : List Nat) (hn : n = p.length) (hr : Row w2 ao p) (hoff : ∀ a, ao = some a → w.heap.size ≤ a.block) (hnl : n ≤ 140737488355328) (hp : ∀ x ∈ p, x < 256) : Calls Try.prog 29 #[pf dp, .string (str nm), .slice ao n c] w2 fun e w' => e = .returned (.int .i64 ((append S nm p).1 : Int)) ∧ DskG G w0 w' dp (append S nm p).2 ∧ Held G w w' := by
  obtain ⟨L, h1, h2⟩ := h.rep
  obtain ⟨hg, hh⟩ := h.below hb
  exact (append_any dp S.files.length S L nm ao n c p w2 (h1.below hb) h.ok hl hn hr (fun a ha hm => by have := h1.lt _ hm; have := hoff a ha; omega) hnl).mono fun e w' ⟨he, hA⟩ => ⟨he, (hg.aft h2 (by rw [append_files]; exact hA) (ok_append h.ok nm p hp)).1, hh.trans (hg.aft h2 (by rw [append_files]; exact hA) (ok_append h.ok nm p hp)).2⟩
end
end Go.Proofs.Yticbfcognnofbaa
/- files answers true where both lists have the same files. -/
namespace Go.Proofs.Yticbfcognnofbaa
open Go.RowKit Go.Maps

theorem FSee.drewN {w : World} {ao : Option Addr} {fs : List Fi} (h : FSee w ao fs) (n : Nat) : FSee (w.drewN n) ao fs := h.keep (below_drewN (Below.refl _ _) n)
set_option maxHeartbeats 4000000 in
set_option maxRecDepth 100000 in
theorem files_true (lao wao : Option Addr) (n lc wc : Nat) (fs : List Fi) (w : World) (hl : FSee w lao fs) (hw : FSee w wao fs) (hn : n = fs.length) (hb : n ≤ 4611686018427387903) :
    Calls Try.prog 34 #[.slice lao n lc, .slice wao n wc] w fun e w' => e = .returned (.bool true) ∧ ∃ m, w' = w.drewN m := by
  have HL := hide hl
  have HW := hide hw
  have HN := hide hn
  clear hl hw hn
  go_enter Try.func34, Try.ntmps34
  go_wp2_with fail
  go_loopw [5] (fun i wr => ∃ k : Nat, k ≤ n ∧ i = .int .i64 (k : Int) ∧ ∃ m, wr = w.drewN m) (fun i _ => n - (intOf i).toNat)
  case atStart => exact ⟨0, Nat.zero_le _, rfl, 0, rfl⟩
  case round =>
    obtain ⟨k, hk, rfl, m, rfl⟩ := hrel
    by_cases hlt : k < n
    · obtain ⟨x, hx⟩ : ∃ x, fs[k]? = some x := ⟨_, List.getElem?_eq_getElem (by rw [← HN.out]; exact hlt)⟩
      obtain ⟨lb, loff, lbao, lbc, rfl, a1, a2, a3⟩ := (HL.out.drewN m).cell k x hx
      obtain ⟨wb, woff, wbao, wbc, rfl, b1, b2, b3⟩ := (HW.out.drewN m).cell k x hx
      have c1 : ∀ n, (convert 36 9 (.slice lbao x.2.length lbc)).run Try.prog ((w.drewN m).drewN n) = .ok (.string (bstr x.2)) ((w.drewN m).drewN n) := fun n => conv_row lbc (a3.drewN n)
      have c2 : ∀ n, (convert 36 9 (.slice wbao x.2.length wbc)).run Try.prog ((w.drewN m).drewN n) = .ok (.string (bstr x.2)) ((w.drewN m).drewN n) := fun n => conv_row wbc (b3.drewN n)
      generalize str x.1 = s at *
      generalize x.2.length = bl at *
      generalize bstr x.2 = t at *
      clear hx a3 b3
      have hki : (k : Int) < (n : Int) := by omega
      have hkb : (k : Int) + 1 ≤ 4611686018427387904 := by omega
      have HD : Hid (∀ q, (w.drewN m).drewN q = w.drewN (m + q)) := fun q => World.drewN_drewN w m q
      generalize w.drewN m = wm at *
      go_upto_region 6 with fail
      go_quiet (fail)
      go_wp2_with fail
      go_roundw
      case rel => exact ⟨k + 1, by omega, by simp, _, HD.out _⟩
      case measure => simp [intOf]; omega
    · obtain rfl : k = n := by omega
      go_wp2_with fail
      go_ret
      exact ⟨rfl, m, rfl⟩
end Go.Proofs.Yticbfcognnofbaa
/- names and full. -/
namespace Go.Proofs.Yticbfcognnofbaa
open Go.RowKit Go.Maps

set_option maxHeartbeats 2000000 in
set_option maxRecDepth 100000 in
theorem names_true (a b : Value) (ns : List Nm) (w : World) (ha : TOwn w a ns) (hb : TOwn w b ns) (hl : ns.length ≤ 1000000) :
    Calls Try.prog 38 #[a, b] w fun e w' => e = .returned (.bool true) ∧ ∃ m, w' = w.drewN m := by
  obtain ⟨ao, ac, rfl⟩ := ownsRow_slice ha
  obtain ⟨bo, bc, rfl⟩ := ownsRow_slice hb
  obtain ⟨n, hn⟩ : ∃ n, n = ns.length := ⟨_, rfl⟩
  have HA := hide ha
  have HB := hide hb
  have HN := hide hn
  have HL := hide hl
  rw [← hn] at HA HB HL ⊢
  clear ha hb hn hl
  go_enter Try.func38, Try.ntmps38
  go_wp2_with fail
  go_loopw [5] (fun i wr => ∃ k m : Nat, k ≤ n ∧ i = .int .i64 (k : Int) ∧ wr = w.drewN m) (fun i _ => n - (intOf i).toNat)
  case atStart => exact ⟨0, 0, Nat.zero_le _, rfl, rfl⟩
  case round =>
    obtain ⟨k, m, hk, rfl, rfl⟩ := hrel
    by_cases hlt : k < n
    · obtain ⟨x, hx⟩ : ∃ x, ns[k]? = some x := ⟨_, List.getElem?_eq_getElem (by rw [← HN.out]; exact hlt)⟩
      obtain ⟨g, rfl, a1, a2⟩ := HA.out.at' hx
      obtain ⟨g2, rfl, b1, b2⟩ := HB.out.at' hx
      have c1 : (w.drewN m).cell? ⟨g, k, none⟩ = some (.string (str x)) := a1
      have c2 : (w.drewN m).cell? ⟨g2, k, none⟩ = some (.string (str x)) := b1
      have hki : (k : Int) < (n : Int) := by omega
      have HD : Hid (∀ q, (w.drewN m).drewN q = w.drewN (m + q)) := fun q => World.drewN_drewN w m q
      have hkb : (k : Int) + 1 ≤ 4611686018427387904 := by have := HL.out; omega
      generalize str x = s at *
      clear hx a1 b1
      generalize w.drewN m = wm at *
      go_upto_region 6 with fail
      go_quiet (fail)
      go_wp2_with fail
      go_roundw
      case rel => exact ⟨k + 1, _, by omega, by simp, HD.out _⟩
      case measure => simp [intOf]; omega
    · have hki : ¬ (k : Int) < (n : Int) := by omega
      go_wp2_with fail
      go_ret
      exact ⟨rfl, m, rfl⟩
theorem appIT : AppT 37 3 1 := ⟨.int .i64 0, 8, Try.underlying37, by kernel_rfl, rfl, by decide, by decide⟩
theorem appI (w : World) (t : Int) : Bl (w.alloc (.cells #[.int .i64 t] 3)) w.heap.size [.int .i64 t] 3 := Bl.new w _ _
set_option maxHeartbeats 2000000 in
set_option maxRecDepth 100000 in
/-- So many great numbers, in a row of the call's own. -/
theorem full_own (n : Nat) (w : World) (hn : n ≤ 4000000) :
    Calls Try.prog 25 #[.int .i64 (n : Int)] w fun e w' => ∃ ao cap, e = .returned (.slice ao n cap) ∧ w'.ownsRow w.heap.size 3 1 (.slice ao n cap) n (List.replicate n (.int .i64 1099511627776)) ∧ Below w.heap.size w w' := by
  obtain ⟨W0, hW0⟩ : ∃ W0, W0 = w.heap.size := ⟨_, rfl⟩
  have HW := hide hW0
  have HN := hide hn
  rw [← hW0]
  clear hW0 hn
  go_enter Try.func25, Try.ntmps25
  go_wp2_with fail
  go_loopw [3, 4] (fun u i wr => ∃ k : Nat, k ≤ n ∧ i = .int .i64 (k : Int) ∧ Hid (wr.ownsRow W0 3 1 u k (List.replicate k (.int .i64 1099511627776))) ∧ Hid (Below W0 w wr)) (fun _ i _ => n - (intOf i).toNat)
  case atStart => exact ⟨0, Nat.zero_le _, rfl, World.ownsRow_nil _ _ _ _, Below.refl _ _⟩
  case round =>
    obtain ⟨k, hk, rfl, HU, HB⟩ := hrel
    obtain ⟨uao, ucap, hu⟩ := ownsRow_slice HU.out
    subst hu
    by_cases hlt : k < n
    · have hki : (k : Int) < (n : Int) := by omega
      have hkb : (k : Int) + 1 ≤ 4611686018427387904 := by have := HN.out; omega
      have hWr : W0 ≤ wr.heap.size := by have := HB.out.size; have := HW.out; omega
      have HWR := hide hWr
      have HR := hide (World.ownsRow.alloc HU.out (.cells #[.int .i64 1099511627776] 3))
      have HBN := hide (appI wr 1099511627776)
      have HST : Hid (∀ ao9 cap9 w9, w9.ownsRow W0 3 1 (.slice ao9 (k + 1) cap9) (k + 1) (List.replicate k (.int .i64 1099511627776) ++ [.int .i64 1099511627776]) → (wr.alloc (.cells #[.int .i64 1099511627776] 3)).grownBy w9 (Value.ownBlock (.slice uao k ucap)) → w9.ownsRow W0 3 1 (.slice ao9 (k + 1) cap9) (k + 1) (List.replicate (k + 1) (.int .i64 1099511627776)) ∧ Below W0 w w9) := fun ao9 cap9 w9 g1 g2 => ⟨by rw [List.replicate_succ']; exact g1, HB.out.trans (app_below HU.out hWr g2)⟩
      have HK : Hid (k ≤ 4000000) := by have := HN.out; show _ ≤ _; omega
      clear hWr
      generalize List.replicate k (Value.int .i64 1099511627776) = rs at *
      go_wp2_with (first | (at_builtin; refine wpList_app1 appIT rfl _ _ rfl W0 _ _ rs [.int .i64 1099511627776] rfl HR.out wr.heap.size rfl HBN.out rfl (by intro x hx; rw [List.mem_singleton.1 hx]; rfl) (by have := HK.out; omega) (by have := HWR.out; simp; omega) ?_; intro ao9 cap9 w9 g1 g2 g3; have HS9 := hide (HST.out ao9 cap9 w9 g1 g2); clear g1 g2 g3) | fail)
      go_roundw
      case rel => exact ⟨k + 1, by omega, by simp, hide HS9.out.1, hide HS9.out.2⟩
      case measure => simp [intOf]; omega
    · have hki : ¬ (k : Int) < (n : Int) := by omega
      obtain rfl : k = n := by omega
      go_wp2_with fail
      go_ret
      exact ⟨_, _, rfl, HU.out, HB.out⟩
end Go.Proofs.Yticbfcognnofbaa
/- The program's disk beside the document's. -/
namespace Go.Proofs.Yticbfcognnofbaa
open Go.RowKit Go.Maps

/-- Both disks, made since w0, in memory of their own; the blocks K are none of theirs. -/
structure Both (K : Nat → Prop) (w0 w : World) (dp rp : Nat) (A B : DS) : Prop where
  rep : ∃ LA LR, Rep w dp A LA A.files.length ∧ RRep w rp B LR ∧ (∀ b ∈ LA.blocks dp, w0.heap.size ≤ b ∧ ¬ K b) ∧ ∀ b ∈ LR.mut rp ++ LR.imm, w0.heap.size ≤ b ∧ ¬ K b ∧ b ∉ LA.blocks dp
  oka : Ok A
  okb : Ok B
  bel : Below w0.heap.size w0 w
  old : ∀ g, K g → g < w.heap.size
section
variable {K : Nat → Prop} {w0 w w' : World} {dp rp : Nat} {A A' B B' : DS}
theorem Both.below (h : Both K w0 w dp rp A B) (hb : Below w.heap.size w w') : Both K w0 w' dp rp A B := by
  obtain ⟨LA, LR, h1, h2, h3, h4⟩ := h.rep
  exact ⟨⟨LA, LR, h1.below hb, h2.below hb, h3, h4⟩, h.oka, h.okb, h.bel.trans (hb.mono h.bel.size), fun g hg => Nat.lt_of_lt_of_le (h.old g hg) hb.size⟩
theorem Both.drewN (h : Both K w0 w dp rp A B) (n : Nat) : Both K w0 (w.drewN n) dp rp A B := h.below (below_drewN (Below.refl _ _) n)
theorem Both.dsk (h : Both K w0 w dp rp A B) : Dsk w0 w dp A := by
  obtain ⟨LA, LR, h1, h2, h3, h4⟩ := h.rep
  exact ⟨⟨LA, h1, fun b hb => (h3 b hb).1⟩, h.oka, h.bel⟩
theorem Both.onA {f : FuncId} {args : Array Value} {R : Ending → Prop} (h : Both K w0 w dp rp A B) (hc : ∀ G, DskG G w0 w dp A → Calls Try.prog f args w fun e w' => R e ∧ DskG G w0 w' dp A' ∧ Held G w w') : Calls Try.prog f args w fun e w' => R e ∧ Both K w0 w' dp rp A' B ∧ Held K w w' := by
  obtain ⟨LA, LR, h1, h2, h3, h4⟩ := h.rep
  refine (hc (fun b => b ∈ LR.mut rp ++ LR.imm ∨ K b) ⟨⟨LA, h1, fun b hb => ⟨(h3 b hb).1, fun hg => hg.elim (fun e => (h4 b e).2.2 hb) (h3 b hb).2⟩⟩, h.oka, h.bel, fun g hg => hg.elim (h2.lt g) (h.old g)⟩).mono fun e w' ⟨he, hd, hh⟩ => ⟨he, ?_, hh.1, fun g hg => hh.2 g (.inr hg)⟩
  obtain ⟨LA', k1, k2⟩ := hd.rep
  exact ⟨⟨LA', LR, k1, h2.keep (fun b hb => hh.2 b (.inl hb)), fun b hb => ⟨(k2 b hb).1, fun hk => (k2 b hb).2 (.inr hk)⟩, fun b hb => ⟨(h4 b hb).1, (h4 b hb).2.1, fun hm => (k2 b hm).2 (.inl hb)⟩⟩, hd.ok, h.okb, hd.bel, fun g hg => hd.old g (.inr hg)⟩
theorem Both.onB {f : FuncId} {args : Array Value} {R : Ending → Prop} (h : Both K w0 w dp rp A B) (hO : Ok B') (hc : ∀ L, RRep w rp B L → (∀ b ∈ L.mut rp ++ L.imm, w0.heap.size ≤ b ∧ ¬ K b) → Calls Try.prog f args w fun e w' => R e ∧ RAft w w' rp L B') : Calls Try.prog f args w fun e w' => R e ∧ Both K w0 w' dp rp A B' ∧ Held K w w' := by
  obtain ⟨LA, LR, h1, h2, h3, h4⟩ := h.rep
  refine (hc LR h2 (fun b hb => ⟨(h4 b hb).1, (h4 b hb).2.1⟩)).mono fun e w' ⟨he, L', k1, k2, k3⟩ => ⟨he, ⟨⟨LA, L', h1.apart k2 (fun b hb hm => (h4 b (List.mem_append.2 (.inl hm))).2.2 hb), k1, h3, fun b hb => ?_⟩, h.oka, hO, h.bel.trans (k2.below w0.heap.size h.bel.size (fun x hx => (h4 x (List.mem_append.2 (.inl hx))).1)), fun g hg => Nat.lt_of_lt_of_le (h.old g hg) k2.size⟩, k2.size, fun g hg => k2.block g (h.old g hg) (fun hm => (h4 g (List.mem_append.2 (.inl hm))).2.1 hg)⟩
  rcases k3 b hb with e | e
  · exact h4 b e
  · exact ⟨Nat.le_trans h.bel.size e, fun hk => by have := h.old b hk; omega, fun hm => by have := h1.lt b hm; omega⟩
theorem Both.cells (h : Both K w0 w dp rp A B) : w.cell? ⟨rp, 5, none⟩ = some (.int .i64 (B.ops : Int)) ∧ w.cell? ⟨rp, 7, none⟩ = some (.bool B.dead) ∧ ∃ fao cap, w.cell? ⟨rp, 1, none⟩ = some (.slice fao B.files.length cap) := by
  obtain ⟨LA, LR, h1, h2, h3, h4⟩ := h.rep
  obtain ⟨fao, cap, e⟩ := ownsRow_slice h2.files
  exact ⟨h2.c.2.2.2.2.2.1, h2.c.2.2.2.2.2.2.2, fao, cap, by rw [← e]; exact h2.c.2.1⟩
/-- What only tells: the program's calls, then the document's. -/
theorem both_free (h : Both K w0 w dp rp A B) : Calls Try.prog 36 #[.pointer (some ⟨dp, 0, none⟩)] w fun e w' => e = .returned (.int .i64 (if A.dead then 0 else (A.room : Int) - (sizes A.files A.dir : Int))) ∧ Below w.heap.size w w' := by
  obtain ⟨LA, LR, h1, h2, h3, h4⟩ := h.rep
  exact free_any dp _ A LA w h1 h.oka
theorem both_free2 (h : Both K w0 w dp rp A B) : Calls Try.prog 37 #[.pointer (some ⟨rp, 0, none⟩)] w fun e w' => e = .returned (.int .i64 (if B.dead then 0 else (B.room : Int) - (sizes B.files B.dir : Int))) ∧ Below w.heap.size w w' := by
  obtain ⟨LA, LR, h1, h2, h3, h4⟩ := h.rep
  exact (efree_any rp B LR w h2 h.okb).mono fun e w' ⟨he, m, hm⟩ => ⟨he, by rw [hm]; exact below_drewN (Below.refl _ _) m⟩
theorem both_list2 (h : Both K w0 w dp rp A B) : Calls Try.prog 39 #[.pointer (some ⟨rp, 0, none⟩)] w fun e w' => ∃ v, e = .returned v ∧ TOwn w' v (if B.dead then [] else B.dir.map (·.1)) ∧ Below w.heap.size w w' := by
  obtain ⟨LA, LR, h1, h2, h3, h4⟩ := h.rep
  exact (elist_any rp B LR w h2 h.okb).mono fun e w' ⟨v, a, b, _, d⟩ => ⟨v, a, b, d⟩
theorem both_left2 (h : Both K w0 w dp rp A B) (dir : Int) (ao : Option Addr) (tn tc : Nat) (ts : List Int) (ht : IRow w ao ts) (htn : tn = ts.length) (htl : tn ≤ 4611686018427387904) (htc : tn ≤ tc) : Calls Try.prog 40 #[.pointer (some ⟨rp, 0, none⟩), .int .i64 dir, .slice ao tn tc] w fun e w' => ∃ vao m cap, e = .returned (.slice vao m cap) ∧ FSee w' vao (left B dir ts) ∧ m = (left B dir ts).length ∧ Below w.heap.size w w' := by
  obtain ⟨LA, LR, h1, h2, h3, h4⟩ := h.rep
  exact (eleft_any rp B LR dir ao tn tc ts w h2 h.okb ht htn htl htc).mono fun e w' ⟨vao, m, cap, a, ⟨us, b⟩, c, d⟩ => ⟨vao, m, cap, a, b.see, c, d⟩
end
end Go.Proofs.Yticbfcognnofbaa
/- all answers true where both disks are one. -/
namespace Go.Proofs.Yticbfcognnofbaa
open Go.RowKit Go.Maps

theorem irow_rep {w : World} {B n cap : Nat} {ao : Option Addr} (h : w.ownsRow B 3 1 (.slice ao n cap) n (List.replicate n (.int .i64 1099511627776))) : IRow w ao (List.replicate n 1099511627776) ∧ n ≤ cap := by
  rcases h.2 with ⟨e, e2⟩ | ⟨g, cap', cur, e, _, _, hle, _⟩
  · injection e with e1 _ e3
    exact ⟨.inl (by rw [e2]; rfl), by omega⟩
  · injection e with e1 _ e3
    subst e1; subst e3
    refine ⟨.inr ⟨g, 0, rfl, fun i hi => ?_⟩, hle⟩
    rw [List.length_replicate] at hi
    have := World.ownsRow.cells h (g := g) rfl i (.int .i64 1099511627776) (by simp [hi])
    rw [add_none] at this
    rw [this]
    simp [List.getD, hi]
theorem left_many {S : DS} (hO : Ok S) (dir : Int) (ts : List Int) : (left S dir ts).length ≤ 64 := by
  unfold left
  rw [List.length_map]
  exact (hO.hist _).len
set_option maxHeartbeats 8000000 in
set_option maxRecDepth 100000 in
theorem all_true {K : Nat → Prop} {w0 w : World} {dp rp : Nat} {S : DS} (h : Both K w0 w dp rp S S) :
    Calls Try.prog 12 #[.pointer (some ⟨dp, 0, none⟩), .pointer (some ⟨rp, 0, none⟩)] w fun e w' => e = .returned (.bool true) ∧ Below w.heap.size w w' := by
  have HW : Hid (∀ W, Below w.heap.size w W → Both K w0 W dp rp S S) := fun W hW => h.below hW
  have HX : Hid (∀ W, Below w.heap.size w W → W.cell? ⟨rp, 5, none⟩ = some (.int .i64 (S.ops : Int)) ∧ W.cell? ⟨rp, 7, none⟩ = some (.bool S.dead)) := fun W hW => ⟨(h.below hW).cells.1, (h.below hW).cells.2.1⟩
  have HCNT : Hid (∀ W, Below w.heap.size w W → Calls Try.prog 19 #[.pointer (some ⟨dp, 0, none⟩)] W fun e w' => e = .returned (.int .i64 (S.ops : Int)) ∧ w' = W) := fun W hW => count_dsk (h.below hW).dsk
  have HDED : Hid (∀ W, Below w.heap.size w W → Calls Try.prog 16 #[.pointer (some ⟨dp, 0, none⟩)] W fun e w' => e = .returned (.bool S.dead) ∧ w' = W) := fun W hW => dead_dsk (h.below hW).dsk
  have HFR1 : Hid (∀ W, Below w.heap.size w W → Calls Try.prog 36 #[.pointer (some ⟨dp, 0, none⟩)] W fun e w' => e = .returned (.int .i64 (if S.dead then 0 else (S.room : Int) - (sizes S.files S.dir : Int))) ∧ Below w.heap.size w w') := fun W hW => (both_free (h.below hW)).mono fun e w' ⟨a, b⟩ => ⟨a, hW.trans (b.mono hW.size)⟩
  have HFR2 : Hid (∀ W, Below w.heap.size w W → Calls Try.prog 37 #[.pointer (some ⟨rp, 0, none⟩)] W fun e w' => e = .returned (.int .i64 (if S.dead then 0 else (S.room : Int) - (sizes S.files S.dir : Int))) ∧ Below w.heap.size w w') := fun W hW => (both_free2 (h.below hW)).mono fun e w' ⟨a, b⟩ => ⟨a, hW.trans (b.mono hW.size)⟩
  have HLS1 : Hid (∀ W, Below w.heap.size w W → Calls Try.prog 18 #[.pointer (some ⟨dp, 0, none⟩)] W fun e w' => ∃ ao n cap, e = .returned (.slice ao n cap) ∧ TOwn w' (.slice ao n cap) (if S.dead then [] else S.dir.map (·.1)) ∧ Below w.heap.size w w') := fun W hW => (list_dsk (h.below hW).dsk).mono fun e w' ⟨a, b, c, d, f, _, _, _, g⟩ => ⟨a, b, c, d, f, hW.trans (g.mono hW.size)⟩
  have HLS2 : Hid (∀ W ao n cap, Below w.heap.size w W → TOwn W (.slice ao n cap) (if S.dead then [] else S.dir.map (·.1)) → Calls Try.prog 39 #[.pointer (some ⟨rp, 0, none⟩)] W fun e w' => ∃ v, e = .returned v ∧ TOwn w' v (if S.dead then [] else S.dir.map (·.1)) ∧ TOwn w' (.slice ao n cap) (if S.dead then [] else S.dir.map (·.1)) ∧ Below w.heap.size w w') := fun W ao n cap hW hT => (both_list2 (h.below hW)).mono fun e w' ⟨v, a, b, c⟩ => ⟨v, a, b, hT.keep c, hW.trans (c.mono hW.size)⟩
  have hnl : (if S.dead then [] else S.dir.map (·.1)).length ≤ 1000000 := by
    have := h.oka.dir.len
    split
    · simp
    · rw [List.length_map]; omega
  have HNM : Hid (∀ W a b, Below w.heap.size w W → TOwn W a (if S.dead then [] else S.dir.map (·.1)) → TOwn W b (if S.dead then [] else S.dir.map (·.1)) → Calls Try.prog 38 #[a, b] W fun e w' => e = .returned (.bool true) ∧ Below w.heap.size w w') := fun W a b hW h1 h2 => (names_true a b _ W h1 h2 hnl).mono fun e w' ⟨he, m, hm⟩ => ⟨he, by rw [hm]; exact below_drewN hW m⟩
  have HDUR : Hid (∀ W, Below w.heap.size w W → Calls Try.prog 30 #[.pointer (some ⟨dp, 0, none⟩)] W fun e w' => ∃ vao cap, e = .returned (.slice vao (left S 0 []).length cap) ∧ FSee w' vao (left S 0 []) ∧ Below w.heap.size w w') := fun W hW => (durable_dsk (h.below hW).dsk).mono fun e w' ⟨a, b, c, d, ⟨us, f⟩, hn, _, g⟩ => ⟨a, c, by rw [← hn]; exact d, f.see, hW.trans (g.mono hW.size)⟩
  have HLF0 : Hid (∀ W vao, Below w.heap.size w W → FSee W vao (left S 0 []) → Calls Try.prog 40 #[.pointer (some ⟨rp, 0, none⟩), .int .i64 0, .slice none 0 0] W fun e w' => ∃ uao cap, e = .returned (.slice uao (left S 0 []).length cap) ∧ FSee w' uao (left S 0 []) ∧ FSee w' vao (left S 0 []) ∧ Below w.heap.size w w') := fun W vao hW hS => (both_left2 (h.below hW) 0 none 0 0 [] (.inl rfl) rfl (by omega) (Nat.le_refl _)).mono fun e w' ⟨a, m, c, d, f, hn, g⟩ => ⟨a, c, by rw [← hn]; exact d, f, hS.keep g, hW.trans (g.mono hW.size)⟩
  have HFIL : Hid (∀ (l : List Fi) W a b lc wc, l.length ≤ 64 → Below w.heap.size w W → FSee W a l → FSee W b l → Calls Try.prog 34 #[.slice a l.length lc, .slice b l.length wc] W fun e w' => e = .returned (.bool true) ∧ Below w.heap.size w w') := fun l W a b lc wc hl hW h1 h2 => (files_true a b l.length lc wc l W h1 h2 rfl (by omega)).mono fun e w' ⟨he, m, hm⟩ => ⟨he, by rw [hm]; exact below_drewN hW m⟩
  have HM0 := hide (left_many h.oka 0 [])
  have hfn : S.files.length ≤ 4000000 := by have := h.oka.num; have := h.oka.ops; omega
  have HMF := hide (left_many h.oka 1099511627776 (List.replicate S.files.length 1099511627776))
  have HFL : Hid (∀ W, Below w.heap.size w W → Calls Try.prog 25 #[.int .i64 (S.files.length : Int)] W fun e w' => ∃ ao cap, e = .returned (.slice ao S.files.length cap) ∧ IRow w' ao (List.replicate S.files.length 1099511627776) ∧ S.files.length ≤ cap ∧ Below w.heap.size w w' ∧ Below W.heap.size W w') := fun W hW => (full_own S.files.length W hfn).mono fun e w' ⟨ao, cap, a, b, c⟩ => ⟨ao, cap, a, (irow_rep b).1, (irow_rep b).2, hW.trans (c.mono hW.size), c⟩
  have HLF1 : Hid (∀ W ao cap, Below w.heap.size w W → IRow W ao (List.replicate S.files.length 1099511627776) → Calls Try.prog 22 #[.pointer (some ⟨dp, 0, none⟩), .agg #[.int .i64 1099511627776, .slice ao S.files.length cap]] W fun e w' => ∃ vao c, e = .returned (.slice vao (left S 1099511627776 (List.replicate S.files.length 1099511627776)).length c) ∧ FSee w' vao (left S 1099511627776 (List.replicate S.files.length 1099511627776)) ∧ Below w.heap.size w w') := fun W ao cap hW hI => (left_dsk (h.below hW).dsk 1099511627776 ao S.files.length cap _ hI (by simp) (by omega)).mono fun e w' ⟨a, m, c, d, ⟨us, f⟩, hn, _, g⟩ => ⟨a, c, by rw [← hn]; exact d, f.see, hW.trans (g.mono hW.size)⟩
  have HLF2 : Hid (∀ W ao cap, Below w.heap.size w W → IRow W ao (List.replicate S.files.length 1099511627776) → S.files.length ≤ cap → Calls Try.prog 40 #[.pointer (some ⟨rp, 0, none⟩), .int .i64 1099511627776, .slice ao S.files.length cap] W fun e w' => ∃ vao c, e = .returned (.slice vao (left S 1099511627776 (List.replicate S.files.length 1099511627776)).length c) ∧ FSee w' vao (left S 1099511627776 (List.replicate S.files.length 1099511627776)) ∧ Below w.heap.size w w' ∧ Below W.heap.size W w') := fun W ao cap hW hI hc => (both_left2 (h.below hW) 1099511627776 ao S.files.length cap _ hI (by simp) (by omega) hc).mono fun e w' ⟨a, m, c, d, f, hn, g⟩ => ⟨a, c, by rw [← hn]; exact d, f, hW.trans (g.mono hW.size), g⟩
  have HXF : Hid (∃ fao cap, ∀ W, Below w.heap.size w W → W.cell? ⟨rp, 1, none⟩ = some (.slice fao S.files.length cap)) := by
    obtain ⟨_, _, fao, cap, hc⟩ := h.cells
    exact ⟨fao, cap, fun W hW => cell_kept hc hW⟩
  obtain ⟨fao, fcap, hxf⟩ := HXF.out
  have HXG := hide hxf
  generalize left S 1099511627776 (List.replicate S.files.length 1099511627776) = LB at *
  generalize left S 0 [] = LA at *
  generalize (if S.dead then [] else S.dir.map (·.1)) = ns at *
  generalize (if S.dead then 0 else (S.room : Int) - (sizes S.files S.dir : Int)) = fr at *
  generalize (S.ops : Int) = o at *
  generalize S.dead = dd at *
  have HFI0 := hide (fun W a b lc wc => HFIL.out LA W a b lc wc HM0.out)
  have HFI1 := hide (fun W a b lc wc => HFIL.out LB W a b lc wc HMF.out)
  generalize LA.length = la at *
  generalize LB.length = lb at *
  obtain ⟨x5, x7⟩ := HX.out w (Below.refl _ _)
  have xf := hxf w (Below.refl _ _)
  clear h hnl hfn hxf HXF HFIL HM0 HMF
  go_enter Try.func12, Try.ntmps12
  go_upto_region 1 with fail
  go_region_held (fun W => W.cell? ⟨rp, 5, none⟩ = some (.int .i64 o) ∧ W.cell? ⟨rp, 7, none⟩ = some (.bool dd)) (go_keep) (first
    | (go_at_call 19; refine (HCNT.out _ (below_drewN (Below.refl _ _) 1)).mono ?_; rintro e wa ⟨rfl, hwa⟩; subst hwa)
    | (go_at_call 36; refine (HFR1.out _ (below_drewN (Below.refl _ _) 1)).mono ?_; rintro e w2 ⟨rfl, b2⟩; have B2 := hide b2; obtain ⟨y5, y7⟩ := HX.out w2 b2; clear b2)
    | (go_at_call 37; refine (HFR2.out _ B2.out).mono ?_; rintro e w3 ⟨rfl, b3⟩; have B3 := hide b3; obtain ⟨z5, z7⟩ := HX.out w3 b3; clear b3)
    | (go_at_call 16; refine (HDED.out _ B3.out).mono ?_; rintro e wb ⟨rfl, hwb⟩; subst hwb)
    | (go_at_call 18; refine (HLS1.out _ B3.out).mono ?_; rintro e w4 ⟨ao4, n4, c4, rfl, t4, b4⟩; have B4 := hide b4; have T4 := hide t4; obtain ⟨p5, p7⟩ := HX.out w4 b4; clear b4 t4)
    | (go_at_call 39; refine (HLS2.out _ _ _ _ B4.out T4.out).mono ?_; rintro e w5 ⟨v5, rfl, t5, t5a, b5⟩; have B5 := hide b5; have T5 := hide t5; have T5A := hide t5a; obtain ⟨q5, q7⟩ := HX.out w5 b5; clear b5 t5 t5a)
    | (go_at_call 38; refine (HNM.out _ _ _ B5.out T5A.out T5.out).mono ?_; rintro e w6 ⟨rfl, b6⟩; have B6 := hide b6; obtain ⟨r5, r7⟩ := HX.out w6 b6; clear b6)
    | (go_at_call 30; refine (HDUR.out _ B6.out).mono ?_; rintro e w7 ⟨ao7, c7, rfl, f7, b7⟩; have B7 := hide b7; have F7 := hide f7; obtain ⟨s5, s7⟩ := HX.out w7 b7; clear b7 f7)
    | (go_at_call 40; refine (HLF0.out _ _ B7.out F7.out).mono ?_; rintro e w8 ⟨ao8, c8, rfl, f8, f8a, b8⟩; have B8 := hide b8; have F8 := hide f8; have F8A := hide f8a; obtain ⟨t5, t7⟩ := HX.out w8 b8; clear b8 f8 f8a)
    | (go_at_call 34; refine (HFI0.out _ _ _ _ _ B8.out F8A.out F8.out).mono ?_; rintro e w9 ⟨rfl, b9⟩; have B9 := hide b9; obtain ⟨v5c, v7⟩ := HX.out w9 b9; clear b9))
  clear HCNT HDED HFR1 HFR2 HLS1 HLS2 HNM HDUR HLF0 HFI0 HX x5 x7 y5 y7 z5 z7 p5 p7 q5 q7 r5 r7 s5 s7 t5 t7 v5c v7 T4 T5 T5A F7 F8 F8A B2 B3 B4 B5 B6 B7 B8 xf HW
  generalize List.replicate S.files.length (1099511627776 : Int) = ts at *
  generalize S.files.length = fl at *
  have xf := HXG.out w9 B9.out
  have tok : True := trivial
  go_upto_region 3 with fail
  go_region_held (fun W => W.cell? ⟨rp, 1, none⟩ = some (.slice fao fl fcap)) (go_keep) (first
    | (go_at_call 25; have _t := tok; refine (HFL.out _ (below_drewN B9.out 1)).mono ?_; rintro e w10 ⟨ao10, c10, rfl, i10, l10, b10, -⟩; have B10 := hide b10; have I10 := hide i10; have yf := HXG.out w10 b10; clear b10 i10 l10 tok)
    | (go_at_call 22; refine (HLF1.out _ _ _ B10.out I10.out).mono ?_; rintro e w11 ⟨ao11, c11, rfl, f11, b11⟩; have B11 := hide b11; have F11 := hide f11; have zf := HXG.out w11 b11; clear b11 f11)
    | (go_at_call 25; refine (HFL.out _ B11.out).mono ?_; rintro e w12 ⟨ao12, c12, rfl, i12, l12, b12, d12⟩; have B12 := hide b12; have I12 := hide i12; have L12 := hide l12; have F12 := hide (F11.out.keep d12); have pf12 := HXG.out w12 b12; clear b12 i12 l12 d12)
    | (go_at_call 40; refine (HLF2.out _ _ _ B12.out I12.out L12.out).mono ?_; rintro e w13 ⟨ao13, c13, rfl, f13, b13, d13⟩; have B13 := hide b13; have F13 := hide f13; have F13A := hide (F12.out.keep d13); have qf := HXG.out w13 b13; clear b13 f13 d13)
    | (go_at_call 34; refine (HFI1.out _ _ _ _ _ B13.out F13A.out F13.out).mono ?_; rintro e w14 ⟨rfl, b14⟩; have B14 := hide b14; have rf := HXG.out w14 b14; clear b14))
  all_goals
    (try go_wp2_with fail)
    go_ret
    exact ⟨rfl, B14.out⟩
end Go.Proofs.Yticbfcognnofbaa
