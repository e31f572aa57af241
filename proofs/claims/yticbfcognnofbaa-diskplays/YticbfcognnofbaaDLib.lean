/- The library's functions that the disk calls: Clone of texts, bytes and maps; a directory's names, rising. -/
import Derived.Test.YticbfcognnofbaaShelf
import Derived.Test.YticbfcognnofbaaDOper4
namespace Go.Proofs.Yticbfcognnofbaa
open Go.RowKit Go.Maps Go.Sort Go.Shelf

set_option maxHeartbeats 400000 in
set_option maxRecDepth 100000 in
theorem clone_any (s : ByteArray) (w : World) (hs : s.size ≤ 281474976710656) : Calls Try.prog 53 #[.string s] w fun e w' => e = .returned (.string s) ∧ Below w.heap.size w w' := by
  have c : Calls Try.prog 74 #[.string s] w fun e w' => e = .returned (.string s) ∧ Below w.heap.size w w' := Any.stringslite_Clone laysM316 s w hs
  go_enter Try.func53, Try.ntmps53
  go_wp2_with (go_at_call 74; refine c.mono ?_; rintro e w' ⟨rfl, hb⟩)
  go_ret
  exact ⟨rfl, hb⟩
theorem mapClone_any (bn : Nat) (bs : List Nat) (d : Dir) (w : World) (h : DirAt w bn bs d) :
    Calls Try.prog 57 #[.map (some bn)] w fun e w' => e = .returned (.map (some w.heap.size)) ∧ DirAt w' w.heap.size bs d ∧ Below w.heap.size w w' := by
  have hc := AnyW.maps_Clone_owns cloneL 9 rp bn d.length (DD bs d) w h
  change Calls Try.prog 57 _ _ _ at hc
  exact hc.mono fun e w' ⟨h1, h2, _, h4⟩ => ⟨h1, h2, h4⟩
theorem sorts_any (m : Nat) : AnyZ.SortsIn Try.prog sortedL_ren Fence.wide m :=
  ⟨fun blk off cap ss W hH hblk hsz => callsIn_wide.2 (AnyM.slices_Sort_string sortL blk off cap ss W hH hblk hsz),
   fun p cap W => callsIn_wide.2 (AnyM.slices_Sort_string_none sortL p cap W)⟩
theorem keys_any (mb : Option Nat) (W : World) : CallsIn Fence.wide 5 Try.prog 73 #[.map mb] W fun e w' => e = .returned (.func (.func 81) #[] #[.pointer (some ⟨W.heap.size, 0, none⟩)]) ∧ w' = W.alloc (.cells #[.map mb] 84) :=
  AnyZ.keys_in keysL Fence.wide 5 trivial rfl mb W
set_option maxHeartbeats 1000000 in
theorem sortedKeys_any (bn : Nat) (bs : List Nat) (d : Dir) (w : World) (hown : DirAt w bn bs d) (hd : d.length ≤ 1000) :
    CallsIn Fence.wide 5 Try.prog 72 #[.func (.func 81) #[] #[.pointer (some ⟨w.heap.size, 0, none⟩)]] (w.alloc (.cells #[.map (some bn)] 84)) fun e w' => ∃ (v : Value) (ss : List (List UInt8)), e = .returned v ∧ ss.Perm (strKeys (DD bs d)) ∧
      w'.ownsRow (w.alloc (.cells #[.map (some bn)] 84)).heap.size 9 1 v ss.length ((ss.mergeSort (fun x y => decide (x ≤ y))).map encStr) ∧ (v = .slice none 0 0 ↔ ss = []) ∧ Below (w.alloc (.cells #[.map (some bn)] 84)).heap.size (w.alloc (.cells #[.map (some bn)] 84)) w' := by
  have hbl := hown.lt
  have hmax : Maps.size (DD bs d) ≤ maxLen := by rw [dd_size]; unfold maxLen; omega
  have hbytes : Maps.size (DD bs d) * 16 ≤ 140737488355328 := by rw [dd_size]; omega
  have hseq : SeqGives Fence.wide 2 Try.prog 81 #[.pointer (some ⟨w.heap.size, 0, none⟩)] encStr (fun ss => ss.Perm (strKeys (DD bs d))) (Maps.size (DD bs d)) (w.alloc (.cells #[.map (some bn)] 84)) :=
    AnyZ.keys_gives (ρ := keysL_ren) { keysL with } Fence.wide _ trivial rfl (by omega) w.heap.size bn d.length (DD bs d) _ (by simp) (by simp) (hown.alloc _)
  exact AnyZ.sorted_in sortedL Fence.wide 5 trivial trivial trivial trivial rfl (by omega) (sorts_any _) (enters_of Try.func80 (by kernel_rfl) rfl) 81 #[.pointer (some ⟨w.heap.size, 0, none⟩)] trivial (enters_of Try.func81 (by kernel_rfl) rfl) _ _ hmax hbytes _ hseq
/-- A row of texts that the call has made. -/
def TOwn (w : World) (v : Value) (ns : List Nm) : Prop := w.ownsRow 0 9 1 v ns.length (ns.map encStr)
set_option maxHeartbeats 1000000 in
theorem rising_any (bn : Nat) (bs : List Nat) (d : Dir) (w : World) (hown : DirAt w bn bs d) (hr : Rising d) (hd : d.length ≤ 1000) :
    Calls Try.prog 52 #[.map (some bn)] w fun e w' => ∃ v, e = .returned v ∧ TOwn w' v (d.map (·.1)) ∧ (∀ g, v.ownBlock = some g → w.heap.size ≤ g) ∧ Below w.heap.size w w' := by
  have hC := sortedKeys_any bn bs d w hown hd
  refine (callsIn_wide (n := 6)).1 ?_
  have hfK : Fence.wide.fn 73 := trivial
  have hfS : Fence.wide.fn 72 := trivial
  refine callsIn_of_wp Try.func52 rfl trivial ?_ rfl
  simp only [Try.ntmps52, List.size_toArray, List.length_cons, List.length_nil, Nat.reduceAdd, Nat.reduceSub, Array.replicate_succ, Array.replicate_zero, List.push_toArray, List.append_toArray, List.nil_append, List.cons_append]
  gi_wp2_with (first
    | (gi_at_call 73; refine (keys_any _ _).mono ?_; rintro e w' ⟨rfl, rfl⟩)
    | (gi_at_call 72; refine hC.mono ?_; rintro e w' ⟨v, ss, rfl, hS, hrow, hnil, hb⟩))
  go_ret
  rw [dd_keys] at hS
  rw [sorted_keys hr hS] at hrow
  have hl : ss.length = (d.map (·.1)).length := hS.length_eq
  refine ⟨v, rfl, ?_, fun g hg => ?_, ((Below.refl _ w).alloc (Nat.le_refl _) _).trans (hb.mono (by simp))⟩
  · unfold TOwn
    rw [← hl]
    refine ⟨hrow.1, ?_⟩
    rcases hrow.2 with h2 | ⟨g, cap, cur, e, hg, r⟩
    · exact .inl h2
    · exact .inr ⟨g, cap, cur, e, Nat.zero_le _, r⟩
  · have := (World.ownsRow.lt hrow g hg).1
    have e : (w.alloc (.cells #[.map (some bn)] 84)).heap.size = w.heap.size + 1 := by simp
    omega
theorem eq_nil_slice (w : World) (a : Option Addr) (n c n' c' : Nat) : (binOp .eql 36 (.slice a n c) (.slice none n' c')).run Try.prog w = .ok (.bool a.isNone) w := Lib.run_eql_slice_nil w _ _ a n c n' c' Try.underlying36
set_option maxHeartbeats 1000000 in
set_option maxRecDepth 100000 in
theorem bytesClone_any (ao : Option Addr) (n c : Nat) (xs : List Nat) (w : World) (hn : n = xs.length) (hr : Row w ao xs) (hx : xs.length ≤ 140737488355328) :
    Calls Try.prog 60 #[.slice ao n c] w fun e w' => ∃ v, e = .returned v ∧ Own w' 0 v xs ∧ (∀ g, v.ownBlock = some g → w.heap.size ≤ g) ∧ Below w.heap.size w w' := by
  have q := eq_nil_slice
  have HN := hide hn
  have HX := hide hx
  have HR := hide hr
  clear hn hx hr
  cases ao with
  | none =>
    go_enter Try.func60, Try.ntmps60
    go_wp2
    go_ret
    obtain rfl : xs = [] := by
      rcases HR.out with h | ⟨b, off, h, _⟩
      · exact h
      · cases h
    exact ⟨_, rfl, own_nil w 0, fun g hg => by simp [Value.ownBlock] at hg, Below.refl _ _⟩
  | some a =>
    have HO := hide (own_new w w.heap.size [] (Nat.le_refl _) (Nat.zero_le _))
    have HR2 := hide (HR.out.keep (below_new w (.cells #[] 5)))
    go_enter Try.func60, Try.ntmps60
    go_wp2_with (at_builtin; refine wpList_append_bytes rfl _ _ rfl w.heap.size _ [] rfl HO.out (some a) n c xs HN.out rfl HR2.out (by have := HX.out; simpa using this) (by simp) ?_; intro v w2 h2 hg2; have H2 := hide h2; have HG2 := hide hg2; clear h2 hg2)
    go_ret
    exact ⟨v, rfl, (show Own w2 w.heap.size v xs from H2.out).lower (Nat.zero_le _), H2.out.ge, (below_new w _).grown HG2.out (by simp) (fun j hj => (World.ownsRow.lt HO.out j hj).1)⟩
end Go.Proofs.Yticbfcognnofbaa
