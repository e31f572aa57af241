/- Lists of texts in memory: a cell a text. The contracts of isScope, strings.Clone and Scopes of the program: for every text. The contract of Scopes of the program: for every text. What Scopes hands out, with its length by name. The contracts of Within of the program and of the document: for every two lists. The contracts of One of the program and of the document: for every name in every list. -/
import Derived.Test.YtjehbdekipmllaaGreatDoorXBase
import Derived.Test.YtjehbdekipmllaaGreatDoorXMath
import Derived.Test.YtjehbdekipmllaaGreatDoorXCut
import Derived.Test.YtjehbdekipmllaaGreatDoorShelf
import Derived.Sort.OwnSorted
import Derived.Shelf.Slices.Turned
namespace Go.Proofs.YtjehbdekipmllaaGreatDoor
open Go.RowKit

theorem infoStr : (Tryz.prog.info? 9).map (fun i => (i.zero, i.size, i.bytes)) = some (some (.string { data := #[] }), 1, 16) := by kernel_rfl
/-- A row of texts in memory: none, or cells from an address on. -/
def SRow (w : World) (ao : Option Addr) (l : List U) : Prop :=
  l = [] ∨ ∃ b off, ao = some ⟨b, off, none⟩ ∧ ∀ i u, l[i]? = some u → w.cell? ⟨b, off + i, none⟩ = some (encStr u)
theorem SRow.keep {w w' : World} {ao : Option Addr} {l : List U} (h : SRow w ao l) (hb : Below w.heap.size w w') : SRow w' ao l := by
  rcases h with h | ⟨b, off, rfl, hc⟩
  · exact .inl h
  · exact .inr ⟨b, off, rfl, fun i u hi => cell_kept (hc i u hi) hb⟩
theorem SRow.form {w : World} {ao : Option Addr} {l : List U} (h : SRow w ao l) (hne : 0 < l.length) : ∃ b off, ao = some ⟨b, off, none⟩ := by
  rcases h with rfl | ⟨b, off, rfl, _⟩
  · simp at hne
  · exact ⟨b, off, rfl⟩
theorem SRow.cell {w : World} {b off : Nat} {l : List U} (h : SRow w (some ⟨b, off, none⟩) l) {i : Nat} {u : U} (hi : l[i]? = some u) : w.cell? ⟨b, off + i, none⟩ = some (encStr u) := by
  rcases h with rfl | ⟨b', off', h, hc⟩
  · simp at hi
  · cases h; exact hc i u hi

/-- A slice of texts that is the call's own. -/
def SOwn (w : World) (B : Nat) (v : Value) (l : List U) : Prop := w.ownsRow B 9 1 v l.length (l.map encStr)
theorem sown_nil (w : World) (B : Nat) : SOwn w B (.slice none 0 0) [] := World.ownsRow_nil _ _ _ _
theorem SOwn.keep {w w' : World} {B : Nat} {v : Value} {l : List U} (h : SOwn w B v l) (hb : Below w.heap.size w w') : SOwn w' B v l := by
  refine ⟨h.1, ?_⟩
  rcases h.2 with h2 | ⟨g, cap, cur, e, hg, hh, r⟩
  · exact .inl h2
  · exact .inr ⟨g, cap, cur, e, hg, (hb.block g (Array.getElem?_eq_some_iff.1 hh).1).trans hh, r⟩
theorem SOwn.lower {w : World} {B B' : Nat} {v : Value} {l : List U} (h : SOwn w B v l) (hB : B' ≤ B) : SOwn w B' v l := by
  refine ⟨h.1, ?_⟩
  rcases h.2 with h2 | ⟨g, cap, cur, e, hg, r⟩
  · exact .inl h2
  · exact .inr ⟨g, cap, cur, e, Nat.le_trans hB hg, r⟩
theorem SOwn.shape {w : World} {B : Nat} {v : Value} {l : List U} (h : SOwn w B v l) : ∃ ao cap, v = .slice ao l.length cap ∧ l.length ≤ cap ∧ SRow w ao l ∧ (∀ a, ao = some a → B ≤ a.block) := by
  rcases h.2 with ⟨rfl, hn⟩ | ⟨g, cap, cur, rfl, hb, hg, hle, _, _, ht⟩
  · exact ⟨none, 0, by rw [hn], by omega, .inl (List.length_eq_zero_iff.1 hn), fun a ha => by cases ha⟩
  · refine ⟨_, cap, rfl, hle, .inr ⟨g, 0, rfl, fun i u hi => ?_⟩, fun a ha => by cases ha; exact hb⟩
    have c1 := World.ownsRow.cells h (g := g) rfl i (encStr u) (by rw [List.getElem?_map, hi]; rfl)
    rw [add_none] at c1
    exact c1
theorem SOwn.ge {w : World} {B : Nat} {v : Value} {l : List U} (h : SOwn w B v l) : ∀ k, v.ownBlock = some k → B ≤ k := fun k hk => (World.ownsRow.lt h k hk).1

/-- A whole block of texts, not frozen. -/
def SBlk (w : World) (g : Nat) (l : List U) : Prop := w.heap[g]? = some (.cells (l.map encStr).toArray 9 (0, 0))
theorem SBlk.cell {w : World} {g : Nat} {l : List U} (h : SBlk w g l) {i : Nat} {u : U} (hi : l[i]? = some u) : w.cell? ⟨g, i, none⟩ = some (encStr u) := by
  rw [cell_of_row w g i _ 9 (0, 0) h]
  simp [hi]
theorem SBlk.frozen {w : World} {g : Nat} {l : List U} (h : SBlk w g l) (i : Nat) : w.frozen? ⟨g, i, none⟩ = false := by
  simp only [World.frozen?, show w.heap[g]? = _ from h]
  simp
theorem SBlk.lt {w : World} {g : Nat} {l : List U} (h : SBlk w g l) : g < w.heap.size := (Array.getElem?_eq_some_iff.1 h).1
theorem SBlk.set {w : World} {g : Nat} {l : List U} (h : SBlk w g l) (i : Nat) (u : U) : SBlk (w.setCell ⟨g, i, none⟩ (encStr u)) g (l.set i u) := by
  show _ = _
  rw [setCell_eq_setRow w g i _ _ _ _ h, setRow_heap w g _ _ _ _ h]
  congr 2
  apply Array.ext'
  simp [List.map_set]
theorem SBlk.below {w w' : World} {g B : Nat} {l : List U} (h : SBlk w g l) (hb : Below B w w') (hg : g < B) : SBlk w' g l := (hb.block g hg).trans h
theorem SBlk.keep {w w' : World} {g : Nat} {l : List U} (h : SBlk w g l) (hb : Below w.heap.size w w') : SBlk w' g l := h.below hb h.lt
theorem SBlk.own {w : World} {g B n c : Nat} {l r : List U} (h : SBlk w g (l ++ r)) (hn : n = l.length) (hc : c = n + r.length) (hB : B ≤ g) (hm : c ≤ maxLen) : SOwn w B (.slice (some ⟨g, 0, none⟩) n c) l := by
  subst hn; subst hc
  refine ⟨by simp, .inr ⟨g, _, _, rfl, hB, h, by omega, hm, by simp, ?_⟩⟩
  simp
theorem set_same {l : List U} {i : Nat} {u : U} (h : l[i]? = some u) : l.set i u = l := by
  apply List.ext_getElem?
  intro j
  rw [List.getElem?_set]
  split
  · rename_i e; subst e; split
    · rw [h]
    · rename_i h2; rw [List.getElem?_eq_none (by omega)]
  · rfl
theorem SBlk.holds {w : World} {g : Nat} {l : List U} (h : SBlk w g l) : Sort.Holds encStr w g 0 l.toArray := holds_of_block h (by rw [List.toList_toArray, List.take_of_length_le (by simp)])
theorem put_all (l d : List U) (h : d.length = l.length) : Sort.putCells encStr 0 d.toArray (l.map encStr).toArray = (d.map encStr).toArray := by
  apply Array.ext'
  have h1 := take_putCells (l.map encStr).toArray d (by simp; omega)
  have h2 : (Sort.putCells encStr 0 d.toArray (l.map encStr).toArray).toList.length = d.length := by simp [Sort.putCells]; omega
  rw [← h1, List.take_of_length_le (by omega)]
theorem SBlk.sorted {w : World} {g n : Nat} {l d : List U} {os : Array Obj} (h : SBlk w g l) (hd : d.length = l.length) : SBlk (Sort.grow (Sort.putRow encStr (Sort.ahead w n) g 0 d.toArray) os) g d := by
  have := heap_sorted (n := n) (os := os) d.toArray h
  rw [put_all l d hd] at this
  exact this
theorem grow_none (w : World) : Sort.grow w #[] = w := by simp [Sort.grow]
theorem SBlk.put {w : World} {g n : Nat} {l d : List U} (h : SBlk w g l) (hd : d.length = l.length) : SBlk (Sort.putRow encStr (Sort.ahead w n) g 0 d.toArray) g d := by
  have := h.sorted (n := n) (os := #[]) hd
  rw [grow_none] at this
  exact this
theorem below_sorted {w : World} {g n B : Nat} {d : Array U} {os : Array Obj} (hB : B ≤ g) (hz : B ≤ w.heap.size) : Below B w (Sort.grow (Sort.putRow encStr (Sort.ahead w n) g 0 d) os) :=
  (Below.refl B w).grown (grownBy_sorted d) hz (fun k hk => by cases hk; exact hB)
theorem below_put {w : World} {g n B : Nat} {d : Array U} (hB : B ≤ g) (hz : B ≤ w.heap.size) : Below B w (Sort.putRow encStr (Sort.ahead w n) g 0 d) := by
  have := below_sorted (n := n) (d := d) (os := #[]) hB hz
  rw [grow_none] at this
  exact this
theorem u_size (u : U) : (⟨u.toArray⟩ : ByteArray).size = u.length := by unfold ByteArray.size; simp
theorem u_nil {u : U} (h : u ≠ []) : ((⟨u.toArray⟩ : ByteArray).toList == ([] : List UInt8)) = false := by
  rw [show (⟨u.toArray⟩ : ByteArray).toList = u from by rw [Lib.toList_data]]
  cases u with
  | nil => exact absurd rfl h
  | cons a l => rfl
theorem str_u (s : ByteArray) : Value.string s = encStr s.data.toList := by cases s; simp
end Go.Proofs.YtjehbdekipmllaaGreatDoor
namespace Go.Proofs.YtjehbdekipmllaaGreatDoor
open Go.RowKit

theorem clone_any (s : ByteArray) (w : World) (hs : s.size ≤ 281474976710656) : Calls Tryz.prog 71 #[.string s] w fun e w' => e = .returned (.string s) ∧ Below w.heap.size w w' := by
  have c : Calls Tryz.prog 99 #[.string s] w fun e w' => e = .returned (.string s) ∧ Below w.heap.size w w' := Any.stringslite_Clone laysM316 s w hs
  go_enter Tryz.func71, Tryz.ntmps71
  go_wp2_with fail
  refine c.mono ?_
  rintro e w' ⟨rfl, hb⟩
  go_wp2
  go_ret
  exact ⟨rfl, hb⟩

def lets : List Nat := [34, 92]
theorem okB_letter (c : UInt8) : okB lets c.toNat = letter c := by
  have h := c.toNat_lt
  unfold okB letter seen lets
  rw [Bool.eq_iff_iff]
  simp
  omega
def isScN (xs : List Nat) : Bool := !xs.isEmpty && xs.all (okB lets)
theorem isScN_eq (s : ByteArray) : isScN (sbytes s) = isSc s.data.toList := by
  unfold isScN isSc sbytes
  congr 1
  · cases s.data.toList <;> rfl
  · rw [List.all_map]
    congr 1
    funext c
    exact okB_letter c
theorem isScN_get {xs : List Nat} (h0 : 0 < xs.length) (h : ∀ j, j < xs.length → okB lets (xs.getD j 0) = true) : isScN xs = true := by
  unfold isScN
  rw [Bool.and_eq_true, List.all_eq_true]
  refine ⟨by cases xs with | nil => simp at h0 | cons => rfl, fun x hx => ?_⟩
  obtain ⟨i, hi, rfl⟩ := List.getElem_of_mem hx
  have := h i hi
  simpa [List.getD, hi] using this
theorem isScN_bad {xs : List Nat} {k : Nat} (hk : k < xs.length) (h : okB lets (xs.getD k 0) = false) : isScN xs = false := by
  unfold isScN
  rw [Bool.and_eq_false_iff]
  right
  rw [List.all_eq_false]
  exact ⟨xs.getD k 0, by simp [List.getD, hk], fun h2 => by rw [h] at h2; cases h2⟩
theorem sbytes_lets : sbytes { data := #[34, 92] } = lets := rfl

set_option maxHeartbeats 400000 in
set_option maxRecDepth 100000 in
theorem isScope_any (b : Nat) (s : ByteArray) (w : World) (hs : s.size ≤ 140737488355328) (hb : w.cell? ⟨b, 0, none⟩ = some (.string { data := #[34, 92] })) :
    Calls Tryz.prog 87 #[.string s, .func (.func 109) #[] #[.pointer (some ⟨b, 0, none⟩)]] w fun e w' => e = .returned (.bool (isScN (sbytes s))) ∧ w' = w := by
  obtain ⟨n, hn⟩ : ∃ n, n = s.size := ⟨_, rfl⟩
  obtain ⟨xs, HX⟩ : ∃ xs, Hid (xs = sbytes s) := ⟨_, rfl⟩
  have HN : Hid (n = xs.length) := by show _ = _; rw [hn, HX.out, sbytes_length]
  rw [← HX.out]
  have HS : Hid (n = s.size) := hn
  have hlen : (s.size : Int) = (n : Int) := by rw [hn]
  rw [← hn] at hs
  have HB : Hid (w.cell? ⟨b, 0, none⟩ = some (.string { data := #[34, 92] })) := hb
  clear hn hb
  go_enter Tryz.func87, Tryz.ntmps87
  go_wp2
  go_loop [8] (fun i => ∃ k : Nat, k ≤ n ∧ i = .int .i64 k ∧ Hid (∀ j, j < k → okB lets (xs.getD j 0) = true)) (fun i => n - (intOf i).toNat)
  case atStart => exact ⟨0, Nat.zero_le _, rfl, fun j hj => by omega⟩
  case round =>
    obtain ⟨k, hk, rfl, HK⟩ := hrel
    by_cases hlt : k < n
    · have hix := str_index s k (by rw [← HS.out]; exact hlt)
      rw [← HX.out] at hix
      have hxk : xs.getD k 0 < 256 := by rw [HX.out]; exact lt_get (sbytes_lt s) k
      have HXK : Hid (okB lets (xs.getD k 0) = false → isScN xs = false) := fun h => isScN_bad (by rw [← HN.out]; exact hlt) h
      have HXN : Hid (okB lets (xs.getD k 0) = true → ∀ j, j < k + 1 → okB lets (xs.getD j 0) = true) := fun h j hj => by
        by_cases hjk : j < k
        · exact HK.out j hjk
        · rw [show j = k by omega]; exact h
      generalize xs.getD k 0 = c at *
      go_wp2_with fail
      refine (seen_any b c { data := #[34, 92] } w (by decide) hxk HB.out).mono ?_
      rintro e w' ⟨rfl, rfl⟩
      rw [sbytes_lets]
      cases hok : okB lets c with
      | true =>
        have HK2 : Hid (∀ j, j < k + 1 → okB lets (xs.getD j 0) = true) := HXN.out hok
        clear HXN HXK HK hok
        go_wp2
        go_round
        case rel => exact ⟨k + 1, by omega, by go_num, HK2⟩
        case measure => simp [intOf]; omega
      | false =>
        have HR : Hid (isScN xs = false) := HXK.out hok
        clear HXN HXK HK hok
        go_wp2
        go_ret
        exact ⟨by rw [HR.out]; rfl, rfl⟩
    · by_cases h0 : n = 0
      · have HR : Hid (isScN xs = false) := by
          show _ = _
          have : xs = [] := List.length_eq_zero_iff.1 (by rw [← HN.out]; exact h0)
          rw [this]; rfl
        have hse : s = { data := #[] } := by
          have h1 : s.data.size = 0 := by have := HS.out; rw [h0] at this; exact this.symm
          cases s
          simp at h1
          rw [h1]
        subst hse
        go_wp2
        go_ret
        exact ⟨by rw [HR.out]; rfl, rfl⟩
      · have HR : Hid (isScN xs = true) := isScN_get (by rw [← HN.out]; omega) (fun j hj => HK.out j (by rw [← HN.out] at hj; omega))
        have hpe : (s.toList == ([] : List UInt8)) = false := by
          have h1 : s.data.toList.length = n := by rw [HS.out]; rfl
          rw [show s.toList = s.data.toList from Lib.toList_data s]
          cases hl : s.data.toList with
          | nil => rw [hl] at h1; simp at h1; omega
          | cons a l => rfl
        go_wp2
        go_ret
        exact ⟨by rw [HR.out]; first | rfl | simp [hpe], rfl⟩
end Go.Proofs.YtjehbdekipmllaaGreatDoor
namespace Go.Proofs.YtjehbdekipmllaaGreatDoor
open Go.RowKit

/-- The pieces of a text, as the library cuts it. -/
theorem split_any (s : ByteArray) (w : World) (hs : s.size ≤ 256) (hM : MaxL w) :
    Calls Tryz.prog 17 #[.string s, .string { data := #[32] }] w fun e w' => e = .returned (.slice (some ⟨w.heap.size, 0, none⟩) (cutAll s.data.toList).length (cutAll s.data.toList).length) ∧ w' = w.alloc (.cells ((cutAll s.data.toList).map encStr).toArray 9) := by
  obtain ⟨m, hm⟩ := hM
  have hcnt : Lib.countB s { data := #[32] } = s.data.toList.count 32 := Lib.count_one 32 s.data.toList
  have hsp : (Lib.splitB { data := #[32] } 0 (Lib.countB s { data := #[32] }) s).map (·.data.toList) = cutAll s.data.toList := by
    rw [Lib.splitB_data, hcnt]; exact splitK_cut _
  have hlen : Lib.countB s { data := #[32] } + 1 = (cutAll s.data.toList).length := by
    rw [← hsp, List.length_map, Lib.splitB_all _ (by decide) 0 _ s rfl]
  have hcells : (Lib.splitB { data := #[32] } 0 (Lib.countB s { data := #[32] }) s).map Value.string = (cutAll s.data.toList).map encStr := by
    rw [← hsp, List.map_map]
    apply List.map_congr_left
    intro b _
    exact str_u b
  refine Calls.mono (Any.strings_Split lays146 (by kernel_rfl) s { data := #[32] } m w (by omega) hm (by decide)) ?_
  rintro e w' ⟨rfl, rfl⟩
  rw [hlen, hcells]
  exact ⟨rfl, rfl⟩
theorem sort_any (g n : Nat) (l : List U) (w : World) (hn : n = l.length) (hl : n ≤ 1000) (hb : SBlk w g l) :
    Calls Tryz.prog 88 #[.slice (some ⟨g, 0, none⟩) n n] w fun e w' => e = .returned (.tuple #[]) ∧ Hid (SBlk w' g (l.mergeSort fun x y => decide (x ≤ y)) ∧ ∀ B, B ≤ g → Below B w w') := by
  subst hn
  refine Calls.mono (Any.slices_Sort_string lays190 g 0 l.length l w hb.holds hb.lt (by omega)) ?_
  rintro e w' ⟨rfl, q, os, rfl⟩
  exact ⟨rfl, hb.sorted (List.length_mergeSort ..), fun B hB => below_sorted hB (Nat.le_of_lt (Nat.lt_of_le_of_lt hB hb.lt))⟩
theorem compact_any (g n : Nat) (l : List U) (w : World) (hn : n = l.length) (hl : n ≤ 1000) (hb : SBlk w g l) :
    Calls Tryz.prog 89 #[.slice (some ⟨g, 0, none⟩) n n] w fun e w' => e = .returned (.slice (some ⟨g, 0, none⟩) (Lib.compact l).length n) ∧ Hid (SBlk w' g (Lib.compact l ++ List.replicate (n - (Lib.compact l).length) []) ∧ ∀ B, B ≤ g → Below B w w') := by
  subst hn
  refine Calls.mono (Any.slices_Compact_string lays194 g 0 l.length l w hb.holds (by omega) (Nat.le_refl _)) ?_
  rintro e w' ⟨rfl, q, rfl⟩
  have hle : (Lib.compact l).length ≤ l.length := by
    unfold Lib.compact Lib.compactUpTo
    rw [List.length_map]
    have := List.length_filter_le (Lib.keeps l.toArray) (List.range l.length)
    rw [List.length_range] at this
    exact this
  exact ⟨rfl, hb.put (by simp; omega), fun B hB => below_put hB (Nat.le_of_lt (Nat.lt_of_le_of_lt hB hb.lt))⟩
theorem cutAll_len : ∀ l : U, (cutAll l).length ≤ l.length + 1
  | [] => by simp [cutAll]
  | c :: l => by
    have ih := cutAll_len l
    obtain ⟨h, t, e⟩ := cutAll_ne l
    by_cases hc : c = 32
    · subst hc; rw [cutAll_blank]; simp; omega
    · rw [cutAll_cons hc e]; rw [e] at ih; simp at ih ⊢; omega
theorem cutAll_piece : ∀ (l : U) (u : U), u ∈ cutAll l → u.length ≤ l.length
  | [], u, h => by simp [cutAll] at h; subst h; simp
  | c :: l, u, h => by
    obtain ⟨h', t, e⟩ := cutAll_ne l
    by_cases hc : c = 32
    · subst hc
      rw [cutAll_blank] at h
      rcases List.mem_cons.1 h with rfl | h
      · simp
      · have := cutAll_piece l u h; simp; omega
    · rw [cutAll_cons hc e] at h
      rcases List.mem_cons.1 h with rfl | h
      · have := cutAll_piece l h' (by rw [e]; simp); simp; omega
      · have := cutAll_piece l u (by rw [e]; simp [h]); simp; omega

set_option linter.unusedSimpArgs false in
set_option maxHeartbeats 1000000 in
set_option maxRecDepth 100000 in
theorem scopes_any (s : ByteArray) (w : World) (hsz : s.size ≤ 9223372036854775807) (hM : MaxL w) :
    Calls Tryz.prog 59 #[.string s] w fun e w' => ∃ v, e = .returned (.tuple #[v, .int .i64 ((scoOut s.data.toList).2 : Nat)]) ∧ Hid (SOwn w' w.heap.size v (scoOut s.data.toList).1 ∧ Below w.heap.size w w') := by
  have HM : Hid (MaxL w) := hM
  obtain ⟨t, ht⟩ : ∃ t, t = s.data.toList := ⟨_, rfl⟩
  have hst : s = ⟨t.toArray⟩ := by rw [ht]
  have htl : s.size = t.length := by rw [hst]; exact u_size t
  rw [← ht]
  have HT : Hid (t = s.data.toList) := ht
  obtain ⟨n, hn⟩ : ∃ n, n = t.length := ⟨_, rfl⟩
  have HN : Hid (n = t.length) := hn
  have hlen : (s.size : Int) = (n : Int) := by rw [htl, hn]
  have HSN : Hid (s.size = n) := by show _ = _; rw [htl, hn]
  rw [htl, ← hn] at hsz
  clear hn ht hM htl
  by_cases hbig : 256 < n
  · have hbi : (256 : Int) < (n : Int) := by omega
    have HR : Hid (scoOut t = ([], 1)) := by show _ = _; unfold scoOut; rw [if_pos (by rw [← HN.out]; exact hbig)]
    rw [HR.out]
    clear hst
    go_enter Tryz.func59, Tryz.ntmps59
    go_wp2
    go_ret2
    exact ⟨.slice none 0 0, rfl, sown_nil _ _, Below.refl _ _⟩
  · have hbi : (n : Int) ≤ 256 := by omega
    by_cases h0 : t = []
    · have HR : Hid (scoOut t = ([], 0)) := by show _ = _; unfold scoOut; rw [if_neg (by rw [← HN.out]; exact hbig), if_pos h0]
      rw [HR.out]
      subst h0
      have hse : s = { data := #[] } := hst
      subst hse
      go_enter Tryz.func59, Tryz.ntmps59
      go_wp2
      go_ret2
      exact ⟨.slice none 0 0, rfl, sown_nil _ _, Below.refl _ _⟩
    · have hpe : (s.toList == ([] : List UInt8)) = false := by rw [hst]; exact u_nil h0
      obtain ⟨ps, HP⟩ : ∃ ps, Hid (ps = cutAll t) := ⟨_, rfl⟩
      obtain ⟨m, hm⟩ : ∃ m, m = ps.length := ⟨_, rfl⟩
      have HML : Hid (m = ps.length) := hm
      have hml : m ≤ 257 := by have := cutAll_len t; rw [← HP.out, ← HN.out] at this; omega
      have HPB : Hid (∀ u ∈ ps, u.length ≤ 256) := fun u hu => by rw [HP.out] at hu; have := cutAll_piece t u hu; rw [← HN.out] at this; omega
      obtain ⟨O, HO⟩ : ∃ O, Hid (O = scoOut t) := ⟨_, rfl⟩
      have HOR : Hid (O = if ps.all isSc = true then (if 32 < (insAll [] ps).length then ([], 32) else (insAll [] ps, 0)) else ([], 33)) := by
        show _ = _
        rw [HO.out, HP.out]; unfold scoOut; rw [if_neg (by rw [← HN.out]; exact hbig), if_neg h0]
      rw [← HO.out]
      clear hm hst h0
      go_enter Tryz.func59, Tryz.ntmps59
      go_wp2_with fail
      refine (visible_any { data := #[34, 92] } w).mono ?_
      rintro e w1 ⟨rfl, hw1⟩
      have HC1 : Hid (w1.cell? ⟨w.heap.size, 0, none⟩ = some (.string { data := #[34, 92] })) := by show _ = _; rw [hw1]; simp
      have HB1 : Hid (Below w.heap.size w w1) := by rw [hw1]; exact below_new _ _
      have hs1 : w.heap.size < w1.heap.size := by rw [hw1]; simp
      clear hw1
      go_wp2_with fail
      refine (split_any s w1 (by rw [HSN.out]; omega) (HM.out.keep HB1.out)).mono ?_
      rintro e w2 ⟨rfl, hw2⟩
      rw [← HT.out, ← HP.out] at hw2
      rw [← HT.out, ← HP.out, ← HML.out]
      have HK2 : Hid (SBlk w2 w1.heap.size ps ∧ Below w1.heap.size w1 w2) := by
        rw [hw2]
        exact ⟨by unfold SBlk; rw [heap_alloc_new w1 _], below_new _ _⟩
      clear hw2
      generalize hgg : w1.heap.size = g at *
      have HGG : Hid (w1.heap.size = g) := hgg
      clear hgg
      go_wp2
      go_loopw [20] (fun i wr => ∃ k : Nat, k ≤ m ∧ i = .int .i64 k ∧ Hid (SBlk wr g ps ∧ Below g w1 wr) ∧ Hid (∀ j u, j < k → ps[j]? = some u → isSc u = true)) (fun i _ => m - (intOf i).toNat)
      case atStart => exact ⟨0, Nat.zero_le _, rfl, HK2, fun j u hj => by omega⟩
      case round =>
        clear HK2
        obtain ⟨k, hk, rfl, HI, HK⟩ := hrel
        have hsr : g ≤ wr.heap.size := by have := HI.out.2.size; rw [HGG.out] at this; exact this
        by_cases hlt : k < m
        · obtain ⟨u, hu⟩ : ∃ u, ps[k]? = some u := ⟨_, List.getElem?_eq_getElem (by rw [← HML.out]; exact hlt)⟩
          have HU : Hid (ps[k]? = some u) := hu
          have hul : u.length ≤ 256 := HPB.out u (List.mem_of_getElem? hu)
          clear hu
          have hc0 : wr.cell? ⟨g, k, none⟩ = some (.string ⟨u.toArray⟩) := HI.out.1.cell HU.out
          have HCV : Hid (wr.cell? ⟨w.heap.size, 0, none⟩ = some (.string { data := #[34, 92] })) := by
            show _ = _
            rw [HI.out.2.cell (p := ⟨w.heap.size, 0, none⟩) hs1]; exact HC1.out
          have HIS : Hid (isScN (sbytes ⟨u.toArray⟩) = isSc u) := by
            show _ = _
            rw [isScN_eq]
          go_wp2_with fail
          refine (isScope_any w.heap.size ⟨u.toArray⟩ wr (by rw [u_size]; omega) HCV.out).mono ?_
          rintro e w3 ⟨rfl, rfl⟩
          rw [HIS.out]
          cases hok : isSc u with
          | true =>
            have HK2 : Hid (∀ j v, j < k + 1 → ps[j]? = some v → isSc v = true) := fun j v hj hv => by
              by_cases hjk : j < k
              · exact HK.out j v hjk hv
              · rw [show j = k by omega, HU.out] at hv; cases hv; exact hok
            clear hok HK hc0
            go_wp2_with fail
            refine (clone_any ⟨u.toArray⟩ w3 (by rw [u_size]; omega)).mono ?_
            rintro e w4 ⟨rfl, hb4⟩
            have HI4 : Hid (SBlk w4 g ps ∧ Below g w1 w4) := ⟨HI.out.1.keep hb4, HI.out.2.trans (hb4.mono hsr)⟩
            have hc4 : w4.cell? ⟨g, k, none⟩ = some (.string ⟨u.toArray⟩) := HI4.out.1.cell HU.out
            have hf4 : w4.frozen? ⟨g, k, none⟩ = false := HI4.out.1.frozen k
            clear hb4
            go_wp2
            go_roundw
            case rel => exact ⟨k + 1, by omega, by go_num, ⟨by have h := HI4.out.1.set k u; rw [set_same HU.out] at h; exact h, HI4.out.2.setCell (Nat.le_refl _) _⟩, HK2⟩
            case measure => simp [intOf]; omega
          | false =>
            have HD : Hid (O = ([], 33)) := by
              show _ = _
              rw [HOR.out, if_neg]
              intro hall
              rw [List.all_eq_true] at hall
              have := hall u (List.mem_of_getElem? HU.out)
              rw [hok] at this
              cases this
            clear hok HK
            go_wp2
            go_ret2
            exact ⟨.slice none 0 0, by rw [HD.out]; rfl, by rw [HD.out]; exact sown_nil _ _, HB1.out.trans (HI.out.2.mono (by omega))⟩
        · have hall : ps.all isSc = true := by
            rw [List.all_eq_true]
            intro u hu
            obtain ⟨j, hj, rfl⟩ := List.getElem_of_mem hu
            exact HK.out j _ (by rw [← HML.out] at hj; omega) (List.getElem?_eq_getElem hj)
          have HOA : Hid (O = if 32 < (insAll [] ps).length then ([], 32) else (insAll [] ps, 0)) := by show _ = _; rw [HOR.out, if_pos hall]
          clear hall HK
          go_wp2_with fail
          refine (sort_any g m ps wr HML.out (by omega) HI.out.1).mono ?_
          rintro e w3 ⟨rfl, h3⟩
          obtain ⟨ss, HSS⟩ : ∃ ss, Hid (ss = ps.mergeSort fun x y => decide (x ≤ y)) := ⟨_, rfl⟩
          have HI3 : Hid (SBlk w3 g ss ∧ Below g w1 w3) := by rw [HSS.out]; exact ⟨h3.out.1, HI.out.2.trans (h3.out.2 g (Nat.le_refl _))⟩
          have HSL : Hid (m = ss.length) := by show _ = _; rw [HSS.out, List.length_mergeSort]; exact HML.out
          clear h3
          go_wp2_with fail
          refine (compact_any g m ss w3 HSL.out (by omega) HI3.out.1).mono ?_
          rintro e w4 ⟨rfl, h4⟩
          obtain ⟨us, HUS⟩ : ∃ us, Hid (us = Lib.compact ss) := ⟨_, rfl⟩
          rw [← HUS.out]
          have HUI : Hid (us = insAll [] ps) := by show _ = _; rw [HUS.out, HSS.out]; exact compact_sorted ps
          have HI4 : Hid (SBlk w4 g (us ++ List.replicate (m - us.length) []) ∧ Below g w1 w4) := by rw [HUS.out]; exact ⟨h4.out.1, HI3.out.2.trans (h4.out.2 g (Nat.le_refl _))⟩
          have hul : us.length ≤ m := by
            rw [HUS.out, HSL.out]
            unfold Lib.compact Lib.compactUpTo
            rw [List.length_map]
            have := List.length_filter_le (Lib.keeps ss.toArray) (List.range ss.length)
            rw [List.length_range] at this
            exact this
          have HBF : Hid (Below w.heap.size w w4) := HB1.out.trans (HI4.out.2.mono (by omega))
          have HOW : Hid (SOwn w4 w.heap.size (.slice (some ⟨g, 0, none⟩) us.length m) us) := HI4.out.1.own rfl (by simp; omega) (by omega) (by unfold maxLen; omega)
          rw [← HUI.out] at HOA
          clear h4
          by_cases h32 : 32 < us.length
          · have HD : Hid (O = ([], 32)) := by show _ = _; rw [HOA.out, if_pos h32]
            have h32i : (32 : Int) < (us.length : Int) := by omega
            go_wp2
            go_ret2
            exact ⟨.slice none 0 0, by rw [HD.out]; rfl, by rw [HD.out]; exact sown_nil _ _, HBF.out⟩
          · have HD : Hid (O = (us, 0)) := by show _ = _; rw [HOA.out, if_neg h32]
            have h32i : (us.length : Int) ≤ 32 := by omega
            go_wp2
            go_ret2
            exact ⟨.slice (some ⟨g, 0, none⟩) us.length m, by rw [HD.out]; rfl, by rw [HD.out]; exact HOW.out, HBF.out⟩
end Go.Proofs.YtjehbdekipmllaaGreatDoor
namespace Go.Proofs.YtjehbdekipmllaaGreatDoor
open Go.RowKit

theorem scoOut_len (t : U) : (scoOut t).1.length ≤ 32 := by
  unfold scoOut
  split
  · simp
  · split
    · simp
    · split
      · split
        · simp
        · simp; omega
      · simp
theorem scopes_m (s : ByteArray) (l : List U) (er m : Nat) (w : World) (hO : scoOut s.data.toList = (l, er)) (hm : m = l.length) (hsz : s.size ≤ 9223372036854775807) (hM : MaxL w) :
    Calls Tryz.prog 59 #[.string s] w fun e w' => ∃ fo fc, e = .returned (.tuple #[.slice fo m fc, .int .i64 (er : Int)]) ∧ Hid (SOwn w' w.heap.size (.slice fo m fc) l ∧ Below w.heap.size w w') := by
  subst hm
  refine (scopes_any s w hsz hM).mono ?_
  rintro e w' ⟨v, rfl, h⟩
  rw [hO] at h ⊢
  obtain ⟨fo, fc, rfl, _⟩ := h.out.1.shape
  exact ⟨fo, fc, rfl, h⟩
theorem SOwn.row {w : World} {B n c : Nat} {ao : Option Addr} {l : List U} (h : SOwn w B (.slice ao n c) l) : SRow w ao l := by
  obtain ⟨a, c', e, _, hr, _⟩ := h.shape
  cases e
  exact hr
end Go.Proofs.YtjehbdekipmllaaGreatDoor
namespace Go.Proofs.YtjehbdekipmllaaGreatDoor
open Go.RowKit

theorem contains_any (n c : Nat) (ao : Option Addr) (all : List U) (u : U) (w : World) (hn : n = all.length) (hl : n ≤ 140737488355328) (hr : SRow w ao all) :
    Calls Tryz.prog 90 #[.slice ao n c, .string ⟨u.toArray⟩] w fun e w' => e = .returned (.bool (decide (u ∈ all))) ∧ w' = w := by
  subst hn
  rcases hr with rfl | ⟨b, off, rfl, hc⟩
  · exact Any.slices_Contains_string_empty lays110 ao c ⟨u.toArray⟩ w
  · refine (Any.slices_Contains_string lays110 b off all.length c (all.map fun u => ⟨u.toArray⟩) ⟨u.toArray⟩ w (by simp) (by omega) ?_).mono ?_
    · intro j hj
      rw [List.length_map] at hj
      have := hc j all[j] (List.getElem?_eq_getElem hj)
      rw [this]
      simp [hj]
    · rintro e w' ⟨rfl, rfl⟩
      refine ⟨?_, rfl⟩
      congr 2
      rw [List.take_of_length_le (by simp), Bool.eq_iff_iff, Lib.containsS_iff, decide_eq_true_eq, List.mem_map]
      constructor
      · rintro ⟨v, hv, e⟩
        have : v = u := by
          have := congrArg (fun x : ByteArray => x.data.toList) e
          simpa using this
        rw [← this]; exact hv
      · intro h
        exact ⟨u, h, rfl⟩

def withinB (l all : List U) : Bool := decide (∀ u ∈ l, u ∈ all)
theorem withinB_step {l all : List U} {k : Nat} (h : ∀ u ∈ l.take k, u ∈ all) {u : U} (hu : l[k]? = some u) (hm : u ∈ all) : ∀ u ∈ l.take (k + 1), u ∈ all := by
  intro v hv
  rw [List.take_add_one, hu] at hv
  rcases List.mem_append.1 hv with hv | hv
  · exact h v hv
  · simp at hv; subst hv; exact hm

set_option maxHeartbeats 1000000 in
set_option maxRecDepth 100000 in
theorem within_any (n m c d : Nat) (ao bo : Option Addr) (l all : List U) (w : World) (hn : n = l.length) (hm : m = all.length) (hl : n ≤ 140737488355328) (hl2 : m ≤ 140737488355328) (hx : SRow w ao l) (hy : SRow w bo all) :
    Calls Tryz.prog 60 #[.slice ao n c, .slice bo m d] w fun e w' => e = .returned (.bool (withinB l all)) ∧ w' = w := by
  have HN : Hid (n = l.length) := hn
  have HM : Hid (m = all.length) := hm
  have HX : Hid (SRow w ao l) := hx
  have HY : Hid (SRow w bo all) := hy
  clear hx hy hn hm
  go_enter Tryz.func60, Tryz.ntmps60
  go_wp2
  go_loopw [9] (fun i wr => ∃ k : Nat, k ≤ n ∧ i = .int .i64 (k : Int) ∧ Hid (∀ u ∈ l.take k, u ∈ all) ∧ wr = w) (fun i _ => n - (intOf i).toNat)
  case atStart => exact ⟨0, Nat.zero_le _, rfl, by intro u hu; simp at hu, rfl⟩
  case round =>
    obtain ⟨k, hk, rfl, HA, rfl⟩ := hrel
    by_cases hlt : k < n
    · obtain ⟨b, off, rfl⟩ := HX.out.form (by rw [← HN.out]; omega)
      obtain ⟨u, hu⟩ : ∃ u, l[k]? = some u := ⟨_, List.getElem?_eq_getElem (by rw [← HN.out]; exact hlt)⟩
      have c0 : wr.cell? ⟨b, off + k, none⟩ = some (.string ⟨u.toArray⟩) := HX.out.cell hu
      have HU : Hid (l[k]? = some u) := hu
      clear hu
      go_wp2_with fail
      refine (contains_any m d bo all u wr HM.out hl2 HY.out).mono ?_
      rintro e w2 ⟨rfl, rfl⟩
      by_cases hmem : u ∈ all
      · rw [decide_eq_true hmem]
        have HMM : Hid (u ∈ all) := hmem
        clear hmem
        go_wp2
        go_roundw
        case rel => exact ⟨k + 1, by omega, by go_num, withinB_step HA.out HU.out HMM.out, trivial⟩
        case measure => simp [intOf]; omega
      · rw [decide_eq_false hmem]
        have HMM : Hid (u ∉ all) := hmem
        clear hmem
        go_wp2
        go_ret
        refine ⟨?_, rfl⟩
        have : withinB l all = false := by
          unfold withinB
          rw [decide_eq_false_iff_not]
          intro h
          exact HMM.out (h u (List.mem_of_getElem? HU.out))
        rw [this]; rfl
    · have HT : Hid (withinB l all = true) := by
        show _ = _
        unfold withinB
        rw [decide_eq_true_eq]
        have := HA.out
        rw [List.take_of_length_le (by rw [← HN.out]; omega)] at this
        exact this
      go_wp2
      go_ret
      exact ⟨by rw [HT.out]; rfl, rfl⟩
end Go.Proofs.YtjehbdekipmllaaGreatDoor
namespace Go.Proofs.YtjehbdekipmllaaGreatDoor
open Go.RowKit

def oneStep (name : List Nat) (a : List Nat × Nat) (q : Two) : List Nat × Nat := if q.1 = name then (q.2, a.2 + 1) else a
def ones (name : List Nat) (l : List Two) : List Nat × Nat := l.foldl (oneStep name) ([], 0)
theorem ones_snoc (name : List Nat) (l : List Two) (q : Two) : ones name (l ++ [q]) = oneStep name (ones name l) q := by simp [ones]
theorem ones_len (name : List Nat) (l : List Two) : (ones name l).2 ≤ l.length := by
  have : ∀ (l : List Two) (a : List Nat × Nat), (l.foldl (oneStep name) a).2 ≤ a.2 + l.length := by
    intro l
    induction l with
    | nil => intro a; simp
    | cons q l ih =>
      intro a
      have := ih (oneStep name a q)
      have h2 : (oneStep name a q).2 ≤ a.2 + 1 := by unfold oneStep; split <;> simp
      simp only [List.foldl_cons, List.length_cons]
      omega
  have := this l ([], 0)
  simpa [ones] using this
def oneRes (p : List Nat × Nat) : Value := if 1 < p.2 then .tuple #[.string { data := #[] }, .bool false, .int .i64 34] else .tuple #[.string (bstr p.1), .bool (!p.1.isEmpty), .int .i64 0]
theorem name_eq {x : List Nat} {nm : ByteArray} (hx : ∀ y ∈ x, y < 256) : ((bstr x).toList == nm.toList) = decide (x = sbytes nm) := by
  have e1 : (bstr x).toList = x.map fun n => UInt8.ofNat n := by simp [bstr]
  have e2 : nm.toList = (sbytes nm).map fun n => UInt8.ofNat n := by
    rw [Lib.toList_data]; unfold sbytes; rw [ofNat_toNat]
  rw [Bool.eq_iff_iff, e1, e2]
  simp only [beq_iff_eq, decide_eq_true_eq]
  exact ⟨bytes_inj x _ hx (sbytes_lt nm), fun h => by rw [h]⟩
theorem take_two {l : List Two} {k : Nat} {q : Two} (h : l[k]? = some q) : l.take (k + 1) = l.take k ++ [q] := by rw [List.take_add_one, h]; rfl

set_option linter.unusedSimpArgs false in
set_option maxHeartbeats 1000000 in
set_option maxRecDepth 100000 in
theorem one_any (n c : Nat) (ao : Option Addr) (l : List Two) (nm : ByteArray) (w : World) (hn : n = l.length) (hl : n ≤ 4398046511104) (hb : ∀ q ∈ l, bytes2 q) (hz : ∀ q ∈ l, q.2.length ≤ 281474976710656) (hr : PRow w ao l) :
    Calls Tryz.prog 76 #[.slice ao n c, .string nm] w fun e w' => e = .returned (oneRes (ones (sbytes nm) l)) ∧ Below w.heap.size w w' := by
  have HN : Hid (n = l.length) := hn
  have HR : Hid (PRow w ao l) := hr
  have HB2 : Hid (∀ q ∈ l, bytes2 q) := hb
  have HZ : Hid (∀ q ∈ l, q.2.length ≤ 281474976710656) := hz
  obtain ⟨name, HNM⟩ : ∃ name, Hid (name = sbytes nm) := ⟨_, rfl⟩
  obtain ⟨O, HO⟩ : ∃ O, Hid (O = ones name l) := ⟨_, rfl⟩
  rw [← HNM.out, ← HO.out]
  clear hn hr hb hz
  go_enter Tryz.func76, Tryz.ntmps76
  go_wp2
  go_loopw [7, 8, 13] (fun v m i wr => ∃ (k j : Nat) (x : List Nat), (k ≤ n ∧ j ≤ k ∧ x.length ≤ 281474976710656) ∧ v = .string (bstr x) ∧ m = .int .i64 j ∧ i = .int .i64 k ∧ Hid (ones name (l.take k) = (x, j)) ∧ Hid (Below w.heap.size w wr)) (fun _ _ i _ => n - (intOf i).toNat)
  case atStart => exact ⟨0, 0, [], ⟨by omega, by omega, by simp⟩, rfl, rfl, rfl, rfl, Below.refl _ _⟩
  case round =>
    obtain ⟨k, j, x, ⟨hk, hj, hxl⟩, rfl, rfl, rfl, HS, HBL⟩ := hrel
    have hs := HBL.out.size
    by_cases hlt : k < n
    · obtain ⟨b, off, rfl⟩ := HR.out.form (by rw [← HN.out]; omega)
      obtain ⟨q, hq⟩ : ∃ q, l[k]? = some q := ⟨_, List.getElem?_eq_getElem (by rw [← HN.out]; exact hlt)⟩
      have hqm := List.mem_of_getElem? hq
      have hcc := (HR.out.keep HBL.out).cell hq
      rw [Nat.mul_comm] at hcc
      have c0 : wr.cell? ⟨b, off + k * 2, none⟩ = some (.string (bstr q.1)) := hcc.1
      have c1 : wr.cell? ⟨b, off + k * 2 + 1, none⟩ = some (.string (bstr q.2)) := hcc.2
      have HNE : Hid (((bstr q.1).toList == nm.toList) = decide (q.1 = name)) := by rw [HNM.out]; exact name_eq (HB2.out q hqm).1
      have HQ2 : Hid (q.2.length ≤ 281474976710656) := HZ.out q hqm
      have HST : Hid (ones name (l.take (k + 1)) = if q.1 = name then (q.2, j + 1) else (x, j)) := by
        show _ = _
        rw [take_two hq, ones_snoc, HS.out]; rfl
      clear hcc hq hqm HS
      by_cases he : q.1 = name
      · have hb : ((bstr q.1).toList == nm.toList) = true := by rw [HNE.out, decide_eq_true he]
        have HS2 : Hid (ones name (l.take (k + 1)) = (q.2, j + 1)) := by show _ = _; rw [HST.out, if_pos he]
        clear he HST HNE
        generalize bstr q.1 = y at *
        go_wp2
        go_roundw
        case rel => exact ⟨k + 1, j + 1, q.2, ⟨by omega, by omega, HQ2.out⟩, rfl, by go_num, by go_num, HS2, HBL.out.alloc hs _⟩
        case measure => simp [intOf]; omega
      · have hb : ((bstr q.1).toList == nm.toList) = false := by rw [HNE.out, decide_eq_false he]
        have HS2 : Hid (ones name (l.take (k + 1)) = (x, j)) := by show _ = _; rw [HST.out, if_neg he]
        clear he HST HNE
        generalize bstr q.1 = y at *
        go_wp2
        go_roundw
        case rel => exact ⟨k + 1, j, x, ⟨by omega, by omega, hxl⟩, rfl, rfl, by go_num, HS2, HBL.out.alloc hs _⟩
        case measure => simp [intOf]; omega
    · have HF : Hid (O = (x, j)) := by
        show _ = _
        rw [HO.out, ← HS.out, List.take_of_length_le (by rw [← HN.out]; omega)]
      clear HS
      by_cases h1 : 1 < j
      · have h1i : (1 : Int) < (j : Int) := by omega
        have HRS : Hid (oneRes O = .tuple #[.string { data := #[] }, .bool false, .int .i64 34]) := by show _ = _; rw [HF.out]; unfold oneRes; rw [if_pos h1]
        go_wp2
        go_ret3
        exact ⟨by rw [HRS.out]; rfl, HBL.out⟩
      · have h1i : (j : Int) ≤ 1 := by omega
        have HRS : Hid (oneRes O = .tuple #[.string (bstr x), .bool (!x.isEmpty), .int .i64 0]) := by show _ = _; rw [HF.out]; unfold oneRes; rw [if_neg h1]
        by_cases hx0 : x.length = 0
        · rw [List.length_eq_zero_iff] at hx0
          subst hx0
          rw [show bstr [] = { data := #[] } from rfl] at HRS ⊢
          go_wp2_with fail
          refine (clone_any { data := #[] } wr (by decide)).mono ?_
          rintro e w3 ⟨rfl, hb3⟩
          have HB3 : Hid (Below w.heap.size w w3) := HBL.out.trans (hb3.mono hs)
          clear hb3
          go_wp2
          go_ret3
          exact ⟨by rw [HRS.out]; rfl, HB3.out⟩
        · have hpe := bstr_empty hx0
          have HXE : Hid (x.isEmpty = false) := by
            show _ = _
            cases x with
            | nil => simp at hx0
            | cons => rfl
          go_wp2_with fail
          refine (clone_any (bstr x) wr (by rw [bstr_size]; exact hxl)).mono ?_
          rintro e w3 ⟨rfl, hb3⟩
          have HB3 : Hid (Below w.heap.size w w3) := HBL.out.trans (hb3.mono hs)
          clear hb3
          go_wp2
          go_ret3
          exact ⟨by rw [HRS.out, HXE.out]; first | rfl | simp [hpe], HB3.out⟩

set_option linter.unusedSimpArgs false in
set_option maxHeartbeats 1000000 in
set_option maxRecDepth 100000 in
theorem refOne_any (n c : Nat) (ao : Option Addr) (l : List Two) (nm : ByteArray) (w : World) (hn : n = l.length) (hl : n ≤ 4398046511104) (hb : ∀ q ∈ l, bytes2 q) (hr : PRow w ao l) :
    Calls Tryz.prog 53 #[.slice ao n c, .string nm] w fun e w' => e = .returned (oneRes (ones (sbytes nm) l)) ∧ w' = w := by
  have HN : Hid (n = l.length) := hn
  have HR : Hid (PRow w ao l) := hr
  have HB2 : Hid (∀ q ∈ l, bytes2 q) := hb
  obtain ⟨name, HNM⟩ : ∃ name, Hid (name = sbytes nm) := ⟨_, rfl⟩
  obtain ⟨O, HO⟩ : ∃ O, Hid (O = ones name l) := ⟨_, rfl⟩
  rw [← HNM.out, ← HO.out]
  clear hn hr hb
  go_enter Tryz.func53, Tryz.ntmps53
  go_wp2
  go_loop [7, 8, 9] (fun m v i => ∃ (k j : Nat) (x : List Nat), (k ≤ n ∧ j ≤ k) ∧ v = .string (bstr x) ∧ m = .int .i64 j ∧ i = .int .i64 k ∧ Hid (ones name (l.take k) = (x, j))) (fun _ _ i => n - (intOf i).toNat)
  case atStart => exact ⟨0, 0, [], ⟨by omega, by omega⟩, rfl, rfl, rfl, rfl⟩
  case round =>
    obtain ⟨k, j, x, ⟨hk, hj⟩, rfl, rfl, rfl, HS⟩ := hrel
    by_cases hlt : k < n
    · obtain ⟨b, off, rfl⟩ := HR.out.form (by rw [← HN.out]; omega)
      obtain ⟨q, hq⟩ : ∃ q, l[k]? = some q := ⟨_, List.getElem?_eq_getElem (by rw [← HN.out]; exact hlt)⟩
      have hqm := List.mem_of_getElem? hq
      have hcc := HR.out.cell hq
      rw [Nat.mul_comm] at hcc
      have c0 : w.cell? ⟨b, off + k * 2, none⟩ = some (.string (bstr q.1)) := hcc.1
      have c1 : w.cell? ⟨b, off + k * 2 + 1, none⟩ = some (.string (bstr q.2)) := hcc.2
      have HNE : Hid (((bstr q.1).toList == nm.toList) = decide (q.1 = name)) := by rw [HNM.out]; exact name_eq (HB2.out q hqm).1
      have HST : Hid (ones name (l.take (k + 1)) = if q.1 = name then (q.2, j + 1) else (x, j)) := by
        show _ = _
        rw [take_two hq, ones_snoc, HS.out]; rfl
      clear hcc hq hqm HS
      by_cases he : q.1 = name
      · have hb : ((bstr q.1).toList == nm.toList) = true := by rw [HNE.out, decide_eq_true he]
        have HS2 : Hid (ones name (l.take (k + 1)) = (q.2, j + 1)) := by show _ = _; rw [HST.out, if_pos he]
        clear he HST HNE
        generalize bstr q.1 = y at *
        go_wp2
        go_round
        case rel => exact ⟨k + 1, j + 1, q.2, ⟨by omega, by omega⟩, rfl, by go_num, by go_num, HS2⟩
        case measure => simp [intOf]; omega
      · have hb : ((bstr q.1).toList == nm.toList) = false := by rw [HNE.out, decide_eq_false he]
        have HS2 : Hid (ones name (l.take (k + 1)) = (x, j)) := by show _ = _; rw [HST.out, if_neg he]
        clear he HST HNE
        generalize bstr q.1 = y at *
        go_wp2
        go_round
        case rel => exact ⟨k + 1, j, x, ⟨by omega, by omega⟩, rfl, rfl, by go_num, HS2⟩
        case measure => simp [intOf]; omega
    · have HF : Hid (O = (x, j)) := by
        show _ = _
        rw [HO.out, ← HS.out, List.take_of_length_le (by rw [← HN.out]; omega)]
      clear HS
      by_cases h1 : 1 < j
      · have h1i : (1 : Int) < (j : Int) := by omega
        have HRS : Hid (oneRes O = .tuple #[.string { data := #[] }, .bool false, .int .i64 34]) := by show _ = _; rw [HF.out]; unfold oneRes; rw [if_pos h1]
        go_wp2
        go_ret3
        exact ⟨by rw [HRS.out]; rfl, rfl⟩
      · have h1i : (j : Int) ≤ 1 := by omega
        have HRS : Hid (oneRes O = .tuple #[.string (bstr x), .bool (!x.isEmpty), .int .i64 0]) := by show _ = _; rw [HF.out]; unfold oneRes; rw [if_neg h1]
        by_cases hx0 : x.length = 0
        · rw [List.length_eq_zero_iff] at hx0
          subst hx0
          rw [show bstr [] = { data := #[] } from rfl] at HRS ⊢
          go_wp2
          go_ret3
          exact ⟨by rw [HRS.out]; rfl, rfl⟩
        · have hpe := bstr_empty hx0
          have HXE : Hid (x.isEmpty = false) := by
            show _ = _
            cases x with
            | nil => simp at hx0
            | cons => rfl
          go_wp2
          go_ret3
          exact ⟨by rw [HRS.out, HXE.out]; first | rfl | simp [hpe], rfl⟩
end Go.Proofs.YtjehbdekipmllaaGreatDoor
