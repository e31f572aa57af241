/- The contract of digest.Same: for every two rows of bytes. The program's holds: does a claim show that its maker is that client? The program's claimOfForm, claimOf without a header, Authenticate. The program's claimOf without a header, and Authenticate behind whatever claim. -/
import Derived.Test.YtjehbdekipmllaaGreatDoorXBase
import Derived.Test.YtjehbdekipmllaaGreatDoorLCheck
import Derived.Test.YtjehbdekipmllaaGreatDoorLRow
import Derived.Test.YtjehbdekipmllaaGreatDoorXStr
import Derived.BigQuiet
import Derived.Lib.ConvBytes
import Derived.Deep.RegionHeld3
namespace Go.Proofs.YtjehbdekipmllaaGreatDoor
open Go.RowKit

theorem x8 (a b : Nat) (ha : a < 256) (hb : b < 256) : bits BinOp.xor IntKind.u8 (a : Int) (b : Int) = ((a ^^^ b : Nat) : Int) := u8_xor_nat a b ha hb
theorem xor8_lt {a b : Nat} (ha : a < 256) (hb : b < 256) : a ^^^ b < 256 := Nat.xor_lt_two_pow (n := 8) ha hb
theorem xor_zero_iff (x y : Nat) : x ^^^ y = 0 ↔ x = y := by
  constructor
  · intro h
    have e : x ^^^ y ^^^ y = x := by rw [Nat.xor_assoc, Nat.xor_self, Nat.xor_zero]
    rw [h, Nat.zero_xor] at e
    exact e.symm
  · rintro rfl; exact Nat.xor_self x
theorem lists_eq {xs ys : List Nat} (hl : xs.length = ys.length) : (∀ j, j < xs.length → xs.getD j 0 = ys.getD j 0) ↔ xs = ys := by
  constructor
  · intro h
    apply List.ext_getElem hl
    intro i h1 h2
    have := h i h1
    simpa [List.getD, h1, h2] using this
  · rintro rfl j _; rfl
set_option maxHeartbeats 1000000 in
set_option maxRecDepth 100000 in
theorem dsame_any (n m c d : Nat) (ao bo : Option Addr) (xs ys : List Nat) (w : World) (hn : n = xs.length) (hm : m = ys.length) (hl : n ≤ 140737488355328) (hx : Row w ao xs) (hy : Row w bo ys) (bx : ∀ x ∈ xs, x < 256) (byy : ∀ y ∈ ys, y < 256) :
    Calls Tryz.prog 85 #[.slice ao n c, .slice bo m d] w fun e w' => e = .returned (.bool (decide (xs = ys))) ∧ ∃ k, w' = w.drewN k := by
  have HN : Hid (n = xs.length) := hn
  have HM : Hid (m = ys.length) := hm
  have HX : Hid (Row w ao xs) := hx
  have HY : Hid (Row w bo ys) := hy
  have HBX : Hid (∀ x ∈ xs, x < 256) := bx
  have HBY : Hid (∀ x ∈ ys, x < 256) := byy
  by_cases hne : n = m
  · subst hne
    clear hx hy bx byy hn hm
    go_enter Tryz.func85, Tryz.ntmps85
    go_wp2
    go_loopw [5, 14] (fun v i wr => ∃ k x : Nat, k ≤ n ∧ x < 256 ∧ i = .int .i64 (k : Int) ∧ v = .int .u8 (x : Int) ∧ Hid (x = 0 ↔ ∀ j, j < k → xs.getD j 0 = ys.getD j 0) ∧ ∃ q, wr = w.drewN q) (fun _ i _ => n - (intOf i).toNat)
    case atStart => exact ⟨0, 0, Nat.zero_le _, by decide, rfl, rfl, ⟨fun _ j hj => by omega, fun _ => rfl⟩, 0, rfl⟩
    case round =>
      obtain ⟨k, x, hk, hx256, rfl, rfl, HQ, q, rfl⟩ := hrel
      by_cases hlt : k < n
      · obtain ⟨b, off, rfl⟩ := HX.out.form (by rw [← HN.out]; omega)
        obtain ⟨b', off', rfl⟩ := HY.out.form (by rw [← HM.out]; omega)
        have c0 : w.cell? ⟨b, off + k, none⟩ = some (.int .u8 ((xs.getD k 0 : Nat) : Int)) := HX.out.cell k (by rw [← HN.out]; exact hlt)
        have c1 : w.cell? ⟨b', off' + k, none⟩ = some (.int .u8 ((ys.getD k 0 : Nat) : Int)) := HY.out.cell k (by rw [← HM.out]; exact hlt)
        have h1 := lt_get HBX.out k
        have h2 := lt_get HBY.out k
        have HQN : Hid (x ||| (xs.getD k 0 ^^^ ys.getD k 0) = 0 ↔ ∀ j, j < k + 1 → xs.getD j 0 = ys.getD j 0) := by
          show _ ↔ _
          rw [Nat.or_eq_zero_iff, xor_zero_iff, HQ.out]
          constructor
          · rintro ⟨ha, hb⟩ j hj
            by_cases hjk : j < k
            · exact ha j hjk
            · rw [show j = k by omega]; exact hb
          · intro h
            exact ⟨fun j hj => h j (by omega), h k (by omega)⟩
        generalize xs.getD k 0 = p at *
        generalize ys.getD k 0 = r at *
        have hxo := x8 p r h1 h2
        have hor := u8_or_nat x (p ^^^ r) hx256 (xor8_lt h1 h2)
        have hlo : x ||| (p ^^^ r) < 256 := Nat.or_lt_two_pow (n := 8) hx256 (xor8_lt h1 h2)
        have li : (k : Int) < (n : Int) := by omega
        generalize p ^^^ r = y at *
        generalize x ||| y = z at *
        go_wp2
        go_quiet (fail)
        go_wp2
        go_roundw
        case rel => exact ⟨k + 1, z, by omega, hlo, by go_num, by rfl, HQN, q + nq, by simp [World.drewN]⟩
        case measure => simp [intOf]; omega
      · obtain rfl : k = n := by omega
        have HE : Hid (x = 0 ↔ xs = ys) := by
          show _ ↔ _
          rw [HQ.out, HN.out]
          exact lists_eq (by rw [← HN.out, ← HM.out])
        by_cases hx0 : x = 0
        · have e : decide (xs = ys) = true := decide_eq_true (HE.out.1 hx0)
          have HE2 : Hid (decide (xs = ys) = true) := e
          subst hx0
          clear e
          go_wp2
          go_ret
          exact ⟨by rw [HE2.out]; rfl, q, rfl⟩
        · have HE2 : Hid (decide (xs = ys) = false) := decide_eq_false (fun h => hx0 (HE.out.2 h))
          have hxi : ((x : Int) == 0) = false := by rw [beq_eq_false_iff_ne]; omega
          go_wp2
          go_ret
          exact ⟨by rw [HE2.out]; rfl, q, rfl⟩
  · have e : decide (xs = ys) = false := decide_eq_false (fun h => hne (by rw [hn, hm, h]))
    rw [e]
    have hni : ((n : Int) == (m : Int)) = false := by rw [beq_eq_false_iff_ne]; omega
    have hnj : ((n : Int) != (m : Int)) = true := by rw [bne_iff_ne]; omega
    clear hx hy bx byy hn hm
    go_enter Tryz.func85, Tryz.ntmps85
    go_wp2
    go_ret
    exact ⟨rfl, 0, rfl⟩
end Go.Proofs.YtjehbdekipmllaaGreatDoor
namespace Go.Proofs.YtjehbdekipmllaaGreatDoor
open Go.RowKit

def holdsB (how : Int) (secret kept : ByteArray) : Bool := if how = 1 ∨ how = 2 then (decide (0 < kept.size) && decide (secret = kept)) else if how = 0 then decide (secret = kept) else false
theorem conv_bytes (w : World) (s : ByteArray) : ∃ c w', (convert 9 65 (.string s)).run Tryz.prog w = .ok (.slice (some ⟨w.heap.size, 0, none⟩) s.size c) w' ∧ Hid (Row w' (some ⟨w.heap.size, 0, none⟩) (sbytes s) ∧ Below w.heap.size w w' ∧ w'.heap.size = w.heap.size + 1) := by
  refine ⟨_, _, Lib.run_convert_string_bytes w _ _ 5 s Tryz.underlying9 Tryz.underlying65 Tryz.underlying5, ?_, ?_, ?_⟩
  · refine .inr ⟨w.heap.size, 0, rfl, fun i hi => ?_⟩
    rw [sbytes_length] at hi
    rw [Nat.zero_add, cell_of_row _ _ _ _ _ _ (Lib.bytesWorld_at_new w _ s)]
    unfold Lib.bytesCells
    have hi' : i < s.data.size := hi
    rw [Array.getElem?_append_left (by rw [Array.size_map]; exact hi'), Array.getElem?_map, Array.getElem?_eq_getElem hi']
    simp only [sbytes, List.getD, List.getElem?_map, Array.getElem?_toList, Array.getElem?_eq_getElem hi', Option.map_some, Option.getD_some]
  · refine ⟨rfl, rfl, rfl, ?_, fun j hj => Lib.bytesWorld_at_old w _ s j hj⟩
    simp [Lib.bytesWorld, World.freeze, World.alloc, World.drew, -World.alloc_eq, -World.drew_eq]
  · simp [Lib.bytesWorld, World.freeze, World.alloc, World.drew, -World.alloc_eq, -World.drew_eq]
theorem sbytes_inj (a b : ByteArray) : decide (sbytes a = sbytes b) = decide (a = b) := by
  rw [decide_eq_decide]
  constructor
  · intro h
    have := congrArg bstr h
    rw [bstr_sbytes, bstr_sbytes] at this
    exact this
  · intro h; rw [h]
set_option maxHeartbeats 400000 in
set_option maxRecDepth 100000 in
theorem holds_any (how : Int) (nm sec id secret url : ByteArray) (gr : Int) (pg : Bool) (so : Option Addr) (n cp : Nat) (w : World) (hh : how = 0 ∨ how = 1 ∨ how = 2) (hs : sec.size ≤ 140737488355328) :
    Calls Tryz.prog 58 #[.agg #[.int .i64 how, .string nm, .string sec], .agg #[.string id, .string secret, .int .i64 gr, .bool pg, .string url, .slice so n cp]] w fun e w' => e = .returned (.bool (holdsB how sec secret)) ∧ Below w.heap.size w w' := by
  obtain ⟨k1, w1, hcv1, H1⟩ := conv_bytes ((w.alloc (.cells #[.int .i64 how, .string nm, .string sec] 100)).alloc (.cells #[.string id, .string secret, .int .i64 gr, .bool pg, .string url, .slice so n cp] 47)) sec
  obtain ⟨k2, w2, hcv2, H2⟩ := conv_bytes w1 secret
  have HB0 : Hid (Below w.heap.size w ((w.alloc (.cells #[.int .i64 how, .string nm, .string sec] 100)).alloc (.cells #[.string id, .string secret, .int .i64 gr, .bool pg, .string url, .slice so n cp] 47))) := (below_new w _).trans ((below_new _ _).mono (by simp))
  have c1 : w1.cell? ⟨w.heap.size + 1, 1, none⟩ = some (.string secret) := cell_kept (by simp) H1.out.2.1
  have hsz0 : ((w.alloc (.cells #[.int .i64 how, .string nm, .string sec] 100)).alloc (.cells #[.string id, .string secret, .int .i64 gr, .bool pg, .string url, .slice so n cp] 47)).heap.size = w.heap.size + 2 := by simp
  have HB2 : Hid (Below w.heap.size w w2) := (HB0.out.trans (H1.out.2.1.mono (by omega))).trans (H2.out.2.1.mono (by have := H1.out.2.2; omega))
  have HDS := dsame_any sec.size secret.size k1 k2 _ _ (sbytes sec) (sbytes secret) w2 (by rw [sbytes_length]) (by rw [sbytes_length]) hs (H1.out.1.keep H2.out.2.1) H2.out.1 (sbytes_lt sec) (sbytes_lt secret)
  rw [sbytes_inj] at HDS
  rw [hsz0] at hcv1 HDS
  obtain ⟨D, HD⟩ : ∃ D, Hid (D = decide (sec = secret)) := ⟨_, hide rfl⟩
  rw [← HD.out] at HDS
  clear hsz0
  rcases hh with rfl | rfl | rfl
  · have HR : Hid (holdsB 0 sec secret = D) := by show _ = _; unfold holdsB; rw [if_neg (by decide), if_pos rfl, HD.out]
    go_enter Tryz.func58, Tryz.ntmps58
    go_wp2_with (first | (go_at_call 85; refine HDS.mono ?_; rintro e wx ⟨rfl, q, rfl⟩))
    go_ret
    exact ⟨by rw [HR.out]; rfl, below_drewN HB2.out _⟩
  · by_cases h0 : secret.size = 0
    · have HR : Hid (holdsB 1 sec secret = false) := by show _ = _; unfold holdsB; rw [if_pos (by decide), decide_eq_false (p := 0 < secret.size) (by omega)]; rfl
      have hse := empty_of h0
      have hem : (secret.toList == ([] : List UInt8)) = true := by rw [hse, Lib.toList_data]; rfl
      clear h0 hse
      go_enter Tryz.func58, Tryz.ntmps58
      go_wp2
      go_ret
      exact ⟨by rw [HR.out]; rfl, HB0.out⟩
    · have HR : Hid (holdsB 1 sec secret = D) := by show _ = _; unfold holdsB; rw [if_pos (by decide), decide_eq_true (p := 0 < secret.size) (by omega), HD.out]; rfl
      have hne := ne_of_size h0
      go_enter Tryz.func58, Tryz.ntmps58
      go_wp2_with (first | (go_at_call 85; refine HDS.mono ?_; rintro e wx ⟨rfl, q, rfl⟩))
      go_ret
      exact ⟨by rw [HR.out]; rfl, below_drewN HB2.out _⟩
  · by_cases h0 : secret.size = 0
    · have HR : Hid (holdsB 2 sec secret = false) := by show _ = _; unfold holdsB; rw [if_pos (by decide), decide_eq_false (p := 0 < secret.size) (by omega)]; rfl
      have hse := empty_of h0
      have hem : (secret.toList == ([] : List UInt8)) = true := by rw [hse, Lib.toList_data]; rfl
      clear h0 hse
      go_enter Tryz.func58, Tryz.ntmps58
      go_wp2
      go_ret
      exact ⟨by rw [HR.out]; rfl, HB0.out⟩
    · have HR : Hid (holdsB 2 sec secret = D) := by show _ = _; unfold holdsB; rw [if_pos (by decide), decide_eq_true (p := 0 < secret.size) (by omega), HD.out]; rfl
      have hne := ne_of_size h0
      go_enter Tryz.func58, Tryz.ntmps58
      go_wp2_with (first | (go_at_call 85; refine HDS.mono ?_; rintro e wx ⟨rfl, q, rfl⟩))
      go_ret
      exact ⟨by rw [HR.out]; rfl, below_drewN HB2.out _⟩
end Go.Proofs.YtjehbdekipmllaaGreatDoor
namespace Go.Proofs.YtjehbdekipmllaaGreatDoor
open Go.RowKit

/-- Three cells in a block: a claim. -/
def K3 (w : World) (N : Nat) (v0 v1 v2 : Value) : Prop := w.heap[N]? = some (.cells #[v0, v1, v2] 100 (0, 0))
def putK (w : World) (N : Nat) (v0 v1 v2 : Value) : World := ((w.setCell ⟨N, 0, none⟩ v0).setCell ⟨N, 1, none⟩ v1).setCell ⟨N, 2, none⟩ v2
theorem K3.new (w : World) : K3 (w.alloc (.cells #[.int .i64 0, .string { data := #[] }, .string { data := #[] }] 100)) w.heap.size (.int .i64 0) (.string { data := #[] }) (.string { data := #[] }) := heap_alloc_new w _
theorem K3.lt {w : World} {N : Nat} {v0 v1 v2 : Value} (h : K3 w N v0 v1 v2) : N < w.heap.size := (Array.getElem?_eq_some_iff.1 h).1
theorem K3.keep {w w' : World} {N B : Nat} {v0 v1 v2 : Value} (h : K3 w N v0 v1 v2) (hb : Below B w w') (hB : N < B) : K3 w' N v0 v1 v2 := (hb.block N hB).trans h
theorem K3.cells {w : World} {N : Nat} {v0 v1 v2 : Value} (h : K3 w N v0 v1 v2) : w.cell? ⟨N, 0, none⟩ = some v0 ∧ w.cell? ⟨N, 1, none⟩ = some v1 ∧ w.cell? ⟨N, 2, none⟩ = some v2 := by
  refine ⟨?_, ?_, ?_⟩ <;> (rw [cell_of_row w N _ _ 100 (0, 0) h]; rfl)
theorem K3.thaw {w : World} {N : Nat} {v0 v1 v2 : Value} (h : K3 w N v0 v1 v2) : w.frozen? ⟨N, 0, none⟩ = false ∧ w.frozen? ⟨N, 1, none⟩ = false ∧ w.frozen? ⟨N, 2, none⟩ = false := by
  refine ⟨?_, ?_, ?_⟩ <;> (simp only [World.frozen?, show w.heap[N]? = _ from h]; simp)
theorem K3.set {w : World} {N : Nat} {v0 v1 v2 u0 u1 u2 : Value} (h : K3 w N v0 v1 v2) (i : Nat) (v : Value) (he : ([v0, v1, v2] : List Value).set i v = [u0, u1, u2]) : K3 (w.setCell ⟨N, i, none⟩ v) N u0 u1 u2 := by
  show _ = _
  rw [setCell_eq_setRow w N i _ _ _ _ h, setRow_heap w N _ _ _ _ h]
  congr 2
  apply Array.ext'
  simp only [Array.toList_setIfInBounds]
  exact he
theorem K3.put {w : World} {N : Nat} {v0 v1 v2 : Value} (h : K3 w N v0 v1 v2) (u0 u1 u2 : Value) : K3 (putK w N u0 u1 u2) N u0 u1 u2 := ((h.set 0 u0 rfl).set 1 u1 rfl).set 2 u2 rfl
theorem putK_grown (w : World) (N : Nat) (u0 u1 u2 : Value) : w.grownBy (putK w N u0 u1 u2) (some N) := ((grown_set w N 0 u0).trans (grown_set _ N 1 u1)).trans (grown_set _ N 2 u2)
theorem k3_results {fn : Func} {slot s2 N : Nat} (h : fn.results = #[.cell slot 100, .tmp s2]) {tmps : Array Value} (hs : tmps.getD slot undef = .pointer (some ⟨N, 0, none⟩)) {x : Value} (hx : tmps.getD s2 undef = x) {w : World} {v0 v1 v2 : Value} (hb : K3 w N v0 v1 v2) : (results fn tmps).run Tryz.prog w = .ok (.tuple #[.agg #[v0, v1, v2], x]) w := by
  obtain ⟨j0, j1, j2⟩ := hb.cells
  have hs' : tmps[slot]?.getD undef = .pointer (some ⟨N, 0, none⟩) := by simpa using hs
  have hx' : tmps[s2]?.getD undef = x := by simpa using hx
  simp [results, h, go_sem, hs', hx', j0, j1, j2]

def nId : List Nat := [99, 108, 105, 101, 110, 116, 95, 105, 100]
def nSec : List Nat := [99, 108, 105, 101, 110, 116, 95, 115, 101, 99, 114, 101, 116]
structure Clm where
  how : Int
  nm : ByteArray
  sec : ByteArray
  er : Nat
def badClm (e : Nat) : Clm := ⟨0, { data := #[] }, { data := #[] }, e⟩
/-- What a form says. -/
def formT (l : List Two) : Clm := if 1 < (ones nId l).2 then badClm 34 else if 1 < (ones nSec l).2 then badClm 34 else ⟨if (ones nSec l).1 = [] then 0 else 2, bstr (ones nId l).1, bstr (ones nSec l).1, 0⟩
def ClmEnd (w : World) (t : Clm) (e : Ending) (w' : World) : Prop := e = .returned (.tuple #[.agg #[.int .i64 t.how, .string t.nm, .string t.sec], .int .i64 (t.er : Int)]) ∧ Below w.heap.size w w'
set_option maxHeartbeats 1000000 in
set_option maxRecDepth 100000 in
theorem claimOfForm_any (n c : Nat) (ao : Option Addr) (l : List Two) (w : World) (hn : n = l.length) (hl : n ≤ 4398046511104) (hb : ∀ q ∈ l, bytes2 q) (hz : ∀ q ∈ l, q.2.length ≤ 281474976710656) (hr : PRow w ao l) :
    Calls Tryz.prog 82 #[.slice ao n c] w fun e w' => True ∧ ClmEnd w (formT l) e w' := by
  have HR : Hid (PRow w ao l) := hr
  have HBA : Hid (Below w.heap.size w (w.alloc (.cells #[.int .i64 0, .string { data := #[] }, .string { data := #[] }] 100))) := below_new w _
  have HK0 := hide (K3.new w)
  obtain ⟨x, i, hI⟩ : ∃ x i, ones nId l = (x, i) := ⟨_, _, rfl⟩
  obtain ⟨y, j, hJ⟩ : ∃ y j, ones nSec l = (y, j) := ⟨_, _, rfl⟩
  have HO1 : ∀ W, Below w.heap.size w W → Calls Tryz.prog 76 #[.slice ao n c, .string { data := #[99, 108, 105, 101, 110, 116, 95, 105, 100] }] W fun e w' => e = .returned (oneRes (x, i)) ∧ Below W.heap.size W w' := by
    intro W hW
    have h := one_any n c ao l { data := #[99, 108, 105, 101, 110, 116, 95, 105, 100] } W hn hl hb hz (HR.out.keep hW)
    rw [show sbytes { data := #[99, 108, 105, 101, 110, 116, 95, 105, 100] } = nId from rfl, hI] at h
    exact h
  have HO2 : ∀ W, Below w.heap.size w W → Calls Tryz.prog 76 #[.slice ao n c, .string { data := #[99, 108, 105, 101, 110, 116, 95, 115, 101, 99, 114, 101, 116] }] W fun e w' => e = .returned (oneRes (y, j)) ∧ Below W.heap.size W w' := by
    intro W hW
    have h := one_any n c ao l { data := #[99, 108, 105, 101, 110, 116, 95, 115, 101, 99, 114, 101, 116] } W hn hl hb hz (HR.out.keep hW)
    rw [show sbytes { data := #[99, 108, 105, 101, 110, 116, 95, 115, 101, 99, 114, 101, 116] } = nSec from rfl, hJ] at h
    exact h
  have HT : Hid (formT l = if 1 < i then badClm 34 else if 1 < j then badClm 34 else ⟨if y = [] then 0 else 2, bstr x, bstr y, 0⟩) := by show _ = _; unfold formT; rw [hI, hJ]
  obtain ⟨T, HTT⟩ : ∃ T, Hid (T = formT l) := ⟨_, hide rfl⟩
  rw [← HTT.out] at HT ⊢
  have HBW : ∀ w1, Below (w.alloc (.cells #[.int .i64 0, .string { data := #[] }, .string { data := #[] }] 100)).heap.size (w.alloc (.cells #[.int .i64 0, .string { data := #[] }, .string { data := #[] }] 100)) w1 → Below w.heap.size w w1 := fun w1 h => HBA.out.trans (h.mono HBA.out.size)
  clear hn hb hz hr hI hJ HTT
  by_cases h1 : 1 < i
  · have HTE : Hid (T = badClm 34) := by show _ = _; rw [HT.out, if_pos h1]
    rw [show oneRes (x, i) = .tuple #[.string { data := #[] }, .bool false, .int .i64 34] by unfold oneRes; rw [if_pos h1]] at HO1
    clear h1 HT
    go_enter Tryz.func82, Tryz.ntmps82
    go_wp2_with (first | (go_at_call 76; refine (HO1 _ HBA.out).mono ?_))
    rintro e w1 ⟨rfl, hb1⟩
    have HB1 := hide (HBW w1 hb1)
    have HK1 := hide (HK0.out.keep hb1 (by simp))
    obtain ⟨d0, d1, d2⟩ := HK1.out.cells
    obtain ⟨f0, f1, f2⟩ := HK1.out.thaw
    have hs1 := HK1.out.lt
    clear hb1 HO1 HO2 HBW
    go_wp2
    refine bodyPost_ret (k3_results rfl rfl rfl (HK1.out.put _ _ _)) rfl ?_
    rw [HTE.out]
    exact ⟨trivial, rfl, HB1.out.trans (below_of_grown (putK_grown _ _ _ _ _) (Nat.le_refl _) (by omega))⟩
  · rw [show oneRes (x, i) = .tuple #[.string (bstr x), .bool (!x.isEmpty), .int .i64 0] by unfold oneRes; rw [if_neg h1]] at HO1
    by_cases h2 : 1 < j
    · have HTE : Hid (T = badClm 34) := by show _ = _; rw [HT.out, if_neg h1, if_pos h2]
      rw [show oneRes (y, j) = .tuple #[.string { data := #[] }, .bool false, .int .i64 34] by unfold oneRes; rw [if_pos h2]] at HO2
      clear h1 h2 HT
      generalize bstr x = xb at *
      generalize (!x.isEmpty) = xe at *
      go_enter Tryz.func82, Tryz.ntmps82
      go_wp2_with (first | (go_at_call 76; refine (HO1 _ HBA.out).mono ?_))
      rintro e w1 ⟨rfl, hb1⟩
      have HB1 := hide (HBW w1 hb1)
      have HK1 := hide (HK0.out.keep hb1 (by simp))
      clear hb1 HO1 HBW
      go_wp2_with (first | (go_at_call 76; refine (HO2 _ HB1.out).mono ?_))
      rintro e w2 ⟨rfl, hb2⟩
      have hs1 := HK1.out.lt
      have HB2 := hide (HB1.out.trans (hb2.mono (by omega)))
      have HK2 := hide (HK1.out.keep hb2 hs1)
      obtain ⟨d0, d1, d2⟩ := HK2.out.cells
      obtain ⟨f0, f1, f2⟩ := HK2.out.thaw
      have hs2 := HK2.out.lt
      clear hb2 HO2
      go_wp2
      refine bodyPost_ret (k3_results rfl rfl rfl (HK2.out.put _ _ _)) rfl ?_
      rw [HTE.out]
      exact ⟨trivial, rfl, HB2.out.trans (below_of_grown (putK_grown _ _ _ _ _) (Nat.le_refl _) (by omega))⟩
    · rw [show oneRes (y, j) = .tuple #[.string (bstr y), .bool (!y.isEmpty), .int .i64 0] by unfold oneRes; rw [if_neg h2]] at HO2
      obtain ⟨how, hho⟩ : ∃ how : Int, how = if y = [] then 0 else 2 := ⟨_, rfl⟩
      have HTE : Hid (T = ⟨how, bstr x, bstr y, 0⟩) := by show _ = _; rw [HT.out, if_neg h1, if_neg h2, hho]
      have hye : (y.isEmpty = true ∧ how = 0) ∨ (y.isEmpty = false ∧ how = 2) := by
        rw [hho]
        cases y with
        | nil => left; exact ⟨rfl, rfl⟩
        | cons => right; exact ⟨rfl, rfl⟩
      clear h1 h2 HT hho
      generalize bstr x = xb at *
      generalize bstr y = yb at *
      generalize (!x.isEmpty) = xe at *
      generalize y.isEmpty = ye at *
      rcases hye with ⟨rfl, rfl⟩ | ⟨rfl, rfl⟩
      all_goals
        go_enter Tryz.func82, Tryz.ntmps82
        go_wp2_with (first | (go_at_call 76; refine (HO1 _ HBA.out).mono ?_))
        rintro e w1 ⟨rfl, hb1⟩
        have HB1 := hide (HBW w1 hb1)
        have HK1 := hide (HK0.out.keep hb1 (by simp))
        clear hb1 HO1 HBW
        go_wp2_with (first | (go_at_call 76; refine (HO2 _ HB1.out).mono ?_))
        rintro e w2 ⟨rfl, hb2⟩
        have hs1 := HK1.out.lt
        have HB2 := hide (HB1.out.trans (hb2.mono (by omega)))
        have HK2 := hide (HK1.out.keep hb2 hs1)
        obtain ⟨d0, d1, d2⟩ := HK2.out.cells
        obtain ⟨f0, f1, f2⟩ := HK2.out.thaw
        have hs2 := HK2.out.lt
        clear hb2 HO2
        go_wp2
        refine bodyPost_ret (k3_results rfl rfl rfl (HK2.out.put _ _ _)) rfl ?_
        rw [HTE.out]
        exact ⟨trivial, rfl, HB2.out.trans (below_of_grown (putK_grown _ _ _ _ _) (Nat.le_refl _) (by omega))⟩
end Go.Proofs.YtjehbdekipmllaaGreatDoor
namespace Go.Proofs.YtjehbdekipmllaaGreatDoor
open Go.RowKit

def claim0 (t : Clm) : Clm := if t.er ≠ 0 then badClm t.er else if t.nm.size = 0 then badClm 7 else t
set_option maxHeartbeats 1000000 in
set_option maxRecDepth 100000 in
theorem claimOf_none (n c : Nat) (ao : Option Addr) (l : List Two) (w : World) (hn : n = l.length) (hl : n ≤ 4398046511104) (hb : ∀ q ∈ l, bytes2 q) (hz : ∀ q ∈ l, q.2.length ≤ 281474976710656) (hr : PRow w ao l) :
    Calls Tryz.prog 56 #[.string { data := #[] }, .slice ao n c] w fun e w' => True ∧ ClmEnd w (claim0 (formT l)) e w' := by
  have HBA : Hid (Below w.heap.size w (w.alloc (.cells #[.int .i64 0, .string { data := #[] }, .string { data := #[] }] 100))) := below_new w _
  have HK0 := hide (K3.new w)
  have HF := claimOfForm_any n c ao l (w.alloc (.cells #[.int .i64 0, .string { data := #[] }, .string { data := #[] }] 100)) hn hl hb hz (hr.keep HBA.out)
  obtain ⟨t, ht⟩ : ∃ t, t = formT l := ⟨_, rfl⟩
  rw [← ht] at HF ⊢
  obtain ⟨h, nm, sec, er⟩ := t
  obtain ⟨T, HT⟩ : ∃ T, Hid (T = claim0 ⟨h, nm, sec, er⟩) := ⟨_, hide rfl⟩
  rw [← HT.out]
  clear ht hn hb hz hr
  go_enter Tryz.func56, Tryz.ntmps56
  go_wp2_with (first | (go_at_call 82; refine HF.mono ?_))
  rintro e w1 ⟨-, rfl, hb1⟩
  have HB1 : Hid (Below w.heap.size w w1) := HBA.out.trans (hb1.mono HBA.out.size)
  have HK1 := hide (HK0.out.keep hb1 (by simp))
  have hs1 : w.heap.size < w1.heap.size := HK1.out.lt
  have HB2 : Hid (Below w1.heap.size w1 (w1.alloc (.cells #[.int .i64 h, .string nm, .string sec] 100))) := below_new w1 _
  have HK2 := hide (HK1.out.keep HB2.out hs1)
  have HK8 : Hid (K3 (w1.alloc (.cells #[.int .i64 h, .string nm, .string sec] 100)) w1.heap.size (.int .i64 h) (.string nm) (.string sec)) := heap_alloc_new w1 _
  have hs2 := HB2.out.size
  clear hb1 HF
  simp only
  go_upto_region 2 with fail
  generalize (w1.alloc (.cells #[.int .i64 h, .string nm, .string sec] 100)) = w2 at *
  obtain ⟨d0, d1, d2⟩ := HK2.out.cells
  obtain ⟨f0, f1, f2⟩ := HK2.out.thaw
  obtain ⟨i0, i1, i2⟩ := HK8.out.cells
  by_cases he : er = 0
  · subst he
    by_cases h0 : nm.size = 0
    · have HTE : Hid (T = badClm 7) := by show _ = _; rw [HT.out]; unfold claim0; rw [if_neg (by simp), if_pos h0]
      have hnm := empty_of h0
      subst hnm
      clear h0
      go_wp2
      refine bodyPost_ret (k3_results rfl rfl rfl (HK2.out.put _ _ _)) rfl ?_
      rw [HTE.out]
      exact ⟨trivial, rfl, (HB1.out.trans (HB2.out.mono (by omega))).trans (below_of_grown (putK_grown _ _ _ _ _) (Nat.le_refl _) (by omega))⟩
    · have HTE : Hid (T = ⟨h, nm, sec, 0⟩) := by show _ = _; rw [HT.out]; unfold claim0; rw [if_neg (by simp), if_neg h0]
      have hne := ne_of_size h0
      go_wp2
      refine bodyPost_ret (k3_results rfl rfl rfl (HK2.out.put _ _ _)) rfl ?_
      rw [HTE.out]
      exact ⟨trivial, rfl, (HB1.out.trans (HB2.out.mono (by omega))).trans (below_of_grown (putK_grown _ _ _ _ _) (Nat.le_refl _) (by omega))⟩
  · have HTE : Hid (T = badClm er) := by show _ = _; rw [HT.out]; unfold claim0; rw [if_pos he]
    have hei : ((er : Int) == 0) = false := by simp; omega
    have hei2 : ((er : Int) != 0) = true := by simp; omega
    go_wp2
    refine bodyPost_ret (k3_results rfl rfl rfl (HK2.out.put _ _ _)) rfl ?_
    rw [HTE.out]
    exact ⟨trivial, rfl, (HB1.out.trans (HB2.out.mono (by omega))).trans (below_of_grown (putK_grown _ _ _ _ _) (Nat.le_refl _) (by omega))⟩

structure Aut where
  cl : Option Cl
  how : Int
  er : Nat
def authF (h : Int) (sec : ByteArray) (F : Option Cl) : Aut := match F with | none => ⟨none, 0, 111⟩ | some c => if holdsB h sec c.secret = true then ⟨some c, h, 0⟩ else ⟨none, 0, 112⟩
def authR (L : List Cl) (t : Clm) : Aut := if t.er ≠ 0 then ⟨none, 0, t.er⟩ else authF t.how t.sec (findR L t.nm)
def AuEnd (w : World) (R : Aut) (e : Ending) (w' : World) : Prop := ∃ (c : Cl) (so : Option Addr) (n cp : Nat), e = .returned (.tuple #[.agg #[.string c.id, .string c.secret, .int .i64 c.grants, .bool c.ping, .string c.url, .slice so n cp], .int .i64 R.how, .int .i64 (R.er : Int)]) ∧ R.cl.getD zeroCl = c ∧ SAt w' so n cp c.scopes ∧ (∀ a, so = some a → w.heap.size ≤ a.block) ∧ Below w.heap.size w w'
theorem c6_results3 {fn : Func} {slot s2 s3 N : Nat} (h : fn.results = #[.cell slot 47, .tmp s2, .tmp s3]) {tmps : Array Value} (hs : tmps.getD slot undef = .pointer (some ⟨N, 0, none⟩)) {x y : Value} (hx : tmps.getD s2 undef = x) (hy : tmps.getD s3 undef = y) {w : World} {v0 v1 v2 v3 v4 v5 : Value} (hb : C6 w N v0 v1 v2 v3 v4 v5) : (results fn tmps).run Tryz.prog w = .ok (.tuple #[.agg #[v0, v1, v2, v3, v4, v5], x, y]) w := by
  obtain ⟨j0, j1, j2, j3, j4, j5⟩ := hb.cells
  have hs' : tmps[slot]?.getD undef = .pointer (some ⟨N, 0, none⟩) := by simpa using hs
  have hx' : tmps[s2]?.getD undef = x := by simpa using hx
  have hy' : tmps[s3]?.getD undef = y := by simpa using hy
  simp [results, h, go_sem, hs', hx', hy', j0, j1, j2, j3, j4, j5]
theorem auEnd_bad {w w' : World} {k : Nat} (hb : Below w.heap.size w w') : AuEnd w ⟨none, 0, k⟩ (.returned (.tuple #[.agg #[.string { data := #[] }, .string { data := #[] }, .int .i64 0, .bool false, .string { data := #[] }, .slice none 0 0], .int .i64 0, .int .i64 (k : Int)])) w' :=
  ⟨zeroCl, none, 0, 0, rfl, rfl, sat_nil w', fun a ha => (by cases ha), hb⟩
theorem C6.drew {w : World} {N : Nat} {v0 v1 v2 v3 v4 v5 : Value} (h : C6 w N v0 v1 v2 v3 v4 v5) : C6 w.drew N v0 v1 v2 v3 v4 v5 := h
theorem grown_drew {w W : World} {row : Option Nat} (h : w.grownBy W row) : w.grownBy W.drew row := ⟨h.os, h.tape, h.output, h.size, h.block⟩
set_option maxHeartbeats 2000000 in
set_option maxRecDepth 100000 in
theorem auth_any (n c fn fc : Nat) (ao fo : Option Addr) (L : List Cl) (header : ByteArray) (t : Clm) (w : World) (hn : n = L.length) (hl : n ≤ 4398046511104) (hr : CRow w ao L) (hz : ∀ c ∈ L, ClSmall c)
    (hc : ∀ W, Below w.heap.size w W → Calls Tryz.prog 56 #[.string header, .slice fo fn fc] W fun e w' => True ∧ ClmEnd W t e w') (hh : t.how = 0 ∨ t.how = 1 ∨ t.how = 2) (hs : t.sec.size ≤ 140737488355328) :
    Calls Tryz.prog 23 #[.slice ao n c, .string header, .slice fo fn fc] w fun e w' => True ∧ AuEnd w (authR L t) e w' := by
  have HN : Hid (n = L.length) := hn
  have HR : Hid (CRow w ao L) := hr
  have HZ : Hid (∀ c ∈ L, ClSmall c) := hz
  have HBA : Hid (Below w.heap.size w (w.alloc (.cells #[.string { data := #[] }, .string { data := #[] }, .int .i64 0, .bool false, .string { data := #[] }, .slice none 0 0] 47))) := below_new w _
  have HC0 := hide (C6.new w)
  have HCL := hc _ HBA.out
  obtain ⟨h, nm, sec, er⟩ := t
  simp only at hh hs
  obtain ⟨A, HA⟩ : ∃ A, Hid (A = authR L ⟨h, nm, sec, er⟩) := ⟨_, hide rfl⟩
  rw [← HA.out]
  clear hn hr hz hc
  go_enter Tryz.func23, Tryz.ntmps23
  go_wp2_with (first | (go_at_call 56; refine HCL.mono ?_))
  rintro e w1 ⟨-, rfl, hb1⟩
  have HB1 : Hid (Below w.heap.size w w1) := HBA.out.trans (hb1.mono HBA.out.size)
  have HC1 := hide (HC0.out.keep hb1 (by simp))
  have hs1 : w.heap.size < w1.heap.size := HC1.out.lt
  have HB2 : Hid (Below w1.heap.size w1 (w1.alloc (.cells #[.int .i64 h, .string nm, .string sec] 100))) := below_new w1 _
  have HC2 := hide (HC1.out.keep HB2.out hs1)
  have HK2 : Hid (K3 (w1.alloc (.cells #[.int .i64 h, .string nm, .string sec] 100)) w1.heap.size (.int .i64 h) (.string nm) (.string sec)) := heap_alloc_new w1 _
  have hs2 := HB2.out.size
  clear hb1 HCL HC0 HBA
  simp only
  go_upto_region 2 with fail
  generalize (w1.alloc (.cells #[.int .i64 h, .string nm, .string sec] 100)) = w2 at *
  obtain ⟨d0, d1, d2, d3, d4, d5⟩ := HC2.out.cells
  obtain ⟨f0, f1, f2, f3, f4, f5⟩ := HC2.out.thaw
  obtain ⟨i0, i1, i2⟩ := HK2.out.cells
  by_cases he : er = 0
  case neg =>
    have HAE : Hid (A = ⟨none, 0, er⟩) := by show _ = _; rw [HA.out]; unfold authR; rw [if_pos he]
    have hei : ((er : Int) == 0) = false := by simp; omega
    have hei2 : ((er : Int) != 0) = true := by simp; omega
    go_wp2
    refine bodyPost_ret (c6_results3 rfl rfl rfl rfl (HC2.out.put _ _ _ _ _ _)) rfl ?_
    rw [HAE.out]
    exact ⟨trivial, auEnd_bad ((HB1.out.trans (HB2.out.mono (by omega))).trans (below_of_grown (putC_grown _ _ _ _ _ _ _ _) (Nat.le_refl _) (by omega)))⟩
  subst he
  have HFD := find_any n c ao L nm w2 HN.out hl ((HR.out.keep HB1.out).keep HB2.out) HZ.out
  obtain ⟨F, HF⟩ : ∃ F, Hid (F = findR L nm) := ⟨_, hide rfl⟩
  have HAF : Hid (A = authF h sec F) := by show _ = _; rw [HA.out, HF.out]; rfl
  rw [← HF.out] at HFD
  clear HA HF
  go_wp2_with (first | (go_at_call 57; refine HFD.mono ?_))
  rintro e w3 ⟨-, q, so, m, cp, rfl, hq, hsat, hfar, hb3⟩
  have HQ := hide hq
  have HSAT := hide hsat
  have HFAR := hide hfar
  have hs2' := HC2.out.lt
  have HB3 : Hid (Below w.heap.size w w3) := (HB1.out.trans (HB2.out.mono (by omega))).trans (hb3.mono (by omega))
  have HC3 := hide (HC2.out.keep hb3 hs2')
  have HK3 := hide (HK2.out.keep hb3 HK2.out.lt)
  have hs3 := HC3.out.lt
  have hs23 : w2.heap.size ≤ w3.heap.size := hb3.size
  have HB4 : Hid (Below w3.heap.size w3 (w3.alloc (.cells #[.string q.id, .string q.secret, .int .i64 q.grants, .bool q.ping, .string q.url, .slice so m cp] 47))) := below_new w3 _
  have HC4 := hide (HC3.out.keep HB4.out hs3)
  have HK4 := hide (HK3.out.keep HB4.out HK3.out.lt)
  have HQ4 : Hid (C6 (w3.alloc (.cells #[.string q.id, .string q.secret, .int .i64 q.grants, .bool q.ping, .string q.url, .slice so m cp] 47)) w3.heap.size (.string q.id) (.string q.secret) (.int .i64 q.grants) (.bool q.ping) (.string q.url) (.slice so m cp)) := heap_alloc_new w3 _
  have hs4 := HB4.out.size
  have HS4 := hide (HSAT.out.keep HB4.out)
  clear hq hsat hfar hb3 HFD
  go_upto_region 5 with fail
  generalize (w3.alloc (.cells #[.string q.id, .string q.secret, .int .i64 q.grants, .bool q.ping, .string q.url, .slice so m cp] 47)) = w4 at *
  obtain ⟨e0, e1, e2, e3, e4, e5⟩ := HC4.out.cells
  obtain ⟨g0, g1, g2, g3, g4, g5⟩ := HC4.out.thaw
  obtain ⟨j0, j1, j2⟩ := HK4.out.cells
  obtain ⟨k0, k1, k2, k3, k4, k5⟩ := HQ4.out.cells
  cases F with
  | none =>
    have HAE : Hid (A = ⟨none, 0, 111⟩) := HAF
    rw [show (none : Option Cl).isSome = false from rfl]
    go_wp2
    refine bodyPost_ret (c6_results3 rfl rfl rfl rfl (HC4.out.put _ _ _ _ _ _)) rfl ?_
    rw [HAE.out]
    exact ⟨trivial, auEnd_bad ((HB3.out.trans (HB4.out.mono (by omega))).trans (below_of_grown (putC_grown _ _ _ _ _ _ _ _) (Nat.le_refl _) (by omega)))⟩
  | some q2 =>
    have hq2 : q2 = q := HQ.out
    subst hq2
    have HH := holds_any h nm sec q2.id q2.secret q2.url q2.grants q2.ping so m cp w4 hh hs
    obtain ⟨B, HB⟩ : ∃ B, Hid (B = holdsB h sec q2.secret) := ⟨_, hide rfl⟩
    have HAB : Hid (A = if B = true then ⟨some q2, h, 0⟩ else ⟨none, 0, 112⟩) := by show _ = _; rw [HAF.out, HB.out]; rfl
    rw [← HB.out] at HH
    rw [show (some q2 : Option Cl).isSome = true from rfl]
    clear HAF HB HQ
    cases B
    · have HAE : Hid (A = ⟨none, 0, 112⟩) := HAB
      go_wp2_with (first | (go_at_call 58; refine HH.mono ?_))
      rintro e w5 ⟨rfl, hb5⟩
      have HC5 := hide (HC4.out.keep hb5 (by omega))
      have HB5 := hide ((HB3.out.trans (HB4.out.mono (by omega))).trans (hb5.mono (by omega)))
      obtain ⟨l0, l1, l2, l3, l4, l5⟩ := HC5.out.cells
      obtain ⟨p0, p1, p2, p3, p4, p5⟩ := HC5.out.thaw
      have hs5 := HB5.out.size
      clear hb5 HH
      go_wp2
      refine bodyPost_ret (c6_results3 rfl rfl rfl rfl (HC5.out.put _ _ _ _ _ _)) rfl ?_
      rw [HAE.out]
      exact ⟨trivial, auEnd_bad (HB5.out.trans (below_of_grown (putC_grown _ _ _ _ _ _ _ _) (Nat.le_refl _) (by omega)))⟩
    · have HAE : Hid (A = ⟨some q2, h, 0⟩) := HAB
      go_wp2_with (first | (go_at_call 58; refine HH.mono ?_))
      rintro e w5 rfl hb5
      have HC5 := hide (HC4.out.keep hb5 (by omega))
      have HK5 := hide (HK4.out.keep hb5 HK4.out.lt)
      have HQ5 := hide (HQ4.out.keep hb5 HQ4.out.lt)
      have HS5 := hide (HS4.out.keep hb5)
      have HB5 := hide ((HB3.out.trans (HB4.out.mono (by omega))).trans (hb5.mono (by omega)))
      have hne1 : ¬ w3.heap.size = w.heap.size := by omega
      have hne2 : ¬ w1.heap.size = w.heap.size := by omega
      have hne3 : ¬ w.heap.size = w3.heap.size := by omega
      have hne4 : ¬ w.heap.size = w1.heap.size := by omega
      obtain ⟨l0, l1, l2, l3, l4, l5⟩ := HC5.out.cells
      obtain ⟨p0, p1, p2, p3, p4, p5⟩ := HC5.out.thaw
      obtain ⟨r0, r1, r2, r3, r4, r5⟩ := HQ5.out.cells
      obtain ⟨s0, s1, s2⟩ := HK5.out.cells
      have hs5 := HB5.out.size
      clear hb5 HH
      go_wp2
      go_region_held3 (fun W => W.cell? ⟨w1.heap.size, 0, none⟩ = some (.int .i64 h) ∧ W.cell? ⟨w3.heap.size, 0, none⟩ = some (.string q2.id) ∧ W.cell? ⟨w3.heap.size, 1, none⟩ = some (.string q2.secret) ∧ W.cell? ⟨w3.heap.size, 2, none⟩ = some (.int .i64 q2.grants) ∧ W.cell? ⟨w3.heap.size, 3, none⟩ = some (.bool q2.ping) ∧ W.cell? ⟨w3.heap.size, 4, none⟩ = some (.string q2.url) ∧ W.cell? ⟨w3.heap.size, 5, none⟩ = some (.slice so m cp)) (go_keep) (fail)
      go_wp2
      refine bodyPost_ret (c6_results3 rfl rfl rfl rfl (HC5.out.put _ _ _ _ _ _).drew) rfl ?_
      rw [HAE.out]
      refine ⟨trivial, q2, so, m, cp, rfl, rfl, HS5.out.grown (grown_drew (putC_grown _ _ _ _ _ _ _ _)) (fun a ha => by have := HFAR.out a ha; omega), fun a ha => (by have := HFAR.out a ha; omega), HB5.out.trans (below_of_grown (grown_drew (putC_grown _ _ _ _ _ _ _ _)) (Nat.le_refl _) (by omega))⟩
end Go.Proofs.YtjehbdekipmllaaGreatDoor
