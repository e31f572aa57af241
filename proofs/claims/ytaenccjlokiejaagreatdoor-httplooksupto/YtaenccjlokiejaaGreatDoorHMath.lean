/- Messages, in the document's own words, over lists of bytes. -/
import Derived.Test.YtaenccjlokiejaaGreatDoorXBase
import Derived.Lib.SlTrimSet
import Derived.Lib.IndexMore
import Derived.Lib.ItoaNum
import Derived.Lib.AtoiAll
namespace Go.Proofs.YtaenccjlokiejaaGreatDoor
open Go.RowKit

abbrev U := List UInt8
def str (l : U) : ByteArray := ⟨l.toArray⟩
theorem str_list (s : ByteArray) : str s.data.toList = s := by cases s; simp [str]
@[simp] theorem list_str (l : U) : (str l).data.toList = l := by simp [str]
theorem str_size (l : U) : (str l).size = l.length := by simp [str, ByteArray.size]
theorem str_inj {a b : U} (h : str a = str b) : a = b := by
  have := congrArg (fun x : ByteArray => x.data.toList) h
  simpa using this
theorem toList_str (l : U) : (str l).toList = l := by simp [str]
theorem str_beq (a b : U) : ((str a).toList == (str b).toList) = decide (a = b) := by
  rw [toList_str, toList_str, Bool.eq_iff_iff]
  simp
theorem data_size (s : ByteArray) : s.data.toList.length = s.size := by rw [Array.length_toList]; rfl

def capB (c : UInt8) : Bool := decide (65 ≤ c.toNat) && decide (c.toNat ≤ 90)
def digB (c : UInt8) : Bool := decide (48 ≤ c.toNat) && decide (c.toNat ≤ 57)
def visB (c : UInt8) : Bool := decide (33 ≤ c.toNat) && decide (c.toNat ≤ 126)
def priB (c : UInt8) : Bool := decide (32 ≤ c.toNat) && decide (c.toNat ≤ 126)
def namB (c : UInt8) : Bool := (decide (97 ≤ c.toNat) && decide (c.toNat ≤ 122)) || capB c || digB c || decide (c.toNat = 45)
def lo (c : UInt8) : UInt8 := if capB c then c + 32 else c
def lows (l : U) : U := l.map lo
def methodB (l : U) : Bool := decide (1 ≤ l.length) && decide (l.length ≤ 16) && l.all capB
def targetB (l : U) : Bool := decide (l.length ≤ 1024) && decide (l.head? = some 47) && l.all visB
def nameB (l : U) : Bool := decide (1 ≤ l.length) && decide (l.length ≤ 64) && l.all namB
def edgeB (l : U) : Bool := decide (l = []) || (decide (l.head? ≠ some 32) && decide (l.getLast? ≠ some 32))
def valueB (l : U) : Bool := decide (l.length ≤ 4096) && edgeB l && l.all priB
def clN : U := [99, 111, 110, 116, 101, 110, 116, 45, 108, 101, 110, 103, 116, 104]
def teN : U := [116, 114, 97, 110, 115, 102, 101, 114, 45, 101, 110, 99, 111, 100, 105, 110, 103]
def ver8 : U := [72, 84, 84, 80, 47, 49, 46, 49]
def trimW (l : U) : U := Lib.trimS l [32, 9]

abbrev Fl := U × U
/-- A line as a field. -/
def fieldR (l : U) : Option Fl :=
  if (l.takeWhile (· != 58)).length = l.length then none
  else if nameB (l.takeWhile (· != 58)) = true ∧ valueB (trimW (l.drop ((l.takeWhile (· != 58)).length + 1))) = true then some (lows (l.takeWhile (· != 58)), trimW (l.drop ((l.takeWhile (· != 58)).length + 1)))
  else none
def numR (l : U) : Nat := l.foldl (fun n c => 10 * n + (c.toNat - 48)) 0
def lengthB (l : U) : Bool := decide (1 ≤ l.length) && decide (l.length ≤ 9) && l.all digB
structure Hd where
  fs : List Fl
  len : Option Nat
/-- A head and one more line. -/
def addR (h : Hd) (l : U) : Except Nat Hd :=
  match fieldR l with
  | none => .error 153
  | some f =>
    if f.1 = teN then .error 154
    else if f.1 = clN then (if h.len = none ∧ lengthB f.2 = true then .ok ⟨h.fs, some (numR f.2)⟩ else .error 154)
    else if h.fs.length = 64 then .error 32 else .ok ⟨h.fs ++ [f], h.len⟩
/-- The first line and what stands behind its end. -/
def cutR : U → Option (U × U)
  | [] => none
  | [_] => none
  | a :: b :: r => if a = 13 ∧ b = 10 then some ([], r) else (cutR (b :: r)).map fun x => (a :: x.1, x.2)
/-- The lines of a head, from a place on: what they say, what stands behind them, and its place. -/
def headR : Nat → U → Nat → Hd → Except (Nat × Nat) (Hd × U × Nat)
  | 0, _, k, _ => .error (153, k)
  | n + 1, l, k, h => match cutR l with
    | none => .error (153, k)
    | some (a, r) => if a = [] then .ok (h, r, k + 2) else match addR h a with
      | .error e => .error (e, k)
      | .ok h' => headR n r (k + a.length + 2) h'
def restR (raw : U) (k : Nat) : Except (Nat × Nat) (List Fl × U) :=
  match headR ((raw.drop k).length + 1) (raw.drop k) k ⟨[], none⟩ with
  | .error e => .error e
  | .ok (h, b, j) => if b.length = h.len.getD 0 then .ok (h.fs, b) else .error (155, j)
def verL : U := [72, 84, 84, 80, 47, 49, 46, 49, 13, 10]
/-- The longest run of bytes that may be, if a blank stands behind it. -/
def wordR (l : U) (p : UInt8 → Bool) : U × Bool := (l.takeWhile p, ([32] : U).isPrefixOf (l.drop (l.takeWhile p).length))
def reqLineR (raw : U) : Except (Nat × Nat) (U × U × Nat) :=
  if (wordR raw capB).2 = true ∧ methodB (wordR raw capB).1 = true then
    if (wordR (raw.drop ((wordR raw capB).1.length + 1)) visB).2 = true ∧ targetB (wordR (raw.drop ((wordR raw capB).1.length + 1)) visB).1 = true then
      if verL.isPrefixOf (raw.drop ((wordR raw capB).1.length + 1 + ((wordR (raw.drop ((wordR raw capB).1.length + 1)) visB).1.length + 1))) = true then
        .ok ((wordR raw capB).1, (wordR (raw.drop ((wordR raw capB).1.length + 1)) visB).1, (wordR raw capB).1.length + 1 + ((wordR (raw.drop ((wordR raw capB).1.length + 1)) visB).1.length + 1) + 10)
      else .error (152, (wordR raw capB).1.length + 1 + ((wordR (raw.drop ((wordR raw capB).1.length + 1)) visB).1.length + 1))
    else .error (151, (wordR raw capB).1.length + 1)
  else .error (150, 0)
structure Rq where
  m : U
  t : U
  fs : List Fl
  b : U
def parseReqR (raw : U) : Except (Nat × Nat) Rq :=
  if 32768 < raw.length then .error (1, 0) else
  match reqLineR raw with
  | .error e => .error e
  | .ok (m, t, k) => match restR raw k with
    | .error e => .error e
    | .ok (fs, b) => .ok ⟨m, t, fs, b⟩
def reasonR (n : Int) : U :=
  if n = 200 then [79, 75]
  else if n = 204 then [78, 111, 32, 67, 111, 110, 116, 101, 110, 116]
  else if n = 400 then [66, 97, 100, 32, 82, 101, 113, 117, 101, 115, 116]
  else if n = 401 then [85, 110, 97, 117, 116, 104, 111, 114, 105, 122, 101, 100]
  else if n = 403 then [70, 111, 114, 98, 105, 100, 100, 101, 110]
  else if n = 404 then [78, 111, 116, 32, 70, 111, 117, 110, 100]
  else if n = 405 then [77, 101, 116, 104, 111, 100, 32, 78, 111, 116, 32, 65, 108, 108, 111, 119, 101, 100]
  else if n = 413 then [67, 111, 110, 116, 101, 110, 116, 32, 84, 111, 111, 32, 76, 97, 114, 103, 101]
  else if n = 415 then [85, 110, 115, 117, 112, 112, 111, 114, 116, 101, 100, 32, 77, 101, 100, 105, 97, 32, 84, 121, 112, 101]
  else if n = 429 then [84, 111, 111, 32, 77, 97, 110, 121, 32, 82, 101, 113, 117, 101, 115, 116, 115]
  else if n = 500 then [73, 110, 116, 101, 114, 110, 97, 108, 32, 83, 101, 114, 118, 101, 114, 32, 69, 114, 114, 111, 114]
  else if n = 503 then [83, 101, 114, 118, 105, 99, 101, 32, 85, 110, 97, 118, 97, 105, 108, 97, 98, 108, 101]
  else []
theorem ite_len {p : Prop} [Decidable p] {a b : U} (ha : a.length ≤ 22) (hb : b.length ≤ 22) : (if p then a else b).length ≤ 22 := by split <;> assumption
theorem reason_len (n : Int) : (reasonR n).length ≤ 22 := by
  unfold reasonR
  repeat (refine ite_len (by decide) ?_)
  decide
def ver9 : U := [72, 84, 84, 80, 47, 49, 46, 49, 32]
def statLineR (raw : U) : Except (Nat × Nat) (Nat × Nat) :=
  if ver9.isPrefixOf raw = true then
    if lengthB ((raw.drop 9).take 3) = true ∧ 100 ≤ numR ((raw.drop 9).take 3) ∧ numR ((raw.drop 9).take 3) ≤ 599 ∧ ((32 :: reasonR (numR ((raw.drop 9).take 3))) ++ [13, 10]).isPrefixOf (raw.drop 12) = true then
      .ok (numR ((raw.drop 9).take 3), 12 + ((32 :: reasonR (numR ((raw.drop 9).take 3))) ++ [13, 10]).length)
    else .error (156, 9)
  else .error (152, 0)
structure Rs where
  n : Nat
  fs : List Fl
  b : U
def parseRespR (raw : U) : Except (Nat × Nat) Rs :=
  if 32768 < raw.length then .error (1, 0) else
  match statLineR raw with
  | .error e => .error e
  | .ok (n, k) => match restR raw k with
    | .error e => .error e
    | .ok (fs, b) => .ok ⟨n, fs, b⟩
/-- A field's line. -/
def fieldT (f : Fl) : U := lows f.1 ++ [58] ++ (if f.2 = [] then [] else 32 :: f.2) ++ [13, 10]
def bodyT (b : U) : U := if b = [] then [] else fieldT (clN, Lib.itoa (b.length : Int))
def mayB (f : Fl) : Bool := nameB f.1 && valueB f.2 && !decide (lows f.1 = clN) && !decide (lows f.1 = teN)
def headT (first : U) (fs : List Fl) (b : U) : U := first ++ [13, 10] ++ fs.flatMap fieldT ++ bodyT b ++ [13, 10]
def writtenR (first : U) (fs : List Fl) (b : U) : Except Nat U :=
  if 64 < fs.length then .error 32 else if fs.all mayB = true then (if 32768 < (headT first fs b).length + b.length then .error 1 else .ok (headT first fs b ++ b)) else .error 153
def printReqR (q : Rq) : Except Nat U :=
  if methodB q.m = true then if targetB q.t = true then writtenR (q.m ++ [32] ++ q.t ++ [32] ++ ver8) q.fs q.b else .error 151 else .error 150
def statusB (n : Int) : Bool := decide (100 ≤ n) && decide (n ≤ 599)
def statusT (n : Int) : U := Lib.itoa n ++ [32] ++ reasonR n
def printRespR (n : Int) (fs : List Fl) (b : U) : Except Nat U :=
  if statusB n = true then writtenR (ver8 ++ [32] ++ statusT n) fs b else .error 156

theorem take_run (p : UInt8 → Bool) : ∀ l : U, l.take (l.takeWhile p).length = l.takeWhile p
  | [] => rfl
  | a :: l => by
    rw [List.takeWhile_cons]
    split
    · simp [take_run p l]
    · simp
theorem run_le (p : UInt8 → Bool) : ∀ l : U, (l.takeWhile p).length ≤ l.length
  | [] => Nat.le_refl _
  | a :: l => by
    have := run_le p l
    rw [List.takeWhile_cons]
    split
    · simp; omega
    · simp
theorem run_at (p : UInt8 → Bool) : ∀ (l : U) (k : Nat), k ≤ l.length → (∀ j, j < k → p (l.getD j 0) = true) → (k = l.length ∨ p (l.getD k 0) = false) → (l.takeWhile p).length = k
  | [], k, hk, _, _ => by simp at hk; subst hk; rfl
  | a :: l, 0, _, _, he => by
    rcases he with he | he
    · simp at he
    · have : p a = false := he
      rw [List.takeWhile_cons, this]; simp
  | a :: l, k + 1, hk, h, he => by
    have h0 : p a = true := h 0 (by omega)
    rw [List.takeWhile_cons, h0, if_pos rfl]
    have := run_at p l k (by simpa using hk) (fun j hj => h (j + 1) (by omega)) (by
      rcases he with he | he
      · left; simpa using he
      · right; simpa using he)
    simp [this]
theorem run_all (p : UInt8 → Bool) : ∀ l : U, ((l.takeWhile p).length = l.length) ↔ l.all p = true
  | [] => by simp
  | a :: l => by
    have := run_all p l
    rw [List.takeWhile_cons, List.all_cons]
    split
    · rename_i h; simp [h, ← this]
    · rename_i h; simp [h]
theorem u8_ext {a b : UInt8} (h : a.toNat = b.toNat) : a = b := UInt8.toNat_inj.1 h
end Go.Proofs.YtaenccjlokiejaaGreatDoor
