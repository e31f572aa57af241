/- How a disk lies in memory; the frame of a call that turns it. -/
import Derived.Test.YticbfcognnofbaaKBase
import Derived.Test.YticbfcognnofbaaDMach
import Derived.Maps.RangeWalk
import Derived.Maps.AppendAt
namespace Go.Proofs.Yticbfcognnofbaa
open Go.RowKit Go.Maps

def str (nm : Nm) : ByteArray := ⟨nm.toArray⟩
def nmOf (s : ByteArray) : Nm := s.data.toList
theorem str_nmOf (s : ByteArray) : str (nmOf s) = s := by cases s; simp [str, nmOf]
theorem nmOf_str (nm : Nm) : nmOf (str nm) = nm := by simp [str, nmOf]
theorem str_size (nm : Nm) : (str nm).size = nm.length := by simp [str, ByteArray.size]
theorem nmOf_length (s : ByteArray) : (nmOf s).length = s.size := by simp [nmOf]
theorem str_inj {a b : Nm} (h : str a = str b) : a = b := by have := congrArg nmOf h; rwa [nmOf_str, nmOf_str] at this
theorem encStr_str (nm : Nm) : encStr nm = .string (str nm) := rfl

/-- How a pointer to a file reads: by its block. -/
def rp : Value → Option (DataW Unit × List MemPlace)
  | .pointer none => some (.nil, [])
  | .pointer (some ⟨b, 0, none⟩) => some (.lit (.int .i64 (b : Int)), [])
  | _ => none
def pf (b : Nat) : Value := .pointer (some ⟨b, 0, none⟩)
theorem rp_pf (b : Nat) : rp (pf b) = some (.lit (.int .i64 (b : Int)), []) := rfl
theorem rp_inv {v : Value} {y : DataW Unit × List MemPlace} (h : rp v = some y) : (v = .pointer none ∧ y = (.nil, [])) ∨ ∃ b : Nat, v = pf b ∧ y = (.lit (.int .i64 (b : Int)), []) := by
  unfold rp at h
  split at h
  · left; exact ⟨rfl, by injection h with h; exact h.symm⟩
  · right; exact ⟨_, rfl, by injection h with h; exact h.symm⟩
  · cases h
theorem law : Keyed Try.prog 9 := string_keyed Try.underlying9
theorem zeroP (w : World) : (zeroValue 89).run Try.prog w = .ok (.pointer none) w := by kernel_rfl
/-- A map that holds a directory. -/
def DirAt (w : World) (bn : Nat) (bs : List Nat) (d : Dir) : Prop := w.ownsMap Try.prog 9 rp bn d.length (DD bs d)
def ptrOf (bs : List Nat) (o : Option Nat) : Value := match o with
  | some i => pf (bs.getD i 0)
  | none => .pointer none
theorem key_str {nm : Nm} (h : nm.length ≤ maxLen) : keyOf Try.prog 9 (.string (str nm)) = some (.string nm) := by
  have := WideMaps.keyOf_string_mk Try.underlying9 (s := str nm) (by rw [str_size]; exact h)
  rw [this]; rfl
theorem DirAt.lt {w : World} {bn : Nat} {bs : List Nat} {d : Dir} (h : DirAt w bn bs d) : bn < w.heap.size := World.ownsMap.lt h
theorem DirAt.same {w w' : World} {bn : Nat} {bs : List Nat} {d : Dir} (h : DirAt w bn bs d) (hb : w'.heap[bn]? = w.heap[bn]?) : DirAt w' bn bs d := by
  obtain ⟨es, clock, h1, r⟩ := h
  exact ⟨es, clock, hb.trans h1, r⟩
theorem own_exact {w : World} {bn n : Nat} {bs : List Nat} {d : Dir} (h : w.ownsMap Try.prog 9 rp bn n (DD bs d)) : DirAt w bn bs d := by
  obtain ⟨es, clock, h1, F, hs, hD⟩ := h
  refine ⟨es, clock, h1, F, ?_, hD⟩
  have e := congrArg Maps.size hD
  rw [dd_size] at e
  rw [e]
  simp [Maps.size, length_sorted]
theorem DirAt.look {w : World} {bn : Nat} {bs : List Nat} {d : Dir} (h : DirAt w bn bs d) {nm : Nm} (hl : nm.length ≤ maxLen) : (Instr.lookup 84 (.map (some bn)) (.string (str nm)) false).run Try.prog w = .ok (ptrOf bs (dget nm d)) w := by
  obtain ⟨v, ps, hrun, hv⟩ := World.ownsMap.lookup (t := 84) (e := 89) h law Try.underlying84 (zeroP w) (zd := .nil) (zp := []) rfl (key_str hl)
  rw [dd_at] at hv
  suffices e : v = ptrOf bs (dget nm d) by rw [hrun, e]
  clear hrun
  rcases rp_inv hv with ⟨rfl, e⟩ | ⟨b, rfl, e⟩
  · cases hd : dget nm d with
    | none => rfl
    | some i => rw [hd] at e; simp at e
  · cases hd : dget nm d with
    | none => rw [hd] at e; simp at e
    | some i =>
      rw [hd] at e
      simp at e
      show pf b = pf _
      congr 1
      have := e.1
      rw [List.getD_eq_getElem?_getD]
      omega
theorem DirAt.len {w : World} {bn : Nat} {bs : List Nat} {d : Dir} (h : DirAt w bn bs d) (ty : TypeId) : (Builtin.len_ #[84] ty #[.map (some bn)]).run Try.prog w = .ok (.int .i64 (d.length : Int)) w := by
  have := World.ownsMap.len (t := 84) (e := 89) h Try.underlying84 ty
  rwa [dd_size] at this

/-- Of what was there nothing has turned but the blocks of a list. -/
structure Fr (fp : List Nat) (w w' : World) : Prop where
  os : w'.os = w.os
  tape : w'.tape = w.tape
  output : w'.output = w.output
  size : w.heap.size ≤ w'.heap.size
  block : ∀ k, k < w.heap.size → k ∉ fp → w'.heap[k]? = w.heap[k]?
theorem Fr.refl (fp : List Nat) (w : World) : Fr fp w w := ⟨rfl, rfl, rfl, Nat.le_refl _, fun _ _ _ => rfl⟩
theorem Fr.of {fp : List Nat} {w w' : World} (h : Below w.heap.size w w') : Fr fp w w' := ⟨h.os, h.tape, h.output, h.size, fun k hk _ => h.block k hk⟩
theorem Fr.grown {fp : List Nat} {w w' : World} {row : Option Nat} (h : w.grownBy w' row) (hr : ∀ j, row = some j → j ∈ fp) : Fr fp w w' := ⟨h.os, h.tape, h.output, h.size, fun k hk hn => h.block k hk (fun e => hn (hr k e.symm))⟩
theorem Fr.trans {fp fq : List Nat} {a b c : World} (h : Fr fp a b) (k : Fr fq b c) (hq : ∀ x ∈ fq, x ∈ fp ∨ a.heap.size ≤ x) : Fr fp a c :=
  ⟨k.os.trans h.os, k.tape.trans h.tape, k.output.trans h.output, Nat.le_trans h.size k.size, fun i hi hn => (k.block i (Nat.lt_of_lt_of_le hi h.size) (fun e => by
    rcases hq i e with h1 | h1
    · exact hn h1
    · omega)).trans (h.block i hi hn)⟩
theorem Fr.mono {fp fq : List Nat} {a b : World} (h : Fr fp a b) (hq : ∀ x ∈ fp, x ∈ fq ∨ a.heap.size ≤ x) : Fr fq a b :=
  ⟨h.os, h.tape, h.output, h.size, fun i hi hn => h.block i hi (fun e => by
    rcases hq i e with h1 | h1
    · exact hn h1
    · omega)⟩
theorem Fr.below {fp : List Nat} {a b : World} (h : Fr fp a b) (B : Nat) (hB : B ≤ a.heap.size) (hf : ∀ x ∈ fp, B ≤ x) : Below B a b := ⟨h.os, h.tape, h.output, h.size, fun k hk => h.block k (by omega) (fun e => by have := hf k e; omega)⟩
theorem Fr.setCell (fp : List Nat) (w : World) (g i : Nat) (v : Value) (hg : g ∈ fp) : Fr fp w (w.setCell ⟨g, i, none⟩ v) := ⟨rfl, rfl, rfl, by simp [World.setCell], fun k _ hk => heap_setCell_other w ⟨g, i, none⟩ k v (fun e => hk (by rw [e]; exact hg))⟩
theorem Fr.nil {w w' : World} (h : Fr [] w w') : Below w.heap.size w w' := h.below _ (Nat.le_refl _) (fun x hx => by cases hx)

def vb (v : Value) : List Nat := v.ownBlock.toList
structure Lay where
  bn : Nat
  sf : Nat
  kv : Value
  bs : List Nat
  rv : List Value
def Lay.blocks (L : Lay) (dp : Nat) : List Nat := dp :: L.bn :: L.sf :: (vb L.kv ++ (L.bs ++ L.rv.flatMap vb))
def chCells (bs : List Nat) (c : Ch) : List Value := [.string (str c.fr), .string (str c.tn), if c.tn = [] then .pointer none else pf (bs.getD c.fl 0)]
def diskCells (L : Lay) (S : DS) (nx : Nat) : List Value := [.map (some L.bn), .map (some L.sf), L.kv, .int .i64 (S.room : Int), .int .i64 (nx : Int), .int .i64 (S.ops : Int), .int .i64 (S.armed : Int), .bool S.dead]
def fileCells (i : Nat) (v : Value) (f : Fl) : List Value := [.int .i64 (i : Int), v, .int .i64 (f.syn : Int)]
/-- A disk in memory. -/
structure Rep (w : World) (dp : Nat) (S : DS) (L : Lay) (nx : Nat) : Prop where
  nod : (L.blocks dp).Nodup
  lt : ∀ b ∈ L.blocks dp, b < w.heap.size
  box : Bl w dp (diskCells L S nx) 87
  names : DirAt w L.bn L.bs S.dir
  safe : DirAt w L.sf L.bs S.safe
  kept : w.ownsRow 0 94 3 L.kv S.chg.length (S.chg.flatMap (chCells L.bs))
  blen : L.bs.length = S.files.length
  rlen : L.rv.length = S.files.length
  file : ∀ i b v, L.bs[i]? = some b → L.rv[i]? = some v → Bl w b (fileCells i v (flAt S.files i)) 96 ∧ Own w 0 v (flAt S.files i).bys

theorem owns_same {w w' : World} {B : Nat} {e : TypeId} {sz n : Nat} {v : Value} {xs : List Value} (h : w.ownsRow B e sz v n xs) (hb : ∀ g, v.ownBlock = some g → w'.heap[g]? = w.heap[g]?) : w'.ownsRow B e sz v n xs := by
  refine ⟨h.1, ?_⟩
  rcases h.2 with h2 | ⟨g, cap, cur, rfl, h0, h1, r⟩
  · exact .inl h2
  · exact .inr ⟨g, cap, cur, rfl, h0, (hb g rfl).trans h1, r⟩
theorem mem_vb {v : Value} {g : Nat} : g ∈ vb v ↔ v.ownBlock = some g := by
  unfold vb
  cases h : v.ownBlock <;> simp [eq_comm]
theorem Lay.mem (L : Lay) (dp b : Nat) : b ∈ L.blocks dp ↔ b = dp ∨ b = L.bn ∨ b = L.sf ∨ b ∈ vb L.kv ∨ b ∈ L.bs ∨ b ∈ L.rv.flatMap vb := by simp [Lay.blocks]
theorem Lay.mem_file {L : Lay} {i b : Nat} (dp : Nat) (h : L.bs[i]? = some b) : b ∈ L.blocks dp := (L.mem dp b).2 (.inr (.inr (.inr (.inr (.inl (List.mem_of_getElem? h))))))
theorem Lay.mem_row {L : Lay} {i g : Nat} {v : Value} (dp : Nat) (h : L.rv[i]? = some v) (hg : v.ownBlock = some g) : g ∈ L.blocks dp := (L.mem dp g).2 (.inr (.inr (.inr (.inr (.inr (List.mem_flatMap.2 ⟨v, List.mem_of_getElem? h, mem_vb.2 hg⟩))))))
theorem Rep.keep {w w' : World} {dp nx : Nat} {S : DS} {L : Lay} (h : Rep w dp S L nx) (hs : w.heap.size ≤ w'.heap.size) (hb : ∀ b ∈ L.blocks dp, w'.heap[b]? = w.heap[b]?) : Rep w' dp S L nx where
  nod := h.nod
  lt := fun b hm => Nat.lt_of_lt_of_le (h.lt b hm) hs
  box := (hb dp ((L.mem dp dp).2 (.inl rfl))).trans h.box
  names := h.names.same (hb _ ((L.mem dp _).2 (.inr (.inl rfl))))
  safe := h.safe.same (hb _ ((L.mem dp _).2 (.inr (.inr (.inl rfl)))))
  kept := owns_same h.kept fun g hg => hb g ((L.mem dp _).2 (.inr (.inr (.inr (.inl (mem_vb.2 hg))))))
  blen := h.blen
  rlen := h.rlen
  file := fun i b v h1 h2 => ⟨(hb b (L.mem_file dp h1)).trans (h.file i b v h1 h2).1, owns_same (h.file i b v h1 h2).2 fun g hg => hb g (L.mem_row dp h2 hg)⟩
theorem Rep.below {w w' : World} {dp nx : Nat} {S : DS} {L : Lay} (h : Rep w dp S L nx) (hb : Below w.heap.size w w') : Rep w' dp S L nx := h.keep hb.size fun b hm => hb.block b (h.lt b hm)
/-- What another disk's call leaves. -/
theorem Rep.apart {w w' : World} {dp nx : Nat} {S : DS} {L : Lay} {fp : List Nat} (h : Rep w dp S L nx) (hf : Fr fp w w') (ha : ∀ b ∈ L.blocks dp, b ∉ fp) : Rep w' dp S L nx := h.keep hf.size fun b hm => hf.block b (h.lt b hm) (ha b hm)
end Go.Proofs.Yticbfcognnofbaa
