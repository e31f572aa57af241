/- The disk's calls on plain data, and what always holds of it. -/
import Derived.Test.YticbfcognnofbaaDMath
namespace Go.Proofs.Yticbfcognnofbaa

def mayB (c : Nat) : Bool := decide (97 ≤ c ∧ c ≤ 122) || decide (48 ≤ c ∧ c ≤ 57) || decide (c = 46) || decide (c = 45) || decide (c = 95)
def isNm (nm : Nm) : Bool := decide (nm ≠ []) && decide (nm.length ≤ 32) && nm.all fun c => mayB c.toNat
structure DS where
  room : Nat
  files : List Fl
  dir : Dir
  safe : Dir
  chg : List Ch
  ops : Nat
  armed : Nat
  dead : Bool
def flAt (fs : List Fl) (i : Nat) : Fl := fs.getD i ⟨[], 0⟩
def sizes (fs : List Fl) (d : Dir) : Nat := (d.map fun p => (flAt fs p.2).bys.length).sum
def chds (d : Dir) (l : List Ch) : Dir := l.foldl (fun d c => chd c d) d
/-- An operation that nothing of its own refuses. -/
def goes (S : DS) (f : DS → DS) : Nat × DS :=
  if 1048576 ≤ S.ops then (5, S) else if S.armed = 1 then (51, { S with armed := 0, dead := true }) else (0, f { S with armed := S.armed - 1, ops := S.ops + 1 })
def change (c : Ch) (S : DS) : DS := { S with dir := chd c S.dir, chg := S.chg ++ [c] }
def create (S : DS) (nm : Nm) : Nat × DS :=
  if S.dead then (51, S) else if isNm nm = false then (50, S) else if (dget nm S.dir).isSome then (8, S) else if 64 ≤ S.dir.length then (5, S) else
  goes S fun T => change ⟨[], nm, T.files.length⟩ { T with files := T.files ++ [⟨[], 0⟩] }
def setFile (i : Nat) (f : Fl) (S : DS) : DS := { S with files := S.files.set i f }
def append (S : DS) (nm : Nm) (p : List Nat) : Nat × DS :=
  if S.dead then (51, S) else match dget nm S.dir with
  | none => (7, S)
  | some i => if 4194304 < (flAt S.files i).bys.length + p.length ∨ S.room < sizes S.files S.dir + p.length then (5, S) else
    goes S (setFile i ⟨(flAt S.files i).bys ++ p, (flAt S.files i).syn⟩)
def sync (S : DS) (nm : Nm) : Nat × DS :=
  if S.dead then (51, S) else match dget nm S.dir with
  | none => (7, S)
  | some i => goes S (setFile i ⟨(flAt S.files i).bys, (flAt S.files i).bys.length⟩)
def rename (S : DS) (a b : Nm) : Nat × DS :=
  if S.dead then (51, S) else match dget a S.dir with
  | none => (7, S)
  | some i => if isNm b = false then (50, S) else if a = b then goes S id else goes S (change ⟨a, b, i⟩)
def remove (S : DS) (a : Nm) : Nat × DS :=
  if S.dead then (51, S) else match dget a S.dir with
  | none => (7, S)
  | some _ => goes S (change ⟨a, [], 0⟩)
def syncDir (S : DS) : Nat × DS := if S.dead then (51, S) else goes S fun T => { T with safe := T.dir, chg := [] }
def arm (S : DS) (n : Int) : DS := if S.dead then S else { S with armed := n.toNat }
/-- So many of those that there are. -/
def part (n : Int) (all : Nat) : Nat := min n.toNat all
def tailOf (tails : List Int) (i : Nat) : Int := tails.getD i 0
def leftF (f : Fl) (t : Int) : List Nat := f.bys.take (f.syn + part t (f.bys.length - f.syn))
def left (S : DS) (dir : Int) (tails : List Int) : List (Nm × List Nat) := (chds S.safe (S.chg.take (part dir S.chg.length))).map fun p => (p.1, leftF (flAt S.files p.2) (tailOf tails p.2))

/-- What a directory always is. -/
structure Dok (n : Nat) (d : Dir) : Prop where
  rising : Rising d
  len : d.length ≤ 64
  name : ∀ p ∈ d, isNm p.1 = true
  num : ∀ p ∈ d, p.2 < n
  one : ∀ p ∈ d, ∀ q ∈ d, p.2 = q.2 → p = q
structure Fok (f : Fl) : Prop where
  len : f.bys.length ≤ 4194304
  syn : f.syn ≤ f.bys.length
  lt : ∀ x ∈ f.bys, x < 256
structure Cok (n : Nat) (c : Ch) : Prop where
  some : c.fr ≠ [] ∨ c.tn ≠ []
  fr : c.fr.length ≤ 32
  tn : c.tn.length ≤ 32
  num : c.tn ≠ [] → c.fl < n
structure Ok (S : DS) : Prop where
  hist : ∀ k, Dok S.files.length (chds S.safe (S.chg.take k))
  now : chds S.safe S.chg = S.dir
  clen : S.chg.length ≤ S.ops
  ops : S.ops ≤ 1048576
  file : ∀ f ∈ S.files, Fok f
  num : S.files.length ≤ 64 + S.ops
  cok : ∀ c ∈ S.chg, Cok S.files.length c
  used : sizes S.files S.dir ≤ S.room
  room : S.room ≤ 9223372036854775807
  armed : S.armed ≤ 9223372036854775807

theorem Ok.dir {S : DS} (h : Ok S) : Dok S.files.length S.dir := by
  have := h.hist S.chg.length
  rw [List.take_length, h.now] at this
  exact this
theorem Ok.safe {S : DS} (h : Ok S) : Dok S.files.length S.safe := by
  have := h.hist 0
  rw [List.take_zero] at this
  exact this
theorem isNm_ne {nm : Nm} (h : isNm nm = true) : nm ≠ [] ∧ nm.length ≤ 32 := by
  unfold isNm at h
  simp only [Bool.and_eq_true, decide_eq_true_eq] at h
  exact ⟨h.1.1, h.1.2⟩
theorem Fok.at {fs : List Fl} (h : ∀ f ∈ fs, Fok f) (i : Nat) : Fok (flAt fs i) := by
  unfold flAt
  by_cases hi : i < fs.length
  · rw [List.getD_eq_getElem?_getD, List.getElem?_eq_getElem hi]
    exact h _ (List.getElem_mem hi)
  · rw [List.getD_eq_getElem?_getD, List.getElem?_eq_none (by omega)]
    exact ⟨Nat.zero_le _, Nat.zero_le _, fun x hx => by cases hx⟩
theorem flAt_set {fs : List Fl} {i : Nat} (hi : i < fs.length) (f : Fl) (k : Nat) : flAt (fs.set i f) k = if i = k then f else flAt fs k := by
  unfold flAt
  simp only [List.getD_eq_getElem?_getD, List.getElem?_set]
  by_cases h : i = k
  · subst h; simp [hi]
  · simp [h]
theorem flAt_more {fs : List Fl} {f : Fl} {k : Nat} (hk : k < fs.length) : flAt (fs ++ [f]) k = flAt fs k := by
  unfold flAt
  simp [List.getD_eq_getElem?_getD, List.getElem?_append_left hk]
theorem chds_snoc (d : Dir) (l : List Ch) (c : Ch) : chds d (l ++ [c]) = chd c (chds d l) := by simp [chds]
theorem sizes_nil (fs : List Fl) : sizes fs [] = 0 := rfl
theorem sizes_cons (fs : List Fl) (p : Nm × Nat) (d : Dir) : sizes fs (p :: d) = (flAt fs p.2).bys.length + sizes fs d := by simp [sizes]
theorem sizes_congr {fs gs : List Fl} {d : Dir} (h : ∀ p ∈ d, flAt fs p.2 = flAt gs p.2) : sizes fs d = sizes gs d := by
  unfold sizes
  congr 1
  exact List.map_congr_left fun p hp => by rw [h p hp]
theorem sizes_del_le (fs : List Fl) (nm : Nm) : ∀ d : Dir, sizes fs (ddel nm d) ≤ sizes fs d
  | [] => Nat.le_refl _
  | p :: d => by
    have ih := sizes_del_le fs nm d
    rw [sizes_cons]
    unfold ddel at ih ⊢
    rw [List.filter_cons]
    split
    · rw [sizes_cons]; omega
    · omega
theorem sizes_ins (fs : List Fl) (x : Nm × Nat) : ∀ d : Dir, sizes fs (dins x d) = (flAt fs x.2).bys.length + sizes fs d
  | [] => by simp [dins, sizes]
  | y :: r => by
    unfold dins
    split
    · rw [sizes_cons]
    · rw [sizes_cons, sizes_ins fs x r, sizes_cons]; omega
theorem sizes_del_at (fs : List Fl) {nm : Nm} {i : Nat} : ∀ {d : Dir}, Rising d → (nm, i) ∈ d → sizes fs (ddel nm d) + (flAt fs i).bys.length = sizes fs d
  | [], _, h => by cases h
  | p :: d, hr, h => by
    have hr2 := hr
    unfold Rising at hr
    rw [List.pairwise_cons] at hr
    rw [sizes_cons]
    unfold ddel
    rw [List.filter_cons]
    rcases List.mem_cons.1 h with e | e
    · have hd : ddel nm d = d := by
        unfold ddel
        rw [List.filter_eq_self]
        intro q hq
        have := hr.1 q hq
        rw [← e] at this
        simp only [Bool.not_eq_true', beq_eq_false_iff_ne]
        intro e2
        rw [e2, WideAt.bytes_irrefl] at this
        cases this
      unfold ddel at hd
      rw [← e]
      simp only [BEq.rfl, Bool.not_true, Bool.false_eq_true, if_false]
      rw [hd]; omega
    · have hne : p.1 ≠ nm := fun e2 => by
        have := hr.1 _ e
        rw [e2, WideAt.bytes_irrefl] at this
        cases this
      have ih := sizes_del_at fs (nm := nm) (i := i) hr.2 e
      unfold ddel at ih
      simp only [beq_eq_false_iff_ne.2 hne, Bool.not_false, if_true]
      rw [sizes_cons]; omega
theorem dok_del {n : Nat} {d : Dir} (h : Dok n d) (nm : Nm) : Dok n (ddel nm d) :=
  ⟨rising_del h.rising, Nat.le_trans (ddel_length_le _ _) h.len, fun p hp => h.name p ((ddel_mem _ _ _).1 hp).1, fun p hp => h.num p ((ddel_mem _ _ _).1 hp).1, fun p hp q hq => h.one p ((ddel_mem _ _ _).1 hp).1 q ((ddel_mem _ _ _).1 hq).1⟩
theorem dok_put {n : Nat} {d : Dir} (h : Dok n d) {nm : Nm} {i : Nat} (hn : isNm nm = true) (hi : i < n) (hl : (ddel nm d).length < 64) (ho : ∀ p ∈ d, p.1 ≠ nm → p.2 ≠ i) : Dok n (dput nm i d) := by
  refine ⟨rising_put h.rising, by rw [dput, dins_length]; omega, fun p hp => ?_, fun p hp => ?_, fun p hp q hq e => ?_⟩
  · rcases (dput_mem _ _ _ _).1 hp with rfl | ⟨hp, _⟩
    · exact hn
    · exact h.name p hp
  · rcases (dput_mem _ _ _ _).1 hp with rfl | ⟨hp, _⟩
    · exact hi
    · exact h.num p hp
  · rcases (dput_mem _ _ _ _).1 hp with rfl | ⟨hp, hp2⟩ <;> rcases (dput_mem _ _ _ _).1 hq with rfl | ⟨hq, hq2⟩
    · rfl
    · exact absurd e.symm (ho q hq hq2)
    · exact absurd e (ho p hp hp2)
    · exact h.one p hp q hq e
theorem dok_more {n m : Nat} {d : Dir} (h : Dok n d) (hm : n ≤ m) : Dok m d := ⟨h.rising, h.len, h.name, fun p hp => Nat.lt_of_lt_of_le (h.num p hp) hm, h.one⟩
theorem take_snoc {α : Type} (l : List α) (c : α) (k : Nat) : (l ++ [c]).take k = l.take k ∨ (l ++ [c]).take k = l ++ [c] := by
  by_cases h : k ≤ l.length
  · left; rw [List.take_append_of_le_length h]
  · right; rw [List.take_of_length_le (by simp; omega)]

/-- What an operation makes of a disk that goes on. -/
theorem ok_goes {S : DS} (h : Ok S) (f : DS → DS) (hf : ∀ T, Ok T → T.files = S.files → T.dir = S.dir → T.chg = S.chg → T.chg.length < T.ops → T.files.length < 64 + T.ops → T.room = S.room → Ok (f T)) : Ok (goes S f).2 := by
  unfold goes
  split
  · exact h
  split
  · exact ⟨h.hist, h.now, h.clen, h.ops, h.file, h.num, h.cok, h.used, h.room, Nat.zero_le _⟩
  · have h1 := h.clen
    have h2 := h.num
    have h3 := h.armed
    exact hf _ ⟨h.hist, h.now, by show S.chg.length ≤ S.ops + 1; omega, by show S.ops + 1 ≤ _; omega, h.file, by show S.files.length ≤ 64 + (S.ops + 1); omega, h.cok, h.used, h.room, by show S.armed - 1 ≤ _; omega⟩ rfl rfl rfl (by show S.chg.length < S.ops + 1; omega) (by show S.files.length < 64 + (S.ops + 1); omega) rfl
theorem ok_change {T : DS} (h : Ok T) (c : Ch) (hc : Cok T.files.length c) (hl : T.chg.length < T.ops) (hd : Dok T.files.length (chd c T.dir)) (hu : sizes T.files (chd c T.dir) ≤ T.room) : Ok (change c T) := by
  refine ⟨fun k => ?_, ?_, ?_, h.ops, h.file, h.num, fun d hd' => ?_, hu, h.room, h.armed⟩
  · show Dok T.files.length (chds T.safe ((T.chg ++ [c]).take k))
    rcases take_snoc T.chg c k with e | e
    · rw [e]; exact h.hist k
    · rw [e, chds_snoc, h.now]; exact hd
  · show chds T.safe (T.chg ++ [c]) = chd c T.dir
    rw [chds_snoc, h.now]
  · show (T.chg ++ [c]).length ≤ T.ops
    simp; omega
  · rcases List.mem_append.1 hd' with hd' | hd'
    · exact h.cok d hd'
    · rw [List.mem_singleton.1 hd']; exact hc
theorem ok_files {T : DS} (h : Ok T) (gs : List Fl) (hn : T.files.length ≤ gs.length) (hl : gs.length ≤ 64 + T.ops) (hf : ∀ f ∈ gs, Fok f) (hu : sizes gs T.dir ≤ T.room) : Ok { T with files := gs } :=
  ⟨fun k => dok_more (h.hist k) hn, h.now, h.clen, h.ops, hf, hl, fun c hc => ⟨(h.cok c hc).some, (h.cok c hc).fr, (h.cok c hc).tn, fun e => Nat.lt_of_lt_of_le ((h.cok c hc).num e) hn⟩, hu, h.room, h.armed⟩
theorem chd_new {nm : Nm} {i : Nat} {d : Dir} (h : ∀ p ∈ d, isNm p.1 = true) (hn : nm ≠ []) : chd ⟨[], nm, i⟩ d = dput nm i d := by
  unfold chd
  simp only
  rw [if_neg hn, ddel_nil (fun p hp => (isNm_ne (h p hp)).1)]
theorem ok_create {S : DS} (h : Ok S) (nm : Nm) : Ok (create S nm).2 := by
  unfold create
  split
  · exact h
  split
  · exact h
  rename_i hnm
  have hnm : isNm nm = true := by simpa using hnm
  split
  · exact h
  rename_i hg
  have hg : dget nm S.dir = none := by simpa using hg
  split
  · exact h
  rename_i hl
  refine ok_goes h _ fun T hT e1 e2 e3 hlt hlf e4 => ?_
  have hne := (isNm_ne hnm).1
  have hd := hT.dir
  have hsz : sizes (T.files ++ [⟨[], 0⟩]) T.dir = sizes T.files T.dir := sizes_congr fun p hp => flAt_more (hd.num p hp)
  have hO : Ok { T with files := T.files ++ [⟨[], 0⟩] } := ok_files hT _ (by simp) (by simp; omega) (fun f hf => by
    rcases List.mem_append.1 hf with hf | hf
    · exact hT.file f hf
    · rw [List.mem_singleton.1 hf]; exact ⟨Nat.zero_le _, Nat.zero_le _, fun x hx => by cases hx⟩) (by rw [hsz]; exact hT.used)
  refine ok_change hO _ ⟨.inr hne, Nat.zero_le _, (isNm_ne hnm).2, fun _ => by simp⟩ hlt ?_ ?_
  · show Dok (T.files ++ [_]).length (chd ⟨[], nm, T.files.length⟩ T.dir)
    rw [chd_new hd.name hne]
    refine dok_put hO.dir hnm (by simp) ?_ (fun p hp _ => Nat.ne_of_lt (hd.num p hp))
    show (ddel nm T.dir).length < 64
    rw [e2, ddel_none hg]; omega
  · show sizes (T.files ++ [_]) (chd ⟨[], nm, T.files.length⟩ T.dir) ≤ T.room
    rw [chd_new hd.name hne, dput, sizes_ins]
    have := sizes_del_le (T.files ++ [⟨[], 0⟩]) nm T.dir
    rw [hsz] at this
    have h2 := hT.used
    have h3 : (flAt (T.files ++ [⟨[], 0⟩]) T.files.length).bys.length = 0 := by simp [flAt]
    simp only
    omega
theorem sizes_set {fs : List Fl} {i : Nat} {d : Dir} {nm : Nm} (hr : Rising d) (hm : (nm, i) ∈ d) (hi : i < fs.length) (f : Fl) (hu : ∀ p ∈ d, p.2 = i → p.1 = nm) : sizes (fs.set i f) d + (flAt fs i).bys.length = sizes fs d + f.bys.length := by
  have h1 := sizes_del_at fs hr hm
  have h2 := sizes_del_at (fs.set i f) hr hm
  rw [flAt_set hi, if_pos rfl] at h2
  have h3 : sizes (fs.set i f) (ddel nm d) = sizes fs (ddel nm d) := sizes_congr fun p hp => by
    rw [flAt_set hi, if_neg]
    intro e
    exact ((ddel_mem _ _ _).1 hp).2 (hu p ((ddel_mem _ _ _).1 hp).1 e.symm)
  omega
theorem ok_setFile {S T : DS} (hS : Ok S) (h : Ok T) {nm : Nm} {i : Nat} (e1 : T.files = S.files) (e2 : T.dir = S.dir) (e4 : T.room = S.room) (hg : dget nm S.dir = some i) (f : Fl) (hf : Fok f) (hu : sizes S.files S.dir + f.bys.length ≤ S.room + (flAt S.files i).bys.length) : Ok (setFile i f T) := by
  have hm := dget_some hg
  have hi := hS.dir.num _ hm
  refine ok_files h _ (by simp) (by rw [List.length_set]; exact h.num) (fun g hg' => ?_) ?_
  · rcases List.mem_or_eq_of_mem_set hg' with h1 | rfl
    · exact h.file g h1
    · exact hf
  · have := sizes_set hS.dir.rising hm hi f (fun p hp e => congrArg Prod.fst (hS.dir.one p hp _ hm e))
    rw [e1, e2, e4]
    omega
theorem ok_append {S : DS} (h : Ok S) (nm : Nm) (p : List Nat) (hp : ∀ x ∈ p, x < 256) : Ok (append S nm p).2 := by
  unfold append
  split
  · exact h
  split
  · exact h
  rename_i i hg
  split
  · exact h
  rename_i hc
  have hF := Fok.at h.file i
  refine ok_goes h _ fun T hT e1 e2 e3 hlt hlf e4 => ok_setFile h hT e1 e2 e4 hg _ ⟨?_, ?_, ?_⟩ ?_
  · simp only [List.length_append]; omega
  · have := hF.syn; simp only [List.length_append]; omega
  · intro x hx
    rcases List.mem_append.1 hx with hx | hx
    · exact hF.lt x hx
    · exact hp x hx
  · simp only [List.length_append]; omega
theorem ok_sync {S : DS} (h : Ok S) (nm : Nm) : Ok (sync S nm).2 := by
  unfold sync
  split
  · exact h
  split
  · exact h
  rename_i i hg
  have hF := Fok.at h.file i
  have hu := h.used
  exact ok_goes h _ fun T hT e1 e2 e3 hlt hlf e4 => ok_setFile h hT e1 e2 e4 hg _ ⟨hF.len, Nat.le_refl _, hF.lt⟩ (by simp only; omega)
theorem ok_remove {S : DS} (h : Ok S) (a : Nm) : Ok (remove S a).2 := by
  unfold remove
  split
  · exact h
  split
  · exact h
  rename_i i hg
  have hn := isNm_ne (h.dir.name _ (dget_some hg))
  refine ok_goes h _ fun T hT e1 e2 e3 hlt hlf e4 => ok_change hT _ ⟨.inl hn.1, hn.2, Nat.zero_le _, fun e => absurd rfl e⟩ hlt ?_ ?_
  · exact dok_del hT.dir a
  · exact Nat.le_trans (sizes_del_le _ _ _) hT.used
theorem ok_rename {S : DS} (h : Ok S) (a b : Nm) : Ok (rename S a b).2 := by
  unfold rename
  split
  · exact h
  split
  · exact h
  rename_i i hg
  have hm := dget_some hg
  have hn := isNm_ne (h.dir.name _ hm)
  split
  · exact h
  rename_i hb
  have hb : isNm b = true := by simpa using hb
  have hbn := isNm_ne hb
  split
  · exact ok_goes h _ fun T hT _ _ _ _ _ _ => hT
  rename_i hab
  refine ok_goes h _ fun T hT e1 e2 e3 hlt hlf e4 => ok_change hT _ ⟨.inl hn.1, hn.2, hbn.2, fun _ => by rw [e1]; exact h.dir.num _ hm⟩ hlt ?_ ?_
  · show Dok T.files.length (chd ⟨a, b, i⟩ T.dir)
    unfold chd
    simp only
    rw [if_neg hbn.1, e1, e2]
    refine dok_put (dok_del h.dir a) hb (h.dir.num _ hm) ?_ ?_
    · have := ddel_length_le b (ddel a S.dir)
      have := ddel_length_lt hg
      have := h.dir.len
      omega
    · intro p hp _ e
      have hp := (ddel_mem _ _ _).1 hp
      exact hp.2 (congrArg Prod.fst (h.dir.one p hp.1 _ hm e))
  · show sizes T.files (chd ⟨a, b, i⟩ T.dir) ≤ T.room
    unfold chd
    simp only
    rw [if_neg hbn.1, e1, e2, e4, dput, sizes_ins]
    have h1 := sizes_del_le S.files b (ddel a S.dir)
    have h2 := sizes_del_at S.files h.dir.rising hm
    have h3 := h.used
    simp only
    omega
theorem ok_syncDir {S : DS} (h : Ok S) : Ok (syncDir S).2 := by
  unfold syncDir
  split
  · exact h
  refine ok_goes h _ fun T hT e1 e2 e3 hlt hlf e4 => ⟨fun k => ?_, rfl, Nat.zero_le _, hT.ops, hT.file, hT.num, fun c (hc : c ∈ []) => (List.not_mem_nil hc).elim, hT.used, hT.room, hT.armed⟩
  rw [List.take_nil]
  exact hT.dir
theorem ok_arm {S : DS} (h : Ok S) (n : Int) (hn : n ≤ 9223372036854775807) : Ok (arm S n) := by
  unfold arm
  split
  · exact h
  · exact ⟨h.hist, h.now, h.clen, h.ops, h.file, h.num, h.cok, h.used, h.room, by show n.toNat ≤ _; omega⟩
end Go.Proofs.Yticbfcognnofbaa
