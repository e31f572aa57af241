/- What a failure leaves with all changes, with all tails, with none; rows that a store elsewhere leaves as they are. -/
import Derived.Test.YtmdgecjflkkhdaaDFull
import Derived.Test.YtmdgecjflkkhdaaDPlay
namespace Go.Proofs.Ytmdgecjflkkhdaa
open Go.RowKit Go.Maps

theorem part_all {n : Nat} (h : n ≤ 1099511627776) : part 1099511627776 n = n := by unfold part; omega
/-- What a failure leaves with all changes. -/
def lefts (S : DS) (ts : List Int) : List Fi := S.dir.map fun p => (p.1, leftF (flAt S.files p.2) (tailOf ts p.2))
def whole (S : DS) : List Fi := S.dir.map fun p => (p.1, (flAt S.files p.2).bys)
theorem left_all {S : DS} (h : Ok S) (ts : List Int) : left S 1099511627776 ts = lefts S ts := by
  unfold left lefts
  have h1 := h.clen
  have h2 := h.ops
  rw [part_all (by omega), List.take_length, h.now]
theorem leftF_full {f : Fl} (h : Fok f) : leftF f 1099511627776 = f.bys := by
  unfold leftF
  have h1 := h.len
  have h2 := h.syn
  rw [part_all (by omega)]
  exact List.take_of_length_le (by omega)
theorem Ok.flAt {S : DS} (h : Ok S) (i : Nat) : Fok (flAt S.files i) := by
  unfold Proofs.Ytmdgecjflkkhdaa.flAt
  rw [List.getD_eq_getElem?_getD]
  cases hi : S.files[i]? with
  | none => exact ⟨by simp, by simp, by simp⟩
  | some f => exact h.file f (List.mem_of_getElem? hi)
theorem left_whole {S : DS} (h : Ok S) {m : Nat} (hm : S.files.length ≤ m) : left S 1099511627776 (List.replicate m 1099511627776) = whole S := by
  rw [left_all h]
  unfold lefts whole
  apply List.map_congr_left
  intro p hp
  have h1 := h.dir.num p hp
  have h2 : tailOf (List.replicate m 1099511627776) p.2 = 1099511627776 := by unfold tailOf; rw [List.getD_eq_getElem?_getD, List.getElem?_replicate, if_pos (by omega)]; rfl
  rw [h2, leftF_full (h.flAt _)]
theorem leftF_begins (f : Fl) (h : Fok f) (t : Int) : (leftF f 0).length ≤ (leftF f t).length ∧ (leftF f t).take (leftF f 0).length = leftF f 0 ∧ (leftF f t).length ≤ f.bys.length ∧ f.bys.take (leftF f t).length = leftF f t := by
  have h2 := h.syn
  have e0 : leftF f 0 = f.bys.take f.syn := by unfold leftF part; simp
  have l0 : (leftF f 0).length = f.syn := by rw [e0, List.length_take]; omega
  have lt : (leftF f t).length = f.syn + part t (f.bys.length - f.syn) := by
    unfold leftF
    rw [List.length_take]
    have : part t (f.bys.length - f.syn) ≤ f.bys.length - f.syn := Nat.min_le_right _ _
    omega
  refine ⟨by rw [l0, lt]; omega, ?_, by unfold leftF; rw [List.length_take]; omega, by rw [lt]; rfl⟩
  rw [l0, e0]
  unfold leftF
  rw [List.take_take]
  congr 1
  omega
theorem tail_nil (i : Nat) : tailOf [] i = 0 := by simp [tailOf]
theorem goes_more {S : DS} {f : DS → DS} (hf : ∀ T, (f T).files.length ≤ T.files.length + 1) : (goes S f).2.files.length ≤ S.files.length + 1 := by
  unfold goes
  split
  · exact Nat.le_succ _
  split
  · exact Nat.le_succ _
  · exact hf _
theorem create_files (S : DS) (nm : Nm) : (create S nm).2.files.length ≤ S.files.length + 1 := by
  unfold create
  split
  · exact Nat.le_succ _
  split
  · exact Nat.le_succ _
  split
  · exact Nat.le_succ _
  split
  · exact Nat.le_succ _
  exact goes_more fun T => by simp [change]
theorem act_files (S : DS) (x : Ac) : (act S x).files.length ≤ S.files.length + 1 := by
  unfold act
  split
  · exact create_files _ _
  split
  · rw [append_files]; omega
  split
  · rw [sync_files]; omega
  split
  · rw [rename_files]; omega
  split
  · rw [remove_files]; omega
  split
  · rw [syncDir_files]; omega
  split
  · rw [arm_files]; omega
  · omega
theorem acts_files (l : List Ac) : ∀ S : DS, (acts S l).files.length ≤ S.files.length + l.length := by
  induction l with
  | nil => intro S; exact Nat.le_refl _
  | cons x l ih =>
    intro S
    have h1 := ih (act S x)
    have h2 := act_files S x
    show (acts (act S x) l).files.length ≤ _
    rw [List.length_cons]
    omega
/-- The cells of one file of a list. -/
theorem FOwn.at {w : World} {B : Nat} {vao : Option Addr} {n cap : Nat} {l : List Fi} {us : List Value} (h : FOwn w B (.slice vao n cap) l us) {i : Nat} {x : Fi} (hx : l[i]? = some x) :
    ∃ g bao bc, vao = some ⟨g, 0, none⟩ ∧ w.cell? ⟨g, i * 2, none⟩ = some (.string (str x.1)) ∧ w.cell? ⟨g, i * 2 + 1, none⟩ = some (.slice bao x.2.length bc) ∧ Row w bao x.2 ∧ x.2.length ≤ bc ∧ (bao = none → bc = 0) ∧ n ≤ cap := by
  have hi : i < l.length := by
    rcases Nat.lt_or_ge i l.length with h1 | h1
    · exact h1
    · rw [List.getElem?_eq_none h1] at hx; cases hx
  obtain ⟨u, hu⟩ : ∃ u, us[i]? = some u := ⟨_, List.getElem?_eq_getElem (by rw [h.len]; exact hi)⟩
  obtain ⟨c1, c2⟩ := fcells_get i hx hu
  rcases h.row.2 with ⟨_, e⟩ | ⟨g, cap', cur, e, _, _, hle, _⟩
  · omega
  · injection e with e1 e2 e3
    subst e1; subst e3
    have hc := World.ownsRow.cells h.row (g := g) rfl
    have k1 := hc _ _ c1
    have k2 := hc _ _ c2
    rw [add_none, Nat.zero_add] at k1 k2
    have ho := h.own i u x hu hx
    obtain ⟨bao, c, hv, hlc, hr⟩ := ho.read
    refine ⟨g, bao, c, rfl, k1, by rw [← hv]; exact k2, hr, hlc, fun hn => ?_, by rw [e2]; exact hle⟩
    rcases ho.2 with ⟨e, _⟩ | ⟨g', cap', cur', e, _⟩
    · rw [hv] at e; injection e
    · rw [hv] at e; injection e with e _ _; rw [hn] at e; cases e
theorem FOwn.poke {w : World} {B : Nat} {v : Value} {l : List Fi} {us : List Value} (h : FOwn w B v l us) (a : Addr) (x : Value) (ha : a.block < B) : FOwn (w.setCell a x) B v l us :=
  ⟨h.len, owns_same h.row fun g hg => heap_setCell_other w a g x (by have := (World.ownsRow.lt h.row g hg).1; omega), fun i u y h1 h2 => owns_same (h.own i u y h1 h2) fun g hg => heap_setCell_other w a g x (by have := (h.new i u g h1 hg).1; omega), h.new⟩
theorem TOwn.at' {w : World} {ao : Option Addr} {n cap : Nat} {ns : List Nm} (h : TOwn w (.slice ao n cap) ns) {i : Nat} {x : Nm} (hx : ns[i]? = some x) : ∃ g, ao = some ⟨g, 0, none⟩ ∧ w.cell? ⟨g, i, none⟩ = some (.string (str x)) ∧ n ≤ cap := by
  rcases h.2 with ⟨_, e⟩ | ⟨g, cap', cur, e, _, _, hle, _⟩
  · rw [List.length_eq_zero_iff.1 e] at hx; simp at hx
  · have h0 := h
    injection e with e1 e2 e3
    subst e1; subst e3
    exact ⟨g, rfl, h0.at hx, by rw [e2]; exact hle⟩
theorem TOwn.keep {w w' : World} {v : Value} {ns : List Nm} (h : TOwn w v ns) (hb : Below w.heap.size w w') : TOwn w' v ns := owns_same h fun g hg => hb.block g (World.ownsRow.lt h g hg).2
theorem TOwn.poke {w : World} {v : Value} {ns : List Nm} (h : TOwn w v ns) {B : Nat} (hg : ∀ g, v.ownBlock = some g → B ≤ g) (a : Addr) (x : Value) (ha : a.block < B) : TOwn (w.setCell a x) v ns := owns_same h fun g h1 => heap_setCell_other w a g x (by have := hg g h1; omega)
theorem Dsk.poke {w u wr : World} {dp : Nat} {S : DS} (h : Dsk u wr dp S) (hb : Below w.heap.size w u) (a : Addr) (v : Value) (h1 : w.heap.size ≤ a.block) (h2 : a.block < u.heap.size) : Dsk w (wr.setCell a v) dp S := by
  obtain ⟨L, hR, hL⟩ := h.rep
  refine ⟨⟨L, hR.keep (by simp [World.setCell]) (fun b hm => heap_setCell_other wr a b v (by have := hL b hm; omega)), fun b hm => Nat.le_trans hb.size (hL b hm)⟩, h.ok, (hb.trans (h.bel.mono hb.size)).setCell h1 v⟩
end Go.Proofs.Ytmdgecjflkkhdaa
