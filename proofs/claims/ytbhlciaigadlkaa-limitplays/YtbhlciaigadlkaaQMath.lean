/- The limit of the document as plain data: who has which window, the clock, the calls. -/
import Derived.Maps.OwnSet
import Derived.Sort.KeysCollected
namespace Go.Proofs.Ytbhlciaigadlkaa

abbrev Nm : Type := List UInt8
/-- Who has which window: when it began, how many attempts it has; by rising names. -/
abbrev Tab : Type := List (Nm × (Nat × Nat))

def tins (x : Nm × (Nat × Nat)) : Tab → Tab
  | [] => [x]
  | y :: r => if bytesBefore x.1 y.1 then x :: y :: r else y :: tins x r
def tdel (nm : Nm) (d : Tab) : Tab := d.filter fun p => !(p.1 == nm)
def tget (nm : Nm) (d : Tab) : Option (Nat × Nat) := (d.find? fun p => p.1 == nm).map (·.2)
def tset (nm : Nm) (v : Nat × Nat) (d : Tab) : Tab := d.map fun p => if p.1 = nm then (nm, v) else p
def Rising (d : Tab) : Prop := d.Pairwise fun p q => bytesBefore p.1 q.1 = true

theorem tins_mem (x : Nm × (Nat × Nat)) : ∀ (d : Tab) (p : Nm × (Nat × Nat)), p ∈ tins x d ↔ p = x ∨ p ∈ d
  | [], p => by simp [tins]
  | y :: r, p => by
    unfold tins
    split
    · simp
    · simp [tins_mem x r p]
      constructor
      · rintro (h | h | h)
        · exact .inr (.inl h)
        · exact .inl h
        · exact .inr (.inr h)
      · rintro (h | h | h)
        · exact .inr (.inl h)
        · exact .inl h
        · exact .inr (.inr h)
theorem tins_length (x : Nm × (Nat × Nat)) : ∀ d : Tab, (tins x d).length = d.length + 1
  | [] => rfl
  | y :: r => by
    unfold tins
    split
    · rfl
    · simp [tins_length x r]
theorem tdel_mem (nm : Nm) (d : Tab) (p : Nm × (Nat × Nat)) : p ∈ tdel nm d ↔ p ∈ d ∧ p.1 ≠ nm := by simp [tdel]
theorem rising_filter {f : Nm × (Nat × Nat) → Bool} {d : Tab} (h : Rising d) : Rising (d.filter f) := List.Pairwise.filter _ h
theorem rising_del {nm : Nm} {d : Tab} (h : Rising d) : Rising (tdel nm d) := List.Pairwise.filter _ h
theorem rising_ins {x : Nm × (Nat × Nat)} : ∀ {d : Tab}, Rising d → (∀ p ∈ d, p.1 ≠ x.1) → Rising (tins x d)
  | [], _, _ => by simp [tins, Rising]
  | y :: r, h, hn => by
    unfold Rising at h
    rw [List.pairwise_cons] at h
    unfold tins
    by_cases hb : bytesBefore x.1 y.1 = true
    · rw [if_pos hb]
      refine List.pairwise_cons.2 ⟨fun q hq => ?_, List.pairwise_cons.2 h⟩
      rcases List.mem_cons.1 hq with rfl | hq
      · exact hb
      · exact WideShapes.bytes_trans _ _ _ hb (h.1 q hq)
    · rw [if_neg hb]
      refine List.pairwise_cons.2 ⟨fun q hq => ?_, rising_ins h.2 (fun p hp => hn p (by simp [hp]))⟩
      rcases (tins_mem x r q).1 hq with rfl | hq
      · rcases WideAt.bytes_total y.1 q.1 (hn y (by simp)) with h1 | h1
        · exact h1
        · exact absurd h1 hb
      · exact h.1 q hq
theorem tset_names (nm : Nm) (v : Nat × Nat) (d : Tab) : (tset nm v d).map (·.1) = d.map (·.1) := by
  unfold tset
  rw [List.map_map]
  apply List.map_congr_left
  intro p _
  show (if p.1 = nm then (nm, v) else p).1 = p.1
  split
  · rename_i h; exact h.symm
  · rfl
theorem rising_names {d d' : Tab} (h : Rising d) (e : d'.map (·.1) = d.map (·.1)) : Rising d' := by
  have h1 : (d.map (·.1)).Pairwise fun a b => bytesBefore a b = true := List.pairwise_map.2 h
  rw [← e] at h1
  exact List.pairwise_map.1 h1
theorem rising_set {nm : Nm} {v : Nat × Nat} {d : Tab} (h : Rising d) : Rising (tset nm v d) := rising_names h (tset_names nm v d)
theorem tset_length (nm : Nm) (v : Nat × Nat) (d : Tab) : (tset nm v d).length = d.length := by simp [tset]
theorem tset_mem {nm : Nm} {v : Nat × Nat} {d : Tab} {p : Nm × (Nat × Nat)} (h : p ∈ tset nm v d) : (p = (nm, v) ∧ ∃ u, (nm, u) ∈ d) ∨ (p ∈ d ∧ p.1 ≠ nm) := by
  unfold tset at h
  obtain ⟨q, hq, rfl⟩ := List.mem_map.1 h
  by_cases e : q.1 = nm
  · rw [if_pos e]
    exact .inl ⟨rfl, q.2, by rw [← e]; exact hq⟩
  · rw [if_neg e]
    exact .inr ⟨hq, e⟩
theorem Rising.inj {d : Tab} (h : Rising d) {p q : Nm × (Nat × Nat)} (hp : p ∈ d) (hq : q ∈ d) (e : p.1 = q.1) : p = q := by
  induction d with
  | nil => cases hp
  | cons x r ih =>
    unfold Rising at h
    rw [List.pairwise_cons] at h
    rcases List.mem_cons.1 hp with hp1 | hp1 <;> rcases List.mem_cons.1 hq with hq1 | hq1
    · rw [hp1, hq1]
    · have := h.1 q hq1; rw [← hp1, e, WideAt.bytes_irrefl] at this; cases this
    · have := h.1 p hp1; rw [← hq1, e, WideAt.bytes_irrefl] at this; cases this
    · exact ih h.2 hp1 hq1
theorem Rising.nodup {d : Tab} (h : Rising d) : (d.map (·.1)).Nodup := by
  have h1 : (d.map (·.1)).Pairwise fun a b => bytesBefore a b = true := List.pairwise_map.2 h
  exact h1.imp fun hb e => by rw [e, WideAt.bytes_irrefl] at hb; cases hb
theorem tget_some {nm : Nm} {d : Tab} {v : Nat × Nat} (h : tget nm d = some v) : (nm, v) ∈ d := by
  unfold tget at h
  rw [Option.map_eq_some_iff] at h
  obtain ⟨p, hp, rfl⟩ := h
  have h1 := List.mem_of_find?_eq_some hp
  have h2 := List.find?_some hp
  have h3 : p.1 = nm := by simpa using h2
  rw [← h3]
  exact h1
theorem tget_none {nm : Nm} {d : Tab} (h : tget nm d = none) : ∀ p ∈ d, p.1 ≠ nm := by
  unfold tget at h
  rw [Option.map_eq_none_iff, List.find?_eq_none] at h
  intro p hp e
  exact h p hp (by simp [e])
theorem tget_of {nm : Nm} {d : Tab} {v : Nat × Nat} (hr : Rising d) (h : (nm, v) ∈ d) : tget nm d = some v := by
  cases hg : tget nm d with
  | none => exact absurd rfl (tget_none hg _ h)
  | some j =>
    have := hr.inj (tget_some hg) h rfl
    rw [Prod.mk.injEq] at this
    rw [this.2]
theorem tget_none_of {nm : Nm} {d : Tab} (h : ∀ p ∈ d, p.1 ≠ nm) : tget nm d = none := by
  cases hg : tget nm d with
  | none => rfl
  | some v => exact absurd rfl (h _ (tget_some hg))
theorem tdel_length_le (nm : Nm) (d : Tab) : (tdel nm d).length ≤ d.length := List.length_filter_le _ _
theorem tdel_none {nm : Nm} {d : Tab} (h : tget nm d = none) : tdel nm d = d := by
  unfold tdel
  rw [List.filter_eq_self]
  intro p hp
  have := tget_none h p hp
  simp [this]

/-- The datum of the map: names to blocks. -/
def DL (bl : Nm → Nat) (d : Tab) : DataW Unit := .map (d.map fun p => (.string p.1, .lit (.int .i64 ((bl p.1 : Nat) : Int))))
theorem dl_names (bl : Nm → Nat) {d d' : Tab} (h : d.map (·.1) = d'.map (·.1)) : DL bl d = DL bl d' := by
  have e : ∀ x : Tab, (x.map fun p => ((Lit.string p.1 : Lit), (.lit (.int .i64 ((bl p.1 : Nat) : Int)) : DataW Unit))) = (x.map (·.1)).map fun nm => (.string nm, .lit (.int .i64 ((bl nm : Nat) : Int))) := fun x => by rw [List.map_map]; rfl
  unfold DL
  rw [e, e, h]
theorem dl_congr {bl bl' : Nm → Nat} {d : Tab} (h : ∀ p ∈ d, bl' p.1 = bl p.1) : DL bl' d = DL bl d := by
  unfold DL
  congr 1
  apply List.map_congr_left
  intro p hp
  rw [h p hp]
theorem dl_ins (bl : Nm → Nat) (nm : Nm) (v : Nat × Nat) : ∀ d : Tab, DataW.insert (Lit.string nm, (.lit (.int .i64 ((bl nm : Nat) : Int)) : DataW Unit)) (d.map fun p => (.string p.1, .lit (.int .i64 ((bl p.1 : Nat) : Int)))) = (tins (nm, v) d).map fun p => (.string p.1, .lit (.int .i64 ((bl p.1 : Nat) : Int)))
  | [] => rfl
  | y :: r => by
    by_cases h : bytesBefore nm y.1 = true
    · simp [DataW.insert, Lit.before, tins, h]
    · have := dl_ins bl nm v r
      rw [List.map_cons, show tins (nm, v) (y :: r) = y :: tins (nm, v) r from if_neg h, List.map_cons, ← this]
      exact if_neg h
theorem dl_del (bl : Nm → Nat) (nm : Nm) (d : Tab) : (DL bl d).del (.string nm) = DL bl (tdel nm d) := by
  rw [DL, DL, DataW.del_eq, ChangeMaps.delKey, List.filter_map]
  rfl
theorem dl_put (bl : Nm → Nat) (nm : Nm) (b : Nat) (v : Nat × Nat) (d : Tab) (hb : bl nm = b) (hn : tget nm d = none) : (DL bl d).put (.string nm) (.lit (.int .i64 (b : Int))) = DL bl (tins (nm, v) d) := by
  rw [DL, DL, DataW.put_eq, ChangeMaps.putKey, List.filter_map]
  have := dl_ins bl nm v (tdel nm d)
  rw [hb] at this
  rw [tdel_none hn] at this
  rw [← this]
  congr 2
  have e := tdel_none hn
  unfold tdel at e
  conv => rhs; rw [← e]
  rfl
theorem dl_at (bl : Nm → Nat) (nm : Nm) (d : Tab) (z : DataW Unit) : (DL bl d).atKey (.string nm) z = if (tget nm d).isSome then .lit (.int .i64 ((bl nm : Nat) : Int)) else z := by
  unfold DL DataW.atKey tget
  simp only [List.find?_map]
  have e : ((fun p : Lit × DataW Unit => p.1.sameKey (.string nm)) ∘ fun p : Nm × (Nat × Nat) => ((.string p.1 : Lit), (.lit (.int .i64 ((bl p.1 : Nat) : Int)) : DataW Unit))) = fun p => p.1 == nm := by
    funext p; rfl
  rw [e]
  cases h : d.find? fun p => p.1 == nm with
  | none => rfl
  | some p =>
    have := List.find?_some h
    have : p.1 = nm := by simpa using this
    simp [this]
theorem dl_size (bl : Nm → Nat) (d : Tab) : Maps.size (DL bl d) = d.length := by simp [DL, Maps.size]
theorem dl_keys (bl : Nm → Nat) (d : Tab) : strKeys (DL bl d) = d.map (·.1) := by simp [DL, strKeys, strOf, Function.comp_def]
theorem dl_has (bl : Nm → Nat) (d : Tab) (nm : Nm) : Maps.has (DL bl d) (.string nm) = (tget nm d).isSome := by
  have h : Maps.has (DL bl d) (.string nm) = d.any (fun p => p.1 == nm) := by
    unfold DL
    rw [Maps.has_eq]
    simp only [List.any_map]
    rfl
  rw [h]
  unfold tget
  rw [Option.isSome_map, Bool.eq_iff_iff, List.any_eq_true, List.find?_isSome]
theorem before_le : ∀ (a b : List UInt8), bytesBefore a b = true → a ≤ b
  | [], _, _ => List.nil_le _
  | _ :: _, [], h => by simp [bytesBefore] at h
  | x :: r, y :: s, h => by
    simp only [bytesBefore, Bool.or_eq_true, Bool.and_eq_true, decide_eq_true_eq, beq_iff_eq] at h
    rcases h with h | ⟨rfl, h⟩
    · exact List.cons_le_cons_iff.2 (.inl h)
    · exact List.cons_le_cons_iff.2 (.inr ⟨rfl, before_le r s h⟩)
theorem sorted_keys {d : Tab} (h : Rising d) {ss : List (List UInt8)} (hp : ss.Perm (d.map (·.1))) : ss.mergeSort (fun x y => decide (x ≤ y)) = d.map (·.1) := by
  rw [mergeSort_of_perm hp]
  apply List.mergeSort_of_pairwise
  rw [List.pairwise_map]
  exact List.Pairwise.imp (fun hb => by simpa using before_le _ _ hb) h

/-- A limit. -/
structure LS where
  tries : Nat
  win : Nat
  subs : Nat
  clock : Nat
  tab : Tab
/-- What is left of a window of win seconds that began at b. -/
def restN (win b t : Nat) : Nat := win - min win (t - b)
def opens (win t : Nat) (p : Nm × (Nat × Nat)) : Bool := decide (t - p.2.1 < win)
def LS.goTo (S : LS) (now : Nat) : LS := if now ≤ S.clock then S else { S with clock := now, tab := S.tab.filter (opens S.win now) }
def LS.openAt (S : LS) (t : Nat) : Nat := (S.tab.filter (opens S.win t)).length
/-- Where the subject has no open window. -/
def LS.leftN (S : LS) (t : Nat) : Nat × Nat := if S.subs ≤ S.openAt t then (0, 5) else (S.tries, 0)
def LS.left (S : LS) (nm : Nm) (t : Nat) : Nat × Nat :=
  if 256 < nm.length then (0, 1)
  else match tget nm S.tab with
    | some v => if t - v.1 < S.win then (if v.2 = S.tries then (0, 80) else (S.tries - v.2, 0)) else S.leftN t
    | none => S.leftN t
def LS.attempt (S : LS) (nm : Nm) : LS := match tget nm S.tab with
  | some v => { S with tab := tset nm (v.1, v.2 + 1) S.tab }
  | none => { S with tab := tins (nm, (S.clock, 1)) S.tab }
/-- Try: the limit behind it, what is left, the error. -/
def LS.try (S : LS) (nm : Nm) (now : Nat) : LS × (Nat × Nat) :=
  if 256 < nm.length then (S, (0, 1))
  else if ((S.goTo now).left nm (S.goTo now).clock).2 = 0 then ((S.goTo now).attempt nm, (((S.goTo now).left nm (S.goTo now).clock).1 - 1, 0)) else (S.goTo now, (0, ((S.goTo now).left nm (S.goTo now).clock).2))
def LS.first (S : LS) (t : Nat) : Nat := S.tab.foldr (fun p m => min m (restN S.win p.2.1 t)) S.win
def LS.wait (S : LS) (nm : Nm) (now : Nat) : Nat :=
  if (S.left nm (max now S.clock)).2 = 80 then restN S.win ((tget nm S.tab).getD (0, 0)).1 (max now S.clock)
  else if (S.left nm (max now S.clock)).2 = 5 then S.first (max now S.clock) else 0
structure Ok (S : LS) : Prop where
  tries1 : 1 ≤ S.tries
  tries2 : S.tries ≤ 1000000
  win1 : 1 ≤ S.win
  win2 : S.win < 18446744073709551616
  subs1 : 1 ≤ S.subs
  subs2 : S.subs ≤ 4096
  clock : S.clock < 18446744073709551616
  rising : Rising S.tab
  len : S.tab.length ≤ S.subs
  each : ∀ p ∈ S.tab, p.2.1 ≤ S.clock ∧ S.clock - p.2.1 < S.win ∧ 1 ≤ p.2.2 ∧ p.2.2 ≤ S.tries ∧ p.1.length ≤ 256
theorem Ok.goTo {S : LS} (h : Ok S) {now : Nat} (hn : now < 18446744073709551616) : Ok (S.goTo now) := by
  unfold LS.goTo
  split
  · exact h
  · rename_i hc
    refine ⟨h.tries1, h.tries2, h.win1, h.win2, h.subs1, h.subs2, hn, rising_filter h.rising, Nat.le_trans (List.length_filter_le _ _) h.len, fun p hp => ?_⟩
    obtain ⟨hm, ho⟩ := List.mem_filter.1 hp
    have := h.each p hm
    unfold opens at ho
    have ho := of_decide_eq_true ho
    show p.2.1 ≤ now ∧ now - p.2.1 < S.win ∧ _
    exact ⟨by omega, ho, this.2.2⟩
theorem goTo_clock (S : LS) (now : Nat) : (S.goTo now).clock = max S.clock now := by
  unfold LS.goTo
  split
  · omega
  · show now = _; omega
theorem goTo_tries (S : LS) (now : Nat) : (S.goTo now).tries = S.tries := by unfold LS.goTo; split <;> rfl
theorem goTo_win (S : LS) (now : Nat) : (S.goTo now).win = S.win := by unfold LS.goTo; split <;> rfl
theorem goTo_subs (S : LS) (now : Nat) : (S.goTo now).subs = S.subs := by unfold LS.goTo; split <;> rfl
theorem filter_all {S : LS} (h : Ok S) : S.tab.filter (opens S.win S.clock) = S.tab := by
  rw [List.filter_eq_self]
  intro p hp
  exact decide_eq_true (h.each p hp).2.1
theorem openAt_clock {S : LS} (h : Ok S) : S.openAt S.clock = S.tab.length := by unfold LS.openAt; rw [filter_all h]
theorem Ok.attempt {S : LS} (h : Ok S) {nm : Nm} (hl : (S.left nm S.clock).2 = 0) : Ok (S.attempt nm) := by
  unfold LS.left at hl
  split at hl
  · cases hl
  · rename_i hle
    unfold LS.attempt
    cases hg : tget nm S.tab with
    | some v =>
      rw [hg] at hl
      have hv := h.each _ (tget_some hg)
      simp only at hl hv ⊢
      rw [if_pos hv.2.1] at hl
      split at hl
      · cases hl
      · rename_i hne
        refine ⟨h.tries1, h.tries2, h.win1, h.win2, h.subs1, h.subs2, h.clock, rising_set h.rising, by rw [tset_length]; exact h.len, fun p hp => ?_⟩
        rcases tset_mem hp with ⟨rfl, _⟩ | ⟨hp, _⟩
        · exact ⟨hv.1, hv.2.1, by show 1 ≤ v.2 + 1; omega, by show v.2 + 1 ≤ S.tries; omega, by show nm.length ≤ 256; omega⟩
        · exact h.each p hp
    | none =>
      rw [hg] at hl
      simp only [LS.leftN] at hl ⊢
      rw [openAt_clock h] at hl
      split at hl
      · cases hl
      · rename_i hf
        refine ⟨h.tries1, h.tries2, h.win1, h.win2, h.subs1, h.subs2, h.clock, rising_ins h.rising (tget_none hg), by rw [tins_length]; show _ ≤ S.subs; omega, fun p hp => ?_⟩
        rcases (tins_mem _ _ p).1 hp with rfl | hp
        · have h1 := h.win1
          have h2 := h.tries1
          exact ⟨Nat.le_refl _, by show S.clock - S.clock < S.win; omega, Nat.le_refl _, h2, by show nm.length ≤ 256; omega⟩
        · exact h.each p hp
theorem Ok.try {S : LS} (h : Ok S) (nm : Nm) {now : Nat} (hn : now < 18446744073709551616) : Ok (S.try nm now).1 := by
  unfold LS.try
  split
  · exact h
  · split
    · rename_i h0
      exact (h.goTo hn).attempt h0
    · exact h.goTo hn
end Go.Proofs.Ytbhlciaigadlkaa
