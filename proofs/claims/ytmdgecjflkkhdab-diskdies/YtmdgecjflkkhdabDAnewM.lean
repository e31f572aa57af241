/- A disk of what is left: it has just these files. -/
import Derived.Test.YtmdgecjflkkhdabDGuard
namespace Go.Proofs.Ytmdgecjflkkhdab

/-- Files that a disk can have told. -/
structure Told (fs : List Fi) : Prop where
  rising : fs.Pairwise fun a b => bytesBefore a.1 b.1 = true
  name : ∀ f ∈ fs, isNm f.1 = true
  len : ∀ f ∈ fs, f.2.length ≤ 4194304
  many : fs.length ≤ 64
  lt : ∀ f ∈ fs, ∀ x ∈ f.2, x < 256
theorem fok_at {S : DS} (h : Ok S) (i : Nat) : Fok (flAt S.files i) := Fok.at h.file i
theorem told_left {S : DS} (h : Ok S) (dir : Int) (ts : List Int) : Told (left S dir ts) := by
  have hd := h.hist (part dir S.chg.length)
  unfold left
  refine ⟨?_, fun f hf => ?_, fun f hf => ?_, ?_, fun f hf x hx => ?_⟩
  · rw [List.pairwise_map]
    exact hd.rising
  · obtain ⟨p, hp, rfl⟩ := List.mem_map.1 hf
    exact hd.name p hp
  · obtain ⟨p, hp, rfl⟩ := List.mem_map.1 hf
    have h1 := (fok_at h p.2).len
    show (leftF _ _).length ≤ _
    unfold leftF
    rw [List.length_take]
    omega
  · rw [List.length_map]
    exact hd.len
  · obtain ⟨p, hp, rfl⟩ := List.mem_map.1 hf
    exact (fok_at h p.2).lt x (List.mem_of_mem_take hx)
def idx (fs : List Fi) (k : Nat) : Dir := (List.range k).map fun i => ((fs.getD i ([], [])).1, i)
theorem before_asym {a b : List UInt8} (h : bytesBefore a b = true) : bytesBefore b a = false := by
  cases h2 : bytesBefore b a with
  | false => rfl
  | true =>
    have := WideShapes.bytes_trans _ _ _ h h2
    rw [WideAt.bytes_irrefl] at this
    cases this
theorem dins_last {x : Nm × Nat} : ∀ {d : Dir}, (∀ y ∈ d, bytesBefore x.1 y.1 = false) → dins x d = d ++ [x]
  | [], _ => rfl
  | y :: r, h => by
    unfold dins
    rw [if_neg (by rw [h y (by simp)]; decide), dins_last (fun z hz => h z (by simp [hz]))]
    rfl
theorem told_before {fs : List Fi} (h : Told fs) {i k : Nat} (hik : i < k) (hk : k < fs.length) : bytesBefore (fs.getD i ([], [])).1 (fs.getD k ([], [])).1 = true := by
  have := List.pairwise_iff_getElem.1 h.rising i k (by omega) hk hik
  simpa [List.getD_eq_getElem?_getD, List.getElem?_eq_getElem, hk, Nat.lt_trans hik hk] using this
theorem idx_before {fs : List Fi} (h : Told fs) {k : Nat} (hk : k < fs.length) : ∀ p ∈ idx fs k, bytesBefore p.1 (fs.getD k ([], [])).1 = true := fun p hp => by
  obtain ⟨i, hi, rfl⟩ := List.mem_map.1 hp
  exact told_before h (List.mem_range.1 hi) hk
theorem idx_none {fs : List Fi} (h : Told fs) {k : Nat} (hk : k < fs.length) : dget (fs.getD k ([], [])).1 (idx fs k) = none := by
  unfold dget
  rw [Option.map_eq_none_iff, List.find?_eq_none]
  intro p hp e
  have h1 := idx_before h hk p hp
  have h2 : p.1 = (fs.getD k ([], [])).1 := by simpa using e
  rw [h2, WideAt.bytes_irrefl] at h1
  cases h1
theorem told_dir {fs : List Fi} (h : Told fs) : ∀ k, k ≤ fs.length → dirAt fs k = idx fs k
  | 0, _ => rfl
  | k + 1, hk => by
    have ih := told_dir h k (by omega)
    show dput _ _ (dirAt fs k) = _
    rw [ih]
    unfold dput
    rw [ddel_none (idx_none h (by omega)), dins_last (fun y hy => before_asym (idx_before h (by omega) y hy))]
    unfold idx
    rw [List.range_succ, List.map_append]
    rfl
theorem told_name {fs : List Fi} (h : Told fs) {k : Nat} (hk : k < fs.length) : isNm (fs.getD k ([], [])).1 = true ∧ (fs.getD k ([], [])).2.length ≤ 4194304 := by
  have e : fs.getD k ([], []) = fs[k] := by simp [List.getD_eq_getElem?_getD, hk]
  rw [e]
  exact ⟨h.name _ (List.getElem_mem hk), h.len _ (List.getElem_mem hk)⟩
theorem told_fault {fs : List Fi} (h : Told fs) {k : Nat} (hk : k < fs.length) : faultAt fs k = 0 := by
  obtain ⟨h1, h2⟩ := told_name h hk
  unfold faultAt faultOf
  rw [told_dir h k (by omega), idx_none h hk, if_neg (by rw [h1]; decide), if_neg (by decide), if_neg (by omega)]
theorem total_most (fs : List Fi) (h : ∀ f ∈ fs, f.2.length ≤ 4194304) : total fs ≤ fs.length * 4194304 := by
  unfold total
  induction fs with
  | nil => simp
  | cons f r ih =>
    have h1 := h f (by simp)
    have h2 := ih (fun g hg => h g (by simp [hg]))
    simp only [List.map_cons, List.sum_cons, List.length_cons]
    omega
theorem told_new {fs : List Fi} (h : Told fs) : newErr fs 1099511627776 = 0 := by
  have h1 := h.many
  have h2 := total_most fs h.len
  unfold newErr
  rw [if_neg (by omega), if_neg (by omega), first_none (fun j hj => told_fault h hj)]
  simp only
  rw [if_neg (by omega)]
theorem told_again {fs : List Fi} (h : Told fs) (room : Nat) (dir : Int) (ts : List Int) : left (born fs room) dir ts = fs := by
  unfold left
  have e : (born fs room).safe = idx fs fs.length := told_dir h _ (Nat.le_refl _)
  have e2 : (born fs room).chg = [] := rfl
  rw [e, e2, List.take_nil]
  show (idx fs fs.length).map _ = fs
  unfold idx
  rw [List.map_map]
  apply List.ext_getElem?
  intro i
  rw [List.getElem?_map]
  rcases Nat.lt_or_ge i fs.length with hi | hi
  · rw [List.getElem?_range hi]
    have e3 : flAt (born fs room).files i = ⟨(fs.getD i ([], [])).2, (fs.getD i ([], [])).2.length⟩ := born_at hi
    have e4 : fs.getD i ([], []) = fs[i] := by simp [List.getD_eq_getElem?_getD, hi]
    simp only [Option.map_some, Function.comp]
    rw [e3, List.getElem?_eq_getElem hi, e4]
    have e5 : ∀ t, leftF ⟨fs[i].2, fs[i].2.length⟩ t = fs[i].2 := fun t => by
      unfold leftF
      exact List.take_of_length_le (by simp only; omega)
    rw [e5]
  · rw [List.getElem?_eq_none (by simpa using hi), List.getElem?_eq_none hi]
    rfl
theorem told_len {fs : List Fi} (h : Told fs) (room : Nat) : (born fs room).dir.length = fs.length := by
  have e : (born fs room).dir = idx fs fs.length := told_dir h _ (Nat.le_refl _)
  rw [e]
  simp [idx]
end Go.Proofs.Ytmdgecjflkkhdab
