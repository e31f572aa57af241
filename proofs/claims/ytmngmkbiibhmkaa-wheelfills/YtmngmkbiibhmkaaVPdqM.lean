/- What is done of a row while a part of it is being sorted. -/
import Derived.Test.YtmngmkbiibhmkaaVPtn
namespace Go.Proofs.Ytmngmkbiibhmkaa

/-- Of a to b all pairs stand right but those that lie within c to d. -/
def Side (a b c d : Nat) (ds : List Nat) : Prop := ∀ p q, a ≤ p → p < q → q < b → (p < c ∨ d ≤ q) → gt ds p ≤ gt ds q
theorem Side.start (a b : Nat) (ds : List Nat) : Side a b a b ds := fun p q h1 h2 h3 h4 => by omega
theorem Side.seg {a b c d : Nat} {ds es : List Nat} (h : Side a b c d ds) (k : SegP c d ds es) (hn : ds.Nodup) (h1 : a ≤ c) (h2 : d ≤ b) (hb : b ≤ ds.length) : Side a b c d es := by
  intro p q k1 k2 k3 k4
  rcases k4 with k4 | k4
  · rw [k.out p (.inl k4)]
    by_cases hq : c ≤ q ∧ q < d
    · obtain ⟨j, hj1, hj2, e⟩ := k.mem hn hq.1 hq.2 (by omega)
      rw [e]; exact h p j k1 (by omega) (by omega) (.inl k4)
    · rw [k.out q (by omega)]; exact h p q k1 k2 k3 (.inl k4)
  · rw [k.out q (.inr k4)]
    by_cases hp : c ≤ p ∧ p < d
    · obtain ⟨j, hj1, hj2, e⟩ := k.mem hn hp.1 hp.2 (by omega)
      rw [e]; exact h j q (by omega) (by omega) k3 (.inr k4)
    · rw [k.out p (by omega)]; exact h p q k1 k2 k3 (.inr k4)
theorem Side.all {a b c d : Nat} {ds : List Nat} (h : Side a b c d ds) (k : Srt c d ds) : Srt a b ds := fun p q h1 h2 h3 => by
  by_cases hp : p < c ∨ d ≤ q
  · exact h p q h1 h2 h3 hp
  · exact k p q (by omega) h2 (by omega)
theorem low_mid {c d m : Nat} {ds : List Nat} (h : Parted c d m ds) : Low (m + 1) d ds := .inr fun t h1 h2 => by
  rw [show m + 1 - 1 = m by omega]; exact h.2 t (by omega) h2
theorem low_left {c d m : Nat} {ds : List Nat} (h : Low c d ds) (hm : m ≤ d) : Low c m ds := by
  rcases h with h | h
  · exact .inl h
  · exact .inr fun t h1 h2 => h t h1 (by omega)
theorem side_left {a b c d m : Nat} {ds es : List Nat} (h : Side a b c d ds) (hp : Parted c d m ds) (k : SegP c m ds es) (hs : Srt c m es) (hn : ds.Nodup) (h1 : a ≤ c) (h2 : d ≤ b) (hc : c ≤ m) (hm : m < d) (hb : b ≤ ds.length) : Side a b (m + 1) d es ∧ Low (m + 1) d es := by
  have hS := h.seg (k.mono (Nat.le_refl _) (by omega)) hn h1 h2 hb
  have e : ∀ t, m ≤ t → gt es t = gt ds t := fun t ht => k.out t (.inr ht)
  have hlow : ∀ t, c ≤ t → t < m → gt es t < gt es m := fun t t1 t2 => by
    obtain ⟨j, hj1, hj2, ej⟩ := k.mem hn t1 t2 (by omega)
    rw [ej, e m (Nat.le_refl _)]; exact hp.1 j hj1 hj2
  have hhi : ∀ t, m < t → t < d → gt es m < gt es t := fun t t1 t2 => by
    rw [e m (Nat.le_refl _), e t (by omega)]; exact hp.2 t t1 t2
  refine ⟨fun p q k1 k2 k3 k4 => ?_, .inr fun t t1 t2 => by rw [show m + 1 - 1 = m by omega]; exact hhi t (by omega) t2⟩
  by_cases hd : d ≤ q
  · exact hS p q k1 k2 k3 (.inr hd)
  · by_cases hpc : p < c
    · exact hS p q k1 k2 k3 (.inl hpc)
    · by_cases hpm : p = m
      · subst hpm; exact Nat.le_of_lt (hhi q k2 (by omega))
      · have hl := hlow p (by omega) (by omega)
        by_cases hq : q < m
        · exact hs p q (by omega) k2 hq
        · by_cases hqm : q = m
          · subst hqm; omega
          · have := hhi q (by omega) (by omega); omega
theorem side_right {a b c d m : Nat} {ds es : List Nat} (h : Side a b c d ds) (hL : Low c d ds) (hp : Parted c d m ds) (k : SegP (m + 1) d ds es) (hs : Srt (m + 1) d es) (hn : ds.Nodup) (h1 : a ≤ c) (h2 : d ≤ b) (hc : c ≤ m) (hm : m < d) (hb : b ≤ ds.length) : Side a b c m es ∧ Low c m es := by
  have hS := h.seg (k.mono (by omega) (Nat.le_refl _)) hn h1 h2 hb
  have e : ∀ t, t ≤ m → gt es t = gt ds t := fun t ht => k.out t (.inl (by omega))
  have hhi : ∀ t, m < t → t < d → gt es m < gt es t := fun t t1 t2 => by
    obtain ⟨j, hj1, hj2, ej⟩ := k.mem hn t1 t2 (by omega)
    rw [ej, e m (Nat.le_refl _)]; exact hp.2 j (by omega) hj2
  have hlow : ∀ t, c ≤ t → t < m → gt es t < gt es m := fun t t1 t2 => by
    rw [e m (Nat.le_refl _), e t (by omega)]; exact hp.1 t t1 t2
  refine ⟨fun p q k1 k2 k3 k4 => ?_, low_left (hL.seg (k.mono (by omega) (Nat.le_refl _)) hn (by omega)) (by omega)⟩
  by_cases hd : p < c ∨ d ≤ q
  · exact hS p q k1 k2 k3 hd
  · by_cases hqm : q = m
    · subst hqm; exact Nat.le_of_lt (hlow p (by omega) k2)
    · have hq := hhi q (by omega) (by omega)
      by_cases hpm : p < m
      · have := hlow p (by omega) hpm; omega
      · by_cases hpe : p = m
        · subst hpe; omega
        · exact hs p q (by omega) k2 (by omega)
end Go.Proofs.Ytmngmkbiibhmkaa
