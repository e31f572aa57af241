/- Who is let in by what the law ClientWelcome makes: its mathematics. -/
import Derived.Test.YtghmabohodnbpaaGreatDoorLWelB
import Derived.Test.YtghmabohodnbpaaGreatDoorLProofM
namespace Go.Proofs.YtghmabohodnbpaaGreatDoor
open Go.RowKit

theorem form_two (l : List Two) (X Y : List Nat) (i j : Nat) (h1 : ones nId l = (X, i)) (h2 : ones nSec l = (Y, j)) (hi : i ≤ 1) (hj : j ≤ 1) : formT l = ⟨if Y = [] then 0 else 2, bstr X, bstr Y, 0⟩ := by
  unfold formT
  rw [h1, h2, if_neg (by show ¬ 1 < i; omega), if_neg (by show ¬ 1 < j; omega)]
/-- By a header. -/
theorem wel_header (L : List Cl) (c : Cl) (hF : findR L c.id = some c) (H : ByteArray) (hH : H.size ≠ 0) (tt : List Nat) (hb : basT (sbytes H) = some (sbytes c.id, tt)) (l : List Two) (X : List Nat) (i : Nat) (h1 : ones nId l = (X, i)) (h2 : ones nSec l = ([], 0)) (hi : i ≤ 1) (hX : X = [] ∨ X = sbytes c.id) :
    authR L (claimT H l) = if 0 < c.secret.size ∧ bstr tt = c.secret then ⟨some c, 1, 0⟩ else ⟨none, 0, 112⟩ := by
  unfold claimT
  rw [if_neg hH, form_two l X [] i 0 h1 h2 hi (by omega), hb]
  unfold claimH hdrT
  dsimp only
  rw [if_neg (by simp), if_neg (by rw [bstr_size]; simp), if_neg]
  · unfold authR
    dsimp only
    rw [if_neg (by simp), bstr_sbytes, hF]
    unfold authF holdsB
    dsimp only
    rw [if_pos (Or.inl rfl)]
    by_cases h : 0 < c.secret.size ∧ bstr tt = c.secret
    · rw [if_pos h, if_pos (by rw [decide_eq_true h.1, decide_eq_true h.2]; rfl)]
    · rw [if_neg h, if_neg]
      intro h3
      rw [Bool.and_eq_true] at h3
      exact h ⟨of_decide_eq_true h3.1, of_decide_eq_true h3.2⟩
  · rintro ⟨a, b⟩
    rcases hX with rfl | rfl
    · rw [bstr_size] at a; exact a rfl
    · exact b rfl
/-- By a form. -/
theorem wel_form (L : List Cl) (c : Cl) (hF : findR L c.id = some c) (hid : c.id.size ≠ 0) (tt : ByteArray) (l : List Two) (j : Nat) (h1 : ones nId l = (sbytes c.id, 1)) (h2 : ones nSec l = (sbytes tt, j)) (hj : j ≤ 1) :
    authR L (claimT { data := #[] } l) = if tt = c.secret then ⟨some c, if tt.size = 0 then 0 else 2, 0⟩ else ⟨none, 0, 112⟩ := by
  have hz : sbytes tt = [] ↔ tt.size = 0 := by rw [← sbytes_length]; exact List.length_eq_zero_iff.symm
  unfold claimT
  rw [if_pos (show ({ data := #[] } : ByteArray).size = 0 from rfl), form_two l _ _ 1 j h1 h2 (by omega) hj, bstr_sbytes, bstr_sbytes]
  unfold claim0
  dsimp only
  rw [if_neg (by simp), if_neg hid]
  unfold authR
  dsimp only
  rw [if_neg (by simp), hF]
  unfold authF holdsB
  dsimp only
  by_cases h0 : tt.size = 0
  · rw [if_pos (hz.2 h0), if_neg (show ¬ ((0 : Int) = 1 ∨ (0 : Int) = 2) by decide), if_pos (rfl : (0 : Int) = 0), if_pos h0]
    by_cases h : tt = c.secret
    · rw [if_pos h, if_pos (decide_eq_true h)]
    · rw [if_neg h, if_neg (by simpa using h)]
  · rw [if_neg (fun h => h0 (hz.1 h)), if_pos (Or.inr rfl), if_neg h0]
    by_cases h : tt = c.secret
    · rw [if_pos h, if_pos (by rw [decide_eq_true h, decide_eq_true (show 0 < c.secret.size by rw [← h]; omega)]; rfl)]
    · rw [if_neg h, if_neg]
      intro h3
      rw [Bool.and_eq_true] at h3
      exact h (of_decide_eq_true h3.2)
theorem ltC_lt (n : Nat) : ltC n < 256 := by
  unfold ltC
  by_cases h : n < 64
  · have : ∀ n : Fin 64, letsC.getD n.val 0 < 256 := by decide
    exact this ⟨n, h⟩
  · rw [List.getD, List.getElem?_eq_none (by show 64 ≤ n; omega)]; decide
theorem bcOf_lt : ∀ (p : List Nat) (_ : ∀ x ∈ p, x < 256), ∀ y ∈ bcOf p, y < 256
  | x :: y :: z :: r, h => by
    intro a ha
    simp only [bcOf, List.mem_cons] at ha
    rcases ha with rfl | rfl | rfl | rfl | ha
    · exact ltC_lt _
    · exact ltC_lt _
    · exact ltC_lt _
    · exact ltC_lt _
    · exact bcOf_lt r (fun x hx => h x (by simp [hx])) a ha
  | [x, y], _ => by
    intro a ha
    simp only [bcOf, List.mem_cons, List.not_mem_nil, or_false] at ha
    rcases ha with rfl | rfl | rfl | rfl <;> first | exact ltC_lt _ | decide
  | [x], _ => by
    intro a ha
    simp only [bcOf, List.mem_cons, List.not_mem_nil, or_false] at ha
    rcases ha with rfl | rfl | rfl | rfl <;> first | exact ltC_lt _ | decide
  | [], _ => by intro a ha; cases ha
theorem nId_ne : nId ≠ nSec := by decide
theorem nSec_ne : nSec ≠ nId := by decide
/-- The law's word, as bytes: the scheme, its blanks, and what the name and the secret make. -/
def wordT (sch : List Nat) (a b : ByteArray) : List Nat := sch ++ bcOf (esc (sbytes a) ++ 58 :: esc (sbytes b))
def sch1 : List Nat := [66, 97, 115, 105, 99, 32]
def sch2 : List Nat := [98, 97, 115, 105, 99, 32, 32]
theorem wordT_lt (sch : List Nat) (hs : sch = sch1 ∨ sch = sch2) (a b : ByteArray) : ∀ x ∈ wordT sch a b, x < 256 := by
  intro x hx
  rcases List.mem_append.1 hx with hx | hx
  · have h1 : ∀ x ∈ sch1, x < 256 := by decide
    have h2 : ∀ x ∈ sch2, x < 256 := by decide
    rcases hs with rfl | rfl
    · exact h1 x hx
    · exact h2 x hx
  · have hp : ∀ x ∈ esc (sbytes a) ++ 58 :: esc (sbytes b), x < 256 := by
      intro y hy
      rcases List.mem_append.1 hy with hy | hy
      · exact esc_lt (sbytes_lt a) y hy
      · rcases List.mem_cons.1 hy with rfl | hy
        · decide
        · exact esc_lt (sbytes_lt b) y hy
    generalize esc (sbytes a) ++ 58 :: esc (sbytes b) = p at *
    exact bcOf_lt p hp x hx
theorem word_bas (sch : List Nat) (hs : sch = sch1 ∨ sch = sch2) (a b : ByteArray) (hl : (wordT sch a b).length ≤ 1024) : basT (wordT sch a b) = some (sbytes a, sbytes b) := by
  rcases hs with rfl | rfl
  · exact bas_made (sbytes_lt a) (sbytes_lt b) [66, 97, 115, 105, 99] (.inl rfl) [32] (.inl rfl) hl
  · exact bas_made (sbytes_lt a) (sbytes_lt b) [98, 97, 115, 105, 99] (.inr rfl) [32, 32] (.inr rfl) hl
/-- With a header that was made of the client's name and a text: in by it, where it is the client's secret and there is one. -/
theorem wel_word (L : List Cl) (c : Cl) (hF : findR L c.id = some c) (sch : List Nat) (hs : sch = sch1 ∨ sch = sch2) (tt : ByteArray) (hl : (wordT sch c.id tt).length ≤ 1024) (l : List Two) (h : l = [] ∨ l = [(nId, sbytes c.id)]) :
    authR L (claimT (bstr (wordT sch c.id tt)) l) = if 0 < c.secret.size ∧ tt = c.secret then ⟨some c, 1, 0⟩ else ⟨none, 0, 112⟩ := by
  have hz : (bstr (wordT sch c.id tt)).size ≠ 0 := by
    rw [bstr_size, wordT, List.length_append]
    rcases hs with rfl | rfl <;> (simp [sch1, sch2]; try omega)
  have hb : basT (sbytes (bstr (wordT sch c.id tt))) = some (sbytes c.id, sbytes tt) := by
    rw [sbytes_bstr (wordT_lt sch hs _ _)]; exact word_bas sch hs _ _ hl
  have e : bstr (sbytes tt) = tt := bstr_sbytes tt
  rcases h with rfl | rfl
  · have := wel_header L c hF _ hz _ hb [] [] 0 rfl rfl (by omega) (.inl rfl)
    rw [e] at this
    exact this
  · have := wel_header L c hF _ hz _ hb [(nId, sbytes c.id)] (sbytes c.id) 1 (by simp [ones, oneStep]) (by simp [ones, oneStep, nId_ne]) (by omega) (.inr rfl)
    rw [e] at this
    exact this
/-- With a form of the client's name and a text, in either order. -/
theorem wel_fields (L : List Cl) (c : Cl) (hF : findR L c.id = some c) (hid : c.id.size ≠ 0) (tt : ByteArray) (l : List Two) (h : l = [(nId, sbytes c.id), (nSec, sbytes tt)] ∨ l = [(nSec, sbytes tt), (nId, sbytes c.id)]) :
    authR L (claimT { data := #[] } l) = if tt = c.secret then ⟨some c, if tt.size = 0 then 0 else 2, 0⟩ else ⟨none, 0, 112⟩ := by
  rcases h with rfl | rfl
  · exact wel_form L c hF hid tt _ 1 (by simp [ones, oneStep, nSec_ne]) (by simp [ones, oneStep, nId_ne]) (by omega)
  · exact wel_form L c hF hid tt _ 1 (by simp [ones, oneStep, nSec_ne]) (by simp [ones, oneStep, nId_ne]) (by omega)
end Go.Proofs.YtghmabohodnbpaaGreatDoor
