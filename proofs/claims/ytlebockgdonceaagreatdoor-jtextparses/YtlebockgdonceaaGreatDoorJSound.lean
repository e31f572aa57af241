/- What was read can be written, but for its length. -/
import Derived.Test.YtlebockgdonceaaGreatDoorKBack
namespace Go.Proofs.YtlebockgdonceaaGreatDoor

theorem cleanN_mono : ∀ (n m : Nat) (l : By), n ≤ m → cleanN n l = true → cleanN m l = true
  | n, m, [], _, _ => by cases m <;> rfl
  | 0, _, _ :: _, _, h => by cases h
  | n + 1, 0, _ :: _, h, _ => by omega
  | n + 1, m + 1, c :: l, hm, h => by
    unfold cleanN at h ⊢
    cases hc : chr (c :: l) with
    | ok k => rw [hc] at h; exact cleanN_mono n m _ (by omega) h
    | error bb => cases bb with
      | false => rw [hc] at h; cases h
      | true => rw [hc] at h; cases h
theorem cleanN_append {b : By} (hb : chr b = .ok b.length) (hb0 : b ≠ []) : ∀ (n : Nat) (a : By), cleanN n a = true → cleanN (n + 1) (a ++ b) = true
  | n, [], _ => by
    rw [List.nil_append]
    cases b with
    | nil => exact absurd rfl hb0
    | cons c l =>
      unfold cleanN
      rw [hb]
      simp only
      rw [List.drop_length]
      cases n <;> rfl
  | 0, _ :: _, h => by cases h
  | n + 1, c :: l, h => by
    obtain ⟨m, j, hm, hc, hn⟩ := clean_step h (by simp)
    obtain rfl : m = n := by omega
    obtain ⟨_, _, hj, hr⟩ := chr_ok hc
    have e : chr (c :: l ++ b) = .ok j := by
      have := hr ((c :: l).drop j ++ b)
      rw [← List.append_assoc, List.take_append_drop] at this
      exact this
    have := cleanN_append hb hb0 m _ hn
    show cleanN (m + 1 + 1) (c :: (l ++ b)) = true
    unfold cleanN
    rw [show c :: (l ++ b) = c :: l ++ b from rfl, e]
    simp only
    rw [List.drop_append_of_le_length hj]
    exact this
theorem clean_append {a b : By} (ha : clean a = true) (hb : chr b = .ok b.length) (hb0 : b ≠ []) : clean (a ++ b) = true := by
  unfold clean at *
  refine cleanN_mono _ _ _ ?_ (cleanN_append hb hb0 _ _ ha)
  rw [List.length_append]
  have := List.length_pos_iff.2 hb0
  omega
theorem chr_cons (c : Nat) (l : By) : chr (c :: l) = (match (lead c).1 with
    | 0 => .error false
    | n + 1 => conts (n + 1) n (lead c).2.1 (lead c).2.2 l) := rfl
theorem chr_one {c : Nat} {l : By} {a b : Nat} (h : lead c = (1, a, b)) : chr (c :: l) = .ok 1 := by rw [chr_cons, h]; rfl
theorem chr_two {c x lo hi : Nat} (h : lead c = (2, lo, hi)) (hx : lo ≤ x ∧ x ≤ hi) : chr [c, x] = .ok 2 := by
  rw [chr_cons, h]
  show (if lo ≤ x ∧ x ≤ hi then (Except.ok 2 : Ch) else .error false) = _
  rw [if_pos hx]
theorem chr_three {c x y lo hi : Nat} (h : lead c = (3, lo, hi)) (hx : lo ≤ x ∧ x ≤ hi) (hy : 128 ≤ y ∧ y ≤ 191) : chr [c, x, y] = .ok 3 := by
  rw [chr_cons, h]
  show (if lo ≤ x ∧ x ≤ hi then (if 128 ≤ y ∧ y ≤ 191 then (Except.ok 3 : Ch) else .error false) else .error false) = _
  rw [if_pos hx, if_pos hy]
theorem chr_four {c x y z lo hi : Nat} (h : lead c = (4, lo, hi)) (hx : lo ≤ x ∧ x ≤ hi) (hy : 128 ≤ y ∧ y ≤ 191) (hz : 128 ≤ z ∧ z ≤ 191) : chr [c, x, y, z] = .ok 4 := by
  rw [chr_cons, h]
  show (if lo ≤ x ∧ x ≤ hi then (if 128 ≤ y ∧ y ≤ 191 then (if 128 ≤ z ∧ z ≤ 191 then (Except.ok 4 : Ch) else .error false) else .error false) else .error false) = _
  rw [if_pos hx, if_pos hy, if_pos hz]
theorem chr_utf {c : Nat} (h : c < 1114112) (hs : c < 55296 ∨ 57344 ≤ c) : chr (utf c) = .ok (utf c).length := by
  unfold utf
  split
  · rename_i h1
    exact chr_one (show lead c = (1, 128, 191) by unfold lead; rw [if_pos h1])
  · split
    · exact chr_two (lead_C2 (by omega)) (by omega)
    · split
      · have hb : 128 ≤ 128 + c % 64 ∧ 128 + c % 64 ≤ 191 := by omega
        by_cases e0 : c / 4096 = 0
        · exact chr_three (lead_E0 (by omega)) (by omega) hb
        · by_cases ed : c / 4096 = 13
          · exact chr_three (lead_ED (by omega)) (by omega) hb
          · exact chr_three (lead_E1 (by omega)) (by omega) hb
      · have hb : 128 ≤ 128 + c % 64 ∧ 128 + c % 64 ≤ 191 := by omega
        have hb2 : 128 ≤ 128 + c / 64 % 64 ∧ 128 + c / 64 % 64 ≤ 191 := by omega
        by_cases e0 : c / 262144 = 0
        · exact chr_four (lead_F0 (by omega)) (by omega) hb2 hb
        · by_cases e4 : c / 262144 = 4
          · exact chr_four (lead_F4 (by omega)) (by omega) hb2 hb
          · exact chr_four (lead_F1 (by omega)) (by omega) hb2 hb
theorem hexv_lt {c d : Nat} (h : hexv c = some d) : d < 16 := by
  unfold hexv at h
  split at h
  · injection h with h; omega
  · split at h
    · injection h with h; omega
    · split at h
      · injection h with h; omega
      · cases h
theorem fourAt_lt {s : By} : ∀ (k p n m q : Nat), fourAt s k p n = .ok m q → m < (n + 1) * 16 ^ k
  | 0, p, n, m, q, h => by injection h with h1 _; subst h1; simp
  | k + 1, p, n, m, q, h => by
    unfold fourAt at h
    split at h
    · cases hh : hexv (bt s p) with
      | none => rw [hh] at h; cases h
      | some d =>
        rw [hh] at h
        have h1 := fourAt_lt k _ _ _ _ h
        have h2 := hexv_lt hh
        have h3 : 16 * n + d + 1 ≤ (n + 1) * 16 := by omega
        exact Nat.lt_of_lt_of_le h1 (Nat.le_trans (Nat.mul_le_mul_right _ h3) (by rw [Nat.mul_assoc, ← Nat.pow_succ']; exact Nat.le_refl _))
    · cases h
theorem four_lt {s : By} {p m q : Nat} (h : fourAt s 4 p 0 = .ok m q) : m < 65536 := by
  have := fourAt_lt 4 p 0 m q h
  simpa using this
theorem shortOf_lt {b c : Nat} (h : shortOf b = some c) : c < 128 := by
  unfold shortOf at h
  repeat' split at h
  all_goals first | (injection h with h; omega) | cases h
theorem halfAt_code {s : By} {p0 n p r q : Nat} (h0 : 55296 ≤ n) (h1 : n < 56320) (h : halfAt s p0 n p = .ok r q) : 65536 ≤ r ∧ r < 1114112 := by
  unfold halfAt at h
  split at h
  · split at h
    · split at h
      · split at h
        · cases hf : fourAt s 4 (p + 2) 0 with
          | error _ _ => rw [hf] at h; cases h
          | ok m q2 =>
            rw [hf] at h
            simp only at h
            split at h
            · injection h with h _
              rw [← h]
              omega
            · cases h
        · cases h
      · cases h
    · cases h
  · cases h
theorem escAt_code {s : By} {p r q : Nat} (h : escAt s p = .ok r q) : r < 1114112 ∧ (r < 55296 ∨ 57344 ≤ r) := by
  unfold escAt at h
  split at h
  · cases hb : shortOf (bt s (p + 1)) with
    | some b =>
      rw [hb] at h
      injection h with h _
      subst h
      have := shortOf_lt hb
      omega
    | none =>
      rw [hb] at h
      simp only at h
      split at h
      · unfold uniAt at h
        cases hf : fourAt s 4 (p + 2) 0 with
        | error _ _ => rw [hf] at h; cases h
        | ok n q1 =>
          rw [hf] at h
          have := four_lt hf
          simp only at h
          split at h
          · injection h with h _
            subst h
            omega
          · split at h
            · cases h
            · have := halfAt_code (by omega) (by omega) h
              omega
      · cases h
  · cases h
theorem strAt_clean {s : By} : ∀ (n p : Nat) (acc a : By) (q : Nat), clean acc = true → strAt s n p acc = .ok a q → clean a = true ∧ a.length ≤ acc.length + 4 * n
  | 0, p, acc, a, q, _, h => by cases h
  | n + 1, p, acc, a, q, hc, h => by
    unfold strAt at h
    split at h
    · split at h
      · injection h with h _
        subst h
        exact ⟨hc, by omega⟩
      · split at h
        · cases h
        · split at h
          · cases he : escAt s p with
            | error _ _ => rw [he] at h; cases h
            | ok r q1 =>
              rw [he] at h
              obtain ⟨r1, r2⟩ := escAt_code he
              have hu := utf_len r
              obtain ⟨i1, i2⟩ := strAt_clean n _ _ a q (clean_append hc (chr_utf r1 r2) (by intro e; rw [e] at hu; simp at hu)) h
              rw [List.length_append] at i2
              exact ⟨i1, by omega⟩
          · cases he : chr (s.drop p) with
            | ok k =>
              rw [he] at h
              obtain ⟨k1, k2, k3, k4⟩ := chr_ok he
              have hl : ((s.drop p).take k).length = k := by rw [List.length_take]; omega
              have e : chr ((s.drop p).take k) = .ok ((s.drop p).take k).length := by
                have := k4 []
                rw [List.append_nil] at this
                rw [this, hl]
              obtain ⟨i1, i2⟩ := strAt_clean n _ _ a q (clean_append hc e (by intro e; rw [e] at hl; simp at hl; omega)) h
              rw [List.length_append, hl] at i2
              exact ⟨i1, by omega⟩
            | error bb => cases bb with
              | false => rw [he] at h; cases h
              | true => rw [he] at h; cases h
    · cases h
theorem textAt_clean {s a : By} {p q : Nat} (h : textAt s p = .ok a q) : clean a = true ∧ a.length ≤ 4 * (s.length + 1) := by
  obtain ⟨h1, h2⟩ := strAt_clean _ _ _ _ _ (by rfl) h
  exact ⟨h1, by simpa using h2⟩
theorem numAt_lit {s a : By} {p q : Nat} (h : numAt s p = .ok a q) : isLit a = true ∧ a.length ≤ s.length := by
  unfold numAt at h
  split at h
  · rename_i hd
    injection h with h _
    have hle := litRun_le (s.drop p) 0
    have hl : a.length = (litRun 0 (s.drop p)).1 := by rw [← h, List.length_take]; omega
    have e : litRun 0 a = litRun 0 (s.drop p) := by
      apply litRun_same
      · rw [← h, List.take_take, Nat.min_self]
      · intro hlt; omega
      · omega
    refine ⟨?_, by rw [List.length_drop] at hle; omega⟩
    unfold isLit
    rw [e, hd, hl]
    simp
  · split at h <;> cases h
/-- It is written, or it is too long. -/
def pOk (r : Pr) : Prop := (∃ ys, r = .ok ys) ∨ r = .error 1
theorem putAt_pok (xs t : By) : pOk (putAt xs t) := by
  unfold putAt pOk
  split
  · exact .inl ⟨_, rfl⟩
  · exact .inr rfl
theorem then_pok {r : Pr} {f : By → Pr} (h : pOk r) (hf : ∀ ys, pOk (f ys)) : pOk (r.then f) := by
  rcases h with ⟨ys, rfl⟩ | rfl
  · exact hf ys
  · exact .inr rfl
theorem escAll_pok : ∀ (n : Nat) (l xs : By), cleanN n l = true → pOk (escAll n l xs)
  | n, [], xs, _ => by rw [escAll_nil]; exact .inl ⟨_, rfl⟩
  | 0, _ :: _, _, h => by cases h
  | n + 1, c :: l, xs, h => by
    obtain ⟨m, j, hm, hc, hn⟩ := clean_step h (by simp)
    obtain rfl : m = n := by omega
    rw [escAll_step (by simp) hc]
    exact then_pok (putAt_pok _ _) (fun ys => escAll_pok m _ ys hn)
theorem quoteAt_pok {t : By} (h : clean t = true) (xs : By) : pOk (quoteAt t xs) := then_pok (putAt_pok _ _) (fun _ => then_pok (escAll_pok _ _ _ h) (fun _ => putAt_pok _ _))
theorem wSeq_pok {pr : Nat → By → Pr} : ∀ (m i : Nat) (xs : By), (∀ k, k < m → ∀ xs, pOk (pr (i + k) xs)) → pOk (wSeq pr m i xs)
  | 0, i, xs, _ => .inl ⟨_, rfl⟩
  | m + 1, i, xs, h => by
    refine then_pok (then_pok ?_ (fun ys => h 0 (by omega) ys)) (fun ys => wSeq_pok m (i + 1) ys (fun k hk zs => ?_))
    · split
      · exact putAt_pok _ _
      · exact .inl ⟨_, rfl⟩
    · have := h (k + 1) (by omega) zs
      rw [show i + 1 + k = i + (k + 1) by omega]
      exact this
theorem betwAt_pok {o c : By} {n : Nat} {pr : Nat → By → Pr} (h : ∀ k, k < n → ∀ xs, pOk (pr k xs)) (xs : By) : pOk (betwAt o c n pr xs) :=
  then_pok (putAt_pok _ _) (fun ys => then_pok (wSeq_pok n 0 ys (fun k hk zs => by rw [Nat.zero_add]; exact h k hk zs)) (fun zs => putAt_pok _ _))
theorem seqAt_each {α : Type} {s : By} {c : Nat} {f : List α → Nat → Out α} : ∀ (n p : Nat) (acc l : List α) (q : Nat), seqAt s c f n p acc = .ok l q → (∃ r, l = acc ++ r) ∧ l.length ≤ acc.length + n ∧ ∀ (i : Nat) (a : α), acc.length ≤ i → l[i]? = some a → ∃ p' q', f (l.take i) p' = .ok a q'
  | 0, p, acc, l, q, h => by cases h
  | n + 1, p, acc, l, q, h => by
    unfold seqAt at h
    cases hf : f acc p with
    | error _ _ => rw [hf] at h; cases h
    | ok a q1 =>
      rw [hf] at h
      simp only at h
      split at h
      · split at h
        · injection h with h _
          subst h
          refine ⟨⟨[a], rfl⟩, by simp, fun i b hi hb => ?_⟩
          have hlt := (List.getElem?_eq_some_iff.1 hb).1
          rw [List.length_append] at hlt
          simp at hlt
          obtain rfl : i = acc.length := by omega
          rw [List.getElem?_append_right (by omega), Nat.sub_self] at hb
          injection hb with hb
          subst hb
          rw [List.take_left]
          exact ⟨p, q1, hf⟩
        · split at h
          · obtain ⟨⟨r, hr⟩, h2, h3⟩ := seqAt_each n _ _ l q h
            rw [List.length_append] at h2 h3
            simp only [List.length_cons, List.length_nil] at h2 h3
            refine ⟨⟨a :: r, by rw [hr]; simp⟩, by omega, fun i b hi hb => ?_⟩
            by_cases he : i = acc.length
            · subst he
              rw [hr, List.append_assoc, List.getElem?_append_right (by omega), Nat.sub_self] at hb
              injection hb with hb
              subst hb
              rw [hr, List.append_assoc, List.take_left]
              exact ⟨p, q1, hf⟩
            · exact h3 i b (by omega) hb
          · cases h
      · cases h
theorem inAt_each {α : Type} {s : By} {c : Nat} {f : List α → Nat → Out α} {p : Nat} {l : List α} {q : Nat} (h : inAt s c f p = .ok l q) : l.length ≤ s.length + 1 ∧ ∀ (i : Nat) (a : α), l[i]? = some a → ∃ p' q', f (l.take i) p' = .ok a q' := by
  unfold inAt at h
  split at h
  · injection h with h _
    subst h
    exact ⟨by simp, fun i a ha => by simp at ha⟩
  · obtain ⟨_, h2, h3⟩ := seqAt_each _ _ _ _ _ h
    exact ⟨by simpa using h2, fun i a ha => h3 i a (by simp) ha⟩
theorem nameAt_name {s nm : By} {had : List By} {p q : Nat} (h : nameAt s had p = .ok nm q) : clean nm = true ∧ nm.length ≤ 4 * (s.length + 1) ∧ had.contains nm = false := by
  unfold nameAt at h
  split at h
  · split at h
    · cases ht : textAt s p with
      | error _ _ => rw [ht] at h; cases h
      | ok a q1 =>
        rw [ht] at h
        simp only at h
        split at h
        · cases h
        · rename_i hc
          split at h
          · split at h
            · injection h with h _
              subst h
              obtain ⟨t1, t2⟩ := textAt_clean ht
              exact ⟨t1, t2, by simpa using hc⟩
            · cases h
          · cases h
    · cases h
  · cases h
theorem jfits_of : ∀ (js : List J), (∀ j ∈ js, JFit j) → JFits js
  | [], _ => by rw [JFits_nil]; trivial
  | j :: js, h => by rw [JFits_cons]; exact ⟨h j (by simp), jfits_of js (fun k hk => h k (by simp [hk]))⟩
set_option maxHeartbeats 1000000 in
theorem vAt_sound {s : By} (hs : s.length ≤ 16384) : ∀ (d p : Nat) (j : J) (q : Nat), vAt s d p = .ok j q → JFit j ∧ ∀ xs, pOk (pAt d j xs) := by
  intro d
  induction d with
  | zero => ?_
  | succ d ih => ?_
  all_goals
    intro p j q h
    rw [vAt_cases] at h
    unfold vStep at h
    split at h
    · split at h
      · obtain ⟨_, _, rfl⟩ := map_ok h
        exact ⟨⟨by simp, by simp, by simp, by simp, trivial⟩, fun xs => by rw [pAt_cases]; simp [pStep, subP]; exact putAt_pok _ _⟩
      split at h
      · obtain ⟨_, _, rfl⟩ := map_ok h
        exact ⟨⟨by simp, by simp, by simp, by simp, trivial⟩, fun xs => by rw [pAt_cases]; simp [pStep, subP]; exact putAt_pok _ _⟩
      split at h
      · obtain ⟨_, _, rfl⟩ := map_ok h
        exact ⟨⟨by simp, by simp, by simp, by simp, trivial⟩, fun xs => by rw [pAt_cases]; simp [pStep, subP]; exact putAt_pok _ _⟩
      split at h
      · obtain ⟨a, ha, rfl⟩ := map_ok h
        obtain ⟨l1, l2⟩ := numAt_lit ha
        exact ⟨⟨by omega, by simp, by simp, by simp, trivial⟩, fun xs => by rw [pAt_cases]; simp [pStep, subP, l1]; exact putAt_pok _ _⟩
      split at h
      · obtain ⟨a, ha, rfl⟩ := map_ok h
        obtain ⟨l1, l2⟩ := textAt_clean ha
        exact ⟨⟨by omega, by simp, by simp, by simp, trivial⟩, fun xs => by rw [pAt_cases]; simp [pStep, subP, l1]; exact quoteAt_pok l1 _⟩
      split at h
      · first
        | (cases h; done)
        | (simp only at h
           split at h
           · obtain ⟨l, ha, rfl⟩ := map_ok h
             obtain ⟨l1, l2⟩ := inAt_each ha
             refine ⟨⟨by simp, by simp, by simp, by omega, jfits_of _ (fun k hk => ?_)⟩, fun xs => ?_⟩
             · obtain ⟨i, hi⟩ := List.getElem?_of_mem hk
               obtain ⟨p', q', e⟩ := l2 i k hi
               exact (ih p' k q' e).1
             · rw [pAt_cases]
               simp [pStep, subP]
               refine betwAt_pok (fun k hk zs => ?_) xs
               obtain ⟨p', q', e⟩ := l2 k l[k] (List.getElem?_eq_getElem hk)
               have := (ih p' _ q' e).2 zs
               simpa [List.getD, hk] using this
           · obtain ⟨l, ha, rfl⟩ := map_ok h
             obtain ⟨l1, l2⟩ := inAt_each ha
             have each : ∀ i (hi : i < l.length), clean l[i].1 = true ∧ l[i].1.length ≤ 4 * (s.length + 1) ∧ ((l.take i).map (·.1)).contains l[i].1 = false ∧ JFit l[i].2 ∧ ∀ xs, pOk (pAt d l[i].2 xs) := by
               intro i hi
               obtain ⟨p', q', e⟩ := l2 i l[i] (List.getElem?_eq_getElem hi)
               unfold memAt at e
               cases hn : nameAt s ((l.take i).map (·.1)) p' with
               | error _ _ => rw [hn] at e; cases e
               | ok nm q1 =>
                 rw [hn] at e
                 obtain ⟨v, hv, hp⟩ := map_ok e
                 obtain ⟨n1, n2, n3⟩ := nameAt_name hn
                 obtain ⟨v1, v2⟩ := ih _ _ _ hv
                 rw [hp]
                 exact ⟨n1, n2, n3, v1, v2⟩
             refine ⟨⟨by simp, fun n hn => ?_, by simp; omega, by simp; omega, jfits_of _ (fun k hk => ?_)⟩, fun xs => ?_⟩
             · obtain ⟨a, ha, rfl⟩ := List.mem_map.1 hn
               obtain ⟨i, hi, rfl⟩ := List.getElem_of_mem ha
               have := (each i hi).2.1
               omega
             · obtain ⟨a, ha, rfl⟩ := List.mem_map.1 hk
               obtain ⟨i, hi, rfl⟩ := List.getElem_of_mem ha
               exact (each i hi).2.2.2.1
             · rw [pAt_cases]
               simp [pStep, subP]
               refine betwAt_pok (fun k hk zs => ?_) xs
               obtain ⟨e1, e2, e3, e4, e5⟩ := each k hk
               unfold memW
               rw [show (l.map (·.1)).getD k [] = l[k].1 by simp [List.getD, hk], show (l.map (·.2)).getD k J.zero = l[k].2 by simp [List.getD, hk], ← List.map_take]
               refine then_pok ?_ (fun ys => e5 ys)
               unfold wNameAt
               rw [if_pos e1, if_neg (by rw [e3]; decide)]
               exact then_pok (quoteAt_pok e1 _) (fun ys => putAt_pok _ _))
      · cases h
    · cases h
/-- P4.8: what was read is written, unless it is too long. -/
theorem parse_sound {s : By} {j : J} {q : Nat} (h : parse s = (j, 0, q)) : JFit j ∧ ∀ xs, pOk (pAt 32 j xs) := by
  unfold parse at h
  split at h
  · cases h
  · rename_i hs
    cases hv : vAt s 32 (skip s 0) with
    | error e p =>
      rw [hv] at h
      simp only [Prod.mk.injEq] at h
      have h0 : e = 0 := h.2.1
      exact absurd h0 ((vAt_local 32).ill s [] (skip s 0) e p (skip_le (by simp)) hv).2.2.2.1
    | ok v p =>
      rw [hv] at h
      simp only at h
      split at h
      · cases h
      · simp only [Prod.mk.injEq] at h
        obtain ⟨rfl, _, _⟩ := h
        exact vAt_sound (by omega) _ _ _ _ hv
end Go.Proofs.YtlebockgdonceaaGreatDoor
