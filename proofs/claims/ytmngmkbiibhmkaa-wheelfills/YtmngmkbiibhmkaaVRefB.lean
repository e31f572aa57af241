/- The document's Add and Remove. -/
import Derived.Deep.DeepCutAuto
import Derived.Test.YtmngmkbiibhmkaaVRefA
namespace Go.Proofs.Ytmngmkbiibhmkaa
open Go.RowKit Go.Maps

theorem elemR : Try.prog.elem 43 = 58 := by kernel_rfl
theorem underR : Try.prog.underlying 43 = some (.slice (Try.prog.elem 43)) := by rw [elemR]; exact Try.underlying43
theorem sizeR (w : World) : (sizeOf (Try.prog.elem 43)).run Try.prog w = .ok 2 w := by
  obtain ⟨i0, hi, hz0, hz1, hz2⟩ := info_parts infoR
  rw [elemR]
  simp [sizeOf, typeInfo, hi, hz1]
theorem rslice_hi (ao : Option Addr) (n c k : Nat) (hk : k ≤ n) (hc : n ≤ c) (w : World) : (Instr.slice 43 (.slice ao n c) none (some (.int .i64 (k : Int))) none).run Try.prog w = .ok (.slice ao k c) w := by
  rw [run_slice_h w 43 ao n c underR .i64 (k : Int) (by omega) (by omega), sizeR]
  cases ao with
  | none => simp [Result.andThen, sliced]
  | some a =>
    obtain ⟨b, o, s⟩ := a
    cases s <;> simp [Result.andThen, sliced, Addr.add]
theorem rslice_lo (g n c k : Nat) (hk : k ≤ n) : ∃ ao, (∀ w, (Instr.slice 43 (.slice (some ⟨g, 0, none⟩) n c) (some (.int .i64 (k : Int))) none none).run Try.prog w = .ok (.slice ao (n - k) (c - k)) w) ∧ (k < c → ao = some ⟨g, k * 2, none⟩) := by
  refine ⟨if c = k then some ⟨g, 0, none⟩ else some ⟨g, k * 2, none⟩, fun w => ?_, fun h => by rw [if_neg (by omega)]⟩
  rw [run_slice_l w 43 (some ⟨g, 0, none⟩) n c underR .i64 (k : Int) (by omega) (by omega), sizeR]
  simp [Result.andThen, sliced, add_none]
theorem rslice_lo_nil (w : World) : (Instr.slice 43 (.slice none 0 0) (some (.int .i64 0)) none none).run Try.prog w = .ok (.slice none 0 0) w := by
  rw [run_slice_l w 43 none 0 0 underR .i64 0 (by omega) (by omega), sizeR]
  simp [Result.andThen, sliced]
theorem RRow.take {w : World} {ao : Option Addr} {s : List Tm} (h : RRow w ao s) (k : Nat) : RRow w ao (s.take k) := by
  rcases h with rfl | ⟨b, off, rfl, hc⟩
  · exact .inl (by simp)
  · exact .inr ⟨b, off, rfl, fun i x hx => hc i x (by rw [List.getElem?_take] at hx; split at hx; exact hx; cases hx)⟩
theorem RRow.drop {w : World} {g : Nat} {s : List Tm} (h : RRow w (some ⟨g, 0, none⟩) s) (k : Nat) : RRow w (some ⟨g, k * 2, none⟩) (s.drop k) := by
  rcases h with rfl | ⟨b, off, he, hc⟩
  · exact .inl (by simp)
  · cases he
    exact .inr ⟨g, k * 2, rfl, fun i x hx => by
      rw [List.getElem?_drop] at hx
      have := hc (k + i) x hx
      rw [Nat.zero_add, Nat.add_mul] at this
      exact this⟩
/-- The tail of a row of one's own. -/
theorem rtail {w : World} {B k : Nat} {v : Value} {s : List Tm} (h : ROwn w B v s) (hk : k ≤ s.length) : ∃ ao m d, m = (s.drop k).length ∧ (∀ W, (Instr.slice 43 v (some (.int .i64 (k : Int))) none none).run Try.prog W = .ok (.slice ao m d) W) ∧ RRow w ao (s.drop k) := by
  obtain ⟨ao, c, e, hc, see⟩ := h.read
  rcases h.2 with ⟨rfl, hn⟩ | ⟨g, cap, cur, rfl, _⟩
  · have hs : s = [] := List.length_eq_zero_iff.1 hn
    subst hs
    have hk0 : k = 0 := by simpa using hk
    subst hk0
    exact ⟨none, 0, 0, rfl, rslice_lo_nil, .inl rfl⟩
  · cases e
    obtain ⟨ao2, h1, h2⟩ := rslice_lo g s.length c k hk
    refine ⟨ao2, s.length - k, c - k, by rw [List.length_drop], h1, ?_⟩
    by_cases hkc : k < c
    · rw [h2 hkc]; exact see.drop k
    · exact .inl (List.drop_eq_nil_of_le (by omega))
/-- append(v, ys...) where v is the call's own and ys is whatever row of timers. -/
theorem run_append_rs {w : World} {B : Nat} {v : Value} {xs ys : List Tm} (hown : ROwn w B v xs) (ao : Option Addr) (c : Nat) (hy : RRow w ao ys) (hsz : xs.length + ys.length ≤ 1000000) (hB : B ≤ w.heap.size) (ty : TypeId) :
    ∃ v' w', (Builtin.append_ #[43, 43] ty #[v, .slice ao ys.length c]).run Try.prog w = .ok v' w' ∧ ROwn w' B v' (xs ++ ys) ∧ w.grownBy w' v.ownBlock ∧ (v'.ownBlock = v.ownBlock ∨ v'.ownBlock = some w.heap.size) := by
  obtain ⟨i0, hi, hz0, hz1, hz2⟩ := info_parts infoR
  cases ao with
  | none =>
    rcases hy with rfl | ⟨b, off, h, _⟩
    · refine ⟨v, w, ?_, by rw [List.append_nil]; exact hown, World.grownBy.refl _ _, .inl rfl⟩
      have hc0 : ∀ c', (Builtin.append_ #[43, 43] ty #[v, .slice none 0 c']).run Try.prog w = (Builtin.append_ #[43, 43] ty #[v, .slice none 0 0]).run Try.prog w := fun c' => rfl
      rw [List.length_nil, hc0]
      exact run_append_owned_none (P := Try.prog) (w := w) B 43 ty 58 i0 2 Try.underlying43 hi v _ _ hown
    · cases h
  | some a =>
    have hcells : ∀ j u, (ys.flatMap encT)[j]? = some u → w.cell? (a.add j) = some u := fun j u hu => by
      rcases hy with rfl | ⟨b, off, h, hc⟩
      · simp at hu
      · cases h
        have hjl : j < (ys.flatMap encT).length := (List.getElem?_eq_some_iff.1 hu).1
        have hlen : (ys.flatMap encT).length = ys.length * 2 := by
          clear hu hjl hc hown hsz
          induction ys with
          | nil => rfl
          | cons y r ih => simp only [List.flatMap_cons, List.length_append, ih, List.length_cons]; simp [encT]; omega
        have hq : j / 2 < ys.length := by omega
        obtain ⟨h1, h2⟩ := flat_get ys (j / 2) _ (List.getElem?_eq_getElem hq)
        obtain ⟨k1, k2⟩ := hc (j / 2) _ (List.getElem?_eq_getElem hq)
        rw [add_none]
        rcases Nat.mod_two_eq_zero_or_one j with e | e
        · have ej : j = j / 2 * 2 := by omega
          rw [ej] at hu ⊢
          rw [h1] at hu
          cases hu
          exact k1
        · have ej : j = j / 2 * 2 + 1 := by omega
          have e2 : (j / 2 * 2 + 1) / 2 = j / 2 := by omega
          rw [ej] at hu
          rw [h2] at hu
          cases hu
          rw [show off + j = off + j / 2 * 2 + 1 by omega]
          exact k2
    obtain ⟨v', w', h1, h2, h3, _, h4⟩ := run_append_own_at (P := Try.prog) w B 43 ty 58 i0 _ 2 16 Try.underlying43 hi hz0 hz1 hz2 rfl (by decide) v xs.length (xs.flatMap encT) hown a ys.length c (ys.flatMap encT) (by
      clear hcells hy hown hsz
      induction ys with
      | nil => rfl
      | cons y r ih => simp only [List.flatMap_cons, List.length_append, ih, List.length_cons]; simp [encT]; omega) hcells (fun u hu => encT_one ys u hu) (by unfold maxLen; omega) (by omega) hB
    exact ⟨v', w', h1, by unfold ROwn; rw [List.length_append, List.flatMap_append]; exact h2, h3, h4⟩
theorem wpList_append_rs {w : World} {ops : Array Oper} {rest : List Oper} {o : Oper} {a : Act} {Q : Exit → Act → World → Prop} (hgd : o.guard = none) (s x : Operand)
    (ho : o.op = .call { callee := .builtin .append, args := #[s, x], argTypes := #[43, 43] }) (B : Nat) (v : Value) (xs : List Tm) (hs : a.eval s = v) (hown : ROwn w B v xs)
    (ao : Option Addr) (n c : Nat) (ys : List Tm) (hn : n = ys.length) (hx : a.eval x = .slice ao n c) (hy : RRow w ao ys) (hsz : xs.length + ys.length ≤ 1000000) (hB : B ≤ w.heap.size)
    (h : ∀ v' w', ROwn w' B v' (xs ++ ys) → w.grownBy w' v.ownBlock → (v'.ownBlock = v.ownBlock ∨ v'.ownBlock = some w.heap.size) → wpList Try.prog ops Q rest (a.put o.dst v') w') : wpList Try.prog ops Q (o :: rest) a w := by
  refine wpList_plain hgd fun K hK => ?_
  obtain ⟨v', w', hrun, h1, h2, h3⟩ := run_append_rs hown ao c hy hsz hB o.type
  subst hn
  unfold Oper.wp
  simp [execOp, ho, resolve, invoke, builtin, hs, hx, hrun, Result.andThen]
  exact hK _ _ (h v' w' h1 h2 h3)
theorem rfind_none (rp now id : Nat) (v : Value) (L : List Tm) (w : World) (h : RefAt w rp now v L) (hl : L.length ≤ 8192) (hg : tget id L = none) :
    Calls Try.prog 33 #[pw rp, .int .u64 (id : Int)] w fun e w' => e = .returned (.int .i64 (-1)) ∧ w' = w :=
  (rfind_any rp now id v L w h hl).mono fun _ _ ⟨z, he, hw, hz⟩ => by
    rcases hz.out with ⟨rfl, _⟩ | ⟨i, a, _, _, h2⟩
    · exact ⟨he, hw⟩
    · rw [hg] at h2; cases h2
theorem rfind_some (rp now id a : Nat) (v : Value) (L : List Tm) (w : World) (h : RefAt w rp now v L) (hl : L.length ≤ 8192) (hg : tget id L = some a) :
    Calls Try.prog 33 #[pw rp, .int .u64 (id : Int)] w fun e w' => ∃ i : Nat, e = .returned (.int .i64 (i : Int)) ∧ w' = w ∧ Hid (L[i]? = some (id, a)) :=
  (rfind_any rp now id v L w h hl).mono fun _ _ ⟨z, he, hw, hz⟩ => by
    rcases hz.out with ⟨_, h2⟩ | ⟨i, b, rfl, h1, h2⟩
    · rw [hg] at h2; cases h2
    · rw [hg] at h2; cases h2; exact ⟨i, he, hw, h1⟩
theorem tins_at {id a : Nat} : ∀ (i : Nat) (L : List Tm), (∀ p ∈ L.take i, p.1 < id) → (∀ x, L[i]? = some x → id < x.1) → tins (id, a) L = L.take i ++ (id, a) :: L.drop i
  | 0, [], _, _ => rfl
  | 0, y :: r, _, h2 => by
    have := h2 y rfl
    unfold tins
    rw [if_pos this]
    rfl
  | i + 1, [], _, _ => rfl
  | i + 1, y :: r, h1, h2 => by
    have hy := h1 y (by simp)
    unfold tins
    rw [if_neg (by simp only; omega), tins_at i r (fun p hp => h1 p (by simp [hp])) (fun x hx => h2 x (by simpa using hx))]
    rfl
/-- What a call on the document's wheel leaves. -/
def RPost (w w' : World) (rp now : Nat) (v : Value) (L' : List Tm) : Prop := ∃ v', RefAt w' rp now v' L' ∧ (∀ g, v'.ownBlock = some g → v.ownBlock = some g ∨ w.heap.size ≤ g) ∧ Fr [rp] w w'
theorem RPost.refl {w : World} {rp now : Nat} {v : Value} {L : List Tm} (h : RefAt w rp now v L) : RPost w w rp now v L := ⟨v, h, fun _ h => .inl h, Fr.refl _ _⟩
/-- A new list, laid into the box. -/
theorem RPost.of {w w4 : World} {rp now : Nat} {v v4 : Value} {L L4 : List Tm} (h : RefAt w rp now v L) (hb : Below w.heap.size w w4) (h4 : ROwn w4 w.heap.size v4 L4) : RPost w (w4.setCell ⟨rp, 0, none⟩ v4) rp now v L4 := by
  have hlt := h.lt
  refine ⟨v4, ⟨?_, (h4.lower (Nat.zero_le _)).same fun g hg => heap_setCell_other w4 ⟨rp, 0, none⟩ g _ (by show g ≠ rp; have := (h4.lt g hg).1; omega), fun g hg => by have := (h4.lt g hg).1; omega⟩, fun g hg => .inr (h4.lt g hg).1, ?_⟩
  · exact (h.box.keep hb).set 0 v4
  · exact (Fr.of hb).trans (Fr.setCell [rp] w4 rp 0 v4 (by simp)) (fun x hx => .inl hx)
set_option maxHeartbeats 2000000 in
set_option maxRecDepth 100000 in
theorem radd_any (rp now id a : Nat) (v : Value) (L : List Tm) (w : World) (h : RefAt w rp now v L) (hl : L.length ≤ 8192) :
    Calls Try.prog 15 #[pw rp, .int .u64 (id : Int), .int .u64 (a : Int)] w fun e w' => e = .returned (.int .i64 (addE now L id a : Int)) ∧ RPost w w' rp now v (addL now L id a) := by
  have HREF := hide h
  cases hg : tget id L with
  | some b =>
    have HC := hide (rfind_some rp now id b v L w h hl hg)
    have e8 : addE now L id a = 8 := by unfold addE; rw [hg]; rfl
    have eL : addL now L id a = L := by unfold addL; rw [e8]; rfl
    rw [e8, eL]
    unfold pw at HC ⊢
    clear h hl hg e8 eL
    go_enter Try.func15, Try.ntmps15
    go_wp2_with (go_at_call 33; refine HC.out.mono ?_; rintro e wx ⟨i, rfl, hwx, -⟩; have hwy := hwx.symm; subst hwy; clear hwx; have hi0 : (0 : Int) ≤ (i : Int) := (by omega))
    go_ret
    exact ⟨rfl, RPost.refl HREF.out⟩
  | none =>
    have HC := hide (rfind_none rp now id v L w h hl hg)
    obtain ⟨ao, c, rfl, _, hrow, c0, c1⟩ := h.form
    unfold pw at HC ⊢
    by_cases ha : a ≤ now
    · have e8 : addE now L id a = 70 := by unfold addE; rw [hg, if_neg (by simp), if_pos ha]
      have eL : addL now L id a = L := by unfold addL; rw [e8]; rfl
      rw [e8, eL]
      have ha' : (a : Int) ≤ (now : Int) := by omega
      generalize L.length = n at *
      clear h hl hg e8 eL ha hrow
      go_enter Try.func15, Try.ntmps15
      go_wp2_with (go_at_call 33; refine HC.out.mono ?_; rintro e wx ⟨rfl, hwx⟩; have hwy := hwx.symm; subst hwy; clear hwx)
      go_ret
      exact ⟨rfl, RPost.refl HREF.out⟩
    have ha' : ¬ (a : Int) ≤ (now : Int) := by omega
    by_cases hfull : 8192 ≤ L.length
    · have e8 : addE now L id a = 5 := by unfold addE; rw [hg, if_neg (by simp), if_neg ha, if_pos hfull]
      have eL : addL now L id a = L := by unfold addL; rw [e8]; rfl
      rw [e8, eL]
      have hf' : (8192 : Int) ≤ (L.length : Int) := by omega
      generalize L.length = n at *
      clear h hl hg e8 eL ha hrow hfull
      go_enter Try.func15, Try.ntmps15
      go_wp2_with (go_at_call 33; refine HC.out.mono ?_; rintro e wx ⟨rfl, hwx⟩; have hwy := hwx.symm; subst hwy; clear hwx)
      go_ret
      exact ⟨rfl, RPost.refl HREF.out⟩
    have e8 : addE now L id a = 0 := by unfold addE; rw [hg, if_neg (by simp), if_neg ha, if_neg hfull]
    have eL : addL now L id a = tins (id, a) L := by unfold addL; rw [e8, if_pos rfl]
    rw [e8, eL]
    have HTA : Hid (∀ i, (∀ p ∈ L.take i, p.1 < id) → (∀ x, L[i]? = some x → ¬ x.1 < id) → tins (id, a) L = L.take i ++ [(id, a)] ++ L.drop i) := hide fun i h1 h2 => by
      rw [tins_at i L h1 fun x hx => ?_]
      · simp
      · have g1 := h2 x hx
        have g2 := tget_none hg x (List.mem_of_getElem? hx)
        omega
    generalize tins (id, a) L = L2 at *
    have HROW := hide hrow
    obtain ⟨n, hn⟩ : ∃ n, n = L.length := ⟨_, rfl⟩
    rw [← hn] at c0 hl hfull
    have HN := hide hn
    have hf' : ¬ (8192 : Int) ≤ (n : Int) := by omega
    have hd1 : decide (a ≤ now) = false := decide_eq_false ha
    have hd2 : decide ((8192 : Int) ≤ (n : Int)) = false := decide_eq_false hf'
    have hd3 : decide ((a : Int) ≤ (now : Int)) = false := decide_eq_false ha'
    clear h hg e8 eL ha hrow hfull hn
    go_enter Try.func15, Try.ntmps15
    go_wp2_with (go_at_call 33; refine HC.out.mono ?_; rintro e wx ⟨rfl, hwx⟩; have hwy := hwx.symm; subst hwy; clear hwx)
    go_loopw [7, 8] (fun v7 v8 wr => ∃ (i : Nat) (bo : Option Addr) (m d : Nat), i ≤ n ∧ v8 = .int .i64 (i : Int) ∧ v7 = .slice bo m d ∧ Hid (ROwn wr w.heap.size (.slice bo m d) (L.take i)) ∧ Hid (∀ p ∈ L.take i, p.1 < id) ∧ Hid (Below w.heap.size w wr)) (fun _ v8 _ => n - (intOf v8).toNat)
    case atStart => exact ⟨0, none, 0, 0, by omega, rfl, rfl, rown_nil _ _, fun p hp => by simp at hp, Below.refl _ _⟩
    case round =>
      clear c0 c1
      obtain ⟨i, bo, m, d, hi, rfl, rfl, HO, HP, HB⟩ := hrel
      obtain ⟨c0, c1⟩ := show wr.cell? ⟨rp, 0, none⟩ = some (.slice ao n c) ∧ wr.cell? ⟨rp, 1, none⟩ = some (.int .u64 (now : Int)) from by
        have := (HREF.out.keep HB.out).box
        rw [← HN.out] at this
        exact ⟨this.cell 0, this.cell 1⟩
      obtain ⟨F, HF⟩ : ∃ F : Bool, Hid (F = match L[i]? with | some x => decide (x.1 < id) | none => false) := ⟨_, hide rfl⟩
      go_upto_region 9 with fail
      go_cut [46] (fun q wx => q = .bool F ∧ wx = wr)
      case first =>
        by_cases hin : i < n
        · have hil : (i : Int) < (n : Int) := by omega
          obtain ⟨x, hx⟩ : ∃ x, L[i]? = some x := ⟨_, List.getElem?_eq_getElem (by have := HN.out; omega)⟩
          obtain ⟨b, off, e0, k0, k1⟩ := (HROW.out.keep HB.out).at hx
          subst e0
          obtain ⟨x1, x2⟩ := x
          rw [hx] at HF
          simp only at k0 HF
          by_cases hlt : x1 < id
          · have hlt' : (x1 : Int) < (id : Int) := by omega
            have e : Hid (F = true) := hide (by rw [HF.out]; exact decide_eq_true hlt)
            clear hlt hx
            go_wp2
            go_meet
            case rel => exact ⟨by rw [e.out], by first | exact rfl | trivial⟩
          · have hlt' : ¬ (x1 : Int) < (id : Int) := by omega
            have e : Hid (F = false) := hide (by rw [HF.out]; exact decide_eq_false hlt)
            clear hlt hx
            go_wp2
            go_meet
            case rel => exact ⟨by rw [e.out], by first | exact rfl | trivial⟩
        · have hil : ¬ (i : Int) < (n : Int) := by omega
          have hx : L[i]? = none := List.getElem?_eq_none (by have := HN.out; omega)
          rw [hx] at HF
          have e : Hid (F = false) := hide HF.out
          clear hx
          go_wp2
          go_meet
          case rel => exact ⟨by rw [e.out], by first | exact rfl | trivial⟩
      case rest =>
        obtain ⟨rfl, hwc⟩ := hcut
        have hwd := hwc.symm
        subst hwd
        clear hwc
        have HSZ0 := hide HB.out.size
        cases F with
        | true =>
          obtain ⟨x, hx⟩ : ∃ x, L[i]? = some x := by
            cases hx : L[i]? with
            | some x => exact ⟨x, rfl⟩
            | none => have := HF.out; rw [hx] at this; cases this
          have hlt : x.1 < id := by have := HF.out; rw [hx] at this; exact of_decide_eq_true this.symm
          have hin : i < n := by have := (List.getElem?_eq_some_iff.1 hx).1; have := HN.out; omega
          have hil : (i : Int) < (n : Int) := by omega
          obtain ⟨b, off, e0, k0, k1⟩ := (HROW.out.keep HB.out).at hx
          subst e0
          have HTK : Hid (L.take (i + 1) = L.take i ++ [x]) := hide (by rw [List.take_add_one, hx]; rfl)
          have HP2 : Hid (∀ p ∈ L.take (i + 1), p.1 < id) := hide fun p hp => by
            rw [HTK.out] at hp
            rcases List.mem_append.1 hp with h | h
            · exact HP.out p h
            · have : p = x := by simpa using h
              rw [this]; exact hlt
          obtain ⟨x1, x2⟩ := x
          simp only at k0 k1
          have HL : Hid ((L.take i).length ≤ 1000000) := hide (by have : (L.take i).length ≤ i := (by simp; omega); omega)
          have HT := hide (HO.out.keep (below_new wr (.cells #[.int .u64 (x1 : Int), .int .u64 (x2 : Int)] 58)))
          have HBN := hide (Bl.new wr #[.int .u64 (x1 : Int), .int .u64 (x2 : Int)] 58)
          have HSZ : Hid (w.heap.size ≤ (wr.alloc (.cells #[.int .u64 (x1 : Int), .int .u64 (x2 : Int)] 58)).heap.size) := by show _ ≤ _; have := HB.out.size; simp; omega
          clear hx hlt HF
          go_wp2_with (at_builtin; refine wpList_append_r rfl _ _ rfl w.heap.size (.slice bo m d) (L.take i) rfl HT.out wr.heap.size (x1, x2) rfl (HBN.out.cell 0) (HBN.out.cell 1) HL.out HSZ.out ?_; intro v3 w3 h3 g3 l3; obtain ⟨ao3, n3, cap3, rfl⟩ := rown_shape h3; rw [← HTK.out] at h3; have HT3 := hide h3; have HG3 := hide g3; clear h3 g3 l3)
          go_roundw
          case rel => exact ⟨i + 1, ao3, n3, cap3, by omega, by simp, rfl, HT3, HP2, (HB.out.trans ((below_new wr _).mono HB.out.size)).grown HG3.out HSZ.out (fun k hk => (HO.out.lt k hk).1)⟩
          case measure => simp [intOf]; omega
        | false =>
          have HE := hide (HTA.out i HP.out fun x hx hlt => by
            have := HF.out
            rw [hx] at this
            simp [hlt] at this)
          obtain ⟨to', tm, td, htm, hsl, htr⟩ := rtail HREF.out.own (k := i) (by have := HN.out; omega)
          rw [← HN.out] at hsl
          have HTM := hide htm
          have HTR := hide htr
          have HL : Hid ((L.take i).length ≤ 1000000) := hide (by have : (L.take i).length ≤ i := (by simp; omega); omega)
          have HL2 : Hid ((L.take i ++ [(id, a)]).length + (L.drop i).length ≤ 1000000) := hide (by have h1 : (L.take i).length ≤ i := (by simp; omega); have h2 : (L.drop i).length ≤ n := (by rw [List.length_drop, ← HN.out]; omega); rw [List.length_append, List.length_singleton]; omega)
          have HT := hide (HO.out.keep (below_new wr (.cells #[.int .u64 (id : Int), .int .u64 (a : Int)] 58)))
          have HBN := hide (Bl.new wr #[.int .u64 (id : Int), .int .u64 (a : Int)] 58)
          have HSZ : Hid (w.heap.size ≤ (wr.alloc (.cells #[.int .u64 (id : Int), .int .u64 (a : Int)] 58)).heap.size) := by show _ ≤ _; have := HB.out.size; simp; omega
          clear htm htr HF
          have tok : True := trivial
          go_wp2_with (first
            | (at_builtin; have _t := tok; refine wpList_append_r rfl _ _ rfl w.heap.size (.slice bo m d) (L.take i) rfl HT.out wr.heap.size (id, a) rfl (HBN.out.cell 0) (HBN.out.cell 1) HL.out HSZ.out ?_; intro v3 w3 h3 g3 l3; obtain ⟨ao3, n3, cap3, rfl⟩ := rown_shape h3; have HT3 := hide h3; have HB3 := hide ((HB.out.trans ((below_new wr _).mono HB.out.size)).grown g3 HSZ.out (fun k hk => (HO.out.lt k hk).1)); have c3 : w3.cell? ⟨rp, 0, none⟩ = some (.slice ao n c) := (by rw [HN.out]; exact (HREF.out.keep HB3.out).box.cell 0); clear h3 g3 l3 tok c0 c1)
            | (at_builtin; refine wpList_append_rs rfl _ _ rfl w.heap.size (.slice ao3 n3 cap3) _ rfl HT3.out to' tm td (L.drop i) HTM.out rfl (HTR.out.keep HB3.out) HL2.out HB3.out.size ?_; intro v4 w4 h4 g4 l4; obtain ⟨ao4, n4, cap4, rfl⟩ := rown_shape h4; rw [← HE.out] at h4; have HB4 := hide (HB3.out.grown g4 HB3.out.size (fun k hk => (HT3.out.lt k hk).1)); have HT4 := hide h4; have hbox := (HREF.out.keep HB4.out).box; have c4 : w4.cell? ⟨rp, 0, none⟩ = some (.slice ao n c) := (by rw [HN.out]; exact hbox.cell 0); have f4 := hbox.frozen 0; clear h4 g4 l4 hbox c3))
          go_ret
          exact ⟨rfl, RPost.of HREF.out HB4.out HT4.out⟩
set_option maxHeartbeats 2000000 in
set_option maxRecDepth 100000 in
theorem rremove_any (rp now id : Nat) (v : Value) (L : List Tm) (w : World) (h : RefAt w rp now v L) (hl : L.length ≤ 8192) (hr : Rise L) :
    Calls Try.prog 26 #[pw rp, .int .u64 (id : Int)] w fun e w' => e = .returned (.int .i64 (remE L id : Int)) ∧ RPost w w' rp now v (tdel id L) := by
  have HREF := hide h
  cases hg : tget id L with
  | none =>
    have HC := hide (rfind_none rp now id v L w h hl hg)
    have e8 : remE L id = 7 := by unfold remE; rw [hg]; rfl
    have eL : tdel id L = L := tdel_none (tget_none hg)
    rw [e8, eL]
    unfold pw at HC ⊢
    clear h hl hr hg e8 eL
    go_enter Try.func26, Try.ntmps26
    go_wp2_with (go_at_call 33; refine HC.out.mono ?_; rintro e wx ⟨rfl, hwx⟩; have hwy := hwx.symm; subst hwy; clear hwx)
    go_ret
    exact ⟨rfl, RPost.refl HREF.out⟩
  | some b =>
    have HC := hide (rfind_some rp now id b v L w h hl hg)
    have e8 : remE L id = 0 := by unfold remE; rw [hg]; rfl
    rw [e8]
    have HTD : Hid (∀ i, L[i]? = some (id, b) → tdel id L = L.take i ++ L.drop (i + 1)) := hide fun i hx => by
      have hi := (List.getElem?_eq_some_iff.1 hx).1
      have e : L = L.take i ++ (id, b) :: L.drop (i + 1) := by
        have h2 := (List.getElem?_eq_some_iff.1 hx).2
        rw [← h2, ← List.drop_eq_getElem_cons hi, List.take_append_drop]
      have hp := hr
      unfold Rise at hp
      rw [e, List.pairwise_append, List.pairwise_cons] at hp
      unfold tdel
      conv => lhs; rw [e]
      rw [List.filter_append, List.filter_cons_of_neg (by simp)]
      congr 1
      · exact List.filter_eq_self.2 fun p hp1 => by have := hp.2.2 p hp1 _ (List.mem_cons_self ..); simp only at this; simp; omega
      · exact List.filter_eq_self.2 fun p hp1 => by have := hp.2.1.1 p hp1; simp only at this; simp; omega
    obtain ⟨ao, c, rfl, hlc, hrow, c0, c1⟩ := h.form
    generalize tdel id L = L2 at *
    have HROW := hide hrow
    obtain ⟨n, hn⟩ : ∃ n, n = L.length := ⟨_, rfl⟩
    rw [← hn] at c0 hl hlc
    have HN := hide hn
    have HLC := hide hlc
    unfold pw at HC ⊢
    clear h hr hg e8 hrow hn hlc
    go_enter Try.func26, Try.ntmps26
    go_upto_region 2 with (go_at_call 33; refine HC.out.mono ?_; rintro e wx ⟨i, rfl, hwx, HX⟩; have hwy := hwx.symm; subst hwy; clear hwx)
    have hin : i < n := by have := (List.getElem?_eq_some_iff.1 HX.out).1; have := HN.out; omega
    have hi0 : ¬ (i : Int) < 0 := by omega
    have hsh := rslice_hi ao n c i (by omega) HLC.out
    obtain ⟨to', tm, td, htm, hsl, htr⟩ := rtail HREF.out.own (k := i + 1) (by have := HN.out; omega)
    rw [← HN.out, show ((i + 1 : Nat) : Int) = (i : Int) + 1 by omega] at hsl
    have HTM := hide htm
    have HTR := hide htr
    have HE := hide (HTD.out i HX.out)
    have HLK : Hid (i = (L.take i).length) := hide (by rw [List.length_take]; have := HN.out; omega)
    have HL1 : Hid (([] : List Tm).length + (L.take i).length ≤ 1000000) := hide (by rw [← HLK.out]; simp; omega)
    have HL2 : Hid (([] ++ L.take i).length + (L.drop (i + 1)).length ≤ 1000000) := hide (by rw [List.nil_append, ← HLK.out, List.length_drop, ← HN.out]; omega)
    clear htm htr
    have tok : True := trivial
    go_wp2_with (first
      | (at_builtin; have _t := tok; refine wpList_append_rs rfl _ _ rfl w.heap.size (.slice none 0 0) [] rfl (rown_nil _ _) ao i c (L.take i) HLK.out rfl (HROW.out.take i) HL1.out (Nat.le_refl _) ?_; intro v3 w3 h3 g3 l3; obtain ⟨ao3, n3, cap3, rfl⟩ := rown_shape h3; have HT3 := hide h3; have HB3 := hide ((Below.refl w.heap.size w).grown g3 (Nat.le_refl _) (fun k hk => by cases hk)); have c3 : w3.cell? ⟨rp, 0, none⟩ = some (.slice ao n c) := (by rw [HN.out]; exact (HREF.out.keep HB3.out).box.cell 0); clear h3 g3 l3 tok c0 c1)
      | (at_builtin; refine wpList_append_rs rfl _ _ rfl w.heap.size (.slice ao3 n3 cap3) ([] ++ L.take i) rfl HT3.out to' tm td (L.drop (i + 1)) HTM.out rfl (HTR.out.keep HB3.out) HL2.out HB3.out.size ?_; intro v4 w4 h4 g4 l4; obtain ⟨ao4, n4, cap4, rfl⟩ := rown_shape h4; rw [List.nil_append, ← HE.out] at h4; have HB4 := hide (HB3.out.grown g4 HB3.out.size (fun k hk => (HT3.out.lt k hk).1)); have HT4 := hide h4; have hbox := (HREF.out.keep HB4.out).box; have c4 : w4.cell? ⟨rp, 0, none⟩ = some (.slice ao n c) := (by rw [HN.out]; exact hbox.cell 0); have f4 := hbox.frozen 0; clear h4 g4 l4 hbox c3))
    go_ret
    exact ⟨rfl, RPost.of HREF.out HB4.out HT4.out⟩
end Go.Proofs.Ytmngmkbiibhmkaa
