/- The law's lists of timers: due, out. -/
import Derived.Test.YtmngmkbiibhmkaaVLive2
namespace Go.Proofs.Ytmngmkbiibhmkaa
open Go.RowKit Go.Maps

def ROwn (w : World) (B : Nat) (v : Value) (ds : List Tm) : Prop := w.ownsRow B 58 2 v ds.length (ds.flatMap encT)
theorem infoR : (Try.prog.info? 58).map (fun i => (i.zero, i.size, i.bytes)) = some (some (.agg #[.int .u64 0, .int .u64 0]), 2, 16) := by kernel_rfl
/-- A row of timers in memory. -/
def RRow (w : World) (ao : Option Addr) (ds : List Tm) : Prop := ds = [] ∨ ∃ b off, ao = some ⟨b, off, none⟩ ∧ ∀ (i : Nat) (x : Tm), ds[i]? = some x → w.cell? ⟨b, off + i * 2, none⟩ = some (.int .u64 (x.1 : Int)) ∧ w.cell? ⟨b, off + i * 2 + 1, none⟩ = some (.int .u64 (x.2 : Int))
theorem ROwn.lt {w : World} {B : Nat} {v : Value} {ds : List Tm} (h : ROwn w B v ds) : ∀ g, v.ownBlock = some g → B ≤ g ∧ g < w.heap.size := fun g hg => World.ownsRow.lt h g hg
theorem ROwn.same {w w' : World} {B : Nat} {v : Value} {ds : List Tm} (h : ROwn w B v ds) (hb : ∀ g, v.ownBlock = some g → w'.heap[g]? = w.heap[g]?) : ROwn w' B v ds := owns_same h hb
theorem ROwn.keep {w w' : World} {B : Nat} {v : Value} {ds : List Tm} (h : ROwn w B v ds) (hb : Below w.heap.size w w') : ROwn w' B v ds := h.same fun g hg => hb.block g (h.lt g hg).2
theorem rown_nil (w : World) (B : Nat) : ROwn w B (.slice none 0 0) [] := World.ownsRow_nil _ _ _ _
theorem ROwn.lower {w : World} {B B' : Nat} {v : Value} {ds : List Tm} (h : ROwn w B v ds) (hb : B' ≤ B) : ROwn w B' v ds := by
  refine ⟨h.1, ?_⟩
  rcases h.2 with h2 | ⟨g, cap, cur, e, hg, r⟩
  · exact .inl h2
  · exact .inr ⟨g, cap, cur, e, Nat.le_trans hb hg, r⟩
theorem ROwn.raise {w : World} {B B' : Nat} {v : Value} {ds : List Tm} (h : ROwn w B v ds) (hb : ∀ g, v.ownBlock = some g → B' ≤ g) : ROwn w B' v ds := by
  refine ⟨h.1, ?_⟩
  rcases h.2 with h2 | ⟨g, cap, cur, e, hg, r⟩
  · exact .inl h2
  · exact .inr ⟨g, cap, cur, e, hb g (by rw [e]; rfl), r⟩
theorem ROwn.read {w : World} {B : Nat} {v : Value} {ds : List Tm} (h : ROwn w B v ds) : ∃ ao cap, v = .slice ao ds.length cap ∧ ds.length ≤ cap ∧ RRow w ao ds := by
  rcases h.2 with ⟨rfl, hn⟩ | ⟨g, cap, cur, rfl, _, _, hle, _⟩
  · exact ⟨none, 0, by rw [hn], by omega, .inl (List.length_eq_zero_iff.1 hn)⟩
  · refine ⟨_, cap, rfl, hle, .inr ⟨g, 0, rfl, fun i x hx => ?_⟩⟩
    have hc := World.ownsRow.cells h (g := g) rfl
    obtain ⟨h1, h2⟩ := flat_get ds i x hx
    have k1 := hc _ _ h1
    have k2 := hc _ _ h2
    rw [add_none] at k1 k2
    exact ⟨k1, by rw [← Nat.add_assoc] at k2; exact k2⟩
theorem rown_shape {w : World} {B : Nat} {v : Value} {ds : List Tm} (h : ROwn w B v ds) : ∃ ao n cap, v = .slice ao n cap := by
  obtain ⟨ao, cap, h, _⟩ := h.read
  exact ⟨ao, _, cap, h⟩
theorem RRow.keep {w w' : World} {ao : Option Addr} {ds : List Tm} (h : RRow w ao ds) (hb : Below w.heap.size w w') : RRow w' ao ds := by
  rcases h with h | ⟨b, off, rfl, hc⟩
  · exact .inl h
  · exact .inr ⟨b, off, rfl, fun i x hx => ⟨cell_kept (hc i x hx).1 hb, cell_kept (hc i x hx).2 hb⟩⟩
theorem RRow.at {w : World} {ao : Option Addr} {ds : List Tm} (h : RRow w ao ds) {i : Nat} {x : Tm} (hx : ds[i]? = some x) : ∃ b off, ao = some ⟨b, off, none⟩ ∧ w.cell? ⟨b, off + i * 2, none⟩ = some (.int .u64 (x.1 : Int)) ∧ w.cell? ⟨b, off + i * 2 + 1, none⟩ = some (.int .u64 (x.2 : Int)) := by
  rcases h with rfl | ⟨b, off, rfl, hc⟩
  · simp at hx
  · exact ⟨b, off, rfl, hc i x hx⟩
/-- append(v, t) of a timer that was just laid. -/
theorem wpList_append_r {w : World} {ops : Array Oper} {rest : List Oper} {o : Oper} {a : Act} {Q : Exit → Act → World → Prop} (hgd : o.guard = none) (s x : Operand)
    (ho : o.op = .call { callee := .builtin .append, args := #[s, x], argTypes := #[43, 43] }) (B : Nat) (v : Value) (ds : List Tm) (hs : a.eval s = v) (hown : ROwn w B v ds)
    (g : Nat) (t : Tm) (hx : a.eval x = .slice (some ⟨g, 0, none⟩) 1 1) (hc0 : w.cell? ⟨g, 0, none⟩ = some (.int .u64 (t.1 : Int))) (hc1 : w.cell? ⟨g, 1, none⟩ = some (.int .u64 (t.2 : Int))) (hsz : ds.length ≤ 1000000) (hB : B ≤ w.heap.size)
    (h : ∀ v' w', ROwn w' B v' (ds ++ [t]) → w.grownBy w' v.ownBlock → (v'.ownBlock = v.ownBlock ∨ v'.ownBlock = some w.heap.size) → wpList Try.prog ops Q rest (a.put o.dst v') w') : wpList Try.prog ops Q (o :: rest) a w := by
  obtain ⟨i0, hi, hz0, hz1, hz2⟩ := info_parts infoR
  refine wpList_append_own_at w hgd s x 43 ho B 58 i0 _ 2 16 Try.underlying43 hi hz0 hz1 hz2 rfl (by decide) v ds.length (ds.flatMap encT) hs hown ⟨g, 0, none⟩ 1 1 (encT t) hx rfl ?_ (fun u hu => encT_one [t] u (by simpa using hu)) (by unfold maxLen; omega) (by omega) hB ?_
  · intro j u hu
    rw [add_none, Nat.zero_add]
    match j, hu with
    | 0, hu => cases hu; exact hc0
    | 1, hu => cases hu; exact hc1
  · intro v' w' h1 h2 _ h3
    refine h v' w' ?_ h2 h3
    unfold ROwn
    rw [List.length_append, List.flatMap_append]
    simpa using h1
theorem tget_take {id : Nat} {T : List Tm} {i : Nat} {x : Tm} (hx : T[i]? = some x) (h : ∀ p ∈ T.take i, p.1 ≠ id) (he : x.1 = id) : tget id T = some x.2 := by
  unfold tget
  have e : T = T.take i ++ x :: T.drop (i + 1) := by
    rw [← (List.getElem?_eq_some_iff.1 hx).2, ← List.drop_eq_getElem_cons (List.getElem?_eq_some_iff.1 hx).1, List.take_append_drop]
  have h0 : (T.take i).find? (fun p => p.1 == id) = none := List.find?_eq_none.2 fun p hp => by simpa using h p hp
  rw [e, List.find?_append, h0, List.find?_cons_of_pos (by simpa using he)]
  rfl
set_option maxHeartbeats 4000000 in
set_option maxRecDepth 100000 in
theorem due_any (ao : Option Addr) (n c id : Nat) (T : List Tm) (w : World) (hr : RRow w ao T) (hn : n = T.length) (hl : n ≤ 1000000) :
    Calls Try.prog 22 #[.slice ao n c, .int .u64 (id : Int)] w fun e w' => e = .returned (.tuple #[.int .u64 (((tget id T).getD 0 : Nat) : Int), .bool (tget id T).isSome]) ∧ w' = w := by
  have HR := hide hr
  have HN := hide hn
  have HA : Hid (∀ (i : Nat) (x : Tm), T[i]? = some x → (∀ p ∈ T.take i, p.1 ≠ id) → x.1 = id → tget id T = some x.2) := fun i x h1 h2 h3 => tget_take h1 h2 h3
  have HB : Hid ((∀ p ∈ T, p.1 ≠ id) → tget id T = none) := fun h => tget_none_of h
  generalize tget id T = r at *
  clear hr hn
  go_enter Try.func22, Try.ntmps22
  go_wp2_with fail
  go_loop [6] (fun v6 => ∃ i : Nat, i ≤ n ∧ v6 = .int .i64 (i : Int) ∧ Hid (∀ p ∈ T.take i, p.1 ≠ id)) (fun v6 => n - (intOf v6).toNat)
  case atStart => exact ⟨0, by omega, rfl, fun p hp => by simp at hp⟩
  case round =>
    obtain ⟨i, hi, rfl, HO⟩ := hrel
    by_cases hin : i < n
    · obtain ⟨x, hx⟩ : ∃ x, T[i]? = some x := ⟨_, List.getElem?_eq_getElem (by have := HN.out; omega)⟩
      obtain ⟨b, off, rfl, c0, c1⟩ := HR.out.at hx
      have hil : (i : Int) < (n : Int) := by omega
      have HX := hide hx
      clear hx
      by_cases hxi : x.1 = id
      · have HE := hide (HA.out i x HX.out HO.out hxi)
        have hb : ((x.1 : Int) == (id : Int)) = true := by simp; omega
        go_wp2_with fail
        go_ret2
        exact ⟨by rw [HE.out]; rfl, rfl⟩
      · have hb : ((x.1 : Int) == (id : Int)) = false := by simp; omega
        have HO2 : Hid (∀ p ∈ T.take (i + 1), p.1 ≠ id) := fun p hp => by
          rw [List.take_add_one, HX.out] at hp
          rcases List.mem_append.1 hp with h | h
          · exact HO.out p h
          · have : p = x := by simpa using h
            rw [this]; exact hxi
        go_wp2_with fail
        go_round
        case rel => exact ⟨i + 1, by omega, by go_num, HO2⟩
        case measure => simp [intOf]; omega
    · have hil : ¬ (i : Int) < (n : Int) := by omega
      have HE := hide (HB.out (by have := HO.out; rwa [List.take_of_length_le (by have := HN.out; omega)] at this))
      go_wp2_with fail
      go_ret2
      exact ⟨by rw [HE.out]; rfl, rfl⟩
end Go.Proofs.Ytmngmkbiibhmkaa
