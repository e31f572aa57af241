/- The limit's Subjects. -/
import Derived.Test.YtbhlciaigadlkaaQStr
import Derived.Test.YtbhlciaigadlkaaQTry
namespace Go.Proofs.Ytbhlciaigadlkaa
open Go.RowKit Go.Maps Go.Sort Go.Shelf

theorem sorts_any (m : Nat) : AnyZ.SortsIn Try.prog sortedL_ren Fence.wide m :=
  ⟨fun blk off cap ss W hH hblk hsz => callsIn_wide.2 (AnyM.slices_Sort_string sortL blk off cap ss W hH hblk hsz),
   fun p cap W => callsIn_wide.2 (AnyM.slices_Sort_string_none sortL p cap W)⟩
theorem keys_any (mb : Option Nat) (W : World) : CallsIn Fence.wide 5 Try.prog 35 #[.map mb] W fun e w' => e = .returned (.func (.func 44) #[] #[.pointer (some ⟨W.heap.size, 0, none⟩)]) ∧ w' = W.alloc (.cells #[.map mb] 52) :=
  AnyZ.keys_in keysL Fence.wide 5 trivial rfl mb W
theorem TabAt.alloc {w : World} {mp : Nat} {bl : Nm → Nat} {d : Tab} (h : TabAt w mp bl d) (o : Obj) : TabAt (w.alloc o) mp bl d := h.same ((below_new w o).block mp h.lt)
set_option maxHeartbeats 1000000 in
theorem sortedKeys_any (mp : Nat) (bl : Nm → Nat) (d : Tab) (w : World) (hown : TabAt w mp bl d) (hd : d.length ≤ 4096) :
    CallsIn Fence.wide 5 Try.prog 34 #[.func (.func 44) #[] #[.pointer (some ⟨w.heap.size, 0, none⟩)]] (w.alloc (.cells #[.map (some mp)] 52)) fun e w' => ∃ (v : Value) (ss : List (List UInt8)), e = .returned v ∧ ss.Perm (strKeys (DL bl d)) ∧
      w'.ownsRow (w.alloc (.cells #[.map (some mp)] 52)).heap.size 9 1 v ss.length ((ss.mergeSort (fun x y => decide (x ≤ y))).map encStr) ∧ (v = .slice none 0 0 ↔ ss = []) ∧ Below (w.alloc (.cells #[.map (some mp)] 52)).heap.size (w.alloc (.cells #[.map (some mp)] 52)) w' := by
  have hbl := hown.lt
  have hmax : Maps.size (DL bl d) ≤ maxLen := by rw [dl_size]; unfold maxLen; omega
  have hbytes : Maps.size (DL bl d) * 16 ≤ 140737488355328 := by rw [dl_size]; omega
  have hseq : SeqGives Fence.wide 2 Try.prog 44 #[.pointer (some ⟨w.heap.size, 0, none⟩)] encStr (fun ss => ss.Perm (strKeys (DL bl d))) (Maps.size (DL bl d)) (w.alloc (.cells #[.map (some mp)] 52)) :=
    AnyZ.keys_gives (ρ := keysL_ren) { keysL with } Fence.wide _ trivial rfl (by omega) w.heap.size mp d.length (DL bl d) _ (by simp) (by simp) (hown.alloc _)
  exact AnyZ.sorted_in sortedL Fence.wide 5 trivial trivial trivial trivial rfl (by omega) (sorts_any _) (enters_of Try.func43 (by kernel_rfl) rfl) 44 #[.pointer (some ⟨w.heap.size, 0, none⟩)] trivial (enters_of Try.func44 (by kernel_rfl) rfl) _ _ hmax hbytes _ hseq
theorem TOwn.same_set {w : World} {B g n c : Nat} {s : List Nm} (h : TOwn w B (.slice (some ⟨g, 0, none⟩) n c) s) {i : Nat} {x : Nm} (hx : s[i]? = some x) : TOwn (w.setCell ⟨g, i, none⟩ (.string (str x))) B (.slice (some ⟨g, 0, none⟩) n c) s := by
  have hn : n = s.length := by
    rcases h.2 with ⟨e, _⟩ | ⟨g', cap, cur, e, _⟩
    · cases e
    · injection e
  subst hn
  have h2 := (World.ownsRow.stored h i (.string (str x))).1
  have e : (s.map encStr).set i (.string (str x)) = s.map encStr := by
    apply List.ext_getElem?
    intro j
    rw [List.getElem?_set]
    split
    · rename_i hij
      subst hij
      split
      · rw [List.getElem?_map, hx]; rfl
      · rename_i hlt
        rw [List.getElem?_eq_none (by omega)]
    · rfl
  rw [e] at h2
  exact h2
theorem TOwn.lower {w : World} {B B' : Nat} {v : Value} {s : List Nm} (h : TOwn w B v s) (hb : B' ≤ B) : TOwn w B' v s := by
  refine ⟨h.1, ?_⟩
  rcases h.2 with h2 | ⟨g, cap, cur, e, hg, r⟩
  · exact .inl h2
  · exact .inr ⟨g, cap, cur, e, Nat.le_trans hb hg, r⟩
theorem TOwn.frozen {w : World} {B g n c : Nat} {s : List Nm} (h : TOwn w B (.slice (some ⟨g, 0, none⟩) n c) s) (j : Nat) : w.frozen? ⟨g, j, none⟩ = false := by
  have hn : n = s.length := by
    rcases h.2 with ⟨e, _⟩ | ⟨g', cap, cur, e, _⟩
    · cases e
    · injection e
  subst hn
  exact World.ownsRow.frozenAt h j
set_option maxHeartbeats 2000000 in
set_option maxRecDepth 100000 in
theorem subjects_any (lp : Nat) (S : LS) (Y : Lay) (w : World) (h : Rep w lp S Y) : Calls Try.prog 20 #[pf lp] w fun e w' => ∃ (ao : Option Addr) (n c : Nat), e = .returned (.slice ao n c) ∧ Hid (TOwn w' w.heap.size (.slice ao n c) (S.tab.map (·.1)) ∧ Below w.heap.size w w') := by
  have c4 := h.c4
  have HK := hide (callsIn_wide.1 (keys_any (some Y.mp) w))
  have HS := hide (callsIn_wide.1 (sortedKeys_any Y.mp Y.bl S.tab w h.map (Nat.le_trans h.ok.len h.ok.subs2)))
  have HCL : Hid (∀ (W : World) (x : Nm), x.length ≤ 256 → Calls Try.prog 36 #[.string (str x)] W fun e w' => e = .returned (.string (str x)) ∧ Below W.heap.size W w') := hide fun W x hx => clone_any (str x) W (by rw [str_size]; omega)
  have HLE : Hid (∀ x ∈ S.tab.map (·.1), x.length ≤ 256) := hide fun x hx => by
    obtain ⟨p, hp, rfl⟩ := List.mem_map.1 hx
    exact (h.ok.each p hp).2.2.2.2
  have HLN : Hid ((S.tab.map (·.1)).length ≤ 4096) := hide (by rw [List.length_map]; exact Nat.le_trans h.ok.len h.ok.subs2)
  have HBN := hide (below_new w (.cells #[.map (some Y.mp)] 52))
  have HPS : Hid (∀ ss : List (List UInt8), ss.Perm (strKeys (DL Y.bl S.tab)) → ss.length = (S.tab.map (·.1)).length ∧ ss.mergeSort (fun x y => decide (x ≤ y)) = S.tab.map (·.1)) := hide fun ss hp => by
    rw [dl_keys] at hp
    exact ⟨hp.length_eq, sorted_keys h.ok.rising hp⟩
  generalize S.tab.map (·.1) = s at *
  clear h
  unfold pf
  go_enter Try.func20, Try.ntmps20
  go_upto_region 4 with (first
    | (go_at_call 35; refine HK.out.mono ?_; rintro e w1 ⟨rfl, hw1⟩; subst hw1)
    | (go_at_call 34; refine HS.out.mono ?_; rintro e w2 ⟨v, ss, rfl, hp, hrow, _, hb2⟩; obtain ⟨hsl, hss⟩ := HPS.out ss hp; rw [hss, hsl] at hrow; have HO := hide (show TOwn w2 (w.alloc (.cells #[.map (some Y.mp)] 52)).heap.size v s from hrow); have HB2 := hide (HBN.out.trans (hb2.mono HBN.out.size)); clear hp hrow hsl hss hb2))
  obtain ⟨ao, c, rfl, _, see, lt, fm⟩ := HO.out.form
  have HBB : Hid (w.heap.size ≤ (w.alloc (.cells #[.map (some Y.mp)] 52)).heap.size) := hide (by simp)
  generalize (w.alloc (.cells #[.map (some Y.mp)] 52)).heap.size = B at *
  generalize hn : s.length = n at *
  have HN := hide hn
  have hnb : n ≤ 4096 := HLN.out
  have HFM := hide fm
  have HLT := hide (fun a (ha : ao = some a) => Nat.le_trans HBB.out (lt a ha).1)
  clear hn see lt fm c4
  go_wp2
  go_loopw [16] (fun a16 wr => ∃ i : Nat, a16 = .int .i64 (i : Int) ∧ i ≤ n ∧ Hid (TOwn wr B (.slice ao n c) s ∧ Below w.heap.size w wr))
    (fun a16 _ => n - (match a16 with | .int _ x => x.toNat | _ => 0))
  case atStart => exact ⟨0, rfl, Nat.zero_le _, hide ⟨HO.out, HB2.out⟩⟩
  case round =>
    obtain ⟨i, rfl, hi, hrel⟩ := hrel
    have HOR := hide hrel.out.1
    have HBR := hide hrel.out.2
    clear hrel
    by_cases hin : i < n
    · have hin' : (i : Int) < (n : Int) := by omega
      obtain ⟨x, hx⟩ : ∃ x, s[i]? = some x := ⟨_, List.getElem?_eq_getElem (by rw [HN.out]; exact hin)⟩
      have HX := hide hx
      have hxl := HLE.out x (List.mem_of_getElem? hx)
      have HXL := hide hxl
      have HIN := hide hin
      have hwri : IntKind.i64.wrap ((i : Int) + 1) = ((i + 1 : Nat) : Int) := by rw [IntKind.wrap_i64]; omega
      obtain ⟨g, rfl⟩ : ∃ g, ao = some ⟨g, 0, none⟩ := by
        cases ao with
        | none =>
          exfalso
          rcases HOR.out.2 with ⟨_, h0⟩ | ⟨g', cap, cur, e, _⟩
          · have := HN.out; omega
          · cases e
        | some a => obtain ⟨g, rfl⟩ := HFM.out a rfl; exact ⟨g, rfl⟩
      obtain ⟨_, _, hgb, p0⟩ := HOR.out.see.at hx
      cases hgb
      simp only [Nat.zero_add] at p0
      have hgw := HLT.out _ rfl
      have HGW := hide hgw
      clear hi hx hin hxl hgw
      go_wp2_with (first
        | (go_at_call 36; refine (HCL.out _ x HXL.out).mono ?_; rintro e w5 ⟨rfl, hb5⟩; have HO5 := hide (HOR.out.keep hb5); have HB5 := hide (HBR.out.trans (hb5.mono HBR.out.size)); have p5 := cell_kept p0 hb5; have pf5 := HO5.out.frozen i; clear hb5 p0))
      go_roundw
      case rel => exact ⟨i + 1, by first | rfl | simp, HIN.out, hide ⟨HO5.out.same_set HX.out, Below.trans HB5.out ((Fr.setCell [g] w5 g i (.string (str x)) (by simp)).below _ HB5.out.size (fun y hy => by rw [List.mem_singleton.1 hy]; exact HGW.out))⟩⟩
      case measure => have := HIN.out; simp; omega
    · have hin' : ¬ (i : Int) < (n : Int) := by omega
      clear hi hin
      go_wp2
      go_ret
      refine ⟨ao, n, c, rfl, hide ⟨?_, HBR.out⟩⟩
      exact HOR.out.lower HBB.out
end Go.Proofs.Ytbhlciaigadlkaa
