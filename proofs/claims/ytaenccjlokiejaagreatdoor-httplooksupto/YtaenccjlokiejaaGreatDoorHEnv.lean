/- The library's functions that the walks meet, and what they read of the packages' variables. -/
import Derived.Test.YtaenccjlokiejaaGreatDoorHRow
import Derived.Lib.ItoaLen
namespace Go.Proofs.YtaenccjlokiejaaGreatDoor
open Go.RowKit Go.Shelf Go.Sort

abbrev Tab10 (w : World) : Prop := Lib.TabIs Tryz.prog w "internal/strconv.uint64pow10" .u64 Lib.pow10Tab
/-- What stands in the variables of the library's packages that are read. -/
structure Env (w : World) : Prop where
  ten : Tab10 w
  syn : ∃ v, w.cell? ⟨laysC172_ren.g 15, 0, none⟩ = some v ∧ (v = .nilIface ∨ ∃ te pe, v = .iface te pe)
  ran : ∃ v, w.cell? ⟨laysC172_ren.g 16, 0, none⟩ = some v ∧ (v = .nilIface ∨ ∃ te pe, v = .iface te pe)
  mx : ∃ m : Int, w.cell? ⟨lays145_ren.g 1, 0, none⟩ = some (.int .i64 m)
theorem tabIs_keep {w w' : World} (h : Tab10 w) (hb : Below w.heap.size w w') : Tab10 w' := by
  have hg : Tryz.prog.globalNamed "internal/strconv.uint64pow10" = some 5 := by kernel_rfl
  unfold Tab10 Lib.TabIs World.var? at h ⊢
  rw [hg] at h ⊢
  simp only [Option.bind_some] at h ⊢
  have hl : 5 < w.heap.size := by
    by_cases hl : 5 < w.heap.size
    · exact hl
    · rw [Array.getElem?_eq_none (by omega)] at h; simp at h
  rw [hb.block _ hl]
  exact h
theorem Env.keep {w w' : World} (h : Env w) (hb : Below w.heap.size w w') : Env w' := by
  obtain ⟨b, ⟨v, c, c2⟩, ⟨u, d, d2⟩, ⟨m, hm⟩⟩ := h
  exact ⟨tabIs_keep b hb, ⟨v, cell_kept c hb, c2⟩, ⟨u, cell_kept d hb, d2⟩, ⟨m, cell_kept hm hb⟩⟩
theorem below_grown {w w' : World} {k : Nat} {os : Array Obj} (h : w' = grow (w.drewN k) os) : Below w.heap.size w w' := by
  subst h
  exact ⟨rfl, rfl, rfl, by simp [grow], fun g hg => Array.getElem?_append_left hg⟩
theorem itoa_any (n : Int) (w : World) (h0 : -9223372036854775808 ≤ n) (h1 : n ≤ 9223372036854775807) (E : Env w) :
    Calls Tryz.prog 77 #[.int .i64 n] w fun e w' => e = .returned (.string (str (Lib.itoa n))) ∧ Below w.heap.size w w' := by
  refine (Any.strconv_Itoa laysM171 n h0 h1 w E.ten).mono ?_
  rintro e w1 ⟨rfl, k, os, rfl⟩
  exact ⟨rfl, below_grown rfl⟩
theorem itoa_len (n : Int) (h0 : -9223372036854775808 ≤ n) (h1 : n ≤ 9223372036854775807) : (Lib.itoa n).length ≤ 21 := by
  have := Lib.itoa_length_le n (by omega) (by omega)
  omega
/-- What Atoi answers, whatever is wrong. -/
def atoiV (l : U) : Int := match Lib.atoiAll l with
  | .ok v => v
  | .«syntax» => 0
  | .range => Lib.atoiSat l
theorem atoi_any (l : U) (w : World) (hl : l.length ≤ 281474976710656) (E : Env w) :
    Calls Tryz.prog 70 #[.string (str l)] w fun e w' => ∃ ev, e = .returned (.tuple #[.int .i64 (atoiV l), ev]) ∧ Below w.heap.size w w' := by
  have hsz : (str l).size ≤ 281474976710656 := by rw [str_size]; exact hl
  unfold atoiV
  cases h : Lib.atoiAll l with
  | ok v =>
    refine (Any.strconv_Atoi_ok laysC172 (str l) (by omega) v (by simpa using h) w).mono ?_
    rintro e w' ⟨he, hw⟩
    refine ⟨_, he, ?_⟩
    rcases hw with rfl | ⟨t, rfl⟩
    · exact Below.refl _ _
    · exact Lib.bytesWorld_below _ _ _
  | «syntax» =>
    obtain ⟨ev, hv, hev⟩ := E.syn
    refine (Any.strconv_Atoi_syntax laysC172 (str l) hsz (by simpa using h) ev w hv hev).mono ?_
    rintro e w' ⟨N, he, _, _, hb⟩
    exact ⟨_, he, hb⟩
  | range =>
    obtain ⟨ev, hv, hev⟩ := E.ran
    refine (Any.strconv_Atoi_range laysC172 (str l) hsz (by simpa using h) ev w hv hev).mono ?_
    rintro e w' ⟨N, he, _, _, hb⟩
    rw [list_str] at he
    exact ⟨_, he, hb⟩
theorem cutS_any (l p : U) (w : World) (hl : l.length < 4294967281) (E : Env w) :
    Calls Tryz.prog 57 #[.string (str l), .string (str p)] w fun e w' => e = .returned (.tuple #[.string (str (Lib.cut l p).1), .string (str (Lib.cut l p).2.1), .bool (Lib.cut l p).2.2]) ∧ Below w.heap.size w w' := by
  obtain ⟨m, hm⟩ := E.mx
  refine (Any.strings_Cut lays145 (str l) (str p) m w (by rw [str_size]; exact hl) hm).mono ?_
  rintro e w' ⟨he, n, rfl⟩
  rw [list_str, list_str] at he
  exact ⟨he, below_drewN (Below.refl _ _) n⟩
theorem cutPrefix_any (l p : U) (w : World) :
    Calls Tryz.prog 69 #[.string (str l), .string (str p)] w fun e w' => e = .returned (.tuple #[.string (str (Lib.trimPrefix l p)), .bool (p.isPrefixOf l)]) ∧ w' = w := by
  have h := Any.strings_CutPrefix lays103 (str l) (str p) w
  rw [list_str, list_str] at h
  exact h
theorem hasPrefix_any (l p : U) (w : World) :
    Calls Tryz.prog 65 #[.string (str l), .string (str p)] w fun e w' => e = .returned (.bool (p.isPrefixOf l)) ∧ w' = w := by
  have h := Any.strings_HasPrefix lays99 (str l) (str p) w
  rw [list_str, list_str] at h
  exact h
set_option maxHeartbeats 400000 in
set_option maxRecDepth 100000 in
theorem clone_any (l : U) (w : World) (hl : l.length ≤ 281474976710656) :
    Calls Tryz.prog 40 #[.string (str l)] w fun e w' => e = .returned (.string (str l)) ∧ Below w.heap.size w w' := by
  have HC := hide (Any.stringslite_Clone laysM316 (str l) w (by rw [str_size]; exact hl))
  go_enter Tryz.func40, Tryz.ntmps40
  go_wp2_with fail
  refine HC.out.mono ?_
  rintro e w1 ⟨rfl, hb⟩
  have HB := hide hb
  clear hb
  go_wp2
  go_ret
  exact ⟨rfl, HB.out⟩
end Go.Proofs.YtaenccjlokiejaaGreatDoor
