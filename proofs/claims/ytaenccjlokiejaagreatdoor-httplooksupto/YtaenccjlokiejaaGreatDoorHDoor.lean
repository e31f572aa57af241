/- What the library's variables hold, as the program's own text lays them. -/
import Derived.Test.YtaenccjlokiejaaGreatDoorOpen3
import Derived.Test.YtaenccjlokiejaaGreatDoorHEnv
import Derived.Test.YtaenccjlokiejaaGreatDoorCards
import Derived.Test.YtaenccjlokiejaaGreatDoorTie
import Derived.Deep.DeepHandedRow
import Derived.Lib.LaidU8T
import Derived.Lib.LaidTab
import Derived.Stop.LaidErr
namespace Go.Proofs.YtaenccjlokiejaaGreatDoor
open Go.ChangeShapes Go.WideShapes Go.ChangeAt Go.RowKit

theorem star_name : "*" ++ "errors.errorString" = "*errors.errorString" := by decide
theorem row_err (u : TypeId) (h : Tryz.prog.typeName? 3 u = some "*errors.errorString") : u = 175 :=
  typeName_ptr_named (nm := "errors.errorString") (by rw [star_name]; kernel_rfl) (by kernel_rfl) (by decide) u (by rw [star_name]; exact h)
theorem range_of {W : World} {r : List (String × DataW Unit)} (h : laidMet Tryz.prog (("strconv.ErrRange", Rows.laid_strconv_ErrRange) :: r) W) : ∃ ev, W.cell? ⟨2, 0, none⟩ = some ev ∧ (ev = .nilIface ∨ ∃ te pe, ev = .iface te pe) := by
  have hg : Tryz.prog.globalNamed "strconv.ErrRange" = some 2 := by kernel_rfl
  obtain ⟨a0, s0, hv0, _, _, _⟩ := laid_sentinel h hg (by kernel_rfl) Tryz.underlying104 row_err Tryz.underlying175 Tryz.underlying177 rfl rfl Tryz.underlying9 (by kernel_rfl) (by kernel_rfl)
  refine ⟨.iface 175 (.pointer (some a0)), ?_, .inr ⟨_, _, rfl⟩⟩
  have h0 := World.var?_cell hg hv0 0
  simpa using h0
theorem syntax_of {W : World} {r : List (String × DataW Unit)} (h : laidMet Tryz.prog (("strconv.ErrSyntax", Rows.laid_strconv_ErrSyntax) :: r) W) : ∃ ev, W.cell? ⟨1, 0, none⟩ = some ev ∧ (ev = .nilIface ∨ ∃ te pe, ev = .iface te pe) := by
  have hg : Tryz.prog.globalNamed "strconv.ErrSyntax" = some 1 := by kernel_rfl
  obtain ⟨a0, s0, hv0, _, _, _⟩ := laid_sentinel h hg (by kernel_rfl) Tryz.underlying104 row_err Tryz.underlying175 Tryz.underlying177 rfl rfl Tryz.underlying9 (by kernel_rfl) (by kernel_rfl)
  refine ⟨.iface 175 (.pointer (some a0)), ?_, .inr ⟨_, _, rfl⟩⟩
  have h0 := World.var?_cell hg hv0 0
  simpa using h0
theorem data10 : (Rows.laid_internal_strconv_uint64pow10 : DataW Unit) = Lib.tabData .u64 Lib.pow10Tab := by kernel_rfl
theorem ten_of {W : World} {l : List (String × DataW Unit)} (h : laidMet Tryz.prog l W) (h1 : ("internal/strconv.uint64pow10", Rows.laid_internal_strconv_uint64pow10) ∈ l) : Tab10 W := by
  obtain ⟨g, t, cs, fuel, p, e1, e2, e3, e4⟩ := Lib.laidMet.reads h h1
  have hg : Tryz.prog.globalNamed "internal/strconv.uint64pow10" = some 5 := by kernel_rfl
  have ht : (Tryz.prog.globals[5]?).map (·.type) = some 180 := by kernel_rfl
  obtain rfl : g = 5 := Option.some.inj (e1.symm.trans hg)
  obtain rfl : t = 180 := Option.some.inj (e2.symm.trans ht)
  rw [data10] at e4
  have hc := Lib.cells_of_tab Tryz.underlying180 Tryz.underlying155 (by kernel_rfl) (by kernel_rfl) e4
  show Lib.TabIs _ _ _ _ _
  unfold Lib.TabIs
  rw [e3, ← hc]
theorem env_of {W : World} {a b d : String × DataW Unit} {r : List (String × DataW Unit)} (hS : W.ShapedOpen Tryz.prog)
    (h : laidMet Tryz.prog (a :: b :: ("internal/strconv.uint64pow10", Rows.laid_internal_strconv_uint64pow10) :: d :: ("strconv.ErrRange", Rows.laid_strconv_ErrRange) :: ("strconv.ErrSyntax", Rows.laid_strconv_ErrSyntax) :: r) W) : Env W :=
  ⟨ten_of h (.tail _ (.tail _ (.head _))), syntax_of (laidMet.tail (laidMet.tail (laidMet.tail (laidMet.tail (laidMet.tail h))))), range_of (laidMet.tail (laidMet.tail (laidMet.tail (laidMet.tail h)))), laysM145.s1_3 W hS⟩
end Go.Proofs.YtaenccjlokiejaaGreatDoor
