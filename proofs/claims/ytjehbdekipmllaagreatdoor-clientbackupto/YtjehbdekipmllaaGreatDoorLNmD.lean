/- What the program's table of names reads as when the call begins. -/
import Derived.Test.YtjehbdekipmllaaGreatDoorLPrT
import Derived.Test.YtjehbdekipmllaaGreatDoorOpenCls
import Derived.Test.YtjehbdekipmllaaGreatDoorLDoor
import Derived.Lib.LaidTab
import Derived.Lib.LaidU8
namespace Go.Proofs.YtjehbdekipmllaaGreatDoor
open Go.RowKit

theorem cellsN : Tryz.prog.cellsOf 9 = 1 ∧ Tryz.prog.cellsOf 93 = 6 := ⟨by kernel_rfl, by kernel_rfl⟩
theorem bytes_eq {s t : ByteArray} (h : s.data.toList = t.data.toList) : s = t := ByteArray.ext (Array.toList_inj.1 h)
set_option maxRecDepth 100000 in
theorem names_of {W : World} {l : List (String × DataW Unit)} (h : laidMet Tryz.prog l W) (h1 : ("wicket/client.names", Rows.laid_wicket_client_names) ∈ l) : NG W := by
  obtain ⟨g, t, cs, fuel, p, e1, e2, e3, e4⟩ := Lib.laidMet.reads h h1
  have hg : Tryz.prog.globalNamed "wicket/client.names" = some 0 := by kernel_rfl
  have ht : (Tryz.prog.globals[0]?).map (·.type) = some 93 := by kernel_rfl
  obtain rfl : g = 0 := Option.some.inj (e1.symm.trans hg)
  obtain rfl : t = 93 := Option.some.inj (e2.symm.trans ht)
  obtain ⟨xs, m, -, hx, hlen, hxl, hfs⟩ := DataW.trod_array Tryz.underlying93 e4
  rw [cellsN.2] at hlen
  have hxs : xs.map (·.1) = [.lit (.string [105, 100]), .lit (.string [115, 101, 99, 114, 101, 116]), .lit (.string [103, 114, 97, 110, 116, 115]), .lit (.string [112, 105, 110, 103]), .lit (.string [117, 114, 108]), .lit (.string [115, 99, 111, 112, 101])] := by
    have h2 := congrArg Prod.fst hx
    unfold Rows.laid_wicket_client_names at h2
    injection h2 with h2
    exact h2.symm
  intro k hk
  have hf := hfs k hk
  rw [cellsN.1, Nat.mul_one] at hf
  obtain ⟨c, hc⟩ : ∃ c, cs.toList[k]? = some c := ⟨_, List.getElem?_eq_getElem (by omega)⟩
  have hdr : (cs.toList.drop k).take 1 = [c] := by
    obtain ⟨hl, hv⟩ := List.getElem?_eq_some_iff.1 hc
    rw [List.drop_eq_getElem_cons hl, hv]; rfl
  rw [hdr] at hf
  obtain ⟨y, hy⟩ : ∃ y, xs[k]? = some y := ⟨_, List.getElem?_eq_getElem (by omega)⟩
  rw [hy] at hf
  obtain ⟨s, e, x, hs⟩ := DataW.trod_string Tryz.underlying9 hf
  have hn : (xs.map (·.1))[k]? = some y.1 := by rw [List.getElem?_map, hy]; rfl
  rw [hxs, x] at hn
  have hcs : c = .string s := by injection e
  have hsn : s = nmOf k := by
    rcases (show k = 0 ∨ k = 1 ∨ k = 2 ∨ k = 3 ∨ k = 4 ∨ k = 5 by omega) with rfl | rfl | rfl | rfl | rfl | rfl <;>
      (apply bytes_eq; injection hn with hn; injection hn with hn; injection hn with hn; exact hn.symm)
  have h0 := World.var?_cell hg e3 k
  rw [h0]
  rw [← hsn, ← hcs]
  rw [← Array.getElem?_toList]
  exact hc
theorem ClUp.bd {b : Nat} {c : Cl} (h : ClUp b c) (hb : b ≤ 1048576) : ClBd c := by
  obtain ⟨-, -, -, h3, h4, h5, h6, h7⟩ := h
  exact ⟨by omega, by omega, by omega, by omega, by omega⟩
end Go.Proofs.YtjehbdekipmllaaGreatDoor
