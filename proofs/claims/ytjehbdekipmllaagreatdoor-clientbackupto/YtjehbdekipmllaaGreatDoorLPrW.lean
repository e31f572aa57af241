/- What the program writes of a client: the text of each name. -/
import Derived.Test.YtjehbdekipmllaaGreatDoorLLive
import Derived.Test.YtjehbdekipmllaaGreatDoorXApp
import Derived.Test.YtjehbdekipmllaaGreatDoorXPrt
namespace Go.Proofs.YtjehbdekipmllaaGreatDoor
open Go.RowKit

/-- The grants as a text. -/
def gText (k : Int) : ByteArray := if k = 1 then ⟨#[100, 101, 118, 105, 99, 101]⟩ else if k = 2 then ⟨#[99, 105, 98, 97]⟩ else if k = 3 then ⟨#[99, 105, 98, 97, 32, 100, 101, 118, 105, 99, 101]⟩ else { data := #[] }
def pText (b : Bool) : ByteArray := if b then sYes else { data := #[] }
/-- The text of a name, of a client. -/
def valOf (c : Cl) (nm : ByteArray) : ByteArray := if nm = sId then c.id else if nm = sSecret then c.secret else if nm = sGrants then gText c.grants else if nm = sPing then pText c.ping else if nm = sUrl then c.url else ⟨(joinS c.scopes).toArray⟩
def cAgg (c : Cl) (so : Option Addr) (n cp : Nat) : Value := .agg #[.string c.id, .string c.secret, .int .i64 c.grants, .bool c.ping, .string c.url, .slice so n cp]
set_option maxHeartbeats 400000 in
set_option maxRecDepth 100000 in
theorem writeId_any (c : Cl) (so : Option Addr) (n cp : Nat) (w : World) :
    Calls Tryz.prog 36 #[cAgg c so n cp] w fun e w' => e = .returned (.string c.id) ∧ Below w.heap.size w w' := by
  unfold cAgg
  go_enter Tryz.func36, Tryz.ntmps36
  go_wp2
  go_ret
  exact ⟨rfl, below_new _ _⟩
set_option maxHeartbeats 400000 in
set_option maxRecDepth 100000 in
theorem writeSecret_any (c : Cl) (so : Option Addr) (n cp : Nat) (w : World) :
    Calls Tryz.prog 38 #[cAgg c so n cp] w fun e w' => e = .returned (.string c.secret) ∧ Below w.heap.size w w' := by
  unfold cAgg
  go_enter Tryz.func38, Tryz.ntmps38
  go_wp2
  go_ret
  exact ⟨rfl, below_new _ _⟩
set_option maxHeartbeats 400000 in
set_option maxRecDepth 100000 in
theorem writeUrl_any (c : Cl) (so : Option Addr) (n cp : Nat) (w : World) :
    Calls Tryz.prog 44 #[cAgg c so n cp] w fun e w' => e = .returned (.string c.url) ∧ Below w.heap.size w w' := by
  unfold cAgg
  go_enter Tryz.func44, Tryz.ntmps44
  go_wp2
  go_ret
  exact ⟨rfl, below_new _ _⟩
set_option maxHeartbeats 400000 in
set_option maxRecDepth 100000 in
theorem writePing_any (c : Cl) (so : Option Addr) (n cp : Nat) (w : World) :
    Calls Tryz.prog 42 #[cAgg c so n cp] w fun e w' => e = .returned (.string (pText c.ping)) ∧ Below w.heap.size w w' := by
  unfold cAgg
  obtain ⟨id, secret, gr, pg, url, l⟩ := c
  cases pg
  all_goals
    go_enter Tryz.func42, Tryz.ntmps42
    go_wp2
    go_ret
    exact ⟨rfl, below_new _ _⟩
set_option maxHeartbeats 1000000 in
set_option maxRecDepth 100000 in
theorem writeScopes_any (c : Cl) (so : Option Addr) (n cp : Nat) (w : World) (hs : SAt w so n cp c.scopes) (hn : n ≤ 140737488355328) (hj : (joinS c.scopes).length ≤ 140737488355328) :
    Calls Tryz.prog 46 #[cAgg c so n cp] w fun e w' => e = .returned (.string ⟨(joinS c.scopes).toArray⟩) ∧ Below w.heap.size w w' := by
  have HB : Hid (Below w.heap.size w (w.alloc (.cells #[.string c.id, .string c.secret, .int .i64 c.grants, .bool c.ping, .string c.url, .slice so n cp] 47))) := below_new w _
  have HC := hide (listed_any n cp so c.scopes (w.alloc (.cells #[.string c.id, .string c.secret, .int .i64 c.grants, .bool c.ping, .string c.url, .slice so n cp] 47)) (hs.keep HB.out) hn hj)
  have hz := HB.out.size
  obtain ⟨J, hJ⟩ : ∃ J : ByteArray, J = ⟨(joinS c.scopes).toArray⟩ := ⟨_, rfl⟩
  rw [← hJ] at HC ⊢
  clear hs hJ hj
  unfold cAgg
  go_enter Tryz.func46, Tryz.ntmps46
  go_wp2_with fail
  refine HC.out.mono ?_
  rintro e w2 ⟨rfl, hb⟩
  have HB2 := hide (HB.out.trans (hb.mono hz))
  clear hb HC HB
  go_wp2
  go_ret
  exact ⟨rfl, HB2.out⟩
theorem join_words : joinS [] = [] ∧ joinS [uDevice] = uDevice ∧ joinS [uCiba] = uCiba ∧ joinS [uCiba, uDevice] = [99, 105, 98, 97, 32, 100, 101, 118, 105, 99, 101] := ⟨by kernel_rfl, by kernel_rfl, by kernel_rfl, by kernel_rfl⟩
theorem sown_sat {w : World} {B n cp : Nat} {so : Option Addr} {l : List U} (hn : n = l.length) (h : SOwn w B (.slice so n cp) l) : SAt w so n cp l := by
  obtain ⟨a', c', e, hle, _, _⟩ := h.shape
  cases e
  exact ⟨hn, by rw [hn]; exact hle, h.row, h.ty⟩
theorem srow_new1 (w : World) (u : U) : SRow (w.alloc (.cells #[encStr u] 9)) (some ⟨w.heap.size, 0, none⟩) [u] := by
  refine .inr ⟨_, _, rfl, fun i x hi => ?_⟩
  match i, hi with
  | 0, hi => simp at hi; subst hi; simp
end Go.Proofs.YtjehbdekipmllaaGreatDoor
