/- The laws' live: it answers true. -/
import Derived.Test.YtaenccjlokiejaaGreatDoorHParse
import Derived.Test.YtaenccjlokiejaaGreatDoorHReq
namespace Go.Proofs.YtaenccjlokiejaaGreatDoor
open Go.RowKit Go.Shelf

def raw1 : U := [80, 79, 83, 84, 32, 47, 116, 111, 107, 101, 110, 32, 72, 84, 84, 80, 47, 49, 46, 49, 13, 10, 72, 111, 115, 116, 58, 32, 97, 13, 10, 67, 111, 110, 116, 101, 110, 116, 45, 76, 101, 110, 103, 116, 104, 58, 32, 51, 13, 10, 13, 10, 97, 61, 49]
def out1 : U := [80, 79, 83, 84, 32, 47, 116, 111, 107, 101, 110, 32, 72, 84, 84, 80, 47, 49, 46, 49, 13, 10, 104, 111, 115, 116, 58, 32, 97, 13, 10, 99, 111, 110, 116, 101, 110, 116, 45, 108, 101, 110, 103, 116, 104, 58, 32, 51, 13, 10, 13, 10, 97, 61, 49]
def raw2 : U := [71, 69, 84, 32, 47, 32, 72, 84, 84, 80, 47, 49, 46, 49, 13, 10, 65, 32, 98, 13, 10, 13, 10]
def rq1 : Rq := ⟨[80, 79, 83, 84], [47, 116, 111, 107, 101, 110], [([104, 111, 115, 116], [97])], [97, 61, 49]⟩
theorem itoa_three : Lib.itoa 3 = [51] := by
  unfold Lib.itoa
  rw [if_neg (by decide)]
  show Lib.decDigits 3 = [51]
  rw [Lib.decDigits, dif_pos (by decide)]
  rfl
theorem live_one : parseReqR raw1 = .ok rq1 := by rfl
theorem live_two : parseReqR raw2 = .error (153, 16) := by rfl
theorem live_head : headT [80, 79, 83, 84, 32, 47, 116, 111, 107, 101, 110, 32, 72, 84, 84, 80, 47, 49, 46, 49] rq1.fs rq1.b = [80, 79, 83, 84, 32, 47, 116, 111, 107, 101, 110, 32, 72, 84, 84, 80, 47, 49, 46, 49, 13, 10, 104, 111, 115, 116, 58, 32, 97, 13, 10, 99, 111, 110, 116, 101, 110, 116, 45, 108, 101, 110, 103, 116, 104, 58, 32, 51, 13, 10, 13, 10] := by
  unfold headT bodyT
  rw [if_neg (by decide)]
  show _ ++ fieldT (clN, Lib.itoa 3) ++ _ = _
  rw [itoa_three]
  rfl
theorem live_out : printReqR rq1 = .ok out1 := by
  unfold printReqR
  rw [if_pos (by decide), if_pos (by decide)]
  unfold writtenR
  rw [if_neg (by decide), if_pos (by decide)]
  have e : headT (rq1.m ++ [32] ++ rq1.t ++ [32] ++ ver8) rq1.fs rq1.b = [80, 79, 83, 84, 32, 47, 116, 111, 107, 101, 110, 32, 72, 84, 84, 80, 47, 49, 46, 49, 13, 10, 104, 111, 115, 116, 58, 32, 97, 13, 10, 99, 111, 110, 116, 101, 110, 116, 45, 108, 101, 110, 103, 116, 104, 58, 32, 51, 13, 10, 13, 10] := live_head
  rw [e, if_neg (by decide)]
  rfl
set_option maxHeartbeats 2000000 in
set_option maxRecDepth 100000 in
theorem live_any (w : World) (E : Env w) : Calls Tryz.prog 13 #[] w fun e w' => e = .returned (.bool true) ∧ Below w.heap.size w w' := by
  have HP1 := hide (parseRequest_any raw1 w (by decide) E)
  have HP2 := hide (fun W EE => parseRequest_any raw2 W (by decide) EE)
  have HE := hide E
  rw [live_one] at HP1
  rw [live_two] at HP2
  have e1 : str raw1 = (⟨#[80, 79, 83, 84, 32, 47, 116, 111, 107, 101, 110, 32, 72, 84, 84, 80, 47, 49, 46, 49, 13, 10, 72, 111, 115, 116, 58, 32, 97, 13, 10, 67, 111, 110, 116, 101, 110, 116, 45, 76, 101, 110, 103, 116, 104, 58, 32, 51, 13, 10, 13, 10, 97, 61, 49]⟩ : ByteArray) := rfl
  have e2 : str raw2 = (⟨#[71, 69, 84, 32, 47, 32, 72, 84, 84, 80, 47, 49, 46, 49, 13, 10, 65, 32, 98, 13, 10, 13, 10]⟩ : ByteArray) := rfl
  rw [e1] at HP1
  rw [e2] at HP2
  clear e1 e2 E
  go_enter Tryz.func13, Tryz.ntmps13
  go_wp2_with fail
  refine HP1.out.mono ?_
  rintro e w1 ⟨v, rfl, ⟨ho, h64⟩, hb1⟩
  have HB1 := hide hb1
  have HO1 := hide ho
  obtain ⟨ao, cap, hv, _, _, _⟩ := ho.shape
  have hv : v = .slice ao 1 cap := hv
  subst hv
  rw [show pqV (.slice ao 1 cap) (.ok rq1) = .tuple #[.agg #[.string (str rq1.m), .string (str rq1.t), .slice ao 1 cap, .string (str rq1.b)], .int .i64 0, .int .i64 0] from rfl]
  clear ho h64 hb1 HP1
  go_upto_region 3 with fail
  have HR1 : Hid (RqB (w1.alloc (.cells #[.string (str rq1.m), .string (str rq1.t), .slice ao 1 cap, .string (str rq1.b)] 27)) w1.heap.size (.string (str rq1.m)) (.string (str rq1.t)) (.slice ao 1 cap) (.string (str rq1.b))) := new_at w1 _ _ rfl
  have HB2 := hide (HB1.out.alloc HB1.out.size (.cells #[.string (str rq1.m), .string (str rq1.t), .slice ao 1 cap, .string (str rq1.b)] 27))
  have HO2 := hide (HO1.out.keep (below_new w1 (.cells #[.string (str rq1.m), .string (str rq1.t), .slice ao 1 cap, .string (str rq1.b)] 27)))
  generalize hbq : w1.heap.size = bq at *
  generalize w1.alloc (.cells #[.string (str rq1.m), .string (str rq1.t), .slice ao 1 cap, .string (str rq1.b)] 27) = w2 at *
  obtain ⟨c0, c1, c2, c3⟩ := HR1.out.cells
  have hrow : FRow w2 ao rq1.fs := by
    obtain ⟨ao', cap', e, _, hr, _⟩ := HO2.out.shape
    cases e; exact hr
  have HPR := hide (printRequest_any rq1 ao 1 cap w2 rfl hrow (by decide) (by decide) (by decide) (by intro f hf; simp [rq1] at hf; subst hf; decide) (by decide) (HE.out.keep HB2.out))
  rw [live_out] at HPR
  unfold qAgg at HPR
  clear hrow HB1 HO1
  go_wp2_with fail
  refine HPR.out.mono ?_
  rintro e w3 ⟨rfl, hb3⟩
  have HB3 := hide (HB2.out.trans (hb3.mono HB2.out.size))
  have HR3 := hide (HR1.out.keep hb3)
  rw [show wAns (.ok out1) = .tuple #[.string ⟨#[80, 79, 83, 84, 32, 47, 116, 111, 107, 101, 110, 32, 72, 84, 84, 80, 47, 49, 46, 49, 13, 10, 104, 111, 115, 116, 58, 32, 97, 13, 10, 99, 111, 110, 116, 101, 110, 116, 45, 108, 101, 110, 103, 116, 104, 58, 32, 51, 13, 10, 13, 10, 97, 61, 49]⟩, .int .i64 0] from rfl]
  have HQ2 := hide (HP2.out w3 (HE.out.keep HB3.out))
  clear hb3 HB2 HR1 HPR c0 c1 c2 c3 HP2 HO2
  go_wp2_with fail
  refine HQ2.out.mono ?_
  rintro e w4 ⟨v, rfl, -, hb4⟩
  have HB4 := hide (HB3.out.trans (hb4.mono HB3.out.size))
  have HR4 := hide (HR3.out.keep hb4)
  rw [show pqV v (.error (153, 16)) = .tuple #[.agg #[.string { data := #[] }, .string { data := #[] }, .slice none 0 0, .string { data := #[] }], .int .i64 153, .int .i64 16] from rfl]
  clear hb4 HB3 HR3 HQ2
  go_upto_region 5 with fail
  have HB5 := hide (HB4.out.alloc HB4.out.size (.cells #[.string { data := #[] }, .string { data := #[] }, .slice none 0 0, .string { data := #[] }] 27))
  have HR5 := hide (HR4.out.keep (below_new w4 (.cells #[.string { data := #[] }, .string { data := #[] }, .slice none 0 0, .string { data := #[] }] 27)))
  generalize w4.alloc (.cells #[.string { data := #[] }, .string { data := #[] }, .slice none 0 0, .string { data := #[] }] 27) = w5 at *
  obtain ⟨c0, c1, c2, c3⟩ := HR5.out.cells
  have em : str rq1.m = (⟨#[80, 79, 83, 84]⟩ : ByteArray) := rfl
  have eb : str rq1.b = (⟨#[97, 61, 49]⟩ : ByteArray) := rfl
  rw [em] at c0
  rw [eb] at c3
  clear em eb
  go_wp2_with (first | (go_at_call 12; refine (num_any _ _).mono ?_; rintro e w' ⟨rfl, rfl⟩) | fail)
  go_ret
  exact ⟨rfl, HB5.out⟩
end Go.Proofs.YtaenccjlokiejaaGreatDoor
