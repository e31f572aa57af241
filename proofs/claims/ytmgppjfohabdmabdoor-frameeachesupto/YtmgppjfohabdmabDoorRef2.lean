/- The contracts of the reference's four, number, sum. -/
import Derived.Test.YtmgppjfohabdmabDoorRef1
import Derived.Test.YtmgppjfohabdmabDoorSeal
namespace Go.Proofs.YtmgppjfohabdmabDoor
open Go.RowKit

def fourTo (v k : Nat) : List Nat := (List.range k).map (byteAt v)
theorem fourTo_four (v : Nat) : fourTo v 4 = four v := rfl
theorem fourTo_succ (v k : Nat) : fourTo v (k + 1) = fourTo v k ++ [byteAt v k] := by simp [fourTo, List.range_succ]
set_option maxHeartbeats 400000 in
set_option maxRecDepth 100000 in
theorem four_any (v : Nat) (w : World) (hv : v < 4294967296) :
    Calls Tryd.prog 40 #[.int .u32 (v : Int)] w fun e w' => ∃ ro rc, e = .returned (.slice ro 4 rc) ∧ Hid (Made w w' ro 4 rc (four v)) := by
  go_enter Tryd.func40, Tryd.ntmps40
  go_wp2
  go_loopw [0, 3, 4] (fun u l i wr => ∃ k : Nat, k ≤ 4 ∧ i = .int .i64 k ∧ u = .int .u32 ((v / 256 ^ k : Nat) : Int) ∧ Hid (Own wr w.heap.size l (fourTo v k) ∧ Below w.heap.size w wr)) (fun _ _ i _ => 4 - (intOf i).toNat)
  case atStart => exact ⟨0, Nat.zero_le _, rfl, by simp, World.ownsRow_nil _ _ _ _, Below.refl _ _⟩
  case round =>
    obtain ⟨k, hk, rfl, rfl, HO⟩ := hrel
    have hsz := HO.out.2.size
    by_cases hlt : k < 4
    · have hq : v / 256 ^ k < 4294967296 := Nat.lt_of_le_of_lt (Nat.div_le_self _ _) hv
      have HQ : Hid (v / 256 ^ (k + 1) = v / 256 ^ k / 256) := by show _ = _; rw [Nat.pow_succ, Nat.div_div_eq_div_mul]
      have HB : Hid (byteAt v k = v / 256 ^ k % 256) := rfl
      generalize v / 256 ^ k = q at *
      obtain ⟨b, hb0⟩ : ∃ b, b = q % 256 := ⟨_, rfl⟩
      have hb : (q : Int) % 256 = (b : Int) := by omega
      have hb2 : (b : Int) < 256 := by omega
      have HBB : Hid (b = byteAt v k) := by show _ = _; rw [HB.out]; exact hb0
      clear hb0
      go_wp2_with (first | (at_builtin; refine wpList_append_bytes rfl _ _ rfl w.heap.size _ (fourTo v k) rfl (HO.out.1.alloc _) (some ⟨wr.heap.size, 0, none⟩) 1 1 [b] rfl rfl (row_one _ _) ?hszz ?hBB ?_) | fail)
      case hszz => simp [fourTo]; omega
      case hBB => simp; omega
      rintro v2 w2 hown2 hgr2
      have HO2 : Hid (Own w2 w.heap.size v2 (fourTo v (k + 1)) ∧ Below w.heap.size w w2) := ⟨by rw [fourTo_succ, ← HBB.out]; exact hown2, (HO.out.2.alloc hsz _).grown hgr2 (by simp; omega) HO.out.1.ge⟩
      clear hown2 hgr2 HO
      go_wp2
      go_roundw
      case rel => exact ⟨k + 1, by omega, by go_num, by rw [HQ.out]; go_num, HO2⟩
      case measure => simp [intOf]; omega
    · obtain rfl : k = 4 := by omega
      obtain ⟨ro, rc, hl, hmd⟩ := made_of HO.out.1 HO.out.2
      go_wp2
      go_ret
      exact ⟨ro, rc, by rw [hl]; rfl, hmd⟩

/-- The number of the bytes from place i on. -/
def numFrom (xs : List Nat) : Nat → Nat
  | 0 => 0
  | k + 1 => numFrom xs k * 256 + xs.getD (3 - k) 0
theorem numFrom_four (xs : List Nat) : numFrom xs 4 = num4 xs := by simp only [numFrom, num4, Nat.reduceSub, Nat.sub_zero, Nat.sub_self]; omega
theorem numFrom_lt {xs : List Nat} (h : ∀ x ∈ xs, x < 256) : ∀ k, k ≤ 3 → numFrom xs k < 16777216 := by
  intro k hk
  have h0 := lt_get h 0
  have h1 := lt_get h 1
  have h2 := lt_get h 2
  have h3 := lt_get h 3
  rcases (show k = 0 ∨ k = 1 ∨ k = 2 ∨ k = 3 by omega) with rfl | rfl | rfl | rfl <;> simp only [numFrom, Nat.reduceSub, Nat.sub_zero] <;> omega
set_option maxHeartbeats 400000 in
set_option maxRecDepth 100000 in
theorem number_any (n cap b off : Nat) (xs : List Nat) (w : World) (h4 : 4 ≤ xs.length) (hn : n = xs.length) (hl : xs.length ≤ 140737488351232) (hx : ∀ x ∈ xs, x < 256) (hr : Row w (some ⟨b, off, none⟩) xs) :
    Calls Tryd.prog 35 #[.slice (some ⟨b, off, none⟩) n cap] w fun e w' => e = .returned (.int .u32 ((num4 xs : Nat) : Int)) ∧ w' = w := by
  have HX : Hid (∀ x ∈ xs, x < 256) := hx
  have HR : Hid (Row w (some ⟨b, off, none⟩) xs) := hr
  have HN : Hid (n = xs.length) := hn
  have h4n : 4 ≤ n := by omega
  have hnl : n ≤ 140737488351232 := by omega
  clear hx hr hn
  go_enter Tryd.func35, Tryd.ntmps35
  go_wp2
  go_loop [3, 4] (fun v i => ∃ k : Nat, k ≤ 4 ∧ i = .int .i64 (3 - (k : Int)) ∧ v = .int .u32 ((numFrom xs k : Nat) : Int)) (fun _ i => (1 + intOf i).toNat)
  case atStart => exact ⟨0, Nat.zero_le _, rfl, rfl⟩
  case round =>
    obtain ⟨k, hk, rfl, rfl⟩ := hrel
    by_cases hlt : k < 4
    · have hq := numFrom_lt HX.out k (by omega)
      have hc := HR.out.cell (3 - k) (by omega)
      have hg := lt_get HX.out (3 - k)
      have HS : Hid (numFrom xs (k + 1) = numFrom xs k * 256 + xs.getD (3 - k) 0) := rfl
      generalize numFrom xs k = q at *
      generalize xs.getD (3 - k) 0 = x at *
      rcases (show k = 0 ∨ k = 1 ∨ k = 2 ∨ k = 3 by omega) with rfl | rfl | rfl | rfl
      · simp only [Nat.sub_zero] at hc
        go_wp2
        go_round
        case rel => exact ⟨1, by omega, rfl, by rw [HS.out]; go_num⟩
        case measure => simp [intOf]
      · simp only [Nat.reduceSub] at hc
        go_wp2
        go_round
        case rel => exact ⟨2, by omega, rfl, by rw [HS.out]; go_num⟩
        case measure => simp [intOf]
      · simp only [Nat.reduceSub] at hc
        go_wp2
        go_round
        case rel => exact ⟨3, by omega, rfl, by rw [HS.out]; go_num⟩
        case measure => simp [intOf]
      · simp only [Nat.sub_self, Nat.add_zero] at hc
        go_wp2
        go_round
        case rel => exact ⟨4, by omega, rfl, by rw [HS.out]; go_num⟩
        case measure => simp [intOf]
    · obtain rfl : k = 4 := by omega
      have HF : Hid (numFrom xs 4 = num4 xs) := numFrom_four xs
      go_wp2
      go_ret
      exact ⟨by rw [← HF.out]; rfl, rfl⟩

theorem refCrc_n (n cap : Nat) (ao : Option Addr) (xs : List Nat) (w : World) (hn : n = xs.length) (hl : n ≤ 140737488351232) (hx : ∀ x ∈ xs, x < 256) (hr : Row w ao xs) :
    Calls Tryd.prog 39 #[.slice ao n cap] w fun e w' => e = .returned (.int .u32 ((crcOn 0 xs : Nat) : Int)) ∧ w' = w := by
  subst hn; exact refCrc_any cap ao xs w hl hx hr
theorem refCrcOn_n (c n cap : Nat) (ao : Option Addr) (xs : List Nat) (w : World) (hc : c < 4294967296) (hn : n = xs.length) (hl : n ≤ 140737488351232) (hx : ∀ x ∈ xs, x < 256) (hr : Row w ao xs) :
    Calls Tryd.prog 41 #[.int .u32 (c : Int), .slice ao n cap] w fun e w' => e = .returned (.int .u32 ((crcOn c xs : Nat) : Int)) ∧ w' = w := by
  subst hn; exact refCrcOn_any c cap ao xs w hc hl hx hr
theorem fsumOf_steps (kind : Nat) (load : List Nat) (hk : kind < 256) : crcOn (crcOn (crcOn 0 (four load.length)) [kind]) load = fsumOf kind load := by
  rw [crcOn_append _ [kind] load (by simpa using hk)]
  rfl
theorem fsumOf_lt (kind : Nat) (load : List Nat) : fsumOf kind load < 4294967296 := crcOn_lt _ _
set_option maxHeartbeats 400000 in
set_option maxRecDepth 100000 in
theorem sum_any (kind n cap : Nat) (ao : Option Addr) (xs : List Nat) (w : World) (hk : kind < 256) (hn : n = xs.length) (hl : n ≤ 2097152) (hx : ∀ x ∈ xs, x < 256) (hr : Row w ao xs) :
    Calls Tryd.prog 37 #[.int .u8 (kind : Int), .slice ao n cap] w fun e w' => e = .returned (.int .u32 ((fsumOf kind xs : Nat) : Int)) ∧ Hid (Below w.heap.size w w') := by
  have HX : Hid (∀ x ∈ xs, x < 256) := hx
  have HR : Hid (Row w ao xs) := hr
  have HN : Hid (n = xs.length) := hn
  have HS : Hid (crcOn (crcOn (crcOn 0 (four n)) [kind]) xs = fsumOf kind xs) := by show _ = _; rw [hn]; exact fsumOf_steps kind xs hk
  clear hx hr hn
  go_enter Tryd.func37, Tryd.ntmps37
  go_wp2_with fail
  refine (four_any n w (by omega)).mono ?_
  rintro e w1 ⟨ro, rc, rfl, h1⟩
  have HL1 : Hid (Below w.heap.size w w1) := h1.out.2.2.2.2
  have hs1 := HL1.out.size
  have hle1 := h1.out.2.1
  have HR1 : Hid (Row w1 ro (four n)) := h1.out.2.2.1
  clear h1
  go_wp2_with fail
  refine (refCrc_n 4 rc ro (four n) _ rfl (by decide) (four_lt _) HR1.out).mono ?_
  rintro e w2 ⟨rfl, rfl⟩
  go_wp2_with fail
  refine (refCrcOn_n _ 1 1 _ [kind] _ (crcOn_lt _ _) rfl (by decide) (by simpa using hk) (by exact row_one _ _)).mono ?_
  rintro e w3 ⟨rfl, rfl⟩
  go_wp2_with fail
  refine (refCrcOn_n _ n cap ao xs _ (crcOn_lt _ _) HN.out (by omega) HX.out (by exact (HR.out.keep HL1.out).keep ((Below.refl _ _).alloc (Nat.le_refl _) _))).mono ?_
  rintro e w4 ⟨rfl, rfl⟩
  go_wp2
  go_ret
  exact ⟨by rw [← HS.out]; rfl, HL1.out.alloc hs1 _⟩

end Go.Proofs.YtmgppjfohabdmabDoor
