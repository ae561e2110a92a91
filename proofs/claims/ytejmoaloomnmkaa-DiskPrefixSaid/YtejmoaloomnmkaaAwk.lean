/-
  A DISK THAT IS AWAKE: the page's example.
-/
import Derived.Test.YtejmoaloomnmkaaSure
namespace Go.Proofs.Ytejmoaloomnmkaa
open Go.RowKit
theorem readV_up {S : St} {s : Nm} {l : List UInt8} (hd : S.down = false) (hn : nameB s = true) (hg : get S.now s = some l) : readV S s = (str l, 0) := by
  unfold readV
  rw [hd, if_neg (by decide), if_pos hn, hg]
theorem readV_down {S : St} (s : Nm) (hd : S.down = true) : readV S s = (str [], 8) := by
  unfold readV
  rw [hd, if_pos rfl]
def nA : Nm := ⟨#[97]⟩
theorem nameA : nameB nA = true := by decide +kernel
section
variable (s1 s3 : Nm) (n2 : Nat)
/-- behind the first Put, the Sync, the second Put -/
def aw1 : St := { st0 with row := st0.row ++ [.put nA 0 s1], now := (Chg.put nA 0 s1).doF st0.now, calls := st0.calls + 1 }
def aw2 : St := { aw1 s1 with sure := doAll (aw1 s1).sure (aw1 s1).row, row := [], calls := (aw1 s1).calls + 1 }
def aw3 : St := { aw2 s1 with row := (aw2 s1).row ++ [.put nA n2 s3], now := (Chg.put nA n2 s3).doF (aw2 s1).now, calls := (aw2 s1).calls + 1 }
end
def sXyz : Nm := ⟨#[120, 121, 122]⟩
def sUvw : Nm := ⟨#[117, 118, 119]⟩
theorem aw_end : get (keepF (aw3 sXyz sUvw 3).sure (aw3 sXyz sUvw 3).row (atLeast 3 0)) nA = some [120, 121, 122, 117, 118] := by decide +kernel
set_option maxHeartbeats 1000000 in
theorem awake_any (w : World) : Calls Try.prog 8 #[] w fun e w' => e = .returned (.bool true) ∧ Below w.heap.size w w' := by
  go_enter Try.func8, Try.ntmps8
  go_wp2_with fail
  refine (newd _).mono ?_
  rintro e w1 ⟨D, rfl, d1, b1⟩
  have C1 := Lib.hid (putd (n := 0) nA sXyz d1 ok0 (by decide) rfl rfl (by decide) nameA (Nat.zero_le _) (by decide))
  have B1 := Lib.hid b1
  clear d1 b1
  unfold nA sXyz at C1
  go_wp2_with fail
  refine C1.out.mono ?_
  rintro e w2 ⟨rfl, d2, o2, b2⟩
  have C2 := Lib.hid (syncd d2 o2 (by decide) rfl rfl)
  have B2 := Lib.hid (B1.out.trans b2)
  clear d2 o2 b2 C1 B1
  go_wp2_with fail
  refine C2.out.mono ?_
  rintro e w3 ⟨rfl, d3, o3, b3⟩
  have C3 := Lib.hid (putd (S := aw2 sXyz) (n := 3) nA sUvw d3 o3 (by decide) rfl rfl (by decide) nameA (by decide +kernel) (by decide))
  have B3 := Lib.hid (B2.out.trans b3)
  clear d3 o3 b3 C2 B2
  unfold nA sUvw at C3
  go_wp2_with fail
  refine C3.out.mono ?_
  rintro e w4 ⟨rfl, d4, o4, b4⟩
  have C4 := Lib.hid (faild (S := aw3 sXyz sUvw 3) 3 d4 o4 (by decide) (by decide))
  have B4 := Lib.hid (B3.out.trans b4)
  clear d4 o4 b4 C3 B3
  go_wp2_with fail
  refine C4.out.mono ?_
  rintro e w5 ⟨rfl, S5, d5, o5, hdn, _, hup, b5⟩
  obtain ⟨N, hS, hA⟩ := hup rfl
  have hg : get S5.now nA = some [120, 121, 122, 117, 118] := by rw [hS]; exact (hA nA).trans aw_end
  have C5 := Lib.hid (readd d5 nA (by decide))
  rw [readV_down nA hdn] at C5
  have C6 := Lib.hid (waked d5 o5)
  have B5 := Lib.hid (B4.out.trans b5)
  have HG := Lib.hid hg
  clear d5 o5 hdn hup hS hA hg b5 C4 B4
  unfold nA at C5
  go_wp2_with fail
  refine C5.out.mono ?_
  rintro e w6 ⟨rfl, rfl⟩
  go_wp2_with fail
  refine C6.out.mono ?_
  rintro e w7 ⟨rfl, d7, o7, b7⟩
  have C7 := Lib.hid (readd d7 nA (by decide))
  rw [readV_up (S := { S5 with down := false }) rfl nameA HG.out] at C7
  have B7 := Lib.hid (B5.out.trans b7)
  clear d7 o7 b7 C5 C6 B5
  unfold nA str at C7
  go_wp2_with fail
  refine C7.out.mono ?_
  rintro e w8 ⟨rfl, rfl⟩
  go_wp2_with fail
  first | go_ret | go_ret2
  exact ⟨rfl, B7.out⟩
end Go.Proofs.Ytejmoaloomnmkaa
