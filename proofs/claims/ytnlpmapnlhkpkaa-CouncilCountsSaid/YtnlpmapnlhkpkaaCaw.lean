/-
  awake, and the laws of the counts, the nearness, the growing.
-/
import Derived.Test.YtnlpmapnlhkpkaaCre
namespace Go.Proofs.Ytnlpmapnlhkpkaa
open Go.RowKit
theorem ex1 : enoughB 7 3 = true := by decide +kernel
theorem ex2 : enoughB 7 4 = false := by decide +kernel
theorem ex3 : nearB 3 7 = true := by decide +kernel
theorem ex4 : nearB 3 5 = false := by decide +kernel
theorem ex5 : reachedP (kn 7) (fun i => [5, 1, 3, 0, 0, 0, 0].getD i 0) = 3 := by rw [← best_reached]; decide +kernel
theorem ex6 : (ndL (kn 6)).length = 2 := by decide +kernel
set_option maxHeartbeats 1000000 in
theorem awake_any (w : World) : Calls Try.prog 12 #[] w fun e w' => e = .returned (.bool true) ∧ Below w.heap.size w w' := by
  have A := Lib.hid ex1
  have B := Lib.hid ex2
  have C := Lib.hid ex3
  have D := Lib.hid ex4
  have E := Lib.hid ex5
  have F := Lib.hid ex6
  go_enter Try.func12, Try.ntmps12
  go_wp2_with fail
  refine (enough_any _ _ _).mono ?_
  rintro e w1 ⟨rfl, rfl⟩
  rw [A.out]
  go_wp2_with fail
  refine (enough_any _ _ _).mono ?_
  rintro e w1 ⟨rfl, rfl⟩
  rw [B.out]
  go_wp2_with fail
  refine (near_any _ _ _).mono ?_
  rintro e w1 ⟨rfl, rfl⟩
  rw [C.out]
  go_wp2_with fail
  refine (near_any _ _ _).mono ?_
  rintro e w1 ⟨rfl, rfl⟩
  rw [D.out]
  go_wp2_with fail
  refine (reached_any _ _ _ _ _ _ _ _ _).mono ?_
  rintro e w1 ⟨rfl, b1⟩
  rw [E.out]
  have B1 := Lib.hid b1
  clear b1
  go_wp2_with fail
  refine (nodes_any _ _).mono ?_
  rintro e w2 ⟨v, rfl, ho, hb⟩
  obtain ⟨a, c, rfl, _, _⟩ := ho.ints
  rw [F.out]
  have B2 := Lib.hid (B1.out.trans (hb.mono B1.out.size))
  clear ho hb
  go_wp2_with fail
  go_ret
  exact ⟨rfl, B2.out⟩
end Go.Proofs.Ytnlpmapnlhkpkaa
