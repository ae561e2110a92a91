/-
  WHAT THE ROWS REST ON, part 19: Rst Rhd Rzs.
-/
import Derived.BigQuiet
import Derived.Lib.QuietBelow
import Derived.Test.YtkajadkmdcalmaaGreatDoorPart18
/-
  THE DOCUMENT's OWN Stands AND Holds.
-/
namespace Go.Proofs.YtkajadkmdcalmaaGreatDoor
open Go.RowKit
theorem drewN_below {B : Nat} {a w : World} (h : Below B a w) (n : Nat) : Below B a (w.drewN n) := ⟨h.os, h.tape, h.output, h.size, h.block⟩
theorem mixed : Tryz.prog.follows .mixedOrders = true := by kernel_rfl
theorem same_below {P : Program} {f : FuncId} {args : Array Value} {w : World} {X : Ending} (h : Calls P f args w fun r w' => r = X ∧ w = w') : Calls P f args w fun r w' => r = X ∧ Below w.heap.size w w' :=
  h.mono (by rintro r w' ⟨rfl, rfl⟩; exact ⟨rfl, Below.refl _ _⟩)
theorem ret_i64' {a b : Int} (h : a = b) : Ending.returned (.int .i64 a) = .returned (.int .i64 b) := by rw [h]
set_option maxHeartbeats 1000000 in
theorem rstands_11 (an bn : Int) (af bf : Nat) (sa sb : ByteArray) (_ha0 : -9223372036854775808 ≤ an) (_ha1 : an ≤ 9223372036854775807) (_hb0 : -9223372036854775808 ≤ bn) (_hb1 : bn ≤ 9223372036854775807) (_haf : af < 18446744073709551616) (_hbf : bf < 18446744073709551616) (w : World) :
    Calls Tryz.prog 50 #[.agg #[.int .i64 1, .int .i64 an, .float .f64 af, .string sa], .agg #[.int .i64 1, .int .i64 bn, .float .f64 bf, .string sb]] w fun e w' => e = .returned (.int .i64 (sdI (trI an bn))) ∧ Below w.heap.size w w' := by
  obtain ⟨w2, hw2, B2, A2, C2⟩ := boxed w ⟨1, an, af, sa⟩ ⟨1, bn, bf, sb⟩ 78 78
  have W2 := Lib.hid hw2
  have B2h := Lib.hid B2
  have hbx := run_bits af
  have hby := run_bits bf
  obtain ⟨a0, a1, a2, a3, la⟩ := A2
  obtain ⟨b0, b1, b2, b3, lb⟩ := C2
  simp only at a0 a1 a2 a3 b0 b1 b2 b3
  clear hw2 B2
  generalize hy : w.heap.size = Y at *
  go_enter Tryz.func50, Tryz.ntmps50
  go_wp2_with fail
  rw [← W2.out]
  go_quiet (fail)
  go_wp2_with fail
  go_quiet (fail)
  go_wp2_with fail
  all_goals go_ret
  all_goals exact ⟨ret_i64' (by unfold sdI trI; (repeat' split) <;> first | rfl | omega), drewN_below (drewN_below B2h.out _) _⟩
set_option maxHeartbeats 1000000 in
theorem rstands_12 (an bn : Int) (af bf : Nat) (sa sb : ByteArray) (ha0 : -9223372036854775808 ≤ an) (ha1 : an ≤ 9223372036854775807) (_hb0 : -9223372036854775808 ≤ bn) (_hb1 : bn ≤ 9223372036854775807) (_haf : af < 18446744073709551616) (hbf : bf < 18446744073709551616) (w : World) :
    Calls Tryz.prog 50 #[.agg #[.int .i64 1, .int .i64 an, .float .f64 af, .string sa], .agg #[.int .i64 2, .int .i64 bn, .float .f64 bf, .string sb]] w fun e w' => e = .returned (.int .i64 (sdI (mxI an bf))) ∧ Below w.heap.size w w' := by
  obtain ⟨w2, hw2, B2, A2, C2⟩ := boxed w ⟨1, an, af, sa⟩ ⟨2, bn, bf, sb⟩ 78 78
  have W2 := Lib.hid hw2
  have B2h := Lib.hid B2
  have hbx := run_bits af
  have hby := run_bits bf
  obtain ⟨a0, a1, a2, a3, la⟩ := A2
  obtain ⟨b0, b1, b2, b3, lb⟩ := C2
  simp only at a0 a1 a2 a3 b0 b1 b2 b3
  clear hw2 B2
  generalize hy : w.heap.size = Y at *
  have NA := nan_any bf hbf
  have LS := rless_any an bf ha0 ha1 hbf
  have MR := rmore_any an bf ha0 ha1 hbf
  unfold mxI
  by_cases na : isNan bf = true
  · rw [if_pos na]
    rw [na] at NA
    clear na
    go_enter Tryz.func50, Tryz.ntmps50
    go_wp2_with fail
    rw [← W2.out]
    go_quiet (fail)
    go_wp2_with fail
    refine (NA _).mono ?_
    rintro e w3 ⟨rfl, rfl⟩
    go_wp2_with fail
    all_goals go_ret
    all_goals exact ⟨rfl, drewN_below B2h.out _⟩
  rw [if_neg na]
  have na' : isNan bf = false := by simpa using na
  rw [na'] at NA
  have R := Lib.hid (weakP.irr (wk an, an - wholeV an) (rkey bf, 0))
  change ∀ w, Calls Tryz.prog 81 #[.int .i64 an, .float .f64 bf] w fun e w' => e = .returned (.bool (ltP (wk an, an - wholeV an) (rkey bf, 0))) ∧ w = w' at LS
  change ∀ w, Calls Tryz.prog 82 #[.int .i64 an, .float .f64 bf] w fun e w' => e = .returned (.bool (ltP (rkey bf, 0) (wk an, an - wholeV an))) ∧ w = w' at MR
  generalize ltP (wk an, an - wholeV an) (rkey bf, 0) = p at *
  generalize ltP (rkey bf, 0) (wk an, an - wholeV an) = q at *
  have LS' := Lib.hid (fun w => same_below (LS w))
  have MR' := Lib.hid (fun w => same_below (MR w))
  clear na na' LS MR
  have R' := R.out
  clear R
  cases p <;> cases q
  case true.true => exact absurd (R' rfl) (by decide)
  all_goals clear R'
  all_goals
    go_enter Tryz.func50, Tryz.ntmps50
    go_wp2_with fail
    rw [← W2.out]
    go_quiet (fail)
    go_wp2_with fail
    refine (NA _).mono ?_
    rintro e w3 ⟨rfl, rfl⟩
    go_wp2_with fail
    have x1 := fun d os => cell_regrown (w := w2.drewN nq) a1 d os
    have x2 := fun d os => cell_regrown (w := w2.drewN nq) b2 d os
    have C1 := Lib.hid (fun d os => Calls.regrown_of (d := d) (os := os) (LS'.out (Go.Sort.grow (redrawn (w2.drewN nq) d) os)))
    have C2 := Lib.hid (fun d os => Calls.regrown_of (d := d) (os := os) (MR'.out (Go.Sort.grow (redrawn (w2.drewN nq) d) os)))
    refine wp_region_quiet_below mixed (by kernel_rfl) ?_
    repeat (quiet_step (first | (with_reducible exact C1.out _ _) | (with_reducible exact C2.out _ _)))
    refine wpQuiet_nil ?_
    intro _ hw'
    obtain ⟨⟨dq, osq⟩, hw''⟩ := hw'
    subst hw''
    go_wp2_with fail
    go_ret
    exact ⟨rfl, (drewN_below B2h.out nq).trans ((below_regrown _ dq osq).mono (by have := B2h.out.size; show Y ≤ w2.heap.size; omega))⟩
set_option maxHeartbeats 1000000 in
theorem rstands_13 (an bn : Int) (af bf : Nat) (sa sb : ByteArray) (_ha0 : -9223372036854775808 ≤ an) (_ha1 : an ≤ 9223372036854775807) (_hb0 : -9223372036854775808 ≤ bn) (_hb1 : bn ≤ 9223372036854775807) (_haf : af < 18446744073709551616) (_hbf : bf < 18446744073709551616) (w : World) :
    Calls Tryz.prog 50 #[.agg #[.int .i64 1, .int .i64 an, .float .f64 af, .string sa], .agg #[.int .i64 3, .int .i64 bn, .float .f64 bf, .string sb]] w fun e w' => e = .returned (.int .i64 (2)) ∧ Below w.heap.size w w' := by
  obtain ⟨w2, hw2, B2, A2, C2⟩ := boxed w ⟨1, an, af, sa⟩ ⟨3, bn, bf, sb⟩ 78 78
  have W2 := Lib.hid hw2
  have B2h := Lib.hid B2
  have hbx := run_bits af
  have hby := run_bits bf
  obtain ⟨a0, a1, a2, a3, la⟩ := A2
  obtain ⟨b0, b1, b2, b3, lb⟩ := C2
  simp only at a0 a1 a2 a3 b0 b1 b2 b3
  clear hw2 B2
  generalize hy : w.heap.size = Y at *
  go_enter Tryz.func50, Tryz.ntmps50
  go_wp2_with fail
  rw [← W2.out]
  go_quiet (fail)
  go_wp2_with fail
  all_goals go_ret
  all_goals exact ⟨rfl, drewN_below B2h.out _⟩
set_option maxHeartbeats 1000000 in
theorem rstands_21 (an bn : Int) (af bf : Nat) (sa sb : ByteArray) (_ha0 : -9223372036854775808 ≤ an) (_ha1 : an ≤ 9223372036854775807) (hb0 : -9223372036854775808 ≤ bn) (hb1 : bn ≤ 9223372036854775807) (haf : af < 18446744073709551616) (_hbf : bf < 18446744073709551616) (w : World) :
    Calls Tryz.prog 50 #[.agg #[.int .i64 2, .int .i64 an, .float .f64 af, .string sa], .agg #[.int .i64 1, .int .i64 bn, .float .f64 bf, .string sb]] w fun e w' => e = .returned (.int .i64 (sdI (tnI (mxI bn af)))) ∧ Below w.heap.size w w' := by
  obtain ⟨w2, hw2, B2, A2, C2⟩ := boxed w ⟨2, an, af, sa⟩ ⟨1, bn, bf, sb⟩ 78 78
  have W2 := Lib.hid hw2
  have B2h := Lib.hid B2
  have hbx := run_bits af
  have hby := run_bits bf
  obtain ⟨a0, a1, a2, a3, la⟩ := A2
  obtain ⟨b0, b1, b2, b3, lb⟩ := C2
  simp only at a0 a1 a2 a3 b0 b1 b2 b3
  clear hw2 B2
  generalize hy : w.heap.size = Y at *
  have NA := nan_any af haf
  have LS := rless_any bn af hb0 hb1 haf
  have MR := rmore_any bn af hb0 hb1 haf
  unfold mxI
  by_cases na : isNan af = true
  · rw [if_pos na]
    rw [na] at NA
    clear na
    go_enter Tryz.func50, Tryz.ntmps50
    go_wp2_with fail
    rw [← W2.out]
    go_quiet (fail)
    go_wp2_with fail
    refine (NA _).mono ?_
    rintro e w3 ⟨rfl, rfl⟩
    go_wp2_with fail
    all_goals go_ret
    all_goals exact ⟨rfl, drewN_below B2h.out _⟩
  rw [if_neg na]
  have na' : isNan af = false := by simpa using na
  rw [na'] at NA
  have R := Lib.hid (weakP.irr (wk bn, bn - wholeV bn) (rkey af, 0))
  change ∀ w, Calls Tryz.prog 81 #[.int .i64 bn, .float .f64 af] w fun e w' => e = .returned (.bool (ltP (wk bn, bn - wholeV bn) (rkey af, 0))) ∧ w = w' at LS
  change ∀ w, Calls Tryz.prog 82 #[.int .i64 bn, .float .f64 af] w fun e w' => e = .returned (.bool (ltP (rkey af, 0) (wk bn, bn - wholeV bn))) ∧ w = w' at MR
  generalize ltP (wk bn, bn - wholeV bn) (rkey af, 0) = p at *
  generalize ltP (rkey af, 0) (wk bn, bn - wholeV bn) = q at *
  have LS' := Lib.hid (fun w => same_below (LS w))
  have MR' := Lib.hid (fun w => same_below (MR w))
  clear na na' LS MR
  have R' := R.out
  clear R
  cases p <;> cases q
  case true.true => exact absurd (R' rfl) (by decide)
  all_goals clear R'
  all_goals
    go_enter Tryz.func50, Tryz.ntmps50
    go_wp2_with fail
    rw [← W2.out]
    go_quiet (fail)
    go_wp2_with fail
    refine (NA _).mono ?_
    rintro e w3 ⟨rfl, rfl⟩
    go_wp2_with fail
    have x1 := fun d os => cell_regrown (w := w2.drewN nq) b1 d os
    have x2 := fun d os => cell_regrown (w := w2.drewN nq) a2 d os
    have C1 := Lib.hid (fun d os => Calls.regrown_of (d := d) (os := os) (LS'.out (Go.Sort.grow (redrawn (w2.drewN nq) d) os)))
    have C2 := Lib.hid (fun d os => Calls.regrown_of (d := d) (os := os) (MR'.out (Go.Sort.grow (redrawn (w2.drewN nq) d) os)))
    refine wp_region_quiet_below mixed (by kernel_rfl) ?_
    repeat (quiet_step (first | (with_reducible exact C1.out _ _) | (with_reducible exact C2.out _ _)))
    refine wpQuiet_nil ?_
    intro _ hw'
    obtain ⟨⟨dq, osq⟩, hw''⟩ := hw'
    subst hw''
    go_wp2_with fail
    go_ret
    exact ⟨rfl, (drewN_below B2h.out nq).trans ((below_regrown _ dq osq).mono (by have := B2h.out.size; show Y ≤ w2.heap.size; omega))⟩
set_option maxHeartbeats 1000000 in
theorem rstands_22 (an bn : Int) (af bf : Nat) (sa sb : ByteArray) (_ha0 : -9223372036854775808 ≤ an) (_ha1 : an ≤ 9223372036854775807) (_hb0 : -9223372036854775808 ≤ bn) (_hb1 : bn ≤ 9223372036854775807) (haf : af < 18446744073709551616) (hbf : bf < 18446744073709551616) (w : World) :
    Calls Tryz.prog 50 #[.agg #[.int .i64 2, .int .i64 an, .float .f64 af, .string sa], .agg #[.int .i64 2, .int .i64 bn, .float .f64 bf, .string sb]] w fun e w' => e = .returned (.int .i64 (sdI (trO (ord af bf)))) ∧ Below w.heap.size w w' := by
  obtain ⟨w2, hw2, B2, A2, C2⟩ := boxed w ⟨2, an, af, sa⟩ ⟨2, bn, bf, sb⟩ 78 78
  have W2 := Lib.hid hw2
  have B2h := Lib.hid B2
  have hbx := run_bits af
  have hby := run_bits bf
  obtain ⟨a0, a1, a2, a3, la⟩ := A2
  obtain ⟨b0, b1, b2, b3, lb⟩ := C2
  simp only at a0 a1 a2 a3 b0 b1 b2 b3
  clear hw2 B2
  generalize hy : w.heap.size = Y at *
  have NA := nan_any af haf
  have NB := nan_any bf hbf
  have L1 := below_any af bf haf hbf
  have L2 := below_any bf af hbf haf
  by_cases na : isNan af = true
  · rw [ord_none_left na]
    rw [na] at NA
    clear na
    go_enter Tryz.func50, Tryz.ntmps50
    go_wp2_with fail
    rw [← W2.out]
    go_quiet (fail)
    go_wp2_with fail
    refine (NA _).mono ?_
    rintro e w3 ⟨rfl, rfl⟩
    go_wp2_with fail
    all_goals go_ret
    all_goals exact ⟨rfl, drewN_below B2h.out _⟩
  have na' : isNan af = false := by simpa using na
  by_cases nb : isNan bf = true
  · rw [ord_none_right nb]
    rw [na'] at NA
    rw [nb] at NB
    clear na nb na'
    go_enter Tryz.func50, Tryz.ntmps50
    go_wp2_with fail
    rw [← W2.out]
    go_quiet (fail)
    go_wp2_with fail
    refine (NA _).mono ?_
    rintro e w3 ⟨rfl, rfl⟩
    go_wp2_with fail
    refine (NB _).mono ?_
    rintro e w3 ⟨rfl, rfl⟩
    go_wp2_with fail
    all_goals go_ret
    all_goals exact ⟨rfl, drewN_below B2h.out _⟩
  have nb' : isNan bf = false := by simpa using nb
  rw [ord_some na' nb']
  rw [na'] at NA
  rw [nb'] at NB
  have R := Lib.hid (show sdI (trO (some (compare (rkey af) (rkey bf)))) = if rkey af < rkey bf then -1 else if rkey bf < rkey af then 1 else 0 by
    rcases Int.lt_trichotomy (rkey af) (rkey bf) with h | h | h
    · rw [compare_lt' h, if_pos h]; rfl
    · rw [compare_eq' h, if_neg (by omega), if_neg (by omega)]; rfl
    · rw [compare_gt' h, if_neg (by omega), if_pos h]; rfl)
  rw [R.out]
  clear na nb na' nb' R
  generalize rkey af = ka at *
  generalize rkey bf = kb at *
  go_enter Tryz.func50, Tryz.ntmps50
  go_wp2_with fail
  rw [← W2.out]
  go_quiet (fail)
  go_wp2_with fail
  refine (NA _).mono ?_
  rintro e w3 ⟨rfl, rfl⟩
  go_wp2_with fail
  refine (NB _).mono ?_
  rintro e w3 ⟨rfl, rfl⟩
  go_wp2_with fail
  refine (L1 _).mono ?_
  rintro e w3 ⟨rfl, rfl⟩
  go_wp2_with fail
  refine (L2 _).mono ?_
  rintro e w3 ⟨rfl, rfl⟩
  go_wp2_with fail
  all_goals go_ret
  all_goals exact ⟨ret_i64' (by (repeat' split) <;> first | rfl | omega), drewN_below B2h.out _⟩
set_option maxHeartbeats 1000000 in
theorem rstands_23 (an bn : Int) (af bf : Nat) (sa sb : ByteArray) (_ha0 : -9223372036854775808 ≤ an) (_ha1 : an ≤ 9223372036854775807) (_hb0 : -9223372036854775808 ≤ bn) (_hb1 : bn ≤ 9223372036854775807) (_haf : af < 18446744073709551616) (_hbf : bf < 18446744073709551616) (w : World) :
    Calls Tryz.prog 50 #[.agg #[.int .i64 2, .int .i64 an, .float .f64 af, .string sa], .agg #[.int .i64 3, .int .i64 bn, .float .f64 bf, .string sb]] w fun e w' => e = .returned (.int .i64 (2)) ∧ Below w.heap.size w w' := by
  obtain ⟨w2, hw2, B2, A2, C2⟩ := boxed w ⟨2, an, af, sa⟩ ⟨3, bn, bf, sb⟩ 78 78
  have W2 := Lib.hid hw2
  have B2h := Lib.hid B2
  have hbx := run_bits af
  have hby := run_bits bf
  obtain ⟨a0, a1, a2, a3, la⟩ := A2
  obtain ⟨b0, b1, b2, b3, lb⟩ := C2
  simp only at a0 a1 a2 a3 b0 b1 b2 b3
  clear hw2 B2
  generalize hy : w.heap.size = Y at *
  go_enter Tryz.func50, Tryz.ntmps50
  go_wp2_with fail
  rw [← W2.out]
  go_quiet (fail)
  go_wp2_with fail
  all_goals go_ret
  all_goals exact ⟨rfl, drewN_below B2h.out _⟩
set_option maxHeartbeats 1000000 in
theorem rstands_31 (an bn : Int) (af bf : Nat) (sa sb : ByteArray) (_ha0 : -9223372036854775808 ≤ an) (_ha1 : an ≤ 9223372036854775807) (_hb0 : -9223372036854775808 ≤ bn) (_hb1 : bn ≤ 9223372036854775807) (_haf : af < 18446744073709551616) (_hbf : bf < 18446744073709551616) (w : World) :
    Calls Tryz.prog 50 #[.agg #[.int .i64 3, .int .i64 an, .float .f64 af, .string sa], .agg #[.int .i64 1, .int .i64 bn, .float .f64 bf, .string sb]] w fun e w' => e = .returned (.int .i64 (2)) ∧ Below w.heap.size w w' := by
  obtain ⟨w2, hw2, B2, A2, C2⟩ := boxed w ⟨3, an, af, sa⟩ ⟨1, bn, bf, sb⟩ 78 78
  have W2 := Lib.hid hw2
  have B2h := Lib.hid B2
  have hbx := run_bits af
  have hby := run_bits bf
  obtain ⟨a0, a1, a2, a3, la⟩ := A2
  obtain ⟨b0, b1, b2, b3, lb⟩ := C2
  simp only at a0 a1 a2 a3 b0 b1 b2 b3
  clear hw2 B2
  generalize hy : w.heap.size = Y at *
  go_enter Tryz.func50, Tryz.ntmps50
  go_wp2_with fail
  rw [← W2.out]
  go_quiet (fail)
  go_wp2_with fail
  all_goals go_ret
  all_goals exact ⟨rfl, drewN_below B2h.out _⟩
set_option maxHeartbeats 1000000 in
theorem rstands_32 (an bn : Int) (af bf : Nat) (sa sb : ByteArray) (_ha0 : -9223372036854775808 ≤ an) (_ha1 : an ≤ 9223372036854775807) (_hb0 : -9223372036854775808 ≤ bn) (_hb1 : bn ≤ 9223372036854775807) (_haf : af < 18446744073709551616) (_hbf : bf < 18446744073709551616) (w : World) :
    Calls Tryz.prog 50 #[.agg #[.int .i64 3, .int .i64 an, .float .f64 af, .string sa], .agg #[.int .i64 2, .int .i64 bn, .float .f64 bf, .string sb]] w fun e w' => e = .returned (.int .i64 (2)) ∧ Below w.heap.size w w' := by
  obtain ⟨w2, hw2, B2, A2, C2⟩ := boxed w ⟨3, an, af, sa⟩ ⟨2, bn, bf, sb⟩ 78 78
  have W2 := Lib.hid hw2
  have B2h := Lib.hid B2
  have hbx := run_bits af
  have hby := run_bits bf
  obtain ⟨a0, a1, a2, a3, la⟩ := A2
  obtain ⟨b0, b1, b2, b3, lb⟩ := C2
  simp only at a0 a1 a2 a3 b0 b1 b2 b3
  clear hw2 B2
  generalize hy : w.heap.size = Y at *
  go_enter Tryz.func50, Tryz.ntmps50
  go_wp2_with fail
  rw [← W2.out]
  go_quiet (fail)
  go_wp2_with fail
  all_goals go_ret
  all_goals exact ⟨rfl, drewN_below B2h.out _⟩
set_option maxHeartbeats 1000000 in
theorem rstands_33 (an bn : Int) (af bf : Nat) (sa sb : ByteArray) (_ha0 : -9223372036854775808 ≤ an) (_ha1 : an ≤ 9223372036854775807) (_hb0 : -9223372036854775808 ≤ bn) (_hb1 : bn ≤ 9223372036854775807) (_haf : af < 18446744073709551616) (_hbf : bf < 18446744073709551616) (w : World) :
    Calls Tryz.prog 50 #[.agg #[.int .i64 3, .int .i64 an, .float .f64 af, .string sa], .agg #[.int .i64 3, .int .i64 bn, .float .f64 bf, .string sb]] w fun e w' => e = .returned (.int .i64 (sdI (tri (ltS sa sb) (ltS sb sa)))) ∧ Below w.heap.size w w' := by
  obtain ⟨w2, hw2, B2, A2, C2⟩ := boxed w ⟨3, an, af, sa⟩ ⟨3, bn, bf, sb⟩ 78 78
  have W2 := Lib.hid hw2
  have B2h := Lib.hid B2
  have hbx := run_bits af
  have hby := run_bits bf
  obtain ⟨a0, a1, a2, a3, la⟩ := A2
  obtain ⟨b0, b1, b2, b3, lb⟩ := C2
  simp only at a0 a1 a2 a3 b0 b1 b2 b3
  clear hw2 B2
  generalize hy : w.heap.size = Y at *
  have I := bl_irr sa.toList sb.toList
  have T := bl_tot sa.toList sb.toList
  unfold ltS
  cases h1 : Op.bytesLess sa.toList sb.toList
  · cases h2 : (sa.toList == sb.toList)
    · have h3 : Op.bytesLess sb.toList sa.toList = true := by
        cases h4 : Op.bytesLess sb.toList sa.toList
        · have := T h1 h4
          rw [this] at h2
          simp at h2
        · rfl
      rw [h3]
      clear I T
      go_enter Tryz.func50, Tryz.ntmps50
      go_wp2_with fail
      rw [← W2.out]
      go_quiet (fail)
      go_wp2_with fail
      go_quiet (fail)
      go_wp2_with fail
      all_goals go_ret
      all_goals exact ⟨rfl, drewN_below (drewN_below B2h.out _) _⟩
    · have h3 : Op.bytesLess sb.toList sa.toList = false := by
        have e : sa.toList = sb.toList := by simpa using h2
        rw [e] at h1 ⊢
        exact h1
      rw [h3]
      clear I T
      go_enter Tryz.func50, Tryz.ntmps50
      go_wp2_with fail
      rw [← W2.out]
      go_quiet (fail)
      go_wp2_with fail
      go_quiet (fail)
      go_wp2_with fail
      all_goals go_ret
      all_goals exact ⟨rfl, drewN_below (drewN_below B2h.out _) _⟩
  · have h3 := I h1
    rw [h3]
    clear I T
    go_enter Tryz.func50, Tryz.ntmps50
    go_wp2_with fail
    rw [← W2.out]
    go_quiet (fail)
    go_wp2_with fail
    go_quiet (fail)
    go_wp2_with fail
    all_goals go_ret
    all_goals exact ⟨rfl, drewN_below (drewN_below B2h.out _) _⟩
end Go.Proofs.YtkajadkmdcalmaaGreatDoor
/-
  THE DOCUMENT's OWN Holds.
-/
namespace Go.Proofs.YtkajadkmdcalmaaGreatDoor
open Go.RowKit
theorem rstands_any (a b : Val) (ha : a.Wf) (hb : b.Wf) (ka : isK a = true) (kb : isK b = true) (w : World) : Calls Tryz.prog 50 #[a.val, b.val] w fun e w' => e = .returned (.int .i64 (sdI (stV a b))) ∧ Below w.heap.size w w' := by
  have ka := isK_cases ka
  have kb := isK_cases kb
  obtain ⟨ak, an, af, sa⟩ := a
  obtain ⟨bk, bn, bf, sb⟩ := b
  obtain ⟨_, a0, a1, a2⟩ := ha
  obtain ⟨_, b0, b1, b2⟩ := hb
  simp only at ka kb a0 a1 a2 b0 b1 b2
  rcases ka with rfl | rfl | rfl <;> rcases kb with rfl | rfl | rfl
  · rw [stV_11 _ _ _ _ _ _ a0 a1 b0 b1]; exact rstands_11 an bn af bf sa sb a0 a1 b0 b1 a2 b2 w
  · rw [stV_12]; exact rstands_12 an bn af bf sa sb a0 a1 b0 b1 a2 b2 w
  · rw [stV_13]; exact rstands_13 an bn af bf sa sb a0 a1 b0 b1 a2 b2 w
  · rw [stV_21]; exact rstands_21 an bn af bf sa sb a0 a1 b0 b1 a2 b2 w
  · rw [stV_22]; exact rstands_22 an bn af bf sa sb a0 a1 b0 b1 a2 b2 w
  · rw [stV_23]; exact rstands_23 an bn af bf sa sb a0 a1 b0 b1 a2 b2 w
  · rw [stV_31]; exact rstands_31 an bn af bf sa sb a0 a1 b0 b1 a2 b2 w
  · rw [stV_32]; exact rstands_32 an bn af bf sa sb a0 a1 b0 b1 a2 b2 w
  · rw [stV_33]; exact rstands_33 an bn af bf sa sb a0 a1 b0 b1 a2 b2 w
theorem stV_range (a b : Val) : stV a b = 0 ∨ stV a b = 1 ∨ stV a b = 2 ∨ stV a b = 3 ∨ stV a b = 4 := by
  unfold stV
  split
  · exact .inl rfl
  · split
    · rcases tri_cases (ltS a.s b.s) (ltS b.s a.s) with h | h | h <;> simp [h]
    · split
      · exact .inr (.inl rfl)
      · split
        · exact .inr (.inl rfl)
        · rcases tri_cases (ltP (nk a) (nk b)) (ltP (nk b) (nk a)) with h | h | h <;> simp [h]
theorem stV_pos {a b : Val} (ka : isK a = true) (kb : isK b = true) : stV a b ≠ 0 := by
  unfold stV
  rw [if_neg (by rw [ka, kb]; decide)]
  split
  · rcases tri_cases (ltS a.s b.s) (ltS b.s a.s) with h | h | h <;> simp [h]
  · split
    · decide
    · split
      · decide
      · rcases tri_cases (ltP (nk a) (nk b)) (ltP (nk b) (nk a)) with h | h | h <;> simp [h]
set_option maxHeartbeats 2000000 in
theorem rholds_lt (op : Int) (a b : Val) (ka : 1 ≤ a.k ∧ a.k ≤ 3) (kb : 1 ≤ b.k ∧ b.k ≤ 3) (S : Hid (∀ w, Calls Tryz.prog 50 #[.agg #[.int .i64 a.k, .int .i64 a.n, .float .f64 a.f, .string a.s], .agg #[.int .i64 b.k, .int .i64 b.n, .float .f64 b.f, .string b.s]] w fun e w' => e = .returned (.int .i64 (-1)) ∧ Below w.heap.size w w')) (w : World) :
    Calls Tryz.prog 34 #[.int .i64 op, .agg #[.int .i64 a.k, .int .i64 a.n, .float .f64 a.f, .string a.s], .agg #[.int .i64 b.k, .int .i64 b.n, .float .f64 b.f, .string b.s]] w fun e w' => e = .returned (.bool (opS op 2)) ∧ Below w.heap.size w w' := by
  obtain ⟨w2, hw2, B2, A2, C2⟩ := boxed w a b 78 78
  have W2 := Lib.hid hw2
  have B2h := Lib.hid B2
  obtain ⟨a0, a1, a2, a3, la⟩ := A2
  obtain ⟨b0, b1, b2, b3, lb⟩ := C2
  obtain ⟨ak, an, af, sa⟩ := a
  obtain ⟨bk, bn, bf, sb⟩ := b
  simp only at *
  clear hw2 B2
  obtain ⟨ka1, ka2⟩ := ka
  obtain ⟨kb1, kb2⟩ := kb
  generalize hy : w.heap.size = Y at *
  have START : Hid (∀ w3, Below w2.heap.size w2 w3 → Below Y w w3) := Lib.hid (fun w3 bb => B2h.out.trans (bb.mono (by have := B2h.out.size; omega)))
  by_cases o1 : op = 1
  · subst o1
    go_enter Tryz.func34, Tryz.ntmps34
    go_wp2_with fail
    rw [← W2.out]
    go_wp2_with fail
    refine (S.out _).mono ?_
    rintro e w3 ⟨rfl, bb⟩
    have B3h := Lib.hid (START.out w3 bb)
    clear bb a0 a1 a2 a3 b0 b1 b2 b3
    go_wp2_with fail
    all_goals (first | go_ret | go_ret2)
    all_goals exact ⟨rfl, B3h.out⟩
  by_cases o2 : op = 2
  · subst o2
    go_enter Tryz.func34, Tryz.ntmps34
    go_wp2_with fail
    rw [← W2.out]
    go_wp2_with fail
    refine (S.out _).mono ?_
    rintro e w3 ⟨rfl, bb⟩
    have B3h := Lib.hid (START.out w3 bb)
    clear bb a0 a1 a2 a3 b0 b1 b2 b3
    go_wp2_with fail
    all_goals (first | go_ret | go_ret2)
    all_goals exact ⟨rfl, B3h.out⟩
  by_cases o3 : op = 3
  · subst o3
    go_enter Tryz.func34, Tryz.ntmps34
    go_wp2_with fail
    rw [← W2.out]
    go_wp2_with fail
    refine (S.out _).mono ?_
    rintro e w3 ⟨rfl, bb⟩
    have B3h := Lib.hid (START.out w3 bb)
    clear bb a0 a1 a2 a3 b0 b1 b2 b3
    go_wp2_with fail
    all_goals (first | go_ret | go_ret2)
    all_goals exact ⟨rfl, B3h.out⟩
  by_cases o4 : op = 4
  · subst o4
    go_enter Tryz.func34, Tryz.ntmps34
    go_wp2_with fail
    rw [← W2.out]
    go_wp2_with fail
    refine (S.out _).mono ?_
    rintro e w3 ⟨rfl, bb⟩
    have B3h := Lib.hid (START.out w3 bb)
    clear bb a0 a1 a2 a3 b0 b1 b2 b3
    go_wp2_with fail
    all_goals (first | go_ret | go_ret2)
    all_goals exact ⟨rfl, B3h.out⟩
  by_cases o5 : op = 5
  · subst o5
    go_enter Tryz.func34, Tryz.ntmps34
    go_wp2_with fail
    rw [← W2.out]
    go_wp2_with fail
    refine (S.out _).mono ?_
    rintro e w3 ⟨rfl, bb⟩
    have B3h := Lib.hid (START.out w3 bb)
    clear bb a0 a1 a2 a3 b0 b1 b2 b3
    go_wp2_with fail
    all_goals (first | go_ret | go_ret2)
    all_goals exact ⟨rfl, B3h.out⟩
  by_cases o6 : op = 6
  · subst o6
    go_enter Tryz.func34, Tryz.ntmps34
    go_wp2_with fail
    rw [← W2.out]
    go_wp2_with fail
    refine (S.out _).mono ?_
    rintro e w3 ⟨rfl, bb⟩
    have B3h := Lib.hid (START.out w3 bb)
    clear bb a0 a1 a2 a3 b0 b1 b2 b3
    go_wp2_with fail
    all_goals (first | go_ret | go_ret2)
    all_goals exact ⟨rfl, B3h.out⟩
  rw [opS_else ⟨o1, o2, o3, o4, o5, o6⟩]
  have e1 : (op == 1) = false := by simpa using o1
  have e2 : (op == 2) = false := by simpa using o2
  have e3 : (op == 3) = false := by simpa using o3
  have e4 : (op == 4) = false := by simpa using o4
  have e5 : (op == 5) = false := by simpa using o5
  have e6 : (op == 6) = false := by simpa using o6
  clear o1 o2 o3 o4 o5 o6
  go_enter Tryz.func34, Tryz.ntmps34
  go_wp2_with fail
  rw [← W2.out]
  go_wp2_with fail
  refine (S.out _).mono ?_
  rintro e w3 ⟨rfl, bb⟩
  have B3h := Lib.hid (START.out w3 bb)
  clear bb a0 a1 a2 a3 b0 b1 b2 b3
  go_wp2_with fail
  all_goals (first | go_ret | go_ret2)
  all_goals exact ⟨rfl, B3h.out⟩
set_option maxHeartbeats 2000000 in
theorem rholds_eq (op : Int) (a b : Val) (ka : 1 ≤ a.k ∧ a.k ≤ 3) (kb : 1 ≤ b.k ∧ b.k ≤ 3) (S : Hid (∀ w, Calls Tryz.prog 50 #[.agg #[.int .i64 a.k, .int .i64 a.n, .float .f64 a.f, .string a.s], .agg #[.int .i64 b.k, .int .i64 b.n, .float .f64 b.f, .string b.s]] w fun e w' => e = .returned (.int .i64 (0)) ∧ Below w.heap.size w w')) (w : World) :
    Calls Tryz.prog 34 #[.int .i64 op, .agg #[.int .i64 a.k, .int .i64 a.n, .float .f64 a.f, .string a.s], .agg #[.int .i64 b.k, .int .i64 b.n, .float .f64 b.f, .string b.s]] w fun e w' => e = .returned (.bool (opS op 3)) ∧ Below w.heap.size w w' := by
  obtain ⟨w2, hw2, B2, A2, C2⟩ := boxed w a b 78 78
  have W2 := Lib.hid hw2
  have B2h := Lib.hid B2
  obtain ⟨a0, a1, a2, a3, la⟩ := A2
  obtain ⟨b0, b1, b2, b3, lb⟩ := C2
  obtain ⟨ak, an, af, sa⟩ := a
  obtain ⟨bk, bn, bf, sb⟩ := b
  simp only at *
  clear hw2 B2
  obtain ⟨ka1, ka2⟩ := ka
  obtain ⟨kb1, kb2⟩ := kb
  generalize hy : w.heap.size = Y at *
  have START : Hid (∀ w3, Below w2.heap.size w2 w3 → Below Y w w3) := Lib.hid (fun w3 bb => B2h.out.trans (bb.mono (by have := B2h.out.size; omega)))
  by_cases o1 : op = 1
  · subst o1
    go_enter Tryz.func34, Tryz.ntmps34
    go_wp2_with fail
    rw [← W2.out]
    go_wp2_with fail
    refine (S.out _).mono ?_
    rintro e w3 ⟨rfl, bb⟩
    have B3h := Lib.hid (START.out w3 bb)
    clear bb a0 a1 a2 a3 b0 b1 b2 b3
    go_wp2_with fail
    all_goals (first | go_ret | go_ret2)
    all_goals exact ⟨rfl, B3h.out⟩
  by_cases o2 : op = 2
  · subst o2
    go_enter Tryz.func34, Tryz.ntmps34
    go_wp2_with fail
    rw [← W2.out]
    go_wp2_with fail
    refine (S.out _).mono ?_
    rintro e w3 ⟨rfl, bb⟩
    have B3h := Lib.hid (START.out w3 bb)
    clear bb a0 a1 a2 a3 b0 b1 b2 b3
    go_wp2_with fail
    all_goals (first | go_ret | go_ret2)
    all_goals exact ⟨rfl, B3h.out⟩
  by_cases o3 : op = 3
  · subst o3
    go_enter Tryz.func34, Tryz.ntmps34
    go_wp2_with fail
    rw [← W2.out]
    go_wp2_with fail
    refine (S.out _).mono ?_
    rintro e w3 ⟨rfl, bb⟩
    have B3h := Lib.hid (START.out w3 bb)
    clear bb a0 a1 a2 a3 b0 b1 b2 b3
    go_wp2_with fail
    all_goals (first | go_ret | go_ret2)
    all_goals exact ⟨rfl, B3h.out⟩
  by_cases o4 : op = 4
  · subst o4
    go_enter Tryz.func34, Tryz.ntmps34
    go_wp2_with fail
    rw [← W2.out]
    go_wp2_with fail
    refine (S.out _).mono ?_
    rintro e w3 ⟨rfl, bb⟩
    have B3h := Lib.hid (START.out w3 bb)
    clear bb a0 a1 a2 a3 b0 b1 b2 b3
    go_wp2_with fail
    all_goals (first | go_ret | go_ret2)
    all_goals exact ⟨rfl, B3h.out⟩
  by_cases o5 : op = 5
  · subst o5
    go_enter Tryz.func34, Tryz.ntmps34
    go_wp2_with fail
    rw [← W2.out]
    go_wp2_with fail
    refine (S.out _).mono ?_
    rintro e w3 ⟨rfl, bb⟩
    have B3h := Lib.hid (START.out w3 bb)
    clear bb a0 a1 a2 a3 b0 b1 b2 b3
    go_wp2_with fail
    all_goals (first | go_ret | go_ret2)
    all_goals exact ⟨rfl, B3h.out⟩
  by_cases o6 : op = 6
  · subst o6
    go_enter Tryz.func34, Tryz.ntmps34
    go_wp2_with fail
    rw [← W2.out]
    go_wp2_with fail
    refine (S.out _).mono ?_
    rintro e w3 ⟨rfl, bb⟩
    have B3h := Lib.hid (START.out w3 bb)
    clear bb a0 a1 a2 a3 b0 b1 b2 b3
    go_wp2_with fail
    all_goals (first | go_ret | go_ret2)
    all_goals exact ⟨rfl, B3h.out⟩
  rw [opS_else ⟨o1, o2, o3, o4, o5, o6⟩]
  have e1 : (op == 1) = false := by simpa using o1
  have e2 : (op == 2) = false := by simpa using o2
  have e3 : (op == 3) = false := by simpa using o3
  have e4 : (op == 4) = false := by simpa using o4
  have e5 : (op == 5) = false := by simpa using o5
  have e6 : (op == 6) = false := by simpa using o6
  clear o1 o2 o3 o4 o5 o6
  go_enter Tryz.func34, Tryz.ntmps34
  go_wp2_with fail
  rw [← W2.out]
  go_wp2_with fail
  refine (S.out _).mono ?_
  rintro e w3 ⟨rfl, bb⟩
  have B3h := Lib.hid (START.out w3 bb)
  clear bb a0 a1 a2 a3 b0 b1 b2 b3
  go_wp2_with fail
  all_goals (first | go_ret | go_ret2)
  all_goals exact ⟨rfl, B3h.out⟩
set_option maxHeartbeats 2000000 in
theorem rholds_gt (op : Int) (a b : Val) (ka : 1 ≤ a.k ∧ a.k ≤ 3) (kb : 1 ≤ b.k ∧ b.k ≤ 3) (S : Hid (∀ w, Calls Tryz.prog 50 #[.agg #[.int .i64 a.k, .int .i64 a.n, .float .f64 a.f, .string a.s], .agg #[.int .i64 b.k, .int .i64 b.n, .float .f64 b.f, .string b.s]] w fun e w' => e = .returned (.int .i64 (1)) ∧ Below w.heap.size w w')) (w : World) :
    Calls Tryz.prog 34 #[.int .i64 op, .agg #[.int .i64 a.k, .int .i64 a.n, .float .f64 a.f, .string a.s], .agg #[.int .i64 b.k, .int .i64 b.n, .float .f64 b.f, .string b.s]] w fun e w' => e = .returned (.bool (opS op 4)) ∧ Below w.heap.size w w' := by
  obtain ⟨w2, hw2, B2, A2, C2⟩ := boxed w a b 78 78
  have W2 := Lib.hid hw2
  have B2h := Lib.hid B2
  obtain ⟨a0, a1, a2, a3, la⟩ := A2
  obtain ⟨b0, b1, b2, b3, lb⟩ := C2
  obtain ⟨ak, an, af, sa⟩ := a
  obtain ⟨bk, bn, bf, sb⟩ := b
  simp only at *
  clear hw2 B2
  obtain ⟨ka1, ka2⟩ := ka
  obtain ⟨kb1, kb2⟩ := kb
  generalize hy : w.heap.size = Y at *
  have START : Hid (∀ w3, Below w2.heap.size w2 w3 → Below Y w w3) := Lib.hid (fun w3 bb => B2h.out.trans (bb.mono (by have := B2h.out.size; omega)))
  by_cases o1 : op = 1
  · subst o1
    go_enter Tryz.func34, Tryz.ntmps34
    go_wp2_with fail
    rw [← W2.out]
    go_wp2_with fail
    refine (S.out _).mono ?_
    rintro e w3 ⟨rfl, bb⟩
    have B3h := Lib.hid (START.out w3 bb)
    clear bb a0 a1 a2 a3 b0 b1 b2 b3
    go_wp2_with fail
    all_goals (first | go_ret | go_ret2)
    all_goals exact ⟨rfl, B3h.out⟩
  by_cases o2 : op = 2
  · subst o2
    go_enter Tryz.func34, Tryz.ntmps34
    go_wp2_with fail
    rw [← W2.out]
    go_wp2_with fail
    refine (S.out _).mono ?_
    rintro e w3 ⟨rfl, bb⟩
    have B3h := Lib.hid (START.out w3 bb)
    clear bb a0 a1 a2 a3 b0 b1 b2 b3
    go_wp2_with fail
    all_goals (first | go_ret | go_ret2)
    all_goals exact ⟨rfl, B3h.out⟩
  by_cases o3 : op = 3
  · subst o3
    go_enter Tryz.func34, Tryz.ntmps34
    go_wp2_with fail
    rw [← W2.out]
    go_wp2_with fail
    refine (S.out _).mono ?_
    rintro e w3 ⟨rfl, bb⟩
    have B3h := Lib.hid (START.out w3 bb)
    clear bb a0 a1 a2 a3 b0 b1 b2 b3
    go_wp2_with fail
    all_goals (first | go_ret | go_ret2)
    all_goals exact ⟨rfl, B3h.out⟩
  by_cases o4 : op = 4
  · subst o4
    go_enter Tryz.func34, Tryz.ntmps34
    go_wp2_with fail
    rw [← W2.out]
    go_wp2_with fail
    refine (S.out _).mono ?_
    rintro e w3 ⟨rfl, bb⟩
    have B3h := Lib.hid (START.out w3 bb)
    clear bb a0 a1 a2 a3 b0 b1 b2 b3
    go_wp2_with fail
    all_goals (first | go_ret | go_ret2)
    all_goals exact ⟨rfl, B3h.out⟩
  by_cases o5 : op = 5
  · subst o5
    go_enter Tryz.func34, Tryz.ntmps34
    go_wp2_with fail
    rw [← W2.out]
    go_wp2_with fail
    refine (S.out _).mono ?_
    rintro e w3 ⟨rfl, bb⟩
    have B3h := Lib.hid (START.out w3 bb)
    clear bb a0 a1 a2 a3 b0 b1 b2 b3
    go_wp2_with fail
    all_goals (first | go_ret | go_ret2)
    all_goals exact ⟨rfl, B3h.out⟩
  by_cases o6 : op = 6
  · subst o6
    go_enter Tryz.func34, Tryz.ntmps34
    go_wp2_with fail
    rw [← W2.out]
    go_wp2_with fail
    refine (S.out _).mono ?_
    rintro e w3 ⟨rfl, bb⟩
    have B3h := Lib.hid (START.out w3 bb)
    clear bb a0 a1 a2 a3 b0 b1 b2 b3
    go_wp2_with fail
    all_goals (first | go_ret | go_ret2)
    all_goals exact ⟨rfl, B3h.out⟩
  rw [opS_else ⟨o1, o2, o3, o4, o5, o6⟩]
  have e1 : (op == 1) = false := by simpa using o1
  have e2 : (op == 2) = false := by simpa using o2
  have e3 : (op == 3) = false := by simpa using o3
  have e4 : (op == 4) = false := by simpa using o4
  have e5 : (op == 5) = false := by simpa using o5
  have e6 : (op == 6) = false := by simpa using o6
  clear o1 o2 o3 o4 o5 o6
  go_enter Tryz.func34, Tryz.ntmps34
  go_wp2_with fail
  rw [← W2.out]
  go_wp2_with fail
  refine (S.out _).mono ?_
  rintro e w3 ⟨rfl, bb⟩
  have B3h := Lib.hid (START.out w3 bb)
  clear bb a0 a1 a2 a3 b0 b1 b2 b3
  go_wp2_with fail
  all_goals (first | go_ret | go_ret2)
  all_goals exact ⟨rfl, B3h.out⟩
set_option maxHeartbeats 2000000 in
theorem rholds_un (op : Int) (a b : Val) (ka : 1 ≤ a.k ∧ a.k ≤ 3) (kb : 1 ≤ b.k ∧ b.k ≤ 3) (S : Hid (∀ w, Calls Tryz.prog 50 #[.agg #[.int .i64 a.k, .int .i64 a.n, .float .f64 a.f, .string a.s], .agg #[.int .i64 b.k, .int .i64 b.n, .float .f64 b.f, .string b.s]] w fun e w' => e = .returned (.int .i64 (2)) ∧ Below w.heap.size w w')) (w : World) :
    Calls Tryz.prog 34 #[.int .i64 op, .agg #[.int .i64 a.k, .int .i64 a.n, .float .f64 a.f, .string a.s], .agg #[.int .i64 b.k, .int .i64 b.n, .float .f64 b.f, .string b.s]] w fun e w' => e = .returned (.bool (opS op 1)) ∧ Below w.heap.size w w' := by
  obtain ⟨w2, hw2, B2, A2, C2⟩ := boxed w a b 78 78
  have W2 := Lib.hid hw2
  have B2h := Lib.hid B2
  obtain ⟨a0, a1, a2, a3, la⟩ := A2
  obtain ⟨b0, b1, b2, b3, lb⟩ := C2
  obtain ⟨ak, an, af, sa⟩ := a
  obtain ⟨bk, bn, bf, sb⟩ := b
  simp only at *
  clear hw2 B2
  obtain ⟨ka1, ka2⟩ := ka
  obtain ⟨kb1, kb2⟩ := kb
  generalize hy : w.heap.size = Y at *
  have START : Hid (∀ w3, Below w2.heap.size w2 w3 → Below Y w w3) := Lib.hid (fun w3 bb => B2h.out.trans (bb.mono (by have := B2h.out.size; omega)))
  have R := Lib.hid (show (op == 2) = opS op 1 by
    unfold opS
    rw [if_neg (by decide)]
    by_cases h2 : op = 2
    · subst h2; rfl
    · have : (op == 2) = false := by simpa using h2
      rw [this]
      (repeat' split) <;> first | rfl | omega)
  go_enter Tryz.func34, Tryz.ntmps34
  go_wp2_with fail
  rw [← W2.out]
  go_wp2_with fail
  refine (S.out _).mono ?_
  rintro e w3 ⟨rfl, bb⟩
  have B3h := Lib.hid (START.out w3 bb)
  clear bb a0 a1 a2 a3 b0 b1 b2 b3
  go_wp2_with fail
  all_goals (first | go_ret | go_ret2)
  all_goals exact ⟨ret_bool R.out, B3h.out⟩
set_option maxHeartbeats 2000000 in
theorem rholds_none (op : Int) (a b : Val) (h : (isK a && isK b) = false) (w : World) :
    Calls Tryz.prog 34 #[.int .i64 op, .agg #[.int .i64 a.k, .int .i64 a.n, .float .f64 a.f, .string a.s], .agg #[.int .i64 b.k, .int .i64 b.n, .float .f64 b.f, .string b.s]] w fun e w' => e = .returned (.bool false) ∧ Below w.heap.size w w' := by
  have hc : a.k < 1 ∨ (1 ≤ a.k ∧ 3 < a.k) ∨ (1 ≤ a.k ∧ a.k ≤ 3 ∧ b.k < 1) ∨ (1 ≤ a.k ∧ a.k ≤ 3 ∧ 1 ≤ b.k ∧ 3 < b.k) := by
    unfold isK at h
    simp only [Bool.and_eq_false_iff, Bool.or_eq_false_iff, decide_eq_false_iff_not] at h
    omega
  obtain ⟨w2, hw2, B2, A2, C2⟩ := boxed w a b 78 78
  have W2 := Lib.hid hw2
  have B2h := Lib.hid B2
  obtain ⟨a0, a1, a2, a3, la⟩ := A2
  obtain ⟨b0, b1, b2, b3, lb⟩ := C2
  obtain ⟨ak, an, af, sa⟩ := a
  obtain ⟨bk, bn, bf, sb⟩ := b
  simp only at *
  clear hw2 B2 h
  generalize hy : w.heap.size = Y at *
  rcases hc with h1 | ⟨h1, h2⟩ | ⟨h1, h2, h3⟩ | ⟨h1, h2, h3, h4⟩
  all_goals
    go_enter Tryz.func34, Tryz.ntmps34
    go_wp2_with fail
    rw [← W2.out]
    go_wp2_with fail
    all_goals go_ret
    all_goals exact ⟨rfl, B2h.out⟩
theorem rholds_any (op : Int) (a b : Val) (ha : a.Wf) (hb : b.Wf) (w : World) : Calls Tryz.prog 34 #[.int .i64 op, a.val, b.val] w fun e w' => e = .returned (.bool (opS op (stV a b))) ∧ Below w.heap.size w w' := by
  by_cases hk : (isK a && isK b) = false
  · have e : stV a b = 0 := by unfold stV; rw [if_pos hk]
    rw [e]
    exact rholds_none op a b hk w
  · have ka : isK a = true := by cases e : isK a <;> simp_all
    have kb : isK b = true := by cases e : isK b <;> simp_all
    have S := rstands_any a b ha hb ka kb
    have hp := stV_pos ka kb
    have k1 := isK_cases ka
    have k2 := isK_cases kb
    rcases stV_range a b with h | h | h | h | h
    · exact absurd h hp
    · rw [h] at S ⊢; exact rholds_un op a b (by omega) (by omega) (Lib.hid S) w
    · rw [h] at S ⊢; exact rholds_lt op a b (by omega) (by omega) (Lib.hid S) w
    · rw [h] at S ⊢; exact rholds_eq op a b (by omega) (by omega) (Lib.hid S) w
    · rw [h] at S ⊢; exact rholds_gt op a b (by omega) (by omega) (Lib.hid S) w
end Go.Proofs.YtkajadkmdcalmaaGreatDoor
/-
  A REGION BEHIND EACH OF WHOSE OPERATIONS S HOLDS: one or two operations may come up.
-/
namespace Go.Proofs.YtkajadkmdcalmaaGreatDoor
open Go.RowKit
section
variable {P : Program} {ops : Array Oper} {Q : Exit → Act → World → Prop} {md : Region.Mode} {S : World → Prop}
theorem anyH_one (i : Nat) {n : Nat} {L : Array Bool} {a : Act} {w : World} (hr : Region.ready md ops L = [i])
    (h : ∀ K : Act → World → Prop, (∀ a w, (S w ∧ wpAnyH P md ops Q S n (L.setIfInBounds i true) a w) → K a w) → wpOp P ops Q i K a w) : wpAnyH P md ops Q S (n + 1) L a w :=
  ⟨fun h0 => (by rw [hr] at h0; cases h0), fun j hj => by
    rw [hr] at hj
    obtain rfl := List.mem_singleton.1 hj
    exact h _ (fun _ _ hk => hk)⟩
theorem anyH_two (i j : Nat) {n : Nat} {L : Array Bool} {a : Act} {w : World} (hr : Region.ready md ops L = [i, j])
    (h1 : ∀ K : Act → World → Prop, (∀ a w, (S w ∧ wpAnyH P md ops Q S n (L.setIfInBounds i true) a w) → K a w) → wpOp P ops Q i K a w)
    (h2 : ∀ K : Act → World → Prop, (∀ a w, (S w ∧ wpAnyH P md ops Q S n (L.setIfInBounds j true) a w) → K a w) → wpOp P ops Q j K a w) : wpAnyH P md ops Q S (n + 1) L a w :=
  ⟨fun h0 => (by rw [hr] at h0; cases h0), fun k hk => by
    rw [hr] at hk
    rcases List.mem_cons.1 hk with rfl | hk
    · exact h1 _ (fun _ _ hk => hk)
    · obtain rfl := List.mem_singleton.1 hk
      exact h2 _ (fun _ _ hk => hk)⟩
theorem region_H {id : Nat} {a : Act} {w : World} (S : World → Prop) (hm : P.follows .mixedOrders = true) (h : wpAnyH P .any ops Q S ops.size (Array.replicate ops.size false) a w.drew) : (Code.region id ops true).wp P Q a w :=
  wp_region_held hm h
end
end Go.Proofs.YtkajadkmdcalmaaGreatDoor
