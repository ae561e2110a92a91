/-
  THE DOCUMENT's OWN Stands AND Holds.
-/
import Derived.Test.YtgenefamhhncbaaRless
import Derived.BigQuiet
import Derived.Lib.QuietBelow
namespace Go.Proofs.Ytgenefamhhncbaa
open Go.RowKit
theorem drewN_below {B : Nat} {a w : World} (h : Below B a w) (n : Nat) : Below B a (w.drewN n) := ⟨h.os, h.tape, h.output, h.size, h.block⟩
theorem mixed : Try.prog.follows .mixedOrders = true := by kernel_rfl
theorem same_below {P : Program} {f : FuncId} {args : Array Value} {w : World} {X : Ending} (h : Calls P f args w fun r w' => r = X ∧ w = w') : Calls P f args w fun r w' => r = X ∧ Below w.heap.size w w' :=
  h.mono (by rintro r w' ⟨rfl, rfl⟩; exact ⟨rfl, Below.refl _ _⟩)
theorem ret_i64' {a b : Int} (h : a = b) : Ending.returned (.int .i64 a) = .returned (.int .i64 b) := by rw [h]
set_option maxHeartbeats 1000000 in
theorem rstands_11 (an bn : Int) (af bf : Nat) (sa sb : ByteArray) (_ha0 : -9223372036854775808 ≤ an) (_ha1 : an ≤ 9223372036854775807) (_hb0 : -9223372036854775808 ≤ bn) (_hb1 : bn ≤ 9223372036854775807) (_haf : af < 18446744073709551616) (_hbf : bf < 18446744073709551616) (w : World) :
    Calls Try.prog 54 #[.agg #[.int .i64 1, .int .i64 an, .float .f64 af, .string sa], .agg #[.int .i64 1, .int .i64 bn, .float .f64 bf, .string sb]] w fun e w' => e = .returned (.int .i64 (sdI (trI an bn))) ∧ Below w.heap.size w w' := by
  obtain ⟨w2, hw2, B2, A2, C2⟩ := boxed w ⟨1, an, af, sa⟩ ⟨1, bn, bf, sb⟩ 50 50
  have W2 := Lib.hid hw2
  have B2h := Lib.hid B2
  have hbx := run_bits af
  have hby := run_bits bf
  obtain ⟨a0, a1, a2, a3, la⟩ := A2
  obtain ⟨b0, b1, b2, b3, lb⟩ := C2
  simp only at a0 a1 a2 a3 b0 b1 b2 b3
  clear hw2 B2
  generalize hy : w.heap.size = Y at *
  go_enter Try.func54, Try.ntmps54
  go_wp2_with fail
  rw [← W2.out]
  go_quiet (fail)
  go_wp2_with fail
  go_quiet (fail)
  go_wp2_with fail
  all_goals go_ret
  all_goals exact ⟨ret_i64' (by unfold sdI trI; (repeat' split) <;> first | rfl | omega), drewN_below (drewN_below B2h.out _) _⟩
set_option maxHeartbeats 1000000 in
theorem rstands_12 (an bn : Int) (af bf : Nat) (sa sb : ByteArray) (ha0 : -9223372036854775808 ≤ an) (ha1 : an ≤ 9223372036854775807) (_hb0 : -9223372036854775808 ≤ bn) (_hb1 : bn ≤ 9223372036854775807) (_haf : af < 18446744073709551616) (hbf : bf < 18446744073709551616) (w : World) :
    Calls Try.prog 54 #[.agg #[.int .i64 1, .int .i64 an, .float .f64 af, .string sa], .agg #[.int .i64 2, .int .i64 bn, .float .f64 bf, .string sb]] w fun e w' => e = .returned (.int .i64 (sdI (mxI an bf))) ∧ Below w.heap.size w w' := by
  obtain ⟨w2, hw2, B2, A2, C2⟩ := boxed w ⟨1, an, af, sa⟩ ⟨2, bn, bf, sb⟩ 50 50
  have W2 := Lib.hid hw2
  have B2h := Lib.hid B2
  have hbx := run_bits af
  have hby := run_bits bf
  obtain ⟨a0, a1, a2, a3, la⟩ := A2
  obtain ⟨b0, b1, b2, b3, lb⟩ := C2
  simp only at a0 a1 a2 a3 b0 b1 b2 b3
  clear hw2 B2
  generalize hy : w.heap.size = Y at *
  have NA := nan_any bf hbf
  have LS := rless_any an bf ha0 ha1 hbf
  have MR := rmore_any an bf ha0 ha1 hbf
  unfold mxI
  by_cases na : isNan bf = true
  · rw [if_pos na]
    rw [na] at NA
    clear na
    go_enter Try.func54, Try.ntmps54
    go_wp2_with fail
    rw [← W2.out]
    go_quiet (fail)
    go_wp2_with fail
    refine (NA _).mono ?_
    rintro e w3 ⟨rfl, rfl⟩
    go_wp2_with fail
    all_goals go_ret
    all_goals exact ⟨rfl, drewN_below B2h.out _⟩
  rw [if_neg na]
  have na' : isNan bf = false := by simpa using na
  rw [na'] at NA
  have R := Lib.hid (weakP.irr (wk an, an - wholeV an) (rkey bf, 0))
  change ∀ w, Calls Try.prog 79 #[.int .i64 an, .float .f64 bf] w fun e w' => e = .returned (.bool (ltP (wk an, an - wholeV an) (rkey bf, 0))) ∧ w = w' at LS
  change ∀ w, Calls Try.prog 80 #[.int .i64 an, .float .f64 bf] w fun e w' => e = .returned (.bool (ltP (rkey bf, 0) (wk an, an - wholeV an))) ∧ w = w' at MR
  generalize ltP (wk an, an - wholeV an) (rkey bf, 0) = p at *
  generalize ltP (rkey bf, 0) (wk an, an - wholeV an) = q at *
  have LS' := Lib.hid (fun w => same_below (LS w))
  have MR' := Lib.hid (fun w => same_below (MR w))
  clear na na' LS MR
  have R' := R.out
  clear R
  cases p <;> cases q
  case true.true => exact absurd (R' rfl) (by decide)
  all_goals clear R'
  all_goals
    go_enter Try.func54, Try.ntmps54
    go_wp2_with fail
    rw [← W2.out]
    go_quiet (fail)
    go_wp2_with fail
    refine (NA _).mono ?_
    rintro e w3 ⟨rfl, rfl⟩
    go_wp2_with fail
    have x1 := fun d os => cell_regrown (w := w2.drewN nq) a1 d os
    have x2 := fun d os => cell_regrown (w := w2.drewN nq) b2 d os
    have C1 := Lib.hid (fun d os => Calls.regrown_of (d := d) (os := os) (LS'.out (Go.Sort.grow (redrawn (w2.drewN nq) d) os)))
    have C2 := Lib.hid (fun d os => Calls.regrown_of (d := d) (os := os) (MR'.out (Go.Sort.grow (redrawn (w2.drewN nq) d) os)))
    refine wp_region_quiet_below mixed (by kernel_rfl) ?_
    repeat (quiet_step (first | (with_reducible exact C1.out _ _) | (with_reducible exact C2.out _ _)))
    refine wpQuiet_nil ?_
    intro _ hw'
    obtain ⟨⟨dq, osq⟩, hw''⟩ := hw'
    subst hw''
    go_wp2_with fail
    go_ret
    exact ⟨rfl, (drewN_below B2h.out nq).trans ((below_regrown _ dq osq).mono (by have := B2h.out.size; show Y ≤ w2.heap.size; omega))⟩
set_option maxHeartbeats 1000000 in
theorem rstands_13 (an bn : Int) (af bf : Nat) (sa sb : ByteArray) (_ha0 : -9223372036854775808 ≤ an) (_ha1 : an ≤ 9223372036854775807) (_hb0 : -9223372036854775808 ≤ bn) (_hb1 : bn ≤ 9223372036854775807) (_haf : af < 18446744073709551616) (_hbf : bf < 18446744073709551616) (w : World) :
    Calls Try.prog 54 #[.agg #[.int .i64 1, .int .i64 an, .float .f64 af, .string sa], .agg #[.int .i64 3, .int .i64 bn, .float .f64 bf, .string sb]] w fun e w' => e = .returned (.int .i64 (2)) ∧ Below w.heap.size w w' := by
  obtain ⟨w2, hw2, B2, A2, C2⟩ := boxed w ⟨1, an, af, sa⟩ ⟨3, bn, bf, sb⟩ 50 50
  have W2 := Lib.hid hw2
  have B2h := Lib.hid B2
  have hbx := run_bits af
  have hby := run_bits bf
  obtain ⟨a0, a1, a2, a3, la⟩ := A2
  obtain ⟨b0, b1, b2, b3, lb⟩ := C2
  simp only at a0 a1 a2 a3 b0 b1 b2 b3
  clear hw2 B2
  generalize hy : w.heap.size = Y at *
  go_enter Try.func54, Try.ntmps54
  go_wp2_with fail
  rw [← W2.out]
  go_quiet (fail)
  go_wp2_with fail
  all_goals go_ret
  all_goals exact ⟨rfl, drewN_below B2h.out _⟩
set_option maxHeartbeats 1000000 in
theorem rstands_21 (an bn : Int) (af bf : Nat) (sa sb : ByteArray) (_ha0 : -9223372036854775808 ≤ an) (_ha1 : an ≤ 9223372036854775807) (hb0 : -9223372036854775808 ≤ bn) (hb1 : bn ≤ 9223372036854775807) (haf : af < 18446744073709551616) (_hbf : bf < 18446744073709551616) (w : World) :
    Calls Try.prog 54 #[.agg #[.int .i64 2, .int .i64 an, .float .f64 af, .string sa], .agg #[.int .i64 1, .int .i64 bn, .float .f64 bf, .string sb]] w fun e w' => e = .returned (.int .i64 (sdI (tnI (mxI bn af)))) ∧ Below w.heap.size w w' := by
  obtain ⟨w2, hw2, B2, A2, C2⟩ := boxed w ⟨2, an, af, sa⟩ ⟨1, bn, bf, sb⟩ 50 50
  have W2 := Lib.hid hw2
  have B2h := Lib.hid B2
  have hbx := run_bits af
  have hby := run_bits bf
  obtain ⟨a0, a1, a2, a3, la⟩ := A2
  obtain ⟨b0, b1, b2, b3, lb⟩ := C2
  simp only at a0 a1 a2 a3 b0 b1 b2 b3
  clear hw2 B2
  generalize hy : w.heap.size = Y at *
  have NA := nan_any af haf
  have LS := rless_any bn af hb0 hb1 haf
  have MR := rmore_any bn af hb0 hb1 haf
  unfold mxI
  by_cases na : isNan af = true
  · rw [if_pos na]
    rw [na] at NA
    clear na
    go_enter Try.func54, Try.ntmps54
    go_wp2_with fail
    rw [← W2.out]
    go_quiet (fail)
    go_wp2_with fail
    refine (NA _).mono ?_
    rintro e w3 ⟨rfl, rfl⟩
    go_wp2_with fail
    all_goals go_ret
    all_goals exact ⟨rfl, drewN_below B2h.out _⟩
  rw [if_neg na]
  have na' : isNan af = false := by simpa using na
  rw [na'] at NA
  have R := Lib.hid (weakP.irr (wk bn, bn - wholeV bn) (rkey af, 0))
  change ∀ w, Calls Try.prog 79 #[.int .i64 bn, .float .f64 af] w fun e w' => e = .returned (.bool (ltP (wk bn, bn - wholeV bn) (rkey af, 0))) ∧ w = w' at LS
  change ∀ w, Calls Try.prog 80 #[.int .i64 bn, .float .f64 af] w fun e w' => e = .returned (.bool (ltP (rkey af, 0) (wk bn, bn - wholeV bn))) ∧ w = w' at MR
  generalize ltP (wk bn, bn - wholeV bn) (rkey af, 0) = p at *
  generalize ltP (rkey af, 0) (wk bn, bn - wholeV bn) = q at *
  have LS' := Lib.hid (fun w => same_below (LS w))
  have MR' := Lib.hid (fun w => same_below (MR w))
  clear na na' LS MR
  have R' := R.out
  clear R
  cases p <;> cases q
  case true.true => exact absurd (R' rfl) (by decide)
  all_goals clear R'
  all_goals
    go_enter Try.func54, Try.ntmps54
    go_wp2_with fail
    rw [← W2.out]
    go_quiet (fail)
    go_wp2_with fail
    refine (NA _).mono ?_
    rintro e w3 ⟨rfl, rfl⟩
    go_wp2_with fail
    have x1 := fun d os => cell_regrown (w := w2.drewN nq) b1 d os
    have x2 := fun d os => cell_regrown (w := w2.drewN nq) a2 d os
    have C1 := Lib.hid (fun d os => Calls.regrown_of (d := d) (os := os) (LS'.out (Go.Sort.grow (redrawn (w2.drewN nq) d) os)))
    have C2 := Lib.hid (fun d os => Calls.regrown_of (d := d) (os := os) (MR'.out (Go.Sort.grow (redrawn (w2.drewN nq) d) os)))
    refine wp_region_quiet_below mixed (by kernel_rfl) ?_
    repeat (quiet_step (first | (with_reducible exact C1.out _ _) | (with_reducible exact C2.out _ _)))
    refine wpQuiet_nil ?_
    intro _ hw'
    obtain ⟨⟨dq, osq⟩, hw''⟩ := hw'
    subst hw''
    go_wp2_with fail
    go_ret
    exact ⟨rfl, (drewN_below B2h.out nq).trans ((below_regrown _ dq osq).mono (by have := B2h.out.size; show Y ≤ w2.heap.size; omega))⟩
set_option maxHeartbeats 1000000 in
theorem rstands_22 (an bn : Int) (af bf : Nat) (sa sb : ByteArray) (_ha0 : -9223372036854775808 ≤ an) (_ha1 : an ≤ 9223372036854775807) (_hb0 : -9223372036854775808 ≤ bn) (_hb1 : bn ≤ 9223372036854775807) (haf : af < 18446744073709551616) (hbf : bf < 18446744073709551616) (w : World) :
    Calls Try.prog 54 #[.agg #[.int .i64 2, .int .i64 an, .float .f64 af, .string sa], .agg #[.int .i64 2, .int .i64 bn, .float .f64 bf, .string sb]] w fun e w' => e = .returned (.int .i64 (sdI (trO (ord af bf)))) ∧ Below w.heap.size w w' := by
  obtain ⟨w2, hw2, B2, A2, C2⟩ := boxed w ⟨2, an, af, sa⟩ ⟨2, bn, bf, sb⟩ 50 50
  have W2 := Lib.hid hw2
  have B2h := Lib.hid B2
  have hbx := run_bits af
  have hby := run_bits bf
  obtain ⟨a0, a1, a2, a3, la⟩ := A2
  obtain ⟨b0, b1, b2, b3, lb⟩ := C2
  simp only at a0 a1 a2 a3 b0 b1 b2 b3
  clear hw2 B2
  generalize hy : w.heap.size = Y at *
  have NA := nan_any af haf
  have NB := nan_any bf hbf
  have L1 := below_any af bf haf hbf
  have L2 := below_any bf af hbf haf
  by_cases na : isNan af = true
  · rw [ord_none_left na]
    rw [na] at NA
    clear na
    go_enter Try.func54, Try.ntmps54
    go_wp2_with fail
    rw [← W2.out]
    go_quiet (fail)
    go_wp2_with fail
    refine (NA _).mono ?_
    rintro e w3 ⟨rfl, rfl⟩
    go_wp2_with fail
    all_goals go_ret
    all_goals exact ⟨rfl, drewN_below B2h.out _⟩
  have na' : isNan af = false := by simpa using na
  by_cases nb : isNan bf = true
  · rw [ord_none_right nb]
    rw [na'] at NA
    rw [nb] at NB
    clear na nb na'
    go_enter Try.func54, Try.ntmps54
    go_wp2_with fail
    rw [← W2.out]
    go_quiet (fail)
    go_wp2_with fail
    refine (NA _).mono ?_
    rintro e w3 ⟨rfl, rfl⟩
    go_wp2_with fail
    refine (NB _).mono ?_
    rintro e w3 ⟨rfl, rfl⟩
    go_wp2_with fail
    all_goals go_ret
    all_goals exact ⟨rfl, drewN_below B2h.out _⟩
  have nb' : isNan bf = false := by simpa using nb
  rw [ord_some na' nb']
  rw [na'] at NA
  rw [nb'] at NB
  have R := Lib.hid (show sdI (trO (some (compare (rkey af) (rkey bf)))) = if rkey af < rkey bf then -1 else if rkey bf < rkey af then 1 else 0 by
    rcases Int.lt_trichotomy (rkey af) (rkey bf) with h | h | h
    · rw [compare_lt' h, if_pos h]; rfl
    · rw [compare_eq' h, if_neg (by omega), if_neg (by omega)]; rfl
    · rw [compare_gt' h, if_neg (by omega), if_pos h]; rfl)
  rw [R.out]
  clear na nb na' nb' R
  generalize rkey af = ka at *
  generalize rkey bf = kb at *
  go_enter Try.func54, Try.ntmps54
  go_wp2_with fail
  rw [← W2.out]
  go_quiet (fail)
  go_wp2_with fail
  refine (NA _).mono ?_
  rintro e w3 ⟨rfl, rfl⟩
  go_wp2_with fail
  refine (NB _).mono ?_
  rintro e w3 ⟨rfl, rfl⟩
  go_wp2_with fail
  refine (L1 _).mono ?_
  rintro e w3 ⟨rfl, rfl⟩
  go_wp2_with fail
  refine (L2 _).mono ?_
  rintro e w3 ⟨rfl, rfl⟩
  go_wp2_with fail
  all_goals go_ret
  all_goals exact ⟨ret_i64' (by (repeat' split) <;> first | rfl | omega), drewN_below B2h.out _⟩
set_option maxHeartbeats 1000000 in
theorem rstands_23 (an bn : Int) (af bf : Nat) (sa sb : ByteArray) (_ha0 : -9223372036854775808 ≤ an) (_ha1 : an ≤ 9223372036854775807) (_hb0 : -9223372036854775808 ≤ bn) (_hb1 : bn ≤ 9223372036854775807) (_haf : af < 18446744073709551616) (_hbf : bf < 18446744073709551616) (w : World) :
    Calls Try.prog 54 #[.agg #[.int .i64 2, .int .i64 an, .float .f64 af, .string sa], .agg #[.int .i64 3, .int .i64 bn, .float .f64 bf, .string sb]] w fun e w' => e = .returned (.int .i64 (2)) ∧ Below w.heap.size w w' := by
  obtain ⟨w2, hw2, B2, A2, C2⟩ := boxed w ⟨2, an, af, sa⟩ ⟨3, bn, bf, sb⟩ 50 50
  have W2 := Lib.hid hw2
  have B2h := Lib.hid B2
  have hbx := run_bits af
  have hby := run_bits bf
  obtain ⟨a0, a1, a2, a3, la⟩ := A2
  obtain ⟨b0, b1, b2, b3, lb⟩ := C2
  simp only at a0 a1 a2 a3 b0 b1 b2 b3
  clear hw2 B2
  generalize hy : w.heap.size = Y at *
  go_enter Try.func54, Try.ntmps54
  go_wp2_with fail
  rw [← W2.out]
  go_quiet (fail)
  go_wp2_with fail
  all_goals go_ret
  all_goals exact ⟨rfl, drewN_below B2h.out _⟩
set_option maxHeartbeats 1000000 in
theorem rstands_31 (an bn : Int) (af bf : Nat) (sa sb : ByteArray) (_ha0 : -9223372036854775808 ≤ an) (_ha1 : an ≤ 9223372036854775807) (_hb0 : -9223372036854775808 ≤ bn) (_hb1 : bn ≤ 9223372036854775807) (_haf : af < 18446744073709551616) (_hbf : bf < 18446744073709551616) (w : World) :
    Calls Try.prog 54 #[.agg #[.int .i64 3, .int .i64 an, .float .f64 af, .string sa], .agg #[.int .i64 1, .int .i64 bn, .float .f64 bf, .string sb]] w fun e w' => e = .returned (.int .i64 (2)) ∧ Below w.heap.size w w' := by
  obtain ⟨w2, hw2, B2, A2, C2⟩ := boxed w ⟨3, an, af, sa⟩ ⟨1, bn, bf, sb⟩ 50 50
  have W2 := Lib.hid hw2
  have B2h := Lib.hid B2
  have hbx := run_bits af
  have hby := run_bits bf
  obtain ⟨a0, a1, a2, a3, la⟩ := A2
  obtain ⟨b0, b1, b2, b3, lb⟩ := C2
  simp only at a0 a1 a2 a3 b0 b1 b2 b3
  clear hw2 B2
  generalize hy : w.heap.size = Y at *
  go_enter Try.func54, Try.ntmps54
  go_wp2_with fail
  rw [← W2.out]
  go_quiet (fail)
  go_wp2_with fail
  all_goals go_ret
  all_goals exact ⟨rfl, drewN_below B2h.out _⟩
set_option maxHeartbeats 1000000 in
theorem rstands_32 (an bn : Int) (af bf : Nat) (sa sb : ByteArray) (_ha0 : -9223372036854775808 ≤ an) (_ha1 : an ≤ 9223372036854775807) (_hb0 : -9223372036854775808 ≤ bn) (_hb1 : bn ≤ 9223372036854775807) (_haf : af < 18446744073709551616) (_hbf : bf < 18446744073709551616) (w : World) :
    Calls Try.prog 54 #[.agg #[.int .i64 3, .int .i64 an, .float .f64 af, .string sa], .agg #[.int .i64 2, .int .i64 bn, .float .f64 bf, .string sb]] w fun e w' => e = .returned (.int .i64 (2)) ∧ Below w.heap.size w w' := by
  obtain ⟨w2, hw2, B2, A2, C2⟩ := boxed w ⟨3, an, af, sa⟩ ⟨2, bn, bf, sb⟩ 50 50
  have W2 := Lib.hid hw2
  have B2h := Lib.hid B2
  have hbx := run_bits af
  have hby := run_bits bf
  obtain ⟨a0, a1, a2, a3, la⟩ := A2
  obtain ⟨b0, b1, b2, b3, lb⟩ := C2
  simp only at a0 a1 a2 a3 b0 b1 b2 b3
  clear hw2 B2
  generalize hy : w.heap.size = Y at *
  go_enter Try.func54, Try.ntmps54
  go_wp2_with fail
  rw [← W2.out]
  go_quiet (fail)
  go_wp2_with fail
  all_goals go_ret
  all_goals exact ⟨rfl, drewN_below B2h.out _⟩
set_option maxHeartbeats 1000000 in
theorem rstands_33 (an bn : Int) (af bf : Nat) (sa sb : ByteArray) (_ha0 : -9223372036854775808 ≤ an) (_ha1 : an ≤ 9223372036854775807) (_hb0 : -9223372036854775808 ≤ bn) (_hb1 : bn ≤ 9223372036854775807) (_haf : af < 18446744073709551616) (_hbf : bf < 18446744073709551616) (w : World) :
    Calls Try.prog 54 #[.agg #[.int .i64 3, .int .i64 an, .float .f64 af, .string sa], .agg #[.int .i64 3, .int .i64 bn, .float .f64 bf, .string sb]] w fun e w' => e = .returned (.int .i64 (sdI (tri (ltS sa sb) (ltS sb sa)))) ∧ Below w.heap.size w w' := by
  obtain ⟨w2, hw2, B2, A2, C2⟩ := boxed w ⟨3, an, af, sa⟩ ⟨3, bn, bf, sb⟩ 50 50
  have W2 := Lib.hid hw2
  have B2h := Lib.hid B2
  have hbx := run_bits af
  have hby := run_bits bf
  obtain ⟨a0, a1, a2, a3, la⟩ := A2
  obtain ⟨b0, b1, b2, b3, lb⟩ := C2
  simp only at a0 a1 a2 a3 b0 b1 b2 b3
  clear hw2 B2
  generalize hy : w.heap.size = Y at *
  have I := bl_irr sa.toList sb.toList
  have T := bl_tot sa.toList sb.toList
  unfold ltS
  cases h1 : Op.bytesLess sa.toList sb.toList
  · cases h2 : (sa.toList == sb.toList)
    · have h3 : Op.bytesLess sb.toList sa.toList = true := by
        cases h4 : Op.bytesLess sb.toList sa.toList
        · have := T h1 h4
          rw [this] at h2
          simp at h2
        · rfl
      rw [h3]
      clear I T
      go_enter Try.func54, Try.ntmps54
      go_wp2_with fail
      rw [← W2.out]
      go_quiet (fail)
      go_wp2_with fail
      go_quiet (fail)
      go_wp2_with fail
      all_goals go_ret
      all_goals exact ⟨rfl, drewN_below (drewN_below B2h.out _) _⟩
    · have h3 : Op.bytesLess sb.toList sa.toList = false := by
        have e : sa.toList = sb.toList := by simpa using h2
        rw [e] at h1 ⊢
        exact h1
      rw [h3]
      clear I T
      go_enter Try.func54, Try.ntmps54
      go_wp2_with fail
      rw [← W2.out]
      go_quiet (fail)
      go_wp2_with fail
      go_quiet (fail)
      go_wp2_with fail
      all_goals go_ret
      all_goals exact ⟨rfl, drewN_below (drewN_below B2h.out _) _⟩
  · have h3 := I h1
    rw [h3]
    clear I T
    go_enter Try.func54, Try.ntmps54
    go_wp2_with fail
    rw [← W2.out]
    go_quiet (fail)
    go_wp2_with fail
    go_quiet (fail)
    go_wp2_with fail
    all_goals go_ret
    all_goals exact ⟨rfl, drewN_below (drewN_below B2h.out _) _⟩
end Go.Proofs.Ytgenefamhhncbaa
