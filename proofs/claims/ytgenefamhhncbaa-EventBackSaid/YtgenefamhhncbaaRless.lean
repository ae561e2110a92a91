/-
  THE DOCUMENT's OWN less AND more.
-/
import Derived.Test.YtgenefamhhncbaaHolds2
import Derived.Test.YtgenefamhhncbaaPart
namespace Go.Proofs.Ytgenefamhhncbaa
open Go.RowKit
/-- a whole number ahead of a real one, behind it -/
def lsB (n : Int) (f : Nat) : Bool := ltP (wk n, n - wholeV n) (rkey f, 0)
def mrB (n : Int) (f : Nat) : Bool := ltP (rkey f, 0) (wk n, n - wholeV n)
structure Tie (n : Int) (f : Nat) : Prop where
  e : f = wholeB n
  l : lsB n f = decide (n < wholeV n)
  m : mrB n f = decide (wholeV n < n)
  ne : n ≠ wholeV n
theorem tie_of {n : Int} {f : Nat} (h0 : -9223372036854775808 ≤ n) (h1 : n ≤ 9223372036854775807) (hf : f < 18446744073709551616) (ht : wk n = rkey f) (hx : isExact n.natAbs = false) : Tie n f := by
  have lw := wholeB_lt h0 h1
  have E := exact_whole h0 h1
  have hne : wholeV n ≠ n := fun e => by rw [E.2 e] at hx; cases hx
  have n0 : n ≠ 0 := by rintro rfl; exact hne (by decide +kernel)
  refine ⟨(rkey_inj lw hf ht (wk_ne n0 h0 h1)).symm, ?_, ?_, fun e => hne e.symm⟩
  · apply Bool.eq_iff_iff.2
    unfold lsB
    rw [ltP_iff]
    simp only [decide_eq_true_eq]
    omega
  · apply Bool.eq_iff_iff.2
    unfold mrB
    rw [ltP_iff]
    simp only [decide_eq_true_eq]
    omega
theorem geq_lt {n : Int} (h0 : -9223372036854775808 ≤ n) (h1 : n ≤ 9223372036854775807) (hv : wholeV n < 9223372036854775808) :
    (FloatKind.f64.format.order (wholeB n) 4890909195324358656 == some .gt) = false ∧ (FloatKind.f64.format.order (wholeB n) 4890909195324358656 == some .eq) = false := by
  have T := whole_test n h0 h1
  rw [decide_eq_true hv] at T
  cases ho : FloatKind.f64.format.order (wholeB n) 4890909195324358656 with
  | none => exact ⟨rfl, rfl⟩
  | some o => rw [ho] at T; cases o <;> first | (exact ⟨rfl, rfl⟩) | (exact absurd T (by decide))
theorem geq_of {n : Int} (h0 : -9223372036854775808 ≤ n) (h1 : n ≤ 9223372036854775807) (b : Bool) (hv : decide (wholeV n < 9223372036854775808) = b) :
    (FloatKind.f64.format.order (wholeB n) 4890909195324358656 == some .gt) = (!b && (FloatKind.f64.format.order (wholeB n) 4890909195324358656 == some .gt)) ∧
    (FloatKind.f64.format.order (wholeB n) 4890909195324358656 == some .eq || FloatKind.f64.format.order (wholeB n) 4890909195324358656 == some .gt) = !b ∧
    (FloatKind.f64.format.order (wholeB n) 4890909195324358656 == some .gt || FloatKind.f64.format.order (wholeB n) 4890909195324358656 == some .eq) = !b := by
  have T := whole_test n h0 h1
  have OO := ord_order (wholeB n) 4890909195324358656 (wholeB_lt h0 h1) (by decide)
  rw [ord_some (wholeB_nan h0 h1) (by decide)] at OO
  rw [hv] at T
  rw [OO] at T ⊢
  cases b <;> cases ho : compare (rkey (wholeB n)) (rkey 4890909195324358656) <;> rw [ho] at T <;> first | (exact absurd T (by decide)) | decide
set_option maxHeartbeats 1000000 in
theorem rless_any (n : Int) (f : Nat) (h0 : -9223372036854775808 ≤ n) (h1 : n ≤ 9223372036854775807) (hf : f < 18446744073709551616) (w : World) :
    Calls Try.prog 79 #[.int .i64 n, .float .f64 f] w fun e w' => e = .returned (.bool (lsB n f)) ∧ w = w' := by
  have A := rwhole_any n h0 h1
  have lw := wholeB_lt h0 h1
  have hb := run_bits f
  have GX := below_any (wholeB n) f lw hf
  have XG := below_any f (wholeB n) hf lw
  change ∀ w, Calls Try.prog 78 #[.int .u64 (wholeB n : Nat), .int .u64 (f : Nat)] w fun r w' => r = .returned (.bool (decide (wk n < rkey f))) ∧ w = w' at GX
  change ∀ w, Calls Try.prog 78 #[.int .u64 (f : Nat), .int .u64 (wholeB n : Nat)] w fun r w' => r = .returned (.bool (decide (rkey f < wk n))) ∧ w = w' at XG
  by_cases lt : wk n < rkey f
  · have R := Lib.hid (show true = lsB n f by
      have e1 : ltP (wk n, n - wholeV n) (rkey f, 0) = true := (ltP_iff _ _).2 (.inl lt)
      have e2 : ltP (rkey f, 0) (wk n, n - wholeV n) = false := (ltP_not _ _).2 (by simp only; omega)
      unfold lsB
      exact e1.symm)
    have d1 : decide (wk n < rkey f) = true := by simp only [decide_eq_true_eq]; omega
    have d2 : decide (rkey f < wk n) = false := by simp only [decide_eq_false_iff_not]; omega
    rw [d1] at GX
    rw [d2] at XG
    clear d1 d2 lt
    generalize wholeB n = x at *
    generalize isExact n.natAbs = b at *
    go_enter Try.func79, Try.ntmps79
    go_wp2_with fail
    refine (A _).mono ?_
    rintro e w1 ⟨rfl, rfl⟩
    go_wp2_with fail
    refine (GX _).mono ?_
    rintro e w1 ⟨rfl, rfl⟩
    go_wp2_with fail
    go_ret
    exact ⟨ret_bool R.out, rfl⟩
  by_cases gt : rkey f < wk n
  · have R := Lib.hid (show false = lsB n f by
      have e1 : ltP (wk n, n - wholeV n) (rkey f, 0) = false := (ltP_not _ _).2 (by simp only; omega)
      have e2 : ltP (rkey f, 0) (wk n, n - wholeV n) = true := (ltP_iff _ _).2 (.inl gt)
      unfold lsB
      exact e1.symm)
    have d1 : decide (wk n < rkey f) = false := by simp only [decide_eq_false_iff_not]; omega
    have d2 : decide (rkey f < wk n) = true := by simp only [decide_eq_true_eq]; omega
    rw [d1] at GX
    rw [d2] at XG
    clear d1 d2 gt
    generalize wholeB n = x at *
    cases hxx : isExact n.natAbs
    all_goals rw [hxx] at A
    all_goals clear hxx
    · go_enter Try.func79, Try.ntmps79
      go_wp2_with fail
      refine (A _).mono ?_
      rintro e w1 ⟨rfl, rfl⟩
      go_wp2_with fail
      refine (GX _).mono ?_
      rintro e w1 ⟨rfl, rfl⟩
      go_wp2_with fail
      refine (XG _).mono ?_
      rintro e w1 ⟨rfl, rfl⟩
      go_wp2_with fail
      go_ret
      exact ⟨ret_bool R.out, rfl⟩
    · go_enter Try.func79, Try.ntmps79
      go_wp2_with fail
      refine (A _).mono ?_
      rintro e w1 ⟨rfl, rfl⟩
      go_wp2_with fail
      refine (GX _).mono ?_
      rintro e w1 ⟨rfl, rfl⟩
      go_wp2_with fail
      go_ret
      exact ⟨ret_bool R.out, rfl⟩
  have ht : wk n = rkey f := by omega
  have d1 : decide (wk n < rkey f) = false := by simp only [decide_eq_false_iff_not]; omega
  have d2 : decide (rkey f < wk n) = false := by simp only [decide_eq_false_iff_not]; omega
  rw [d1] at GX
  rw [d2] at XG
  clear d1 d2 lt gt
  cases hx : isExact n.natAbs
  · have TI := tie_of h0 h1 hf ht hx
    rw [hx] at A
    have TIh := Lib.hid TI
    obtain rfl := TI.e
    clear TI ht
    by_cases hv : wholeV n < 9223372036854775808
    · obtain ⟨G1, G2⟩ := geq_lt h0 h1 hv
      have C : ∀ w : World, (convert 45 3 (.float .f64 (wholeB n))).run Try.prog w = .ok (.int .i64 (wholeV n)) w := fun w => run_convert_float_int w 45 3 .f64 .i64 _ _ (by kernel_rfl) Try.underlying3 (whole_back n h0 h1 hv)
      have R := Lib.hid (show decide (n < wholeV n) = lsB n (wholeB n) from (TIh.out.l).symm)
      clear TIh hx hv
      generalize hxx : wholeB n = x at *
      generalize hvv : wholeV n = v at *
      clear hxx hvv
      go_enter Try.func79, Try.ntmps79
      go_wp2_with fail
      refine (A _).mono ?_
      rintro e w1 ⟨rfl, rfl⟩
      go_wp2_with fail
      refine (GX _).mono ?_
      rintro e w1 ⟨rfl, rfl⟩
      go_wp2_with fail
      refine (XG _).mono ?_
      rintro e w1 ⟨rfl, rfl⟩
      go_wp2_with fail
      go_ret
      exact ⟨ret_bool (by rw [← R.out]; try simp), rfl⟩
    · obtain ⟨G1, G2, G3⟩ := geq_of h0 h1 false (decide_eq_false hv)
      have R := Lib.hid (show true = lsB n (wholeB n) by
        rw [TIh.out.l]; symm; simp only [decide_eq_true_eq]; omega)
      clear TIh hx hv G1
      simp only [Bool.not_false] at G2 G3
      generalize hxx : wholeB n = x at *
      clear hxx
      go_enter Try.func79, Try.ntmps79
      go_wp2_with fail
      refine (A _).mono ?_
      rintro e w1 ⟨rfl, rfl⟩
      go_wp2_with fail
      refine (GX _).mono ?_
      rintro e w1 ⟨rfl, rfl⟩
      go_wp2_with fail
      refine (XG _).mono ?_
      rintro e w1 ⟨rfl, rfl⟩
      go_wp2_with fail
      go_ret
      exact ⟨ret_bool R.out, rfl⟩
  · have R := Lib.hid (show false = lsB n f by
      have e := (exact_whole h0 h1).1 hx
      unfold lsB
      symm
      rw [ltP_not]
      simp only
      omega)
    rw [hx] at A
    clear ht hx
    generalize wholeB n = x at *
    go_enter Try.func79, Try.ntmps79
    go_wp2_with fail
    refine (A _).mono ?_
    rintro e w1 ⟨rfl, rfl⟩
    go_wp2_with fail
    refine (GX _).mono ?_
    rintro e w1 ⟨rfl, rfl⟩
    go_wp2_with fail
    go_ret
    exact ⟨ret_bool R.out, rfl⟩
set_option maxHeartbeats 1000000 in
theorem rmore_any (n : Int) (f : Nat) (h0 : -9223372036854775808 ≤ n) (h1 : n ≤ 9223372036854775807) (hf : f < 18446744073709551616) (w : World) :
    Calls Try.prog 80 #[.int .i64 n, .float .f64 f] w fun e w' => e = .returned (.bool (mrB n f)) ∧ w = w' := by
  have A := rwhole_any n h0 h1
  have lw := wholeB_lt h0 h1
  have hb := run_bits f
  have GX := below_any (wholeB n) f lw hf
  have XG := below_any f (wholeB n) hf lw
  change ∀ w, Calls Try.prog 78 #[.int .u64 (wholeB n : Nat), .int .u64 (f : Nat)] w fun r w' => r = .returned (.bool (decide (wk n < rkey f))) ∧ w = w' at GX
  change ∀ w, Calls Try.prog 78 #[.int .u64 (f : Nat), .int .u64 (wholeB n : Nat)] w fun r w' => r = .returned (.bool (decide (rkey f < wk n))) ∧ w = w' at XG
  by_cases lt : wk n < rkey f
  · have R := Lib.hid (show false = mrB n f by
      have e1 : ltP (wk n, n - wholeV n) (rkey f, 0) = true := (ltP_iff _ _).2 (.inl lt)
      have e2 : ltP (rkey f, 0) (wk n, n - wholeV n) = false := (ltP_not _ _).2 (by simp only; omega)
      unfold mrB
      exact e2.symm)
    have d1 : decide (wk n < rkey f) = true := by simp only [decide_eq_true_eq]; omega
    have d2 : decide (rkey f < wk n) = false := by simp only [decide_eq_false_iff_not]; omega
    rw [d1] at GX
    rw [d2] at XG
    clear d1 d2 lt
    generalize wholeB n = x at *
    cases hxx : isExact n.natAbs
    all_goals rw [hxx] at A
    all_goals clear hxx
    · go_enter Try.func80, Try.ntmps80
      go_wp2_with fail
      refine (A _).mono ?_
      rintro e w1 ⟨rfl, rfl⟩
      go_wp2_with fail
      refine (XG _).mono ?_
      rintro e w1 ⟨rfl, rfl⟩
      go_wp2_with fail
      refine (GX _).mono ?_
      rintro e w1 ⟨rfl, rfl⟩
      go_wp2_with fail
      go_ret
      exact ⟨ret_bool R.out, rfl⟩
    · go_enter Try.func80, Try.ntmps80
      go_wp2_with fail
      refine (A _).mono ?_
      rintro e w1 ⟨rfl, rfl⟩
      go_wp2_with fail
      refine (XG _).mono ?_
      rintro e w1 ⟨rfl, rfl⟩
      go_wp2_with fail
      go_ret
      exact ⟨ret_bool R.out, rfl⟩
  by_cases gt : rkey f < wk n
  · have R := Lib.hid (show true = mrB n f by
      have e1 : ltP (wk n, n - wholeV n) (rkey f, 0) = false := (ltP_not _ _).2 (by simp only; omega)
      have e2 : ltP (rkey f, 0) (wk n, n - wholeV n) = true := (ltP_iff _ _).2 (.inl gt)
      unfold mrB
      exact e2.symm)
    have d1 : decide (wk n < rkey f) = false := by simp only [decide_eq_false_iff_not]; omega
    have d2 : decide (rkey f < wk n) = true := by simp only [decide_eq_true_eq]; omega
    rw [d1] at GX
    rw [d2] at XG
    clear d1 d2 gt
    generalize wholeB n = x at *
    generalize isExact n.natAbs = b at *
    go_enter Try.func80, Try.ntmps80
    go_wp2_with fail
    refine (A _).mono ?_
    rintro e w1 ⟨rfl, rfl⟩
    go_wp2_with fail
    refine (XG _).mono ?_
    rintro e w1 ⟨rfl, rfl⟩
    go_wp2_with fail
    go_ret
    exact ⟨ret_bool R.out, rfl⟩
  have ht : wk n = rkey f := by omega
  have d1 : decide (wk n < rkey f) = false := by simp only [decide_eq_false_iff_not]; omega
  have d2 : decide (rkey f < wk n) = false := by simp only [decide_eq_false_iff_not]; omega
  rw [d1] at GX
  rw [d2] at XG
  clear d1 d2 lt gt
  cases hx : isExact n.natAbs
  · have TI := tie_of h0 h1 hf ht hx
    rw [hx] at A
    have TIh := Lib.hid TI
    obtain rfl := TI.e
    clear TI ht
    by_cases hv : wholeV n < 9223372036854775808
    · obtain ⟨G1, G2⟩ := geq_lt h0 h1 hv
      have C : ∀ w : World, (convert 45 3 (.float .f64 (wholeB n))).run Try.prog w = .ok (.int .i64 (wholeV n)) w := fun w => run_convert_float_int w 45 3 .f64 .i64 _ _ (by kernel_rfl) Try.underlying3 (whole_back n h0 h1 hv)
      have R := Lib.hid (show decide (wholeV n < n) = mrB n (wholeB n) from (TIh.out.m).symm)
      clear TIh hx hv
      generalize hxx : wholeB n = x at *
      generalize hvv : wholeV n = v at *
      clear hxx hvv
      go_enter Try.func80, Try.ntmps80
      go_wp2_with fail
      refine (A _).mono ?_
      rintro e w1 ⟨rfl, rfl⟩
      go_wp2_with fail
      refine (XG _).mono ?_
      rintro e w1 ⟨rfl, rfl⟩
      go_wp2_with fail
      refine (GX _).mono ?_
      rintro e w1 ⟨rfl, rfl⟩
      go_wp2_with fail
      go_ret
      exact ⟨ret_bool (by rw [← R.out]; try simp), rfl⟩
    · obtain ⟨G1, G2, G3⟩ := geq_of h0 h1 false (decide_eq_false hv)
      have R := Lib.hid (show false = mrB n (wholeB n) by
        rw [TIh.out.m]; symm; simp only [decide_eq_false_iff_not]; omega)
      clear TIh hx hv G1
      simp only [Bool.not_false] at G2 G3
      generalize hxx : wholeB n = x at *
      clear hxx
      go_enter Try.func80, Try.ntmps80
      go_wp2_with fail
      refine (A _).mono ?_
      rintro e w1 ⟨rfl, rfl⟩
      go_wp2_with fail
      refine (XG _).mono ?_
      rintro e w1 ⟨rfl, rfl⟩
      go_wp2_with fail
      refine (GX _).mono ?_
      rintro e w1 ⟨rfl, rfl⟩
      go_wp2_with fail
      go_ret
      exact ⟨ret_bool R.out, rfl⟩
  · have R := Lib.hid (show false = mrB n f by
      have e := (exact_whole h0 h1).1 hx
      unfold mrB
      symm
      rw [ltP_not]
      simp only
      omega)
    rw [hx] at A
    clear ht hx
    generalize wholeB n = x at *
    go_enter Try.func80, Try.ntmps80
    go_wp2_with fail
    refine (A _).mono ?_
    rintro e w1 ⟨rfl, rfl⟩
    go_wp2_with fail
    refine (XG _).mono ?_
    rintro e w1 ⟨rfl, rfl⟩
    go_wp2_with fail
    go_ret
    exact ⟨ret_bool R.out, rfl⟩
end Go.Proofs.Ytgenefamhhncbaa
