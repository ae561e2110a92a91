/-
  A WHOLE NUMBER AND A REAL ONE: event.mixed.
-/
import Derived.Test.YtgenefamhhncbaaCmp
namespace Go.Proofs.Ytgenefamhhncbaa
open Go.RowKit
/-- how a whole number stands to a real one -/
def mxI (n : Int) (f : Nat) : Int := if isNan f = true then 1 else tri (ltP (wk n, n - wholeV n) (rkey f, 0)) (ltP (rkey f, 0) (wk n, n - wholeV n))
theorem rkey_inj {x y : Nat} (hx : x < 18446744073709551616) (hy : y < 18446744073709551616) (h : rkey x = rkey y) (h0 : rkey x ≠ 0) : x = y := by
  unfold rkey at *
  split at h <;> split at h <;> split at h0 <;> omega
theorem exact_whole {n : Int} (h0 : -9223372036854775808 ≤ n) (h1 : n ≤ 9223372036854775807) : isExact n.natAbs = true ↔ wholeV n = n := by
  have h := near_exact n.natAbs
  rw [← h]
  unfold wholeV sg
  by_cases hn : n < 0
  · simp only [hn, decide_true, if_true]; omega
  · simp only [hn, decide_false, Bool.false_eq_true, if_false]; omega
theorem wk_ne {n : Int} (hn : n ≠ 0) (h0 : -9223372036854775808 ≤ n) (h1 : n ≤ 9223372036854775807) : wk n ≠ 0 := by
  have := (rung_bounds (m := n.natAbs) (by omega) (by omega)).2.2
  rw [wk_sg hn h0 h1]
  split <;> omega
set_option maxHeartbeats 400000 in
theorem mixed_any (n : Int) (f : Nat) (h0 : -9223372036854775808 ≤ n) (h1 : n ≤ 9223372036854775807) (hf : f < 18446744073709551616) (w : World) :
    Calls Try.prog 74 #[.int .i64 n, .float .f64 f] w fun e w' => e = .returned (.int .i64 (mxI n f)) ∧ w = w' := by
  have A := whole_any n h0 h1
  have lw := wholeB_lt h0 h1
  have nw := wholeB_nan h0 h1
  have O := orderF_any (wholeB n) f lw hf
  have E := exact_whole h0 h1
  unfold mxI
  by_cases hn : isNan f = true
  · rw [if_pos hn]
    rw [ord_none_right hn] at O
    unfold trO at O
    clear hn E
    generalize wholeB n = x at *
    generalize isExact n.natAbs = b at *
    go_enter Try.func74, Try.ntmps74
    go_wp2_with fail
    refine (A _).mono ?_
    rintro e w1 ⟨rfl, rfl⟩
    go_wp2_with fail
    refine (O _).mono ?_
    rintro e w1 ⟨rfl, rfl⟩
    go_wp2_with fail
    all_goals go_ret
    all_goals exact ⟨rfl, rfl⟩
  · rw [if_neg hn]
    have hn : isNan f = false := by simpa using hn
    rw [ord_some nw hn] at O
    change ∀ w, Calls Try.prog 76 #[.float .f64 (wholeB n), .float .f64 f] w fun e w' => e = .returned (.int .i64 (trO (some (compare (wk n) (rkey f))))) ∧ w = w' at O
    rcases Int.lt_trichotomy (wk n) (rkey f) with ht | ht | ht
    · have R := Lib.hid (show (2 : Int) = tri (ltP (wk n, n - wholeV n) (rkey f, 0)) (ltP (rkey f, 0) (wk n, n - wholeV n)) by
        have : ltP (wk n, n - wholeV n) (rkey f, 0) = true := (ltP_iff _ _).2 (.inl ht)
        rw [this]; rfl)
      rw [compare_lt' ht] at O
      unfold trO at O
      clear hn E ht
      generalize wholeB n = x at *
      generalize isExact n.natAbs = b at *
      go_enter Try.func74, Try.ntmps74
      go_wp2_with fail
      refine (A _).mono ?_
      rintro e w1 ⟨rfl, rfl⟩
      go_wp2_with fail
      refine (O _).mono ?_
      rintro e w1 ⟨rfl, rfl⟩
      go_wp2_with fail
      all_goals go_ret
      all_goals exact ⟨by rw [← R.out]; rfl, rfl⟩
    · by_cases hx : isExact n.natAbs = true
      · have R := Lib.hid (show (3 : Int) = tri (ltP (wk n, n - wholeV n) (rkey f, 0)) (ltP (rkey f, 0) (wk n, n - wholeV n)) by
          have e := E.1 hx
          rw [show n - wholeV n = 0 by omega, ht]
          unfold ltP
          simp [tri])
        rw [compare_eq' ht] at O
        unfold trO at O
        rw [hx] at A
        clear hn E ht hx
        generalize wholeB n = x at *
        go_enter Try.func74, Try.ntmps74
        go_wp2_with fail
        refine (A _).mono ?_
        rintro e w1 ⟨rfl, rfl⟩
        go_wp2_with fail
        refine (O _).mono ?_
        rintro e w1 ⟨rfl, rfl⟩
        go_wp2_with fail
        go_ret
        exact ⟨by rw [← R.out]; rfl, rfl⟩
      · have hne : wholeV n ≠ n := fun e => hx (E.2 e)
        have n0 : n ≠ 0 := by rintro rfl; exact hne (by decide +kernel)
        have ef : f = wholeB n := (rkey_inj lw hf ht (wk_ne n0 h0 h1)).symm
        subst ef
        have hx' : isExact n.natAbs = false := by simpa using hx
        rw [compare_eq' ht] at O
        unfold trO at O
        rw [hx'] at A
        have T := whole_test n h0 h1
        have OO := ord_order (wholeB n) 4890909195324358656 lw (by decide)
        rw [ord_some nw (by decide)] at OO
        by_cases hv : wholeV n < 9223372036854775808
        · rw [decide_eq_true hv] at T
          have T' : (FloatKind.f64.format.order (wholeB n) 4890909195324358656 == some .gt) = false := by
            cases ho : FloatKind.f64.format.order (wholeB n) 4890909195324358656 with
            | none => rfl
            | some o => rw [ho] at T; cases o <;> first | rfl | (exact absurd T (by decide))
          have T2 : (FloatKind.f64.format.order (wholeB n) 4890909195324358656 == some .eq) = false := by
            cases ho : FloatKind.f64.format.order (wholeB n) 4890909195324358656 with
            | none => rfl
            | some o => rw [ho] at T; cases o <;> first | rfl | (exact absurd T (by decide))
          have C : ∀ w : World, (convert 45 3 (.float .f64 (wholeB n))).run Try.prog w = .ok (.int .i64 (wholeV n)) w := fun w => run_convert_float_int w 45 3 .f64 .i64 _ _ (by kernel_rfl) Try.underlying3 (whole_back n h0 h1 hv)
          have I := orderI_any n (wholeV n)
          have R := Lib.hid (show trI n (wholeV n) = tri (ltP (wk n, n - wholeV n) (rkey (wholeB n), 0)) (ltP (rkey (wholeB n), 0) (wk n, n - wholeV n)) by
            have e1 : ltP (wk n, n - wholeV n) (rkey (wholeB n), 0) = decide (n < wholeV n) := by
              apply Bool.eq_iff_iff.2
              rw [ltP_iff]
              simp only [decide_eq_true_eq]
              show wk n < wk n ∨ (wk n = wk n ∧ _) ↔ _
              omega
            have e2 : ltP (rkey (wholeB n), 0) (wk n, n - wholeV n) = decide (wholeV n < n) := by
              apply Bool.eq_iff_iff.2
              rw [ltP_iff]
              simp only [decide_eq_true_eq]
              show wk n < wk n ∨ (wk n = wk n ∧ _) ↔ _
              omega
            rw [e1, e2]
            unfold trI tri
            by_cases hl : n < wholeV n
            · simp [hl]
            · have : wholeV n < n := by omega
              simp [hl, this]; omega)
          have e3 : rkey (wholeB n) = wk n := rfl
          rw [← R.out]
          clear hn E ht hx hx' R OO hv hne n0 e3 T
          generalize wholeB n = x at *
          generalize wholeV n = v at *
          go_enter Try.func74, Try.ntmps74
          go_wp2_with fail
          refine (A _).mono ?_
          rintro e w1 ⟨rfl, rfl⟩
          go_wp2_with fail
          refine (O _).mono ?_
          rintro e w1 ⟨rfl, rfl⟩
          go_wp2_with fail
          refine (I _).mono ?_
          rintro e w1 ⟨rfl, rfl⟩
          go_wp2_with fail
          go_ret
          exact ⟨rfl, rfl⟩
        · rw [decide_eq_false hv] at T
          have hge : (FloatKind.f64.format.order (wholeB n) 4890909195324358656 == some .gt || FloatKind.f64.format.order (wholeB n) 4890909195324358656 == some .eq) = true := by
            rw [OO] at T ⊢
            cases ho : compare (rkey (wholeB n)) (rkey 4890909195324358656) <;> rw [ho] at T <;> first | rfl | (exact absurd T (by decide))
          have R := Lib.hid (show (2 : Int) = tri (ltP (wk n, n - wholeV n) (rkey (wholeB n), 0)) (ltP (rkey (wholeB n), 0) (wk n, n - wholeV n)) by
            have e1 : ltP (wk n, n - wholeV n) (rkey (wholeB n), 0) = true := by
              rw [ltP_iff]
              show wk n < wk n ∨ (wk n = wk n ∧ _)
              omega
            rw [e1]; rfl)
          rw [← R.out]
          clear hn E ht hx hx' R OO hv hne n0 T
          generalize wholeB n = x at *
          have hge2 : (FloatKind.f64.format.order x 4890909195324358656 == some .eq || FloatKind.f64.format.order x 4890909195324358656 == some .gt) = true := by rw [Bool.or_comm]; exact hge
          go_enter Try.func74, Try.ntmps74
          go_wp2_with fail
          refine (A _).mono ?_
          rintro e w1 ⟨rfl, rfl⟩
          go_wp2_with fail
          refine (O _).mono ?_
          rintro e w1 ⟨rfl, rfl⟩
          go_wp2_with fail
          go_ret
          exact ⟨rfl, rfl⟩
    · have R := Lib.hid (show (4 : Int) = tri (ltP (wk n, n - wholeV n) (rkey f, 0)) (ltP (rkey f, 0) (wk n, n - wholeV n)) by
        have e1 : ltP (wk n, n - wholeV n) (rkey f, 0) = false := (ltP_not _ _).2 (by simp only; omega)
        have e2 : ltP (rkey f, 0) (wk n, n - wholeV n) = true := (ltP_iff _ _).2 (.inl ht)
        rw [e1, e2]; rfl)
      rw [compare_gt' ht] at O
      unfold trO at O
      clear hn E ht
      generalize wholeB n = x at *
      generalize isExact n.natAbs = b at *
      go_enter Try.func74, Try.ntmps74
      go_wp2_with fail
      refine (A _).mono ?_
      rintro e w1 ⟨rfl, rfl⟩
      go_wp2_with fail
      refine (O _).mono ?_
      rintro e w1 ⟨rfl, rfl⟩
      go_wp2_with fail
      all_goals go_ret
      all_goals exact ⟨by rw [← R.out]; rfl, rfl⟩
end Go.Proofs.Ytgenefamhhncbaa
