/-
  awake, AND THE LAWS RealRanks, RealHolds, RealWholes, RealParts, RealOrder, RealSigns AS WALKS.
-/
import Derived.Test.YtiklaaganiafjaaRquo
namespace Go.Proofs.Ytiklaaganiafjaa
open Go.RowKit
set_option maxHeartbeats 1000000 in
theorem awake_any (w : World) : Calls Try.prog 11 #[] w fun r w' => r = .returned (.bool true) ∧ w = w' := by
  have e1 : wholeB 9007199254740993 = 4845873199050653696 := by decide +kernel
  have e2 : isExact (9007199254740993 : Int).natAbs = false := by decide +kernel
  have A := whole_any 9007199254740993 (by decide) (by decide)
  rw [e1, e2] at A
  have B := rank_any 0 (by decide)
  rw [show ((rankN 0 : Nat) : Int) = 9223372036854775808 by decide +kernel] at B
  have C := holds_any 2 9221120237041090561 4607182418800017408 (by decide) (by decide)
  rw [show opO 2 (ord 9221120237041090561 4607182418800017408) = true by decide +kernel] at C
  have D := part_any 1 2 (by decide) (by decide) (by decide) (by decide)
  rw [show partN 1 2 = 4602678819172646912 by decide +kernel] at D
  have o1 : (FloatKind.f64.format.order 4845873199050653696 4845873199050653696 == some .eq) = true := by decide +kernel
  have o2 : (FloatKind.f64.format.order 4602678819172646912 4602678819172646912 == some .eq) = true := by decide +kernel
  clear e1 e2
  go_enter Try.func11, Try.ntmps11
  go_wp2_with fail
  refine (A _).mono ?_
  rintro r w1 ⟨rfl, rfl⟩
  go_wp2_with fail
  refine (B _).mono ?_
  rintro r w1 ⟨rfl, rfl⟩
  go_wp2_with fail
  refine (mkNan_any _).mono ?_
  rintro r w1 ⟨rfl, rfl⟩
  go_wp2_with fail
  refine (C _).mono ?_
  rintro r w1 ⟨rfl, rfl⟩
  go_wp2_with fail
  refine (D _).mono ?_
  rintro r w1 ⟨rfl, rfl⟩
  go_wp2_with fail
  go_ret
  exact ⟨rfl, rfl⟩
set_option maxHeartbeats 1000000 in
theorem ranks_law (x y : Nat) (hx : x < 18446744073709551616) (hy : y < 18446744073709551616) (w : World) : Calls Try.prog 3 #[.float .f64 x, .float .f64 y] w fun r w' => r = .returned (.bool true) ∧ w = w' := by
  go_enter Try.func3, Try.ntmps3
  go_wp2_with fail
  refine (rrank_any x hx _).mono ?_
  rintro r w1 ⟨rfl, rfl⟩
  go_wp2_with fail
  refine (rrank_any y hy _).mono ?_
  rintro r w1 ⟨rfl, rfl⟩
  go_wp2_with fail
  refine (awake_any _).mono ?_
  rintro r w1 ⟨rfl, rfl⟩
  go_wp2_with fail
  refine (rank_any x hx _).mono ?_
  rintro r w1 ⟨rfl, rfl⟩
  go_wp2_with fail
  refine (less_any x y hx hy _).mono ?_
  rintro r w1 ⟨rfl, rfl⟩
  go_wp2_with fail
  refine (same_any x y hx hy _).mono ?_
  rintro r w1 ⟨rfl, rfl⟩
  go_wp2_with fail
  go_ret
  exact ⟨ret_bool (by simp only [beq_iff_eq]; apply Bool.eq_iff_iff.2; simp; omega), rfl⟩
set_option maxHeartbeats 1000000 in
theorem holds_law (op : Int) (x y : Nat) (hx : x < 18446744073709551616) (hy : y < 18446744073709551616) (w : World) : Calls Try.prog 4 #[.int .i64 op, .float .f64 x, .float .f64 y] w fun r w' => r = .returned (.bool true) ∧ w = w' := by
  have A := holds_any op x y hx hy
  have B := rholds_any op x y hx hy
  generalize opO op (ord x y) = b at *
  go_enter Try.func4, Try.ntmps4
  go_wp2_with fail
  refine (awake_any _).mono ?_
  rintro r w1 ⟨rfl, rfl⟩
  go_wp2_with fail
  refine (A _).mono ?_
  rintro r w1 ⟨rfl, rfl⟩
  go_wp2_with fail
  refine (B _).mono ?_
  rintro r w1 ⟨rfl, rfl⟩
  go_wp2_with fail
  go_ret
  exact ⟨ret_bool (by simp), rfl⟩
set_option maxHeartbeats 1000000 in
theorem wholes_law (n : Int) (h0 : -9223372036854775808 ≤ n) (h1 : n ≤ 9223372036854775807) (w : World) : Calls Try.prog 5 #[.int .i64 n] w fun r w' => r = .returned (.bool true) ∧ w = w' := by
  have A := whole_any n h0 h1
  have B := rwhole_any n h0 h1
  have R := run_bits (wholeB n)
  generalize wholeB n = x at *
  generalize isExact n.natAbs = b at *
  go_enter Try.func5, Try.ntmps5
  go_wp2_with fail
  refine (A _).mono ?_
  rintro r w1 ⟨rfl, rfl⟩
  go_wp2_with fail
  refine (B _).mono ?_
  rintro r w1 ⟨rfl, rfl⟩
  go_wp2_with fail
  refine (awake_any _).mono ?_
  rintro r w1 ⟨rfl, rfl⟩
  go_wp2_with fail
  go_ret
  exact ⟨ret_bool (by simp), rfl⟩
set_option maxHeartbeats 1000000 in
theorem parts_law (p q : Int) (hp0 : -9223372036854775808 ≤ p) (hp1 : p ≤ 9223372036854775807) (hq0 : -9223372036854775808 ≤ q) (hq1 : q ≤ 9223372036854775807) (hx : partN p q < 18446744073709551616) (w : World) :
    Calls Try.prog 6 #[.int .i64 p, .int .i64 q] w fun r w' => r = .returned (.bool true) ∧ ∃ n, w' = w.drewN n := by
  have A := part_any p q hp0 hp1 hq0 hq1
  have B := rpart_any p q hp0 hp1 hq0 hq1
  have R := run_bits (partN p q)
  have N := nan_any (partN p q) hx
  have O := ord_order (partN p q) (partN p q) hx hx
  generalize partN p q = x at *
  by_cases hn : isNan x = true
  · rw [ord_none_left hn] at O
    rw [hn] at N
    have O' : (FloatKind.f64.format.order x x != some .eq) = true := by rw [O]; rfl
    clear O hn
    go_enter Try.func6, Try.ntmps6
    go_wp2_with fail
    refine (A _).mono ?_
    rintro r w1 ⟨rfl, rfl⟩
    go_wp2_with fail
    refine (B _).mono ?_
    rintro r w1 ⟨rfl, n, rfl⟩
    go_wp2_with fail
    refine (awake_any _).mono ?_
    rintro r w1 ⟨rfl, rfl⟩
    go_wp2_with fail
    refine (N _).mono ?_
    rintro r w1 ⟨rfl, rfl⟩
    go_wp2_with fail
    go_ret
    exact ⟨rfl, n, rfl⟩
  · have hn : isNan x = false := by simpa using hn
    rw [ord_some hn hn, compare_eq' rfl] at O
    have O' : (FloatKind.f64.format.order x x != some .eq) = false := by rw [O]; rfl
    clear O hn N
    go_enter Try.func6, Try.ntmps6
    go_wp2_with fail
    refine (A _).mono ?_
    rintro r w1 ⟨rfl, rfl⟩
    go_wp2_with fail
    refine (B _).mono ?_
    rintro r w1 ⟨rfl, n, rfl⟩
    go_wp2_with fail
    refine (awake_any _).mono ?_
    rintro r w1 ⟨rfl, rfl⟩
    go_wp2_with fail
    go_ret
    exact ⟨ret_bool (by simp), n, rfl⟩
/-- how three numbers may stand -/
def okO (la lb s bc ac na nb e l : Bool) : Bool :=
  (if la then !lb && !s else if lb then !s else s) && (!(la && bc) || ac) && (!na || (!la && !e && !l)) && (!nb || (!e && !l)) && (!(na && nb) || s) && (na || nb || e || (la == l)) && (!s || e || (na && nb)) && !(e && l)
set_option maxHeartbeats 8000000 in
theorem order_core (a b c : Nat) (la lb s bc ac na nb e l : Bool) (ok : okO la lb s bc ac na nb e l = true)
    (AB : ∀ w, Calls Try.prog 13 #[.float .f64 a, .float .f64 b] w fun r w' => r = .returned (.bool la) ∧ w = w')
    (BA : ∀ w, Calls Try.prog 13 #[.float .f64 b, .float .f64 a] w fun r w' => r = .returned (.bool lb) ∧ w = w')
    (S : ∀ w, Calls Try.prog 14 #[.float .f64 a, .float .f64 b] w fun r w' => r = .returned (.bool s) ∧ w = w')
    (BC : ∀ w, Calls Try.prog 13 #[.float .f64 b, .float .f64 c] w fun r w' => r = .returned (.bool bc) ∧ w = w')
    (AC : ∀ w, Calls Try.prog 13 #[.float .f64 a, .float .f64 c] w fun r w' => r = .returned (.bool ac) ∧ w = w')
    (q1 : (FloatKind.f64.format.order a a == some .eq) = !na) (q2 : (FloatKind.f64.format.order a a != some .eq) = na)
    (q3 : (FloatKind.f64.format.order b b == some .eq) = !nb) (q4 : (FloatKind.f64.format.order b b != some .eq) = nb)
    (q5 : (FloatKind.f64.format.order a b == some .eq) = e) (q6 : (FloatKind.f64.format.order a b != some .eq) = !e)
    (q7 : (FloatKind.f64.format.order a b == some .lt) = l) (w : World) :
    Calls Try.prog 8 #[.float .f64 a, .float .f64 b, .float .f64 c] w fun r w' => r = .returned (.bool true) ∧ w = w' := by
  cases la <;> cases lb <;> cases s <;> cases bc <;> cases ac <;> cases na <;> cases nb <;> cases e <;> cases l <;> first
    | exact absurd ok (by decide)
    | (go_enter Try.func8, Try.ntmps8
       go_wp2_with (first | (go_at_call 13; (first | (with_reducible refine (AB _).mono ?_) | (with_reducible refine (BA _).mono ?_) | (with_reducible refine (BC _).mono ?_) | (with_reducible refine (AC _).mono ?_)); rintro r w1 ⟨rfl, rfl⟩) | (go_at_call 14; (with_reducible refine (S _).mono ?_); rintro r w1 ⟨rfl, rfl⟩) | (go_at_call 11; refine (awake_any _).mono ?_; rintro r w1 ⟨rfl, rfl⟩))
       go_ret
       exact ⟨rfl, rfl⟩)
end Go.Proofs.Ytiklaaganiafjaa
