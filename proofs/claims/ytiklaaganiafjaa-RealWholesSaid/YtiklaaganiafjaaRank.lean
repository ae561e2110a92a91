/-
  THE WALKS OF real.Rank, Less, Same and of the document's own place: a float is its 64 bits.
-/
import Derived.Test.YtiklaaganiafjaaIeee
import Derived.Test.YtiklaaganiafjaaRows
import Derived.WalkKit
import Derived.Outline
import Derived.Lib.Hide
import Derived.Laws.Externs
import Derived.WalkLawsBesides
import Derived.Laws.BitsAllLaws
namespace Go.Proofs.Ytiklaaganiafjaa
open Go.RowKit
/-- where a number stands -/
def rankN (x : Nat) : Nat := if isNan x then 18446744073709551615 else if 9223372036854775808 ≤ x then 18446744073709551615 - x else 9223372036854775808 + x
theorem rankN_lt {x : Nat} (h : x < 18446744073709551616) : rankN x < 18446744073709551616 := by unfold rankN; split <;> (try split) <;> omega
theorem nat_and_low (x : Nat) : x &&& 9223372036854775807 = x % 9223372036854775808 := Nat.and_two_pow_sub_one_eq_mod x 63
theorem nat_and_sign (x : Nat) (h : x < 18446744073709551616) : x &&& 9223372036854775808 = if 9223372036854775808 ≤ x then 9223372036854775808 else 0 := by
  have h1 := nat_bit 63 x
  rw [show (2 : Nat) ^ 63 = 9223372036854775808 by decide +kernel] at h1
  rw [h1]
  split <;> omega
theorem and_sign (x : Nat) (h : x < 18446744073709551616) : bits .and .u64 (x : Int) 9223372036854775808 = if 9223372036854775808 ≤ x then 9223372036854775808 else 0 := by
  have := u64_and_nat x 9223372036854775808 h (by decide)
  rw [nat_and_sign x h] at this
  refine this.trans ?_
  split <;> rfl
theorem and_low (x : Nat) (h : x < 18446744073709551616) : bits .and .u64 (x : Int) 9223372036854775807 = ((x % 9223372036854775808 : Nat) : Int) := by
  have := u64_and_nat x 9223372036854775807 h (by decide)
  rw [nat_and_low x] at this
  exact this
theorem andNot_sign (x : Nat) (h : x < 18446744073709551616) : bits .andNot .u64 (x : Int) 9223372036854775808 = ((x % 9223372036854775808 : Nat) : Int) := by
  have := u64_andNot_nat x 9223372036854775808 h (by decide)
  rw [show 18446744073709551615 - 9223372036854775808 = 9223372036854775807 by decide, nat_and_low x] at this
  exact this
theorem not_u64 (r : Nat) (h : r < 18446744073709551616) : bits .xor .u64 IntKind.u64.max (r : Int) = ((18446744073709551615 - r : Nat) : Int) := by
  have e2 : IntKind.u64.max = ((18446744073709551615 : Nat) : Int) := by decide
  rw [e2, u64_xor_nat _ _ (by decide) h]
  congr 1
  apply Nat.eq_of_testBit_eq
  intro i
  rw [Nat.testBit_xor, show 18446744073709551615 = 2 ^ 64 - 1 from rfl, Nat.testBit_two_pow_sub_one, show 2 ^ 64 - 1 - r = 2 ^ 64 - (r + 1) by omega, Nat.testBit_two_pow_sub_succ h]
  by_cases hi : i < 64
  · simp [hi]
  · have : r.testBit i = false := Nat.testBit_lt_two_pow (Nat.lt_of_lt_of_le (show r < 2 ^ 64 from h) (Nat.pow_le_pow_right (by decide) (by omega)))
    simp [hi, this]
theorem or_sign (x : Nat) (h : x < 9223372036854775808) : bits .or .u64 (x : Int) 9223372036854775808 = ((9223372036854775808 + x : Nat) : Int) := by
  have h1 := u64_or_nat x 9223372036854775808 (by omega) (by decide)
  rw [Nat.or_comm, nat_join 63 9223372036854775808 x (by decide +kernel) (by omega)] at h1
  exact h1
theorem run_bits (b : Nat) (w : World) : (callFunc 19 #[.float .f64 b]).run Try.prog w = .ok (.value (.int .u64 (b : Int))) w := by
  rw [run_callFunc_extern (P := Try.prog) (e := Extern.MathFloatBits.float64bits) Try.func19 (by kernel_rfl) (by kernel_rfl) (by kernel_rfl) (by kernel_rfl)]
  rfl
theorem run_frombits (n : Int) (w : World) : (callFunc 34 #[.int .u64 n]).run Try.prog w = .ok (.value (.float .f64 n.toNat)) w := by
  rw [run_callFunc_extern (P := Try.prog) (e := Extern.MathFloatBits.float64frombits) Try.func34 (by kernel_rfl) (by kernel_rfl) (by kernel_rfl) (by kernel_rfl)]
  rfl
theorem ret_u64 {a b : Int} (h : a = b) : Ending.returned (.int .u64 a) = .returned (.int .u64 b) := by rw [h]
theorem ret_bool {a b : Bool} (h : a = b) : Ending.returned (.bool a) = .returned (.bool b) := by rw [h]
theorem isNan_iff (x : Nat) : isNan x = true ↔ 9218868437227405312 < x % 9223372036854775808 := by unfold isNan; simp
theorem rank_any (x : Nat) (hx : x < 18446744073709551616) (w : World) : Calls Try.prog 12 #[.float .f64 x] w fun r w' => r = .returned (.int .u64 (rankN x : Nat)) ∧ w = w' := by
  have hb := run_bits x
  have e1 := andNot_sign x hx
  have e2 := and_sign x hx
  by_cases hn : isNan x = true
  · have H : (9218868437227405312 : Int) < bits .andNot .u64 (x : Int) 9223372036854775808 := by rw [e1]; have := (isNan_iff x).1 hn; omega
    have R : (18446744073709551615 : Int) = ((rankN x : Nat) : Int) := by unfold rankN; rw [if_pos hn]; rfl
    have HR := Lib.hid R
    clear e1 e2 R
    go_enter Try.func12, Try.ntmps12
    go_wp2_with fail
    go_ret
    exact ⟨ret_u64 HR.out, rfl⟩
  · have H : bits .andNot .u64 (x : Int) 9223372036854775808 ≤ (9218868437227405312 : Int) := by rw [e1]; have := mt (isNan_iff x).2 hn; omega
    by_cases hs : 9223372036854775808 ≤ x
    · have H2 : (bits .and .u64 (x : Int) 9223372036854775808 != 0) = true := by rw [e2, if_pos hs]; rfl
      have R : bits .xor .u64 IntKind.u64.max (x : Int) = ((rankN x : Nat) : Int) := by rw [not_u64 x hx]; unfold rankN; rw [if_neg hn, if_pos hs]
      have HR := Lib.hid R
      clear e1 e2 R
      go_enter Try.func12, Try.ntmps12
      go_wp2_with fail
      go_ret
      exact ⟨ret_u64 HR.out, rfl⟩
    · have H2 : (bits .and .u64 (x : Int) 9223372036854775808 != 0) = false := by rw [e2, if_neg hs]; rfl
      have R : bits .or .u64 (x : Int) 9223372036854775808 = ((rankN x : Nat) : Int) := by rw [or_sign x (by omega)]; unfold rankN; rw [if_neg hn, if_neg hs]
      have HR := Lib.hid R
      clear e1 e2 R
      go_enter Try.func12, Try.ntmps12
      go_wp2_with fail
      go_ret
      exact ⟨ret_u64 HR.out, rfl⟩
theorem less_any (x y : Nat) (hx : x < 18446744073709551616) (hy : y < 18446744073709551616) (w : World) : Calls Try.prog 13 #[.float .f64 x, .float .f64 y] w fun r w' => r = .returned (.bool (decide (rankN x < rankN y))) ∧ w = w' := by
  go_enter Try.func13, Try.ntmps13
  go_wp2_with fail
  refine (rank_any x hx _).mono ?_
  rintro e w1 ⟨rfl, rfl⟩
  go_wp2_with fail
  refine (rank_any y hy _).mono ?_
  rintro e w1 ⟨rfl, rfl⟩
  go_wp2_with fail
  go_ret
  exact ⟨ret_bool (by simp), rfl⟩
theorem same_any (x y : Nat) (hx : x < 18446744073709551616) (hy : y < 18446744073709551616) (w : World) : Calls Try.prog 14 #[.float .f64 x, .float .f64 y] w fun r w' => r = .returned (.bool (decide (rankN x = rankN y))) ∧ w = w' := by
  go_enter Try.func14, Try.ntmps14
  go_wp2_with fail
  refine (rank_any x hx _).mono ?_
  rintro e w1 ⟨rfl, rfl⟩
  go_wp2_with fail
  refine (rank_any y hy _).mono ?_
  rintro e w1 ⟨rfl, rfl⟩
  go_wp2_with fail
  go_ret
  exact ⟨ret_bool (by apply Bool.eq_iff_iff.2; simp; omega), rfl⟩
theorem nan_any (x : Nat) (_hx : x < 18446744073709551616) (w : World) : Calls Try.prog 22 #[.int .u64 x] w fun r w' => r = .returned (.bool (isNan x)) ∧ w = w' := by
  go_enter Try.func22, Try.ntmps22
  go_wp2_with fail
  go_ret
  refine ⟨ret_bool ?_, rfl⟩
  unfold isNan
  apply Bool.eq_iff_iff.2
  rw [IntKind.wrap_u64]
  simp
  omega
theorem place_any (x : Nat) (hx : x < 18446744073709551616) (w : World) : Calls Try.prog 25 #[.int .u64 x] w fun r w' => r = .returned (.int .u64 (rankN x : Nat)) ∧ w = w' := by
  by_cases hn : isNan x = true
  · go_enter Try.func25, Try.ntmps25
    go_wp2_with fail
    refine (nan_any x hx _).mono ?_
    rintro e w1 ⟨rfl, rfl⟩
    go_wp2_with fail
    go_ret
    exact ⟨ret_u64 (by unfold rankN; rw [if_pos hn]; rfl), rfl⟩
  · have hn' : isNan x = false := by simpa using hn
    by_cases hs : 9223372036854775808 ≤ x
    · have H : ((x : Int) / 9223372036854775808 == 1) = true := by simp; omega
      go_enter Try.func25, Try.ntmps25
      go_wp2_with fail
      refine (nan_any x hx _).mono ?_
      rintro e w1 ⟨rfl, rfl⟩
      go_wp2_with fail
      go_ret
      exact ⟨ret_u64 (by unfold rankN; rw [if_neg hn, if_pos hs]; omega), rfl⟩
    · have H : ((x : Int) / 9223372036854775808 == 1) = false := by simp; omega
      go_enter Try.func25, Try.ntmps25
      go_wp2_with fail
      refine (nan_any x hx _).mono ?_
      rintro e w1 ⟨rfl, rfl⟩
      go_wp2_with fail
      go_ret
      exact ⟨ret_u64 (by unfold rankN; rw [if_neg hn, if_neg hs]; omega), rfl⟩
theorem rrank_any (x : Nat) (hx : x < 18446744073709551616) (w : World) : Calls Try.prog 10 #[.float .f64 x] w fun r w' => r = .returned (.int .u64 (rankN x : Nat)) ∧ w = w' := by
  have hb := run_bits x
  go_enter Try.func10, Try.ntmps10
  go_wp2_with fail
  refine (place_any x hx _).mono ?_
  rintro e w1 ⟨rfl, rfl⟩
  go_wp2_with fail
  go_ret
  exact ⟨rfl, rfl⟩
end Go.Proofs.Ytiklaaganiafjaa
