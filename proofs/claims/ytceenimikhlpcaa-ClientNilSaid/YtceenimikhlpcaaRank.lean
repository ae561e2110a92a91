/-
  THE WALKS OF real.Rank, Less, Same and of the document's own place: a float is its 64 bits.
-/
import Derived.Test.YtceenimikhlpcaaIeee
import Derived.Test.YtceenimikhlpcaaRows
import Derived.WalkKit
import Derived.Outline
import Derived.Lib.Hide
import Derived.Laws.Externs
import Derived.WalkLawsBesides
import Derived.Laws.BitsAllLaws
namespace Go.Proofs.Ytceenimikhlpcaa
open Go.RowKit
/-- where a number stands -/
def rankN (x : Nat) : Nat := if isNan x then 18446744073709551615 else if 9223372036854775808 ≤ x then 18446744073709551615 - x else 9223372036854775808 + x
theorem rankN_lt {x : Nat} (h : x < 18446744073709551616) : rankN x < 18446744073709551616 := by unfold rankN; split <;> (try split) <;> omega
theorem nat_and_low (x : Nat) : x &&& 9223372036854775807 = x % 9223372036854775808 := Nat.and_two_pow_sub_one_eq_mod x 63
theorem nat_and_sign (x : Nat) (h : x < 18446744073709551616) : x &&& 9223372036854775808 = if 9223372036854775808 ≤ x then 9223372036854775808 else 0 := by
  have h1 := nat_bit 63 x
  rw [show (2 : Nat) ^ 63 = 9223372036854775808 by decide +kernel] at h1
  rw [h1]
  split <;> omega
theorem and_sign (x : Nat) (h : x < 18446744073709551616) : bits .and .u64 (x : Int) 9223372036854775808 = if 9223372036854775808 ≤ x then 9223372036854775808 else 0 := by
  have := u64_and_nat x 9223372036854775808 h (by decide)
  rw [nat_and_sign x h] at this
  refine this.trans ?_
  split <;> rfl
theorem and_low (x : Nat) (h : x < 18446744073709551616) : bits .and .u64 (x : Int) 9223372036854775807 = ((x % 9223372036854775808 : Nat) : Int) := by
  have := u64_and_nat x 9223372036854775807 h (by decide)
  rw [nat_and_low x] at this
  exact this
theorem andNot_sign (x : Nat) (h : x < 18446744073709551616) : bits .andNot .u64 (x : Int) 9223372036854775808 = ((x % 9223372036854775808 : Nat) : Int) := by
  have := u64_andNot_nat x 9223372036854775808 h (by decide)
  rw [show 18446744073709551615 - 9223372036854775808 = 9223372036854775807 by decide, nat_and_low x] at this
  exact this
theorem not_u64 (r : Nat) (h : r < 18446744073709551616) : bits .xor .u64 IntKind.u64.max (r : Int) = ((18446744073709551615 - r : Nat) : Int) := by
  have e2 : IntKind.u64.max = ((18446744073709551615 : Nat) : Int) := by decide
  rw [e2, u64_xor_nat _ _ (by decide) h]
  congr 1
  apply Nat.eq_of_testBit_eq
  intro i
  rw [Nat.testBit_xor, show 18446744073709551615 = 2 ^ 64 - 1 from rfl, Nat.testBit_two_pow_sub_one, show 2 ^ 64 - 1 - r = 2 ^ 64 - (r + 1) by omega, Nat.testBit_two_pow_sub_succ h]
  by_cases hi : i < 64
  · simp [hi]
  · have : r.testBit i = false := Nat.testBit_lt_two_pow (Nat.lt_of_lt_of_le (show r < 2 ^ 64 from h) (Nat.pow_le_pow_right (by decide) (by omega)))
    simp [hi, this]
theorem or_sign (x : Nat) (h : x < 9223372036854775808) : bits .or .u64 (x : Int) 9223372036854775808 = ((9223372036854775808 + x : Nat) : Int) := by
  have h1 := u64_or_nat x 9223372036854775808 (by omega) (by decide)
  rw [Nat.or_comm, nat_join 63 9223372036854775808 x (by decide +kernel) (by omega)] at h1
  exact h1
theorem run_bits (b : Nat) (w : World) : (callFunc 88 #[.float .f64 b]).run Try.prog w = .ok (.value (.int .u64 (b : Int))) w := by
  rw [run_callFunc_extern (P := Try.prog) (e := Extern.MathFloatBits.float64bits) Try.func88 (by kernel_rfl) (by kernel_rfl) (by kernel_rfl) (by kernel_rfl)]
  rfl
theorem ret_u64 {a b : Int} (h : a = b) : Ending.returned (.int .u64 a) = .returned (.int .u64 b) := by rw [h]
theorem ret_bool {a b : Bool} (h : a = b) : Ending.returned (.bool a) = .returned (.bool b) := by rw [h]
theorem isNan_iff (x : Nat) : isNan x = true ↔ 9218868437227405312 < x % 9223372036854775808 := by unfold isNan; simp
end Go.Proofs.Ytceenimikhlpcaa
