/-
  THE WALKS OF real.Whole, of the document's own, and of its rounding.
-/
import Derived.Test.YtceenimikhlpcaaHolds
import Derived.Handy
namespace Go.Proofs.Ytceenimikhlpcaa
open Go.RowKit
/-- the whole number that the float next to n is -/
def wholeV (n : Int) : Int := sg (decide (n < 0)) (near n.natAbs)
/-- its bits -/
def wholeB (n : Int) : Nat := floatOfInt .f64 n
theorem near_zero : near 0 = 0 := by decide +kernel
theorem wholeB_form {n : Int} (hn : n ≠ 0) (h0 : -9223372036854775808 ≤ n) (h1 : n ≤ 9223372036854775807) : wholeB n = (if decide (n < 0) = true then 9223372036854775808 else 0) + rung n.natAbs := by
  unfold wholeB
  rw [floatOfInt_form n hn (by omega)]
  simp only [decide_eq_true_eq]
theorem wholeB_lt {n : Int} (h0 : -9223372036854775808 ≤ n) (h1 : n ≤ 9223372036854775807) : wholeB n < 18446744073709551616 := by
  by_cases hn : n = 0
  · subst hn; decide +kernel
  · rw [wholeB_form hn h0 h1]
    have := (rung_bounds (m := n.natAbs) (by omega) (by omega)).2.1
    split <;> omega
theorem wholeB_nan {n : Int} (h0 : -9223372036854775808 ≤ n) (h1 : n ≤ 9223372036854775807) : isNan (wholeB n) = false := by
  by_cases hn : n = 0
  · subst hn; decide +kernel
  · rw [wholeB_form hn h0 h1]
    have := (rung_bounds (m := n.natAbs) (by omega) (by omega)).2.1
    unfold isNan
    split <;> simp <;> omega
theorem wholeB_rkey {n : Int} (hn : n ≠ 0) (h0 : -9223372036854775808 ≤ n) (h1 : n ≤ 9223372036854775807) : rkey (wholeB n) = sg (decide (n < 0)) (rung n.natAbs) := by
  rw [wholeB_form hn h0 h1]
  have := (rung_bounds (m := n.natAbs) (by omega) (by omega)).2.1
  unfold rkey sg
  by_cases h : n < 0 <;> simp [h] <;> omega
theorem whole_test (n : Int) (h0 : -9223372036854775808 ≤ n) (h1 : n ≤ 9223372036854775807) : (FloatKind.f64.format.order (wholeB n) 4890909195324358656 == some .lt) = decide (wholeV n < 9223372036854775808) := by
  rw [ord_order _ _ (wholeB_lt h0 h1) (by decide), ord_some (wholeB_nan h0 h1) (by decide)]
  have hc : rkey 4890909195324358656 = 4890909195324358656 := by decide
  rw [hc]
  have key : rkey (wholeB n) < 4890909195324358656 ↔ wholeV n < 9223372036854775808 := by
    by_cases hn : n = 0
    · subst hn; decide +kernel
    · rw [wholeB_rkey hn h0 h1]
      unfold wholeV sg
      by_cases h : n < 0
      · simp [h]; omega
      · have := near_lt (m := n.natAbs) (by omega) (by omega)
        simp only [h, decide_false, Bool.false_eq_true, if_false]
        omega
  by_cases h : rkey (wholeB n) < 4890909195324358656
  · rw [compare_lt' h, decide_eq_true (key.1 h)]; rfl
  · rw [decide_eq_false (mt key.2 h)]
    by_cases e : rkey (wholeB n) = 4890909195324358656
    · rw [compare_eq' e]; rfl
    · rw [compare_gt' (by omega)]; rfl
theorem whole_back (n : Int) (h0 : -9223372036854775808 ≤ n) (h1 : n ≤ 9223372036854775807) (h : wholeV n < 9223372036854775808) : floatToIntVal .f64 (wholeB n) .i64 = some (wholeV n) := by
  have e : (FloatKind.f64.decode (wholeB n)).toInt .zero = some (wholeV n) := by
    by_cases hn : n = 0
    · subst hn; decide +kernel
    · rw [wholeB_form hn h0 h1]
      exact toInt_rung (decide (n < 0)) (m := n.natAbs) (by omega) (by omega)
  unfold floatToIntVal
  rw [e]
  have hle : -9223372036854775808 ≤ wholeV n := by
    unfold wholeV sg
    by_cases hn : n = 0
    · subst hn; rw [show (0 : Int).natAbs = 0 by rfl, near_zero]; decide
    · have := near_le (m := n.natAbs) (by omega) (by omega)
      split <;> omega
  have e1 : IntKind.i64.min = -9223372036854775808 := by decide
  have e2 : IntKind.i64.max = 9223372036854775807 := by decide
  simp only [e1, e2]
  rw [if_pos ⟨hle, by omega⟩]
theorem whole_exact (n : Int) (h0 : -9223372036854775808 ≤ n) (h1 : n ≤ 9223372036854775807) : (decide (wholeV n < 9223372036854775808) && (wholeV n == n)) = isExact n.natAbs := by
  have h := near_exact n.natAbs
  apply Bool.eq_iff_iff.2
  rw [← h]
  simp only [Bool.and_eq_true, decide_eq_true_eq, beq_iff_eq]
  unfold wholeV sg
  by_cases hn : n < 0
  · simp only [hn, decide_true, if_true]; omega
  · simp only [hn, decide_false, Bool.false_eq_true, if_false]; omega
theorem ret_fb {a b : Nat} {c d : Bool} (h : a = b) (h' : c = d) : Ending.returned (.tuple #[.float .f64 a, .bool c]) = .returned (.tuple #[.float .f64 b, .bool d]) := by rw [h, h']
theorem len_half (M : Nat) (h : M ≠ 0) : (if M = 0 then 0 else M.log2 + 1) = (if M / 2 = 0 then 0 else (M / 2).log2 + 1) + 1 := by
  rw [if_neg h]
  by_cases h2 : M / 2 = 0
  · have : M = 1 := by omega
    subst this; rfl
  · rw [if_neg h2]
    have := log2_lift (n := M / 2) (m := M) (j := 1) h2 (by omega)
    omega
theorem len_le {M : Nat} (h : M < 18446744073709551616) : (if M = 0 then 0 else M.log2 + 1) ≤ 64 := by
  split
  · omega
  · have := (Nat.log2_lt (n := M) (k := 64) (by assumption)).2 (by omega)
    omega
/-- a number's length in bits -/
def lenN (M : Nat) : Nat := if M = 0 then 0 else M.log2 + 1
theorem and_52 (x : Nat) (h : x < 18446744073709551616) : bits .and .u64 (x : Int) 4503599627370495 = ((x % 4503599627370496 : Nat) : Int) := by
  have := u64_and_nat x 4503599627370495 h (by decide)
  rw [show x &&& 4503599627370495 = x % 4503599627370496 from Nat.and_two_pow_sub_one_eq_mod x 52] at this
  exact this
theorem small_end {n : Nat} {e : Int} (more : Bool) (h0 : n ≠ 0) (h : n.log2 + 1 ≤ 53) (h1 : 0 ≤ (n.log2 : Int) + 1022 + e) (h2 : (n.log2 : Int) + 1022 + e ≤ 2044) :
    IntKind.u64.wrap ((1022 + ((n.log2 : Int) + 1) + e) * 4503599627370496 + bits .and .u64 (IntKind.u64.wrap ((n : Int) * 2 ^ (52 - n.log2))) 4503599627370495) = ((n.log2 : Int) + 1022 + e) * 4503599627370496 + (keptM n more : Nat) := by
  have hk : keptM n more = n * 2 ^ (52 - n.log2) := by unfold keptM; rw [if_pos (by omega)]
  have hk2 : kept n = n * 2 ^ (52 - n.log2) := by unfold kept; rw [if_pos (by omega)]
  obtain ⟨b1, b2⟩ := log2_bounds h0
  obtain ⟨k1, k2⟩ := kept_bounds h0
  have k3 : n * 2 ^ (52 - n.log2) < 9007199254740992 := by
    have e' : 2 ^ (n.log2 + 1) * 2 ^ (52 - n.log2) = 9007199254740992 := by rw [← Nat.pow_add, show n.log2 + 1 + (52 - n.log2) = 53 by omega]
    rw [← e']
    exact Nat.mul_lt_mul_of_pos_right b2 (Nat.two_pow_pos _)
  have e1 : ((n : Int) * 2 ^ (52 - n.log2)) = ((n * 2 ^ (52 - n.log2) : Nat) : Int) := by push_cast; rfl
  rw [e1, hk]
  rw [hk2] at k1
  generalize n * 2 ^ (52 - n.log2) = q at *
  rw [IntWalk.u64_in (q : Int) (by omega), and_52 q (by omega), IntWalk.u64_in _ (by omega)]
  omega
section
variable {n : Nat} {e : Int} (h0 : n ≠ 0) (hn : n < 18446744073709551616) (h : 53 < n.log2 + 1)
include h0 hn h
theorem big_logs : n.log2 - 52 ≤ 11 ∧ 1 ≤ n.log2 - 52 := by
  have := (Nat.log2_lt (n := n) (k := 64) h0).2 (by omega)
  omega
theorem big_pow : 2 ^ (n.log2 - 52) ≤ 2048 ∧ 2 ^ (n.log2 - 52) = 2 * 2 ^ (n.log2 - 52 - 1) := by
  obtain ⟨a, b⟩ := big_logs h0 hn h
  refine ⟨Nat.pow_le_pow_right (by decide) a, ?_⟩
  rw [← Nat.pow_succ']; congr 1; omega
theorem big_rest : bits .and .u64 (n : Int) (IntKind.u64.wrap (IntKind.u64.wrap (2 ^ (n.log2 - 52)) - 1)) = ((n % 2 ^ (n.log2 - 52) : Nat) : Int) := by
  obtain ⟨p1, p2⟩ := big_pow h0 hn h
  have hp : 0 < 2 ^ (n.log2 - 52) := Nat.two_pow_pos _
  have e1 : (2 : Int) ^ (n.log2 - 52) = ((2 ^ (n.log2 - 52) : Nat) : Int) := by push_cast; rfl
  rw [e1, IntWalk.u64_in ((2 ^ (n.log2 - 52) : Nat) : Int) (by omega), IntWalk.u64_in _ (by omega)]
  rw [show ((2 ^ (n.log2 - 52) : Nat) : Int) - 1 = ((2 ^ (n.log2 - 52) - 1 : Nat) : Int) by omega, u64_and_nat n _ hn (by omega), Nat.and_two_pow_sub_one_eq_mod]
theorem big_half : IntKind.u64.wrap (2 ^ (n.log2 - 52 - 1)) = ((2 ^ (n.log2 - 52 - 1) : Nat) : Int) := by
  obtain ⟨p1, p2⟩ := big_pow h0 hn h
  have e1 : (2 : Int) ^ (n.log2 - 52 - 1) = ((2 ^ (n.log2 - 52 - 1) : Nat) : Int) := by push_cast; rfl
  rw [e1, IntWalk.u64_in _ (by omega)]
omit h0 hn h in
theorem big_whole : (n : Int) / 2 ^ (n.log2 - 52) = ((n / 2 ^ (n.log2 - 52) : Nat) : Int) := by push_cast; rfl
omit hn in
theorem big_less : n / 2 ^ (n.log2 - 52) < 9007199254740992 ∧ 4503599627370496 ≤ n / 2 ^ (n.log2 - 52) := by
  have hp : 0 < 2 ^ (n.log2 - 52) := Nat.two_pow_pos _
  obtain ⟨b1, b2⟩ := log2_bounds h0
  constructor
  · refine (Nat.div_lt_iff_lt_mul hp).2 ?_
    rw [show (9007199254740992 : Nat) = 2 ^ 53 by decide +kernel, ← Nat.pow_add, show 53 + (n.log2 - 52) = n.log2 + 1 by omega]
    exact b2
  · refine (Nat.le_div_iff_mul_le hp).2 ?_
    rw [show (4503599627370496 : Nat) = 2 ^ 52 by decide +kernel, ← Nat.pow_add, show 52 + (n.log2 - 52) = n.log2 by omega]
    exact b1
omit hn in
theorem big_yes {more : Bool} (h1 : 0 ≤ (n.log2 : Int) + 1022 + e) (h2 : (n.log2 : Int) + 1022 + e ≤ 2044)
    (hc : 2 ^ (n.log2 - 52 - 1) < n % 2 ^ (n.log2 - 52) ∨ (n % 2 ^ (n.log2 - 52) = 2 ^ (n.log2 - 52 - 1) ∧ (more = true ∨ n / 2 ^ (n.log2 - 52) % 2 = 1))) :
    IntKind.u64.wrap (IntKind.u64.wrap ((1022 + ((n.log2 : Int) + 1) + e) * 4503599627370496 + IntKind.u64.wrap ((n : Int) / 2 ^ (n.log2 - 52) + 1)) - 4503599627370496) = ((n.log2 : Int) + 1022 + e) * 4503599627370496 + (keptM n more : Nat) := by
  have hk : keptM n more = n / 2 ^ (n.log2 - 52) + 1 := by unfold keptM; rw [if_neg (by omega), if_pos hc]
  obtain ⟨l1, l2⟩ := big_less h0 h
  rw [big_whole, hk]
  generalize n / 2 ^ (n.log2 - 52) = q at *
  rw [IntWalk.u64_in ((q : Int) + 1) (by omega), IntWalk.u64_in ((1022 + ((n.log2 : Int) + 1) + e) * 4503599627370496 + ((q : Int) + 1)) (by omega), IntWalk.u64_in _ (by omega)]
  omega
omit hn in
theorem big_no {more : Bool} (h1 : 0 ≤ (n.log2 : Int) + 1022 + e) (h2 : (n.log2 : Int) + 1022 + e ≤ 2044)
    (hc : ¬ (2 ^ (n.log2 - 52 - 1) < n % 2 ^ (n.log2 - 52) ∨ (n % 2 ^ (n.log2 - 52) = 2 ^ (n.log2 - 52 - 1) ∧ (more = true ∨ n / 2 ^ (n.log2 - 52) % 2 = 1)))) :
    IntKind.u64.wrap (IntKind.u64.wrap ((1022 + ((n.log2 : Int) + 1) + e) * 4503599627370496 + (n : Int) / 2 ^ (n.log2 - 52)) - 4503599627370496) = ((n.log2 : Int) + 1022 + e) * 4503599627370496 + (keptM n more : Nat) := by
  have hk : keptM n more = n / 2 ^ (n.log2 - 52) := by unfold keptM; rw [if_neg (by omega), if_neg hc, Nat.add_zero]
  obtain ⟨l1, l2⟩ := big_less h0 h
  rw [big_whole, hk]
  generalize n / 2 ^ (n.log2 - 52) = q at *
  rw [IntWalk.u64_in ((1022 + ((n.log2 : Int) + 1) + e) * 4503599627370496 + (q : Int)) (by omega), IntWalk.u64_in _ (by omega)]
  omega
end
theorem tmod_two {q : Nat} : ((q : Int).tmod 2 == 1) = decide (q % 2 = 1) := by
  apply Bool.eq_iff_iff.2
  simp only [beq_iff_eq, decide_eq_true_eq]
  rw [Int.tmod_eq_emod_of_nonneg (by omega)]
  omega
end Go.Proofs.Ytceenimikhlpcaa
