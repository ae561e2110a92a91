/-
  WHAT THE ROWS REST ON, part 2: Holds Whole Mono.
-/
import Derived.Deep.QuietTactic
import Derived.BigQuiet
import Derived.Handy
import Derived.Test.YtkajadkmdcalmaaGreatDoorPart1
/-
  THE WALKS OF real.Holds and of the document's own: by the words' places alone.
-/
namespace Go.Proofs.YtkajadkmdcalmaaGreatDoor
open Go.RowKit
/-- what a comparing answers, of how two stand -/
def opO (op : Int) (o : Option Ordering) : Bool :=
  if op = 1 then o == some .eq else if op = 2 then o != some .eq else if op = 3 then o == some .lt else if op = 4 then o == some .lt || o == some .eq
  else if op = 5 then o == some .gt else if op = 6 then o == some .gt || o == some .eq else false
/-- how two words stand as numbers -/
def ord (x y : Nat) : Option Ordering := if isNan x || isNan y then none else some (compare (rkey x) (rkey y))
theorem ord_order (x y : Nat) (hx : x < 18446744073709551616) (hy : y < 18446744073709551616) : FloatKind.f64.format.order x y = ord x y := by
  show Ieee.double.order x y = ord x y
  unfold ord
  by_cases h1 : isNan x = true
  · rw [order_nan_left x y hx h1, h1]; rfl
  · have h1 : isNan x = false := by simpa using h1
    by_cases h2 : isNan y = true
    · rw [order_nan_right x y hy h2, h2, h1]; rfl
    · have h2 : isNan y = false := by simpa using h2
      rw [order_key x y hx hy h1 h2, h1, h2]; rfl
theorem ret_any {a b : Bool} (h : a = b) (e : Ending) (he : e = .returned (.bool a)) : e = .returned (.bool b) := by rw [he, h]
theorem size_any (x : Nat) (hx : x < 18446744073709551616) (w : World) : Calls Tryz.prog 97 #[.int .u64 x] w fun r w' => r = .returned (.int .u64 (x % 9223372036854775808 : Nat)) ∧ w = w' := by
  have R := Lib.hid (and_low x hx)
  go_enter Tryz.func97, Tryz.ntmps97
  go_wp2_with fail
  go_ret
  exact ⟨ret_u64 R.out, rfl⟩
theorem sign_yes {x : Nat} (hx : x < 18446744073709551616) (h : 9223372036854775808 ≤ x) : ((x : Int) / 9223372036854775808 == 1) = true := by simp; omega
theorem sign_no {x : Nat} (h : ¬ 9223372036854775808 ≤ x) : ((x : Int) / 9223372036854775808 == 1) = false := by simp; omega
theorem rkey_yes {x : Nat} (h : 9223372036854775808 ≤ x) : rkey x = -((x : Int) - 9223372036854775808) := by unfold rkey; rw [if_neg (by omega)]
theorem rkey_no {x : Nat} (h : ¬ 9223372036854775808 ≤ x) : rkey x = x := by unfold rkey; rw [if_pos (by omega)]
set_option maxHeartbeats 1000000 in
theorem below_any (x y : Nat) (hx : x < 18446744073709551616) (hy : y < 18446744073709551616) (w : World) : Calls Tryz.prog 80 #[.int .u64 x, .int .u64 y] w fun r w' => r = .returned (.bool (decide (rkey x < rkey y))) ∧ w = w' := by
  by_cases hz : (x : Int) % 9223372036854775808 = 0 ∧ (y : Int) % 9223372036854775808 = 0
  · obtain ⟨z1, z2⟩ := hz
    have R := Lib.hid (show false = decide (rkey x < rkey y) by unfold rkey; split <;> split <;> simp <;> omega)
    go_enter Tryz.func80, Tryz.ntmps80
    go_wp2_with fail
    refine (size_any x hx _).mono ?_
    rintro e w1 ⟨rfl, rfl⟩
    go_wp2_with fail
    refine (size_any y hy _).mono ?_
    rintro e w1 ⟨rfl, rfl⟩
    go_wp2_with fail
    go_ret
    exact ⟨ret_bool R.out, rfl⟩
  · have HZ := Lib.hid hz
    clear hz
    by_cases sx : 9223372036854775808 ≤ x
    · have S1 := sign_yes hx sx
      have K1 := Lib.hid (rkey_yes sx)
      by_cases sy : 9223372036854775808 ≤ y
      · have S2 := sign_yes hy sy
        have K2 := Lib.hid (rkey_yes sy)
        by_cases z1 : (x : Int) % 9223372036854775808 = 0
        · have z2 : ¬ (y : Int) % 9223372036854775808 = 0 := fun h => HZ.out ⟨z1, h⟩
          go_enter Tryz.func80, Tryz.ntmps80
          go_wp2_with (go_at_call 97; refine (size_any _ (by assumption) _).mono ?_; rintro e w1 ⟨rfl, rfl⟩)
          go_ret
          exact ⟨ret_bool (by apply Bool.eq_iff_iff.2; rw [K1.out, K2.out]; simp; omega), rfl⟩
        · go_enter Tryz.func80, Tryz.ntmps80
          go_wp2_with (go_at_call 97; refine (size_any _ (by assumption) _).mono ?_; rintro e w1 ⟨rfl, rfl⟩)
          go_ret
          exact ⟨ret_bool (by apply Bool.eq_iff_iff.2; rw [K1.out, K2.out]; simp; omega), rfl⟩
      · have S2 := sign_no sy
        have K2 := Lib.hid (rkey_no sy)
        by_cases z1 : (x : Int) % 9223372036854775808 = 0
        · have z2 : ¬ (y : Int) % 9223372036854775808 = 0 := fun h => HZ.out ⟨z1, h⟩
          go_enter Tryz.func80, Tryz.ntmps80
          go_wp2_with (go_at_call 97; refine (size_any _ (by assumption) _).mono ?_; rintro e w1 ⟨rfl, rfl⟩)
          go_ret
          exact ⟨ret_bool (by apply Bool.eq_iff_iff.2; rw [K1.out, K2.out]; simp; omega), rfl⟩
        · go_enter Tryz.func80, Tryz.ntmps80
          go_wp2_with (go_at_call 97; refine (size_any _ (by assumption) _).mono ?_; rintro e w1 ⟨rfl, rfl⟩)
          go_ret
          exact ⟨ret_bool (by apply Bool.eq_iff_iff.2; rw [K1.out, K2.out]; simp; omega), rfl⟩
    · have S1 := sign_no sx
      have K1 := Lib.hid (rkey_no sx)
      by_cases sy : 9223372036854775808 ≤ y
      · have S2 := sign_yes hy sy
        have K2 := Lib.hid (rkey_yes sy)
        by_cases z1 : (x : Int) % 9223372036854775808 = 0
        · have z2 : ¬ (y : Int) % 9223372036854775808 = 0 := fun h => HZ.out ⟨z1, h⟩
          go_enter Tryz.func80, Tryz.ntmps80
          go_wp2_with (go_at_call 97; refine (size_any _ (by assumption) _).mono ?_; rintro e w1 ⟨rfl, rfl⟩)
          go_ret
          exact ⟨ret_bool (by apply Bool.eq_iff_iff.2; rw [K1.out, K2.out]; simp; omega), rfl⟩
        · go_enter Tryz.func80, Tryz.ntmps80
          go_wp2_with (go_at_call 97; refine (size_any _ (by assumption) _).mono ?_; rintro e w1 ⟨rfl, rfl⟩)
          go_ret
          exact ⟨ret_bool (by apply Bool.eq_iff_iff.2; rw [K1.out, K2.out]; simp; omega), rfl⟩
      · have S2 := sign_no sy
        have K2 := Lib.hid (rkey_no sy)
        by_cases z1 : (x : Int) % 9223372036854775808 = 0
        · have z2 : ¬ (y : Int) % 9223372036854775808 = 0 := fun h => HZ.out ⟨z1, h⟩
          go_enter Tryz.func80, Tryz.ntmps80
          go_wp2_with (go_at_call 97; refine (size_any _ (by assumption) _).mono ?_; rintro e w1 ⟨rfl, rfl⟩)
          go_ret
          exact ⟨ret_bool (by apply Bool.eq_iff_iff.2; rw [K1.out, K2.out]; simp; omega), rfl⟩
        · go_enter Tryz.func80, Tryz.ntmps80
          go_wp2_with (go_at_call 97; refine (size_any _ (by assumption) _).mono ?_; rintro e w1 ⟨rfl, rfl⟩)
          go_ret
          exact ⟨ret_bool (by apply Bool.eq_iff_iff.2; rw [K1.out, K2.out]; simp; omega), rfl⟩
theorem ord_none_left {x y : Nat} (h : isNan x = true) : ord x y = none := by unfold ord; rw [h]; rfl
theorem ord_none_right {x y : Nat} (h : isNan y = true) : ord x y = none := by unfold ord; rw [h, Bool.or_true]; rfl
theorem ord_some {x y : Nat} (h : isNan x = false) (h' : isNan y = false) : ord x y = some (compare (rkey x) (rkey y)) := by unfold ord; rw [h, h']; rfl
theorem opO_none (op : Int) : opO op none = decide (op = 2) := by
  unfold opO
  by_cases h : op = 2
  · subst h; decide
  · simp [h]
end Go.Proofs.YtkajadkmdcalmaaGreatDoor
/-
  THE WALKS OF real.Whole, of the document's own, and of its rounding.
-/
namespace Go.Proofs.YtkajadkmdcalmaaGreatDoor
open Go.RowKit
/-- the whole number that the float next to n is -/
def wholeV (n : Int) : Int := sg (decide (n < 0)) (near n.natAbs)
/-- its bits -/
def wholeB (n : Int) : Nat := floatOfInt .f64 n
theorem near_zero : near 0 = 0 := by decide +kernel
theorem wholeB_form {n : Int} (hn : n ≠ 0) (h0 : -9223372036854775808 ≤ n) (h1 : n ≤ 9223372036854775807) : wholeB n = (if decide (n < 0) = true then 9223372036854775808 else 0) + rung n.natAbs := by
  unfold wholeB
  rw [floatOfInt_form n hn (by omega)]
  simp only [decide_eq_true_eq]
theorem wholeB_lt {n : Int} (h0 : -9223372036854775808 ≤ n) (h1 : n ≤ 9223372036854775807) : wholeB n < 18446744073709551616 := by
  by_cases hn : n = 0
  · subst hn; decide +kernel
  · rw [wholeB_form hn h0 h1]
    have := (rung_bounds (m := n.natAbs) (by omega) (by omega)).2.1
    split <;> omega
theorem wholeB_nan {n : Int} (h0 : -9223372036854775808 ≤ n) (h1 : n ≤ 9223372036854775807) : isNan (wholeB n) = false := by
  by_cases hn : n = 0
  · subst hn; decide +kernel
  · rw [wholeB_form hn h0 h1]
    have := (rung_bounds (m := n.natAbs) (by omega) (by omega)).2.1
    unfold isNan
    split <;> simp <;> omega
theorem wholeB_rkey {n : Int} (hn : n ≠ 0) (h0 : -9223372036854775808 ≤ n) (h1 : n ≤ 9223372036854775807) : rkey (wholeB n) = sg (decide (n < 0)) (rung n.natAbs) := by
  rw [wholeB_form hn h0 h1]
  have := (rung_bounds (m := n.natAbs) (by omega) (by omega)).2.1
  unfold rkey sg
  by_cases h : n < 0 <;> simp [h] <;> omega
theorem whole_test (n : Int) (h0 : -9223372036854775808 ≤ n) (h1 : n ≤ 9223372036854775807) : (FloatKind.f64.format.order (wholeB n) 4890909195324358656 == some .lt) = decide (wholeV n < 9223372036854775808) := by
  rw [ord_order _ _ (wholeB_lt h0 h1) (by decide), ord_some (wholeB_nan h0 h1) (by decide)]
  have hc : rkey 4890909195324358656 = 4890909195324358656 := by decide
  rw [hc]
  have key : rkey (wholeB n) < 4890909195324358656 ↔ wholeV n < 9223372036854775808 := by
    by_cases hn : n = 0
    · subst hn; decide +kernel
    · rw [wholeB_rkey hn h0 h1]
      unfold wholeV sg
      by_cases h : n < 0
      · simp [h]; omega
      · have := near_lt (m := n.natAbs) (by omega) (by omega)
        simp only [h, decide_false, Bool.false_eq_true, if_false]
        omega
  by_cases h : rkey (wholeB n) < 4890909195324358656
  · rw [compare_lt' h, decide_eq_true (key.1 h)]; rfl
  · rw [decide_eq_false (mt key.2 h)]
    by_cases e : rkey (wholeB n) = 4890909195324358656
    · rw [compare_eq' e]; rfl
    · rw [compare_gt' (by omega)]; rfl
theorem whole_back (n : Int) (h0 : -9223372036854775808 ≤ n) (h1 : n ≤ 9223372036854775807) (h : wholeV n < 9223372036854775808) : floatToIntVal .f64 (wholeB n) .i64 = some (wholeV n) := by
  have e : (FloatKind.f64.decode (wholeB n)).toInt .zero = some (wholeV n) := by
    by_cases hn : n = 0
    · subst hn; decide +kernel
    · rw [wholeB_form hn h0 h1]
      exact toInt_rung (decide (n < 0)) (m := n.natAbs) (by omega) (by omega)
  unfold floatToIntVal
  rw [e]
  have hle : -9223372036854775808 ≤ wholeV n := by
    unfold wholeV sg
    by_cases hn : n = 0
    · subst hn; rw [show (0 : Int).natAbs = 0 by rfl, near_zero]; decide
    · have := near_le (m := n.natAbs) (by omega) (by omega)
      split <;> omega
  have e1 : IntKind.i64.min = -9223372036854775808 := by decide
  have e2 : IntKind.i64.max = 9223372036854775807 := by decide
  simp only [e1, e2]
  rw [if_pos ⟨hle, by omega⟩]
theorem whole_exact (n : Int) (h0 : -9223372036854775808 ≤ n) (h1 : n ≤ 9223372036854775807) : (decide (wholeV n < 9223372036854775808) && (wholeV n == n)) = isExact n.natAbs := by
  have h := near_exact n.natAbs
  apply Bool.eq_iff_iff.2
  rw [← h]
  simp only [Bool.and_eq_true, decide_eq_true_eq, beq_iff_eq]
  unfold wholeV sg
  by_cases hn : n < 0
  · simp only [hn, decide_true, if_true]; omega
  · simp only [hn, decide_false, Bool.false_eq_true, if_false]; omega
theorem ret_fb {a b : Nat} {c d : Bool} (h : a = b) (h' : c = d) : Ending.returned (.tuple #[.float .f64 a, .bool c]) = .returned (.tuple #[.float .f64 b, .bool d]) := by rw [h, h']
set_option maxHeartbeats 1000000 in
theorem whole_any (n : Int) (h0 : -9223372036854775808 ≤ n) (h1 : n ≤ 9223372036854775807) (w : World) : Calls Tryz.prog 96 #[.int .i64 n] w fun r w' => r = .returned (.tuple #[.float .f64 (wholeB n), .bool (isExact n.natAbs)]) ∧ w = w' := by
  have T := whole_test n h0 h1
  have X := Lib.hid (whole_exact n h0 h1)
  by_cases h : wholeV n < 9223372036854775808
  · rw [decide_eq_true h] at T
    have T' : (FloatKind.f64.format.order (floatOfInt .f64 n) 4890909195324358656 == some .lt) = true := T
    have C : ∀ w : World, (convert 70 3 (.float .f64 (floatOfInt .f64 n))).run Tryz.prog w = .ok (.int .i64 (wholeV n)) w := fun w => run_convert_float_int w 70 3 .f64 .i64 _ _ (by kernel_rfl) Tryz.underlying3 (whole_back n h0 h1 h)
    have B := Lib.hid (show wholeB n = floatOfInt .f64 n by rfl)
    have HH := Lib.hid h
    clear T h
    go_enter Tryz.func96, Tryz.ntmps96
    go_wp2_with fail
    go_ret2
    exact ⟨ret_fb B.out.symm (by rw [← X.out, decide_eq_true HH.out]; simp), rfl⟩
  · rw [decide_eq_false h] at T
    have T' : (FloatKind.f64.format.order (floatOfInt .f64 n) 4890909195324358656 == some .lt) = false := T
    have B := Lib.hid (show wholeB n = floatOfInt .f64 n by rfl)
    have HH := Lib.hid h
    clear T h
    go_enter Tryz.func96, Tryz.ntmps96
    go_wp2_with fail
    go_ret2
    exact ⟨ret_fb B.out.symm (by rw [← X.out, decide_eq_false (by have := HH.out; omega)]; simp), rfl⟩
theorem len_half (M : Nat) (h : M ≠ 0) : (if M = 0 then 0 else M.log2 + 1) = (if M / 2 = 0 then 0 else (M / 2).log2 + 1) + 1 := by
  rw [if_neg h]
  by_cases h2 : M / 2 = 0
  · have : M = 1 := by omega
    subst this; rfl
  · rw [if_neg h2]
    have := log2_lift (n := M / 2) (m := M) (j := 1) h2 (by omega)
    omega
theorem len_le {M : Nat} (h : M < 18446744073709551616) : (if M = 0 then 0 else M.log2 + 1) ≤ 64 := by
  split
  · omega
  · have := (Nat.log2_lt (n := M) (k := 64) (by assumption)).2 (by omega)
    omega
/-- a number's length in bits -/
def lenN (M : Nat) : Nat := if M = 0 then 0 else M.log2 + 1
set_option maxHeartbeats 400000 in
theorem len_any (n : Nat) (hn : n < 18446744073709551616) (w : World) : Calls Tryz.prog 115 #[.int .u64 n] w fun r w' => r = .returned (.int .i64 (lenN n : Nat)) ∧ w = w' := by
  have hl : lenN n ≤ 64 := len_le hn
  go_enter Tryz.func115, Tryz.ntmps115
  go_wp2
  go_loop [0, 3] (fun m k => ∃ (M K : Nat), M < 18446744073709551616 ∧ m = .int .u64 M ∧ k = .int .i64 K ∧ Hid (K + lenN M = lenN n)) (fun m _ => (intOf m).toNat)
  case atStart => exact ⟨n, 0, hn, rfl, rfl, Lib.hid (by omega)⟩
  case round =>
    obtain ⟨M, K, hM, rfl, rfl, hL⟩ := hrel
    have hK : K ≤ 64 := by have := hL.out; omega
    by_cases hz : M = 0
    · subst hz
      go_wp2
      go_ret
      exact ⟨by have := hL.out; unfold lenN at this ⊢; rw [if_pos rfl] at this; rw [← this]; rfl, rfl⟩
    · have hpos : 0 < M := by omega
      have hK1 : K + 1 ≤ 64 := by have := hL.out; have h := len_half M hz; unfold lenN at this hl; omega
      have HL := Lib.hid (show K + 1 + lenN (M / 2) = lenN n by have := hL.out; have h := len_half M hz; unfold lenN at this ⊢; omega)
      go_wp2
      go_round
      case rel => exact ⟨M / 2, K + 1, by omega, by go_num, by go_num, HL⟩
      case measure => simp [intOf]; omega
theorem and_52 (x : Nat) (h : x < 18446744073709551616) : bits .and .u64 (x : Int) 4503599627370495 = ((x % 4503599627370496 : Nat) : Int) := by
  have := u64_and_nat x 4503599627370495 h (by decide)
  rw [show x &&& 4503599627370495 = x % 4503599627370496 from Nat.and_two_pow_sub_one_eq_mod x 52] at this
  exact this
theorem small_end {n : Nat} {e : Int} (more : Bool) (h0 : n ≠ 0) (h : n.log2 + 1 ≤ 53) (h1 : 0 ≤ (n.log2 : Int) + 1022 + e) (h2 : (n.log2 : Int) + 1022 + e ≤ 2044) :
    IntKind.u64.wrap ((1022 + ((n.log2 : Int) + 1) + e) * 4503599627370496 + bits .and .u64 (IntKind.u64.wrap ((n : Int) * 2 ^ (52 - n.log2))) 4503599627370495) = ((n.log2 : Int) + 1022 + e) * 4503599627370496 + (keptM n more : Nat) := by
  have hk : keptM n more = n * 2 ^ (52 - n.log2) := by unfold keptM; rw [if_pos (by omega)]
  have hk2 : kept n = n * 2 ^ (52 - n.log2) := by unfold kept; rw [if_pos (by omega)]
  obtain ⟨b1, b2⟩ := log2_bounds h0
  obtain ⟨k1, k2⟩ := kept_bounds h0
  have k3 : n * 2 ^ (52 - n.log2) < 9007199254740992 := by
    have e' : 2 ^ (n.log2 + 1) * 2 ^ (52 - n.log2) = 9007199254740992 := by rw [← Nat.pow_add, show n.log2 + 1 + (52 - n.log2) = 53 by omega]
    rw [← e']
    exact Nat.mul_lt_mul_of_pos_right b2 (Nat.two_pow_pos _)
  have e1 : ((n : Int) * 2 ^ (52 - n.log2)) = ((n * 2 ^ (52 - n.log2) : Nat) : Int) := by push_cast; rfl
  rw [e1, hk]
  rw [hk2] at k1
  generalize n * 2 ^ (52 - n.log2) = q at *
  rw [IntWalk.u64_in (q : Int) (by omega), and_52 q (by omega), IntWalk.u64_in _ (by omega)]
  omega
section
variable {n : Nat} {e : Int} (h0 : n ≠ 0) (hn : n < 18446744073709551616) (h : 53 < n.log2 + 1)
include h0 hn h
theorem big_logs : n.log2 - 52 ≤ 11 ∧ 1 ≤ n.log2 - 52 := by
  have := (Nat.log2_lt (n := n) (k := 64) h0).2 (by omega)
  omega
theorem big_pow : 2 ^ (n.log2 - 52) ≤ 2048 ∧ 2 ^ (n.log2 - 52) = 2 * 2 ^ (n.log2 - 52 - 1) := by
  obtain ⟨a, b⟩ := big_logs h0 hn h
  refine ⟨Nat.pow_le_pow_right (by decide) a, ?_⟩
  rw [← Nat.pow_succ']; congr 1; omega
theorem big_rest : bits .and .u64 (n : Int) (IntKind.u64.wrap (IntKind.u64.wrap (2 ^ (n.log2 - 52)) - 1)) = ((n % 2 ^ (n.log2 - 52) : Nat) : Int) := by
  obtain ⟨p1, p2⟩ := big_pow h0 hn h
  have hp : 0 < 2 ^ (n.log2 - 52) := Nat.two_pow_pos _
  have e1 : (2 : Int) ^ (n.log2 - 52) = ((2 ^ (n.log2 - 52) : Nat) : Int) := by push_cast; rfl
  rw [e1, IntWalk.u64_in ((2 ^ (n.log2 - 52) : Nat) : Int) (by omega), IntWalk.u64_in _ (by omega)]
  rw [show ((2 ^ (n.log2 - 52) : Nat) : Int) - 1 = ((2 ^ (n.log2 - 52) - 1 : Nat) : Int) by omega, u64_and_nat n _ hn (by omega), Nat.and_two_pow_sub_one_eq_mod]
theorem big_half : IntKind.u64.wrap (2 ^ (n.log2 - 52 - 1)) = ((2 ^ (n.log2 - 52 - 1) : Nat) : Int) := by
  obtain ⟨p1, p2⟩ := big_pow h0 hn h
  have e1 : (2 : Int) ^ (n.log2 - 52 - 1) = ((2 ^ (n.log2 - 52 - 1) : Nat) : Int) := by push_cast; rfl
  rw [e1, IntWalk.u64_in _ (by omega)]
omit h0 hn h in
theorem big_whole : (n : Int) / 2 ^ (n.log2 - 52) = ((n / 2 ^ (n.log2 - 52) : Nat) : Int) := by push_cast; rfl
omit hn in
theorem big_less : n / 2 ^ (n.log2 - 52) < 9007199254740992 ∧ 4503599627370496 ≤ n / 2 ^ (n.log2 - 52) := by
  have hp : 0 < 2 ^ (n.log2 - 52) := Nat.two_pow_pos _
  obtain ⟨b1, b2⟩ := log2_bounds h0
  constructor
  · refine (Nat.div_lt_iff_lt_mul hp).2 ?_
    rw [show (9007199254740992 : Nat) = 2 ^ 53 by decide +kernel, ← Nat.pow_add, show 53 + (n.log2 - 52) = n.log2 + 1 by omega]
    exact b2
  · refine (Nat.le_div_iff_mul_le hp).2 ?_
    rw [show (4503599627370496 : Nat) = 2 ^ 52 by decide +kernel, ← Nat.pow_add, show 52 + (n.log2 - 52) = n.log2 by omega]
    exact b1
omit hn in
theorem big_yes {more : Bool} (h1 : 0 ≤ (n.log2 : Int) + 1022 + e) (h2 : (n.log2 : Int) + 1022 + e ≤ 2044)
    (hc : 2 ^ (n.log2 - 52 - 1) < n % 2 ^ (n.log2 - 52) ∨ (n % 2 ^ (n.log2 - 52) = 2 ^ (n.log2 - 52 - 1) ∧ (more = true ∨ n / 2 ^ (n.log2 - 52) % 2 = 1))) :
    IntKind.u64.wrap (IntKind.u64.wrap ((1022 + ((n.log2 : Int) + 1) + e) * 4503599627370496 + IntKind.u64.wrap ((n : Int) / 2 ^ (n.log2 - 52) + 1)) - 4503599627370496) = ((n.log2 : Int) + 1022 + e) * 4503599627370496 + (keptM n more : Nat) := by
  have hk : keptM n more = n / 2 ^ (n.log2 - 52) + 1 := by unfold keptM; rw [if_neg (by omega), if_pos hc]
  obtain ⟨l1, l2⟩ := big_less h0 h
  rw [big_whole, hk]
  generalize n / 2 ^ (n.log2 - 52) = q at *
  rw [IntWalk.u64_in ((q : Int) + 1) (by omega), IntWalk.u64_in ((1022 + ((n.log2 : Int) + 1) + e) * 4503599627370496 + ((q : Int) + 1)) (by omega), IntWalk.u64_in _ (by omega)]
  omega
omit hn in
theorem big_no {more : Bool} (h1 : 0 ≤ (n.log2 : Int) + 1022 + e) (h2 : (n.log2 : Int) + 1022 + e ≤ 2044)
    (hc : ¬ (2 ^ (n.log2 - 52 - 1) < n % 2 ^ (n.log2 - 52) ∨ (n % 2 ^ (n.log2 - 52) = 2 ^ (n.log2 - 52 - 1) ∧ (more = true ∨ n / 2 ^ (n.log2 - 52) % 2 = 1)))) :
    IntKind.u64.wrap (IntKind.u64.wrap ((1022 + ((n.log2 : Int) + 1) + e) * 4503599627370496 + (n : Int) / 2 ^ (n.log2 - 52)) - 4503599627370496) = ((n.log2 : Int) + 1022 + e) * 4503599627370496 + (keptM n more : Nat) := by
  have hk : keptM n more = n / 2 ^ (n.log2 - 52) := by unfold keptM; rw [if_neg (by omega), if_neg hc, Nat.add_zero]
  obtain ⟨l1, l2⟩ := big_less h0 h
  rw [big_whole, hk]
  generalize n / 2 ^ (n.log2 - 52) = q at *
  rw [IntWalk.u64_in ((1022 + ((n.log2 : Int) + 1) + e) * 4503599627370496 + (q : Int)) (by omega), IntWalk.u64_in _ (by omega)]
  omega
end
theorem tmod_two {q : Nat} : ((q : Int).tmod 2 == 1) = decide (q % 2 = 1) := by
  apply Bool.eq_iff_iff.2
  simp only [beq_iff_eq, decide_eq_true_eq]
  rw [Int.tmod_eq_emod_of_nonneg (by omega)]
  omega
/-- what is rounded: a power of two and 53 digits -/
theorem rounded_small (n : Nat) (e : Int) (more : Bool) (hn : n < 18446744073709551616) (w : World) (h0 : n ≠ 0) (h : n.log2 + 1 ≤ 53) (h1 : 0 ≤ (n.log2 : Int) + 1022 + e) (h2 : (n.log2 : Int) + 1022 + e ≤ 2044) : Calls Tryz.prog 114 #[.int .u64 n, .int .i64 e, .bool more] w fun r w' => r = .returned (.int .u64 (((n.log2 : Int) + 1022 + e) * 4503599627370496 + keptM n more)) ∧ w = w' := by
  have L := len_any n hn
  unfold lenN at L
  rw [if_neg h0] at L
  have E := Lib.hid (small_end more h0 h h1 h2)
  go_enter Tryz.func114, Tryz.ntmps114
  go_wp2_with fail
  refine (L _).mono ?_
  rintro r w1 ⟨rfl, rfl⟩
  go_wp2_with fail
  go_ret
  exact ⟨ret_u64 E.out, rfl⟩
set_option maxHeartbeats 1000000 in
theorem rounded_big (n : Nat) (e : Int) (more : Bool) (hn : n < 18446744073709551616) (w : World) (h0 : n ≠ 0) (h : 53 < n.log2 + 1) (h1 : 0 ≤ (n.log2 : Int) + 1022 + e) (h2 : (n.log2 : Int) + 1022 + e ≤ 2044) : Calls Tryz.prog 114 #[.int .u64 n, .int .i64 e, .bool more] w fun r w' => r = .returned (.int .u64 (((n.log2 : Int) + 1022 + e) * 4503599627370496 + keptM n more)) ∧ w = w' := by
  have L := len_any n hn
  unfold lenN at L
  rw [if_neg h0] at L
  have h64 : n.log2 + 1 ≤ 64 := by have := (Nat.log2_lt (n := n) (k := 64) h0).2 (by omega); omega
  have Y := Lib.hid (@big_yes n e h0 h more h1 h2)
  have N := Lib.hid (@big_no n e h0 h more h1 h2)
  have R := Lib.hid (big_rest h0 hn h)
  have H := Lib.hid (big_half h0 hn h)
  have W := Lib.hid (@big_whole n)
  by_cases c1 : 2 ^ (n.log2 - 52 - 1) < n % 2 ^ (n.log2 - 52)
  · have E := Lib.hid (Y.out (.inl c1))
    have T : IntKind.u64.wrap (2 ^ (n.log2 - 52 - 1)) < bits .and .u64 (n : Int) (IntKind.u64.wrap (IntKind.u64.wrap (2 ^ (n.log2 - 52)) - 1)) := by rw [R.out, H.out]; exact_mod_cast c1
    clear c1
    go_enter Tryz.func114, Tryz.ntmps114
    go_wp2_with fail
    refine (L _).mono ?_
    rintro r w1 ⟨rfl, rfl⟩
    go_wp2_with fail
    go_ret
    exact ⟨ret_u64 E.out, rfl⟩
  · have T : bits .and .u64 (n : Int) (IntKind.u64.wrap (IntKind.u64.wrap (2 ^ (n.log2 - 52)) - 1)) ≤ IntKind.u64.wrap (2 ^ (n.log2 - 52 - 1)) := by rw [R.out, H.out]; exact_mod_cast Nat.le_of_not_lt c1
    by_cases c2 : n % 2 ^ (n.log2 - 52) = 2 ^ (n.log2 - 52 - 1)
    · have T2 : Hid (bits .and .u64 (n : Int) (IntKind.u64.wrap (IntKind.u64.wrap (2 ^ (n.log2 - 52)) - 1)) = IntKind.u64.wrap (2 ^ (n.log2 - 52 - 1))) := Lib.hid (by rw [R.out, H.out]; exact_mod_cast c2)
      by_cases c3 : more = true
      · have E := Lib.hid (Y.out (.inr ⟨c2, .inl c3⟩))
        subst c3
        have T3 := T2.out
        clear c1 c2 
        go_enter Tryz.func114, Tryz.ntmps114
        go_wp2_with fail
        refine (L _).mono ?_
        rintro r w1 ⟨rfl, rfl⟩
        go_wp2_with fail
        all_goals go_ret
        all_goals exact ⟨ret_u64 E.out, rfl⟩
      · have c3' : more = false := by simpa using c3
        subst c3'
        have W2 : (((n : Int) / 2 ^ (n.log2 - 52)).tmod 2 == 1) = decide (n / 2 ^ (n.log2 - 52) % 2 = 1) := by rw [W.out, tmod_two]
        by_cases c4 : n / 2 ^ (n.log2 - 52) % 2 = 1
        · have E := Lib.hid (Y.out (.inr ⟨c2, .inr c4⟩))
          rw [decide_eq_true c4] at W2
          have T3 := T2.out
          clear c1 c2 c4
          go_enter Tryz.func114, Tryz.ntmps114
          go_wp2_with fail
          refine (L _).mono ?_
          rintro r w1 ⟨rfl, rfl⟩
          go_wp2_with fail
          all_goals go_ret
          all_goals exact ⟨ret_u64 E.out, rfl⟩
        · have E := Lib.hid (N.out (by rintro (h | ⟨_, h | h⟩) <;> first | exact c1 h | cases h | exact c4 h))
          rw [decide_eq_false c4] at W2
          have T3 := T2.out
          clear c1 c2 c4
          go_enter Tryz.func114, Tryz.ntmps114
          go_wp2_with fail
          refine (L _).mono ?_
          rintro r w1 ⟨rfl, rfl⟩
          go_wp2_with fail
          all_goals go_ret
          all_goals exact ⟨ret_u64 E.out, rfl⟩
    · have E := Lib.hid (N.out (by rintro (h | ⟨h, _⟩); exact c1 h; exact c2 h))
      have T2 : ¬ bits .and .u64 (n : Int) (IntKind.u64.wrap (IntKind.u64.wrap (2 ^ (n.log2 - 52)) - 1)) = IntKind.u64.wrap (2 ^ (n.log2 - 52 - 1)) := by rw [R.out, H.out]; exact_mod_cast c2
      clear c1 c2
      go_enter Tryz.func114, Tryz.ntmps114
      go_wp2_with fail
      refine (L _).mono ?_
      rintro r w1 ⟨rfl, rfl⟩
      go_wp2_with fail
      all_goals go_ret
      all_goals exact ⟨ret_u64 E.out, rfl⟩
theorem rounded_zero (e : Int) (more : Bool) (w : World) : Calls Tryz.prog 114 #[.int .u64 0, .int .i64 e, .bool more] w fun r w' => r = .returned (.int .u64 0) ∧ w = w' := by
  go_enter Tryz.func114, Tryz.ntmps114
  go_wp2_with fail
  go_ret
  exact ⟨rfl, rfl⟩
theorem rounded_any (n : Nat) (e : Int) (more : Bool) (hn : n < 18446744073709551616) (w : World) (h0 : n ≠ 0) (h1 : 0 ≤ (n.log2 : Int) + 1022 + e) (h2 : (n.log2 : Int) + 1022 + e ≤ 2044) : Calls Tryz.prog 114 #[.int .u64 n, .int .i64 e, .bool more] w fun r w' => r = .returned (.int .u64 (((n.log2 : Int) + 1022 + e) * 4503599627370496 + keptM n more)) ∧ w = w' := by
  by_cases h : n.log2 + 1 ≤ 53
  · exact rounded_small n e more hn w h0 h h1 h2
  · exact rounded_big n e more hn w h0 (by omega) h1 h2
theorem magnitude_any (n : Int) (h0 : -9223372036854775808 ≤ n) (h1 : n ≤ 9223372036854775807) (w : World) : Calls Tryz.prog 113 #[.int .i64 n] w fun r w' => r = .returned (.int .u64 (n.natAbs : Nat)) ∧ w = w' := by
  by_cases h : 0 ≤ n
  · have R := Lib.hid (show n = (n.natAbs : Int) by omega)
    go_enter Tryz.func113, Tryz.ntmps113
    go_wp2_with fail
    go_ret
    exact ⟨ret_u64 R.out, rfl⟩
  · have R := Lib.hid (show -(n + 1) + 1 = (n.natAbs : Int) by omega)
    have h' : n < 0 := by omega
    go_enter Tryz.func113, Tryz.ntmps113
    go_wp2_with fail
    go_ret
    exact ⟨ret_u64 R.out, rfl⟩
end Go.Proofs.YtkajadkmdcalmaaGreatDoor
/-
  ROUNDING KEEPS THE ORDER: of two whole numbers the floats next to them stand as they do, or alike.
-/
namespace Go.Proofs.YtkajadkmdcalmaaGreatDoor
theorem half_mono {m n d : Nat} (h : m ≤ n) : half m d ≤ half n d := by
  unfold half
  have hp : 0 < 2 ^ d := Nat.two_pow_pos _
  have a := Nat.div_add_mod m (2 ^ d)
  have b := Nat.div_add_mod n (2 ^ d)
  have hm := Nat.mod_lt m hp
  have hn := Nat.mod_lt n hp
  have hq : m / 2 ^ d ≤ n / 2 ^ d := Nat.div_le_div_right h
  generalize 2 ^ d = P at *
  generalize m / P = q at *
  generalize n / P = q' at *
  generalize m % P = r at *
  generalize n % P = r' at *
  by_cases e : q = q'
  · subst e
    have hr : r ≤ r' := by omega
    split
    · rename_i hc
      rw [if_pos (by omega)]
      exact Nat.le_refl _
    · omega
  · split <;> omega
theorem log2_mono {m n : Nat} (hm : m ≠ 0) (h : m ≤ n) : m.log2 ≤ n.log2 := (Nat.le_log2 (by omega)).2 (Nat.le_trans (Nat.log2_self_le hm) h)
theorem rung_mono {m n : Nat} (hm : m ≠ 0) (h : m ≤ n) : rung m ≤ rung n := by
  have hl := log2_mono hm h
  have k1 := kept_bounds hm
  have k2 := kept_bounds (m := n) (by omega)
  unfold rung
  by_cases e : m.log2 = n.log2
  · have : kept m ≤ kept n := by
      unfold kept
      rw [e]
      split
      · exact Nat.mul_le_mul_right _ h
      · exact half_mono h
    omega
  · obtain ⟨_, k1⟩ := k1
    obtain ⟨k2, _⟩ := k2
    have he : m.log2 + 1 ≤ n.log2 := by omega
    generalize kept m = x at *
    generalize kept n = y at *
    generalize m.log2 = a at *
    generalize n.log2 = b at *
    clear hl e h hm
    omega
/-- where the float next to n stands -/
def wk (n : Int) : Int := rkey (wholeB n)
theorem wk_zero : wk 0 = 0 := by decide +kernel
theorem wk_sg {n : Int} (hn : n ≠ 0) (h0 : -9223372036854775808 ≤ n) (h1 : n ≤ 9223372036854775807) : wk n = if n < 0 then -(rung n.natAbs : Int) else rung n.natAbs := by
  unfold wk
  rw [wholeB_rkey hn h0 h1]
  unfold sg
  by_cases h : n < 0 <;> simp [h]
theorem wk_mono {a b : Int} (ha0 : -9223372036854775808 ≤ a) (ha1 : a ≤ 9223372036854775807) (hb0 : -9223372036854775808 ≤ b) (hb1 : b ≤ 9223372036854775807) (h : a ≤ b) : wk a ≤ wk b := by
  by_cases a0 : a = 0
  · subst a0
    by_cases b0 : b = 0
    · subst b0; exact Int.le_refl _
    · rw [wk_zero, wk_sg b0 hb0 hb1, if_neg (by omega)]; omega
  · by_cases b0 : b = 0
    · subst b0
      rw [wk_zero, wk_sg a0 ha0 ha1, if_pos (by omega)]; omega
    · rw [wk_sg a0 ha0 ha1, wk_sg b0 hb0 hb1]
      by_cases na : a < 0
      · rw [if_pos na]
        by_cases nb : b < 0
        · rw [if_pos nb]
          have := rung_mono (m := b.natAbs) (n := a.natAbs) (by omega) (by omega)
          omega
        · rw [if_neg nb]; omega
      · rw [if_neg na, if_neg (by omega)]
        have := rung_mono (m := a.natAbs) (n := b.natAbs) (by omega) (by omega)
        omega
/-- floats that stand alike are of one whole number -/
theorem wk_inj {a b : Int} (ha0 : -9223372036854775808 ≤ a) (ha1 : a ≤ 9223372036854775807) (hb0 : -9223372036854775808 ≤ b) (hb1 : b ≤ 9223372036854775807) (h : wk a = wk b) : wholeV a = wholeV b := by
  by_cases a0 : a = 0
  · subst a0
    by_cases b0 : b = 0
    · subst b0; rfl
    · have := (rung_bounds (m := b.natAbs) (by omega) (by omega)).2.2
      rw [wk_zero, wk_sg b0 hb0 hb1] at h
      split at h <;> omega
  · have ra := (rung_bounds (m := a.natAbs) (by omega) (by omega)).2
    by_cases b0 : b = 0
    · subst b0
      rw [wk_zero, wk_sg a0 ha0 ha1] at h
      split at h <;> omega
    · have rb := (rung_bounds (m := b.natAbs) (by omega) (by omega)).2
      rw [wk_sg a0 ha0 ha1, wk_sg b0 hb0 hb1] at h
      have hs : (a < 0 ↔ b < 0) ∧ rung a.natAbs = rung b.natAbs := by
        by_cases na : a < 0 <;> by_cases nb : b < 0 <;> simp only [na, nb, if_true, if_false] at h ⊢ <;> first | (exfalso; omega) | (exact ⟨Iff.rfl, by omega⟩) | (exact ⟨trivial, by omega⟩)
      have t1 := toInt_rung (decide (a < 0)) (m := a.natAbs) (by omega) (by omega)
      have t2 := toInt_rung (decide (b < 0)) (m := b.natAbs) (by omega) (by omega)
      rw [hs.2] at t1
      have hd : decide (a < 0) = decide (b < 0) := by simp only [decide_eq_decide]; exact hs.1
      rw [hd] at t1
      rw [t1] at t2
      unfold wholeV
      rw [hd]
      exact Option.some.inj t2
end Go.Proofs.YtkajadkmdcalmaaGreatDoor
