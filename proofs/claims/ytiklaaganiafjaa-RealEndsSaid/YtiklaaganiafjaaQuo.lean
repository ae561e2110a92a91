/-
  THE WALKS OF real.Part and of the document's own.
-/
import Derived.Test.YtiklaaganiafjaaPart
namespace Go.Proofs.Ytiklaaganiafjaa
open Go.RowKit
/-- the 53 digits of a word -/
def dig (p : Int) : Nat := 4503599627370496 + rung p.natAbs % 4503599627370496
/-- the word of a quotient of two whole numbers that are not 0 -/
def quoN (p q : Int) : Nat :=
  (if decide (p < 0) ^^ decide (q < 0) then 9223372036854775808 else 0) + (((dig p * 4611686018427387904 / dig q).log2 + (960 + rung p.natAbs / 4503599627370496 - rung q.natAbs / 4503599627370496)) * 4503599627370496
    + keptM (dig p * 4611686018427387904 / dig q) (decide (0 < dig p * 4611686018427387904 % dig q)))
/-- the word of any quotient -/
def partN (p q : Int) : Nat :=
  if q = 0 then (if p = 0 then 9221120237041090561 else if p < 0 then 18442240474082181120 else 9218868437227405312)
  else if p = 0 then (if q < 0 then 9223372036854775808 else 0) else quoN p q
theorem rung_exp {m : Nat} (hm : m ≠ 0) (hl : m ≤ 9223372036854775808) : 1023 ≤ rung m / 4503599627370496 ∧ rung m / 4503599627370496 ≤ 1087 := by
  obtain ⟨b1, b2, b3⟩ := rung_bounds hm hl
  obtain ⟨k1, k2⟩ := kept_bounds hm
  unfold rung
  omega
theorem div_whole {p q : Int} (hp0 : -9223372036854775808 ≤ p) (hp1 : p ≤ 9223372036854775807) (hq0 : -9223372036854775808 ≤ q) (hq1 : q ≤ 9223372036854775807) (hq : q ≠ 0) :
    floatBits .quo .f64 (wholeB p) (wholeB q) = some (partN p q) := by
  unfold partN
  rw [if_neg hq]
  show Ieee.double.div (wholeB p) (wholeB q) = _
  by_cases hp : p = 0
  · subst hp
    rw [if_pos rfl, wholeB_form hq hq0 hq1, show wholeB 0 = 0 by decide +kernel]
    obtain ⟨b1, b2, b3⟩ := rung_bounds (m := q.natAbs) (by omega) (by omega)
    unfold Ieee.Format.div
    have hmod : ((if decide (q < 0) = true then 9223372036854775808 else 0) + rung q.natAbs) % 9223372036854775808 = rung q.natAbs := by split <;> omega
    have hneg : decide (9223372036854775808 ≤ (if decide (q < 0) = true then 9223372036854775808 else 0) + rung q.natAbs) = decide (q < 0) := by
      by_cases h : q < 0 <;> simp [h] <;> omega
    rw [show Ieee.double.read 0 = Ieee.Datum.number false 0 (-1074) from by decide +kernel]
    rw [read_double _ (by split <;> omega), hmod, hneg, if_pos b2]
    obtain ⟨m, a, e1, u1⟩ := fin_form (decide (q < 0)) (rung q.natAbs)
    rw [e1]
    have hm : m ≠ 0 := by
      rintro rfl
      have : units (rung q.natAbs) = units 0 := by rw [← u1, Nat.zero_mul]; rfl
      have := units_inj this
      omega
    unfold Ieee.Datum.quotient
    simp only [hm, if_false, Nat.zero_shiftLeft, Nat.zero_div, Nat.zero_mod, Nat.mul_zero, Nat.zero_add, Option.map_some]
    refine congrArg some ?_
    show Ieee.double.nearest _ 0 _ = _
    unfold Ieee.Format.nearest
    rw [if_pos rfl]
    by_cases h : q < 0 <;> simp [h, Ieee.Format.word] <;> decide +kernel
  · rw [if_neg hp, wholeB_form hp hp0 hp1, wholeB_form hq hq0 hq1]
    exact div_rungs (decide (p < 0)) (decide (q < 0)) (by omega) (by omega) (by omega) (by omega)
theorem ret_f {a b : Nat} (h : a = b) : Ending.returned (.float .f64 a) = .returned (.float .f64 b) := by rw [h]
theorem mkNan_any (w : World) : Calls Try.prog 26 #[] w fun r w' => r = .returned (.float .f64 9221120237041090561) ∧ w = w' := by
  have hb := run_frombits 9221120237041090561
  go_enter Try.func26, Try.ntmps26
  go_wp2_with fail
  go_ret
  exact ⟨rfl, rfl⟩
theorem inf_any (p : Int) (w : World) : Calls Try.prog 31 #[.int .i64 p] w fun r w' => r = .returned (.float .f64 (if p < 0 then 18442240474082181120 else 9218868437227405312)) ∧ w = w' := by
  have hb := run_frombits 9218868437227405312
  have hb' := run_frombits 18442240474082181120
  by_cases h : p < 0
  · have R := Lib.hid (show (if p < 0 then 18442240474082181120 else 9218868437227405312) = 18442240474082181120 from if_pos h)
    go_enter Try.func31, Try.ntmps31
    go_wp2_with fail
    go_ret
    exact ⟨rfl, rfl⟩
  · have R := Lib.hid (show (if p < 0 then 18442240474082181120 else 9218868437227405312) = 9218868437227405312 from if_neg h)
    have h' : 0 ≤ p := by omega
    clear h
    go_enter Try.func31, Try.ntmps31
    go_wp2_with fail
    go_ret
    exact ⟨rfl, rfl⟩
set_option maxHeartbeats 1000000 in
theorem part_any (p q : Int) (hp0 : -9223372036854775808 ≤ p) (hp1 : p ≤ 9223372036854775807) (hq0 : -9223372036854775808 ≤ q) (hq1 : q ≤ 9223372036854775807) (w : World) :
    Calls Try.prog 20 #[.int .i64 p, .int .i64 q] w fun r w' => r = .returned (.float .f64 (partN p q)) ∧ w = w' := by
  have A := whole_any p hp0 hp1
  have B := whole_any q hq0 hq1
  by_cases hq : q = 0
  · have e1 : (q != 0) = false := by simp [hq]
    by_cases hp : p = 0
    · have e2 : (p != 0) = false := by simp [hp]
      have R := Lib.hid (show 9221120237041090561 = partN p q by unfold partN; rw [if_pos hq, if_pos hp])
      clear hq hp
      go_enter Try.func20, Try.ntmps20
      go_wp2_with fail
      refine (A _).mono ?_
      rintro r w1 ⟨rfl, rfl⟩
      go_wp2_with fail
      refine (B _).mono ?_
      rintro r w1 ⟨rfl, rfl⟩
      go_wp2_with fail
      refine (mkNan_any _).mono ?_
      rintro r w1 ⟨rfl, rfl⟩
      go_wp2_with fail
      go_ret
      exact ⟨ret_f R.out, rfl⟩
    · have e2 : (p != 0) = true := by simp [hp]
      have R := Lib.hid (show (if p < 0 then 18442240474082181120 else 9218868437227405312) = partN p q by unfold partN; rw [if_pos hq, if_neg hp])
      clear hq hp
      go_enter Try.func20, Try.ntmps20
      go_wp2_with fail
      refine (A _).mono ?_
      rintro r w1 ⟨rfl, rfl⟩
      go_wp2_with fail
      refine (B _).mono ?_
      rintro r w1 ⟨rfl, rfl⟩
      go_wp2_with fail
      refine (inf_any _ _).mono ?_
      rw [R.out]
      rintro r w1 ⟨rfl, rfl⟩
      go_wp2_with fail
      go_ret
      exact ⟨rfl, rfl⟩
  · have e1 : (q != 0) = true := by simp [hq]
    have D := fun w => run_float_arith (P := Try.prog) w .quo 22 .f64 _ _ _ (div_whole hp0 hp1 hq0 hq1 hq)
    clear hq
    generalize wholeB p = x at *
    generalize wholeB q = y at *
    go_enter Try.func20, Try.ntmps20
    go_wp2_with fail
    refine (A _).mono ?_
    rintro r w1 ⟨rfl, rfl⟩
    go_wp2_with fail
    refine (B _).mono ?_
    rintro r w1 ⟨rfl, rfl⟩
    go_wp2_with fail
    go_ret
    exact ⟨rfl, rfl⟩
end Go.Proofs.Ytiklaaganiafjaa
