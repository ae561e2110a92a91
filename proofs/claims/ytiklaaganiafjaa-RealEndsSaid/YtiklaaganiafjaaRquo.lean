/-
  THE WALK OF the document's own quotient: 62 digits, one by one.
-/
import Derived.Test.YtiklaaganiafjaaQuo
import Derived.LoopTactic
namespace Go.Proofs.Ytiklaaganiafjaa
open Go.RowKit
theorem ret_ui {a b c d : Int} (h : a = b) (h' : c = d) : Ending.returned (.tuple #[.int .u64 a, .int .i64 c]) = .returned (.tuple #[.int .u64 b, .int .i64 d]) := by rw [h, h']
theorem and_2047 (x : Nat) (h : x < 2048) : bits .and .u64 (x : Int) 2047 = (x : Int) := by
  have := u64_and_nat x 2047 (by omega) (by decide)
  rw [show x &&& 2047 = x % 2048 from Nat.and_two_pow_sub_one_eq_mod x 11, Nat.mod_eq_of_lt h] at this
  exact this
theorem cut_any (x : Nat) (hx : x < 9223372036854775808) (w : World) : Calls Try.prog 32 #[.int .u64 x] w fun r w' => r = .returned (.tuple #[.int .u64 (4503599627370496 + x % 4503599627370496 : Nat), .int .i64 ((x / 4503599627370496 : Nat) - 1075 : Int)]) ∧ w = w' := by
  have e1 := and_52 x (by omega)
  have e2 : bits .and .u64 ((x : Int) / 4503599627370496) 2047 = ((x / 4503599627370496 : Nat) : Int) := and_2047 (x / 4503599627370496) (by omega)
  have E1 : Hid (bits .and .u64 (x : Int) 4503599627370495 + 4503599627370496 = ((4503599627370496 + x % 4503599627370496 : Nat) : Int)) := Lib.hid (by rw [e1]; omega)
  have h1 : 0 ≤ bits .and .u64 (x : Int) 4503599627370495 := by omega
  have h2 : bits .and .u64 (x : Int) 4503599627370495 ≤ 4503599627370495 := by omega
  have h3 : 0 ≤ bits .and .u64 ((x : Int) / 4503599627370496) 2047 := by omega
  have h4 : bits .and .u64 ((x : Int) / 4503599627370496) 2047 ≤ 2047 := by omega
  have E2 : Hid (bits .and .u64 ((x : Int) / 4503599627370496) 2047 - 1075 = ((x / 4503599627370496 : Nat) : Int) - 1075) := Lib.hid (by omega)
  clear e1 e2
  go_enter Try.func32, Try.ntmps32
  go_wp2_with fail
  go_ret2
  exact ⟨ret_ui E1.out E2.out, rfl⟩
theorem xor_sign (a b : Nat) (ha : a < 18446744073709551616) (hb : b < 18446744073709551616) : bits .and .u64 (bits .xor .u64 (a : Int) (b : Int)) 9223372036854775808 = ((if decide (9223372036854775808 ≤ a) ^^ decide (9223372036854775808 ≤ b) then 9223372036854775808 else 0 : Nat) : Int) := by
  have hx : a ^^^ b < 2 ^ 64 := Nat.xor_lt_two_pow (by omega) (by omega)
  rw [u64_xor_nat a b ha hb]
  have := u64_and_nat (a ^^^ b) 9223372036854775808 (by omega) (by decide)
  refine this.trans ?_
  rw [Nat.and_xor_distrib_right, nat_and_sign a ha, nat_and_sign b hb]
  by_cases h1 : 9223372036854775808 ≤ a <;> by_cases h2 : 9223372036854775808 ≤ b <;> simp [h1, h2] <;> decide +kernel
theorem dbl {X N : Nat} (hN : 0 < N) : X * 2 / N = 2 * (X / N) + (if N ≤ 2 * (X % N) then 1 else 0) ∧ X * 2 % N = 2 * (X % N) - (if N ≤ 2 * (X % N) then N else 0) := by
  have h1 := Nat.div_add_mod X N
  have h2 := Nat.mod_lt X hN
  generalize X / N = q at *
  generalize X % N = r at *
  subst h1
  have e : (N * q + r) * 2 = 2 * r + N * (2 * q) := by rw [Nat.add_mul, Nat.mul_assoc, Nat.mul_comm q 2]; omega
  rw [e, Nat.add_mul_div_left _ _ hN, Nat.add_mul_mod_self_left]
  by_cases h : N ≤ 2 * r
  · rw [if_pos h, if_pos h]
    have : 2 * r = (2 * r - N) + N * 1 := by omega
    have hd : (2 * r) / N = 1 := by
      rw [this, Nat.add_mul_div_left _ _ hN, Nat.div_eq_of_lt (by omega)]
    have hm : (2 * r) % N = 2 * r - N := by
      rw [this, Nat.add_mul_mod_self_left, Nat.mod_eq_of_lt (by omega)]; omega
    omega
  · rw [if_neg h, if_neg h, Nat.div_eq_of_lt (by omega), Nat.mod_eq_of_lt (by omega)]
    omega
/-- k digits of a quotient, and what is left -/
def quoAt (M N : Nat) (W R k : Nat) : Prop := W = M * 2 ^ k / N ∧ R = M * 2 ^ k % N
theorem quoAt_next {M N W R k : Nat} (hN : 0 < N) (h : quoAt M N W R k) : quoAt M N (2 * W + (if N ≤ 2 * R then 1 else 0)) (2 * R - (if N ≤ 2 * R then N else 0)) (k + 1) := by
  obtain ⟨rfl, rfl⟩ := h
  have := dbl (X := M * 2 ^ k) hN
  unfold quoAt
  rw [Nat.pow_succ, ← Nat.mul_assoc]
  exact ⟨this.1.symm, this.2.symm⟩
theorem quoAt_le {M N W R k : Nat} (hk : k ≤ 61) (hM : M < 2 * N) (h : quoAt M N W R k) : W < 4611686018427387904 ∧ R < N := by
  obtain ⟨rfl, rfl⟩ := h
  have hN : 0 < N := by omega
  refine ⟨?_, Nat.mod_lt _ hN⟩
  refine (Nat.div_lt_iff_lt_mul hN).2 ?_
  have h1 : 2 ^ k ≤ 2305843009213693952 := by
    rw [show 2305843009213693952 = 2 ^ 61 by decide +kernel]
    exact Nat.pow_le_pow_right (by decide) hk
  calc M * 2 ^ k < 2 * N * 2 ^ k := Nat.mul_lt_mul_of_pos_right hM (Nat.two_pow_pos _)
    _ ≤ 2 * N * 2305843009213693952 := Nat.mul_le_mul_left _ h1
    _ = 4611686018427387904 * N := by omega
theorem quo_end {p q : Int} {W R : Nat} (hp : p ≠ 0) (hq : q ≠ 0) (hp0 : -9223372036854775808 ≤ p) (hp1 : p ≤ 9223372036854775807) (hq0 : -9223372036854775808 ≤ q) (hq1 : q ≤ 9223372036854775807)
    (h : quoAt (dig p) (dig q) W R 62) :
    W ≠ 0 ∧ W < 18446744073709551616 ∧ 0 ≤ (W.log2 : Int) + 1022 + ((rung p.natAbs / 4503599627370496 : Nat) - 1075 - ((rung q.natAbs / 4503599627370496 : Nat) - 1075) - 62) ∧ (W.log2 : Int) + 1022 + ((rung p.natAbs / 4503599627370496 : Nat) - 1075 - ((rung q.natAbs / 4503599627370496 : Nat) - 1075) - 62) ≤ 2044 ∧
      ((if decide (p < 0) ^^ decide (q < 0) then 9223372036854775808 else 0 : Nat) : Int) + (((W.log2 : Int) + 1022 + ((rung p.natAbs / 4503599627370496 : Nat) - 1075 - ((rung q.natAbs / 4503599627370496 : Nat) - 1075) - 62)) * 4503599627370496 + (keptM W (decide (0 < R)) : Nat)) = (partN p q : Nat) ∧ partN p q < 18446744073709551616 := by
  have hpart : partN p q = quoN p q := by unfold partN; rw [if_neg hq, if_neg hp]
  obtain ⟨hW, hR⟩ := h
  rw [show (2 : Nat) ^ 62 = 4611686018427387904 by decide +kernel] at hW hR
  obtain ⟨E1, E2⟩ := rung_exp (m := p.natAbs) (by omega) (by omega)
  obtain ⟨F1, F2⟩ := rung_exp (m := q.natAbs) (by omega) (by omega)
  have d1 : 4503599627370496 ≤ dig p ∧ dig p < 9007199254740992 := by unfold dig; omega
  have d2 : 4503599627370496 ≤ dig q ∧ dig q < 9007199254740992 := by unfold dig; omega
  have a : 2305843009213693952 ≤ W := by rw [hW]; exact (Nat.le_div_iff_mul_le (by omega)).2 (by omega)
  have b : W < 9223372036854775808 := by rw [hW]; exact (Nat.div_lt_iff_lt_mul (by omega)).2 (by omega)
  have hl : 61 ≤ W.log2 ∧ W.log2 < 63 := ⟨(Nat.le_log2 (by omega)).2 (by omega), (Nat.log2_lt (by omega)).2 (by omega)⟩
  have hk : keptM W (decide (0 < R)) ≤ 9007199254740992 := by
    have hp : 0 < 2 ^ (W.log2 - 52) := Nat.two_pow_pos _
    have : W / 2 ^ (W.log2 - 52) < 9007199254740992 := (big_less (by omega) (by omega)).1
    unfold keptM
    rw [if_neg (by omega)]
    split <;> omega
  rw [hpart]
  unfold quoN
  rw [← hW, ← hR]
  generalize rung p.natAbs / 4503599627370496 = E at *
  generalize rung q.natAbs / 4503599627370496 = F at *
  generalize keptM W (decide (0 < R)) = K at *
  refine ⟨by omega, by omega, by omega, by omega, ?_, ?_⟩
  · generalize (decide (p < 0) ^^ decide (q < 0)) = s
    cases s <;> simp <;> omega
  · generalize (decide (p < 0) ^^ decide (q < 0)) = s
    cases s <;> simp <;> omega
theorem size_whole {p : Int} (hp : p ≠ 0) (hp0 : -9223372036854775808 ≤ p) (hp1 : p ≤ 9223372036854775807) : wholeB p % 9223372036854775808 = rung p.natAbs ∧ decide (9223372036854775808 ≤ wholeB p) = decide (p < 0) := by
  obtain ⟨b1, b2, b3⟩ := rung_bounds (m := p.natAbs) (by omega) (by omega)
  rw [wholeB_form hp hp0 hp1]
  by_cases h : p < 0 <;> simp [h] <;> omega
theorem bool_gt (R : Nat) : decide ((0 : Int) < R) = decide (0 < R) := by
  apply Bool.eq_iff_iff.2; simp
set_option maxRecDepth 100000 in
set_option maxHeartbeats 2000000 in
theorem rpart_quo (p q : Int) (hp : p ≠ 0) (hq : q ≠ 0) (hp0 : -9223372036854775808 ≤ p) (hp1 : p ≤ 9223372036854775807) (hq0 : -9223372036854775808 ≤ q) (hq1 : q ≤ 9223372036854775807) (w : World) :
    Calls Try.prog 21 #[.int .i64 p, .int .i64 q] w fun r w' => r = .returned (.int .u64 (partN p q : Nat)) ∧ ∃ n, w' = w.drewN n := by
  have A := rwhole_any p hp0 hp1
  have B := rwhole_any q hq0 hq1
  have lx := wholeB_lt hp0 hp1
  have ly := wholeB_lt hq0 hq1
  have SX := size_any (wholeB p) lx
  have SY := size_any (wholeB q) ly
  obtain ⟨sx1, sx2⟩ := size_whole hp hp0 hp1
  obtain ⟨sy1, sy2⟩ := size_whole hq hq0 hq1
  rw [sx1] at SX
  rw [sy1] at SY
  have S := Lib.hid (xor_sign (wholeB p) (wholeB q) lx ly)
  rw [sx2, sy2] at S
  have rx := (rung_bounds (m := p.natAbs) (by omega) (by omega)).2.1
  have ry := (rung_bounds (m := q.natAbs) (by omega) (by omega)).2.1
  have CX := cut_any (rung p.natAbs) (by omega)
  have CY := cut_any (rung q.natAbs) (by omega)
  obtain ⟨E1, E2⟩ := rung_exp (m := p.natAbs) (by omega) (by omega)
  obtain ⟨F1, F2⟩ := rung_exp (m := q.natAbs) (by omega) (by omega)
  have hend := Lib.hid (fun W R => @quo_end p q W R hp hq hp0 hp1 hq0 hq1)
  have dM : 4503599627370496 ≤ dig p ∧ dig p < 9007199254740992 := by unfold dig; omega
  have dN : 4503599627370496 ≤ dig q ∧ dig q < 9007199254740992 := by unfold dig; omega
  change ∀ w, Calls Try.prog 32 #[.int .u64 (rung p.natAbs : Nat)] w fun r w' => r = .returned (.tuple #[.int .u64 (dig p : Nat), _]) ∧ w = w' at CX
  change ∀ w, Calls Try.prog 32 #[.int .u64 (rung q.natAbs : Nat)] w fun r w' => r = .returned (.tuple #[.int .u64 (dig q : Nat), _]) ∧ w = w' at CY
  have e1 : (p == 0) = false := by simp [hp]
  have e2 : (q == 0) = false := by simp [hq]
  have hsgn : ((if decide (p < 0) ^^ decide (q < 0) then 9223372036854775808 else 0 : Nat) : Int) ≤ 9223372036854775808 ∧ 0 ≤ ((if decide (p < 0) ^^ decide (q < 0) then 9223372036854775808 else 0 : Nat) : Int) := by split <;> decide
  generalize ((if decide (p < 0) ^^ decide (q < 0) then 9223372036854775808 else 0 : Nat) : Int) = sgn at *
  generalize dig p = M at *
  generalize dig q = N at *
  generalize rung p.natAbs = X at *
  generalize rung q.natAbs = Y at *
  generalize wholeB p = P at *
  generalize wholeB q = Q at *
  generalize X / 4503599627370496 = E at *
  generalize Y / 4503599627370496 = F at *
  clear sx1 sx2 sy1 sy2 hp hq
  obtain ⟨M1, M2⟩ := dM
  obtain ⟨N1, N2⟩ := dN
  have N0 : (N : Int) ≠ 0 := by omega
  have hn0 : ((N : Int) == 0) = false := by simp; omega
  go_enter Try.func21, Try.ntmps21
  go_wp2_with fail
  refine (A _).mono ?_
  rintro r w1 ⟨rfl, rfl⟩
  go_wp2_with fail
  refine (B _).mono ?_
  rintro r w1 ⟨rfl, rfl⟩
  go_wp2_with fail
  refine (SX _).mono ?_
  rintro r w1 ⟨rfl, rfl⟩
  go_wp2_with fail
  refine (CX _).mono ?_
  rintro r w1 ⟨rfl, rfl⟩
  go_wp2_with fail
  refine (SY _).mono ?_
  rintro r w1 ⟨rfl, rfl⟩
  go_wp2_with fail
  refine (CY _).mono ?_
  rintro r w1 ⟨rfl, rfl⟩
  go_wp2_with fail
  go_quiet (fail)
  go_wp2_with fail
  have hq0' : quoAt M N (M / N) (M % N) 0 := ⟨by rw [Nat.pow_zero, Nat.mul_one], by rw [Nat.pow_zero, Nat.mul_one]⟩
  have hlt : M < 2 * N := by omega
  have hle := (quoAt_le (by omega) hlt hq0').1
  obtain ⟨wo, hwo⟩ : ∃ wo : World, wo = w.drewN nq := ⟨_, rfl⟩
  have HWO := Lib.hid hwo
  rw [← hwo]
  clear hwo
  go_loop [14, 15, 16] (fun a b i => ∃ W R k : Nat, k ≤ 62 ∧ i = .int .i64 k ∧ a = .int .u64 W ∧ b = .int .u64 R ∧ Hid (quoAt M N W R k)) (fun _ _ i => 62 - (intOf i).toNat)
  case atStart => exact ⟨M / N, M % N, 0, by omega, rfl, by rw [IntWalk.u64_in _ ⟨by exact_mod_cast Nat.zero_le _, by rw [← Int.natCast_ediv]; omega⟩]; rw [Int.natCast_ediv], by rw [Int.natCast_emod], Lib.hid hq0'⟩
  case round =>
    obtain ⟨W, R, k, hk, rfl, rfl, rfl, hQ⟩ := hrel
    clear hq0' hle
    by_cases hlt' : k < 62
    · obtain ⟨bW, bR⟩ := quoAt_le (by omega) hlt hQ.out
      have hnext := quoAt_next (by omega) hQ.out
      by_cases hc : N ≤ 2 * R
      · rw [if_pos hc, if_pos hc] at hnext
        have HN := Lib.hid hnext
        clear hnext
        have hc' : (N : Int) ≤ 2 * (R : Int) := by omega
        go_wp2_with fail
        go_round
        case rel => exact ⟨_, _, k + 1, by omega, by go_num, by go_num, by go_num, HN⟩
        case measure => simp [intOf]; omega
      · rw [if_neg hc, if_neg hc] at hnext
        have HN := Lib.hid hnext
        clear hnext
        have hc' : 2 * (R : Int) < (N : Int) := by omega
        go_wp2_with fail
        go_round
        case rel => exact ⟨_, _, k + 1, by omega, by go_num, by go_num, by go_num, HN⟩
        case measure => simp [intOf]; omega
    · obtain rfl : k = 62 := by omega
      obtain ⟨g1, g2, g3, g4, g5, g6⟩ := hend.out W R hQ.out
      have RO := fun w => rounded_any W _ (decide (0 < R)) g2 w g1 g3 g4
      have G5 := Lib.hid g5
      have G6 := Lib.hid g6
      clear g5 g6
      go_wp2_with fail
      refine (RO _).mono ?_
      rintro r w1 ⟨rfl, rfl⟩
      go_wp2_with fail
      go_ret
      refine ⟨ret_u64 ?_, nq, HWO.out⟩
      rw [S.out]
      have h5 := G5.out
      have h6 := G6.out
      rw [IntWalk.u64_in _ (by omega)]
      exact h5
theorem xor_zero_sign (q : Int) (hq0 : -9223372036854775808 ≤ q) (hq1 : q ≤ 9223372036854775807) (hq : q ≠ 0) : bits .and .u64 (bits .xor .u64 ((wholeB 0 : Nat) : Int) ((wholeB q : Nat) : Int)) 9223372036854775808 = ((partN 0 q : Nat) : Int) := by
  rw [xor_sign _ _ (by decide +kernel) (wholeB_lt hq0 hq1), (size_whole hq hq0 hq1).2, show wholeB 0 = 0 by decide +kernel]
  unfold partN
  rw [if_neg hq, if_pos rfl]
  by_cases h : q < 0 <;> simp [h]
theorem xor_sign_inf (p : Int) (hp0 : -9223372036854775808 ≤ p) (hp1 : p ≤ 9223372036854775807) (hp : p ≠ 0) : bits .and .u64 ((wholeB p : Nat) : Int) 9223372036854775808 + 9218868437227405312 = ((partN p 0 : Nat) : Int) ∧ 0 ≤ bits .and .u64 ((wholeB p : Nat) : Int) 9223372036854775808 ∧ bits .and .u64 ((wholeB p : Nat) : Int) 9223372036854775808 ≤ 9223372036854775808 := by
  have h1 := (size_whole hp hp0 hp1).2
  rw [and_sign _ (wholeB_lt hp0 hp1)]
  unfold partN
  rw [if_pos rfl, if_neg hp]
  by_cases h : p < 0
  · have : 9223372036854775808 ≤ wholeB p := by simpa [h] using h1
    simp [h, this]
  · have : ¬ 9223372036854775808 ≤ wholeB p := by simpa [h] using h1
    simp [h, this]
set_option maxHeartbeats 1000000 in
theorem rpart_any (p q : Int) (hp0 : -9223372036854775808 ≤ p) (hp1 : p ≤ 9223372036854775807) (hq0 : -9223372036854775808 ≤ q) (hq1 : q ≤ 9223372036854775807) (w : World) :
    Calls Try.prog 21 #[.int .i64 p, .int .i64 q] w fun r w' => r = .returned (.int .u64 (partN p q : Nat)) ∧ ∃ n, w' = w.drewN n := by
  have A := rwhole_any p hp0 hp1
  have B := rwhole_any q hq0 hq1
  by_cases hq : q = 0
  · subst hq
    by_cases hp : p = 0
    · subst hp
      go_enter Try.func21, Try.ntmps21
      go_wp2_with fail
      refine (A _).mono ?_
      rintro r w1 ⟨rfl, rfl⟩
      go_wp2_with fail
      refine (B _).mono ?_
      rintro r w1 ⟨rfl, rfl⟩
      go_wp2_with fail
      go_ret
      exact ⟨ret_u64 (by decide +kernel), 0, rfl⟩
    · obtain ⟨x1, x2, x3⟩ := xor_sign_inf p hp0 hp1 hp
      have S := Lib.hid x1
      have e1 : (p == 0) = false := by simp [hp]
      clear hp x1
      go_enter Try.func21, Try.ntmps21
      go_wp2_with fail
      refine (A _).mono ?_
      rintro r w1 ⟨rfl, rfl⟩
      go_wp2_with fail
      refine (B _).mono ?_
      rintro r w1 ⟨rfl, rfl⟩
      go_wp2_with fail
      go_ret
      exact ⟨ret_u64 S.out, 0, rfl⟩
  · by_cases hp : p = 0
    · subst hp
      have S := Lib.hid (xor_zero_sign q hq0 hq1 hq)
      have e1 : (q == 0) = false := by simp [hq]
      clear hq
      go_enter Try.func21, Try.ntmps21
      go_wp2_with fail
      refine (A _).mono ?_
      rintro r w1 ⟨rfl, rfl⟩
      go_wp2_with fail
      refine (B _).mono ?_
      rintro r w1 ⟨rfl, rfl⟩
      go_wp2_with fail
      go_ret
      exact ⟨ret_u64 S.out, 0, rfl⟩
    · exact rpart_quo p q hp hq hp0 hp1 hq0 hq1 w
end Go.Proofs.Ytiklaaganiafjaa
