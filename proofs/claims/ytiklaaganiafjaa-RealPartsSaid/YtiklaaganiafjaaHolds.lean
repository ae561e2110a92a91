/-
  THE WALKS OF real.Holds and of the document's own: by the words' places alone.
-/
import Derived.Test.YtiklaaganiafjaaRank
import Derived.Deep.QuietTactic
import Derived.BigQuiet
namespace Go.Proofs.Ytiklaaganiafjaa
open Go.RowKit
/-- what a comparing answers, of how two stand -/
def opO (op : Int) (o : Option Ordering) : Bool :=
  if op = 1 then o == some .eq else if op = 2 then o != some .eq else if op = 3 then o == some .lt else if op = 4 then o == some .lt || o == some .eq
  else if op = 5 then o == some .gt else if op = 6 then o == some .gt || o == some .eq else false
/-- how two words stand as numbers -/
def ord (x y : Nat) : Option Ordering := if isNan x || isNan y then none else some (compare (rkey x) (rkey y))
theorem ord_order (x y : Nat) (hx : x < 18446744073709551616) (hy : y < 18446744073709551616) : FloatKind.f64.format.order x y = ord x y := by
  show Ieee.double.order x y = ord x y
  unfold ord
  by_cases h1 : isNan x = true
  · rw [order_nan_left x y hx h1, h1]; rfl
  · have h1 : isNan x = false := by simpa using h1
    by_cases h2 : isNan y = true
    · rw [order_nan_right x y hy h2, h2, h1]; rfl
    · have h2 : isNan y = false := by simpa using h2
      rw [order_key x y hx hy h1 h2, h1, h2]; rfl
theorem ret_any {a b : Bool} (h : a = b) (e : Ending) (he : e = .returned (.bool a)) : e = .returned (.bool b) := by rw [he, h]
set_option maxHeartbeats 1000000 in
theorem holds_core (op : Int) (x y : Nat) (o : Option Ordering) (ho : FloatKind.f64.format.order x y = o) (w : World) : Calls Try.prog 15 #[.int .i64 op, .float .f64 x, .float .f64 y] w fun r w' => r = .returned (.bool (opO op o)) ∧ w = w' := by
  have H1 : (FloatKind.f64.format.order x y == some .eq) = (o == some .eq) := by rw [ho]
  have H2 : (FloatKind.f64.format.order x y != some .eq) = (o != some .eq) := by rw [ho]
  have H3 : (FloatKind.f64.format.order x y == some .lt) = (o == some .lt) := by rw [ho]
  have H4 : (FloatKind.f64.format.order x y == some .gt) = (o == some .gt) := by rw [ho]
  clear ho
  by_cases c2 : op = 2
  · subst c2
    go_enter Try.func15, Try.ntmps15
    go_wp2_with fail
    go_ret
    exact ⟨ret_bool (by simp only [opO]; simp), rfl⟩
  by_cases c4 : op = 4
  · subst c4
    rcases o with _ | _ | _ | _
    all_goals
      go_enter Try.func15, Try.ntmps15
      go_wp2_with fail
      go_ret
      exact ⟨ret_bool (by first | rfl | (rw [H1]; rfl) | (rw [H3]; rfl)), rfl⟩
  by_cases c6 : op = 6
  · subst c6
    rcases o with _ | _ | _ | _
    all_goals
      go_enter Try.func15, Try.ntmps15
      go_wp2_with fail
      go_ret
      exact ⟨ret_bool (by first | rfl | (rw [H1]; rfl) | (rw [H4]; rfl)), rfl⟩
  by_cases c1 : op = 1
  · subst c1
    go_enter Try.func15, Try.ntmps15
    go_wp2_with fail
    go_ret
    exact ⟨ret_bool (by simp only [opO]; simp), rfl⟩
  by_cases c3 : op = 3
  · subst c3
    go_enter Try.func15, Try.ntmps15
    go_wp2_with fail
    go_ret
    exact ⟨ret_bool (by simp only [opO]; simp), rfl⟩
  by_cases c5 : op = 5
  · subst c5
    go_enter Try.func15, Try.ntmps15
    go_wp2_with fail
    go_ret
    exact ⟨ret_bool (by simp only [opO]; simp), rfl⟩
  have d1 : (op == 1) = false := by simpa using c1
  have d2 : (op == 2) = false := by simpa using c2
  have d3 : (op == 3) = false := by simpa using c3
  have d4 : (op == 4) = false := by simpa using c4
  have d5 : (op == 5) = false := by simpa using c5
  have d6 : (op == 6) = false := by simpa using c6
  have R := Lib.hid (show false = opO op o by unfold opO; rw [if_neg c1, if_neg c2, if_neg c3, if_neg c4, if_neg c5, if_neg c6])
  clear c1 c2 c3 c4 c5 c6
  go_enter Try.func15, Try.ntmps15
  go_wp2_with fail
  go_ret
  exact ⟨ret_bool R.out, rfl⟩
theorem holds_any (op : Int) (x y : Nat) (hx : x < 18446744073709551616) (hy : y < 18446744073709551616) (w : World) : Calls Try.prog 15 #[.int .i64 op, .float .f64 x, .float .f64 y] w fun r w' => r = .returned (.bool (opO op (ord x y))) ∧ w = w' :=
  holds_core op x y _ (ord_order x y hx hy) w
theorem size_any (x : Nat) (hx : x < 18446744073709551616) (w : World) : Calls Try.prog 33 #[.int .u64 x] w fun r w' => r = .returned (.int .u64 (x % 9223372036854775808 : Nat)) ∧ w = w' := by
  have R := Lib.hid (and_low x hx)
  go_enter Try.func33, Try.ntmps33
  go_wp2_with fail
  go_ret
  exact ⟨ret_u64 R.out, rfl⟩
theorem sign_yes {x : Nat} (hx : x < 18446744073709551616) (h : 9223372036854775808 ≤ x) : ((x : Int) / 9223372036854775808 == 1) = true := by simp; omega
theorem sign_no {x : Nat} (h : ¬ 9223372036854775808 ≤ x) : ((x : Int) / 9223372036854775808 == 1) = false := by simp; omega
theorem rkey_yes {x : Nat} (h : 9223372036854775808 ≤ x) : rkey x = -((x : Int) - 9223372036854775808) := by unfold rkey; rw [if_neg (by omega)]
theorem rkey_no {x : Nat} (h : ¬ 9223372036854775808 ≤ x) : rkey x = x := by unfold rkey; rw [if_pos (by omega)]
set_option maxHeartbeats 1000000 in
theorem below_any (x y : Nat) (hx : x < 18446744073709551616) (hy : y < 18446744073709551616) (w : World) : Calls Try.prog 27 #[.int .u64 x, .int .u64 y] w fun r w' => r = .returned (.bool (decide (rkey x < rkey y))) ∧ w = w' := by
  by_cases hz : (x : Int) % 9223372036854775808 = 0 ∧ (y : Int) % 9223372036854775808 = 0
  · obtain ⟨z1, z2⟩ := hz
    have R := Lib.hid (show false = decide (rkey x < rkey y) by unfold rkey; split <;> split <;> simp <;> omega)
    go_enter Try.func27, Try.ntmps27
    go_wp2_with fail
    refine (size_any x hx _).mono ?_
    rintro e w1 ⟨rfl, rfl⟩
    go_wp2_with fail
    refine (size_any y hy _).mono ?_
    rintro e w1 ⟨rfl, rfl⟩
    go_wp2_with fail
    go_ret
    exact ⟨ret_bool R.out, rfl⟩
  · have HZ := Lib.hid hz
    clear hz
    by_cases sx : 9223372036854775808 ≤ x
    · have S1 := sign_yes hx sx
      have K1 := Lib.hid (rkey_yes sx)
      by_cases sy : 9223372036854775808 ≤ y
      · have S2 := sign_yes hy sy
        have K2 := Lib.hid (rkey_yes sy)
        by_cases z1 : (x : Int) % 9223372036854775808 = 0
        · have z2 : ¬ (y : Int) % 9223372036854775808 = 0 := fun h => HZ.out ⟨z1, h⟩
          go_enter Try.func27, Try.ntmps27
          go_wp2_with (go_at_call 33; refine (size_any _ (by assumption) _).mono ?_; rintro e w1 ⟨rfl, rfl⟩)
          go_ret
          exact ⟨ret_bool (by apply Bool.eq_iff_iff.2; rw [K1.out, K2.out]; simp; omega), rfl⟩
        · go_enter Try.func27, Try.ntmps27
          go_wp2_with (go_at_call 33; refine (size_any _ (by assumption) _).mono ?_; rintro e w1 ⟨rfl, rfl⟩)
          go_ret
          exact ⟨ret_bool (by apply Bool.eq_iff_iff.2; rw [K1.out, K2.out]; simp; omega), rfl⟩
      · have S2 := sign_no sy
        have K2 := Lib.hid (rkey_no sy)
        by_cases z1 : (x : Int) % 9223372036854775808 = 0
        · have z2 : ¬ (y : Int) % 9223372036854775808 = 0 := fun h => HZ.out ⟨z1, h⟩
          go_enter Try.func27, Try.ntmps27
          go_wp2_with (go_at_call 33; refine (size_any _ (by assumption) _).mono ?_; rintro e w1 ⟨rfl, rfl⟩)
          go_ret
          exact ⟨ret_bool (by apply Bool.eq_iff_iff.2; rw [K1.out, K2.out]; simp; omega), rfl⟩
        · go_enter Try.func27, Try.ntmps27
          go_wp2_with (go_at_call 33; refine (size_any _ (by assumption) _).mono ?_; rintro e w1 ⟨rfl, rfl⟩)
          go_ret
          exact ⟨ret_bool (by apply Bool.eq_iff_iff.2; rw [K1.out, K2.out]; simp; omega), rfl⟩
    · have S1 := sign_no sx
      have K1 := Lib.hid (rkey_no sx)
      by_cases sy : 9223372036854775808 ≤ y
      · have S2 := sign_yes hy sy
        have K2 := Lib.hid (rkey_yes sy)
        by_cases z1 : (x : Int) % 9223372036854775808 = 0
        · have z2 : ¬ (y : Int) % 9223372036854775808 = 0 := fun h => HZ.out ⟨z1, h⟩
          go_enter Try.func27, Try.ntmps27
          go_wp2_with (go_at_call 33; refine (size_any _ (by assumption) _).mono ?_; rintro e w1 ⟨rfl, rfl⟩)
          go_ret
          exact ⟨ret_bool (by apply Bool.eq_iff_iff.2; rw [K1.out, K2.out]; simp; omega), rfl⟩
        · go_enter Try.func27, Try.ntmps27
          go_wp2_with (go_at_call 33; refine (size_any _ (by assumption) _).mono ?_; rintro e w1 ⟨rfl, rfl⟩)
          go_ret
          exact ⟨ret_bool (by apply Bool.eq_iff_iff.2; rw [K1.out, K2.out]; simp; omega), rfl⟩
      · have S2 := sign_no sy
        have K2 := Lib.hid (rkey_no sy)
        by_cases z1 : (x : Int) % 9223372036854775808 = 0
        · have z2 : ¬ (y : Int) % 9223372036854775808 = 0 := fun h => HZ.out ⟨z1, h⟩
          go_enter Try.func27, Try.ntmps27
          go_wp2_with (go_at_call 33; refine (size_any _ (by assumption) _).mono ?_; rintro e w1 ⟨rfl, rfl⟩)
          go_ret
          exact ⟨ret_bool (by apply Bool.eq_iff_iff.2; rw [K1.out, K2.out]; simp; omega), rfl⟩
        · go_enter Try.func27, Try.ntmps27
          go_wp2_with (go_at_call 33; refine (size_any _ (by assumption) _).mono ?_; rintro e w1 ⟨rfl, rfl⟩)
          go_ret
          exact ⟨ret_bool (by apply Bool.eq_iff_iff.2; rw [K1.out, K2.out]; simp; omega), rfl⟩
theorem ord_none_left {x y : Nat} (h : isNan x = true) : ord x y = none := by unfold ord; rw [h]; rfl
theorem ord_none_right {x y : Nat} (h : isNan y = true) : ord x y = none := by unfold ord; rw [h, Bool.or_true]; rfl
theorem ord_some {x y : Nat} (h : isNan x = false) (h' : isNan y = false) : ord x y = some (compare (rkey x) (rkey y)) := by unfold ord; rw [h, h']; rfl
theorem opO_none (op : Int) : opO op none = decide (op = 2) := by
  unfold opO
  by_cases h : op = 2
  · subst h; decide
  · simp [h]
set_option maxHeartbeats 1000000 in
theorem rholds_any (op : Int) (x y : Nat) (hx : x < 18446744073709551616) (hy : y < 18446744073709551616) (w : World) : Calls Try.prog 16 #[.int .i64 op, .float .f64 x, .float .f64 y] w fun r w' => r = .returned (.bool (opO op (ord x y))) ∧ w = w' := by
  have hb := run_bits x
  have hb' := run_bits y
  by_cases h1 : isNan x = true
  · have R := Lib.hid (show (op == 2) = opO op (ord x y) by rw [ord_none_left h1, opO_none]; apply Bool.eq_iff_iff.2; simp)
    go_enter Try.func16, Try.ntmps16
    go_wp2_with (go_at_call 22; refine (nan_any _ (by assumption) _).mono ?_; rintro e w1 ⟨rfl, rfl⟩)
    go_ret
    exact ⟨ret_bool R.out, rfl⟩
  have h1 : isNan x = false := by simpa using h1
  by_cases h2 : isNan y = true
  · have R := Lib.hid (show (op == 2) = opO op (ord x y) by rw [ord_none_right h2, opO_none]; apply Bool.eq_iff_iff.2; simp)
    go_enter Try.func16, Try.ntmps16
    go_wp2_with (go_at_call 22; refine (nan_any _ (by assumption) _).mono ?_; rintro e w1 ⟨rfl, rfl⟩)
    go_ret
    exact ⟨ret_bool R.out, rfl⟩
  have h2 : isNan y = false := by simpa using h2
  have O := Lib.hid (ord_some h1 h2)
  have T := Int.lt_trichotomy (rkey x) (rkey y)
  have hT : (rkey x < rkey y ∧ ¬ rkey y < rkey x ∧ Hid (ord x y = some .lt)) ∨ (¬ rkey x < rkey y ∧ ¬ rkey y < rkey x ∧ Hid (ord x y = some .eq)) ∨ (¬ rkey x < rkey y ∧ rkey y < rkey x ∧ Hid (ord x y = some .gt)) := by
    rcases T with h | h | h
    · exact .inl ⟨h, by omega, Lib.hid (by rw [O.out, compare_lt' h])⟩
    · exact .inr (.inl ⟨by omega, by omega, Lib.hid (by rw [O.out, compare_eq' h])⟩)
    · exact .inr (.inr ⟨by omega, h, Lib.hid (by rw [O.out, compare_gt' h])⟩)
  clear T O
  by_cases hop : op = 1 ∨ op = 2 ∨ op = 3 ∨ op = 4 ∨ op = 5 ∨ op = 6
  · rcases hop with rfl | rfl | rfl | rfl | rfl | rfl
    all_goals
      rcases hT with ⟨t1, t2, O⟩ | ⟨t1, t2, O⟩ | ⟨t1, t2, O⟩
      all_goals
        go_enter Try.func16, Try.ntmps16
        go_wp2_with (first | (go_at_call 22; refine (nan_any _ (by assumption) _).mono ?_; rintro e w1 ⟨rfl, rfl⟩) | (go_at_call 27; refine (below_any _ _ (by assumption) (by assumption) _).mono ?_; rintro e w1 ⟨rfl, rfl⟩))
        go_ret
        exact ⟨ret_bool (by rw [O.out]; first | rfl | (simp [t1, t2, opO])), rfl⟩
  · have d1 : (op == 1) = false := by simp; omega
    have d2 : (op == 2) = false := by simp; omega
    have d3 : (op == 3) = false := by simp; omega
    have d4 : (op == 4) = false := by simp; omega
    have d5 : (op == 5) = false := by simp; omega
    have d6 : (op == 6) = false := by simp; omega
    have R := Lib.hid (show false = opO op (ord x y) by unfold opO; rw [if_neg (by omega), if_neg (by omega), if_neg (by omega), if_neg (by omega), if_neg (by omega), if_neg (by omega)])
    clear hop
    rcases hT with ⟨t1, t2, O⟩ | ⟨t1, t2, O⟩ | ⟨t1, t2, O⟩
    all_goals
      go_enter Try.func16, Try.ntmps16
      go_wp2_with (first | (go_at_call 22; refine (nan_any _ (by assumption) _).mono ?_; rintro e w1 ⟨rfl, rfl⟩) | (go_at_call 27; refine (below_any _ _ (by assumption) (by assumption) _).mono ?_; rintro e w1 ⟨rfl, rfl⟩))
      go_ret
      exact ⟨ret_bool R.out, rfl⟩
end Go.Proofs.Ytiklaaganiafjaa
