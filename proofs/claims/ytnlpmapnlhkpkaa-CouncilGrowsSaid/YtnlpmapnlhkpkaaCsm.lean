/-
  THE SMALL CALLS: known, Has, Size, Enough, Near, and the document's Has and Size.
-/
import Derived.Test.YtnlpmapnlhkpkaaCrp
import Derived.Test.YtnlpmapnlhkpkaaRows
import Derived.WalkKit
import Derived.Handy
namespace Go.Proofs.Ytnlpmapnlhkpkaa
open Go.RowKit
theorem ret_i64 {a b : Int} (h : a = b) : Ending.returned (.int .i64 a) = .returned (.int .i64 b) := by rw [h]
theorem ret_bool {a b : Bool} (h : a = b) : Ending.returned (.bool a) = .returned (.bool b) := by rw [h]
theorem known_any (m : Int) (w : World) : Calls Try.prog 21 #[.int .i64 m] w fun e w' => e = .returned (.int .i64 (kn m)) ∧ w = w' := by
  by_cases h : 0 ≤ m ∧ m < 128
  · have R := Lib.hid (show m = (kn m : Int) by unfold kn; rw [if_pos h]; omega)
    obtain ⟨h1, h2⟩ := h
    go_enter Try.func21, Try.ntmps21
    go_wp2_with fail
    go_ret
    exact ⟨ret_i64 R.out, rfl⟩
  · have R := Lib.hid (show (0 : Int) = (kn m : Int) by unfold kn; rw [if_neg h]; rfl)
    by_cases h1 : m < 0
    · clear h
      go_enter Try.func21, Try.ntmps21
      go_wp2_with fail
      go_ret
      exact ⟨ret_i64 R.out, rfl⟩
    · have h2 : 128 ≤ m := by omega
      have h0 : 0 ≤ m := by omega
      clear h h1
      go_enter Try.func21, Try.ntmps21
      go_wp2_with fail
      go_ret
      exact ⟨ret_i64 R.out, rfl⟩
theorem and_one (k i : Nat) (h : k < 128) : bits .and .i64 ((k : Int) / 2 ^ i) 1 = (bt k i : Int) := by
  have e : (k : Int) / 2 ^ i = ((k / 2 ^ i : Nat) : Int) := by push_cast; rfl
  have hl : k / 2 ^ i ≤ k := Nat.div_le_self _ _
  rw [e]
  have := i64_and_nat (k / 2 ^ i) 1 (by omega) (by decide)
  rw [show ((1 : Nat) : Int) = 1 from rfl] at this
  rw [this, Nat.and_one_is_mod]
  rfl
theorem hasB_and (m n : Int) (h1 : 0 ≤ n) (h2 : n < 7) : (bits .and .i64 ((kn m : Int) / 2 ^ n.toNat) 1 == 1) = hasB m n := by
  rw [and_one _ _ (kn_lt m)]
  unfold hasB
  rw [decide_eq_true h1, decide_eq_true h2]
  have := bt_le (kn m) n.toNat
  by_cases h : bt (kn m) n.toNat = 1
  · rw [h]; rfl
  · rw [show bt (kn m) n.toNat = 0 by omega]; rfl
theorem hasB_low (m n : Int) (h : ¬ 0 ≤ n) : hasB m n = false := by unfold hasB; rw [decide_eq_false h]; rfl
theorem hasB_high (m n : Int) (h : ¬ n < 7) : hasB m n = false := by unfold hasB; rw [decide_eq_false h]; simp
theorem has_any (m n : Int) (w : World) : Calls Try.prog 13 #[.int .i64 m, .int .i64 n] w fun e w' => e = .returned (.bool (hasB m n)) ∧ w = w' := by
  by_cases h1 : 0 ≤ n
  · by_cases h2 : n < 7
    · have R := Lib.hid (hasB_and m n h1 h2)
      go_enter Try.func13, Try.ntmps13
      go_wp2_with fail
      refine (known_any _ _).mono ?_
      rintro e w' ⟨rfl, rfl⟩
      go_wp2_with fail
      go_ret
      exact ⟨ret_bool R.out, rfl⟩
    · have R := Lib.hid (hasB_high m n h2)
      go_enter Try.func13, Try.ntmps13
      go_wp2_with fail
      go_ret
      exact ⟨ret_bool R.out.symm, rfl⟩
  · have R := Lib.hid (hasB_low m n h1)
    go_enter Try.func13, Try.ntmps13
    go_wp2_with fail
    go_ret
    exact ⟨ret_bool R.out.symm, rfl⟩
set_option maxHeartbeats 1000000 in
theorem size_any (m : Int) (w : World) : Calls Try.prog 14 #[.int .i64 m] w fun e w' => e = .returned (.int .i64 (sz (kn m))) ∧ w = w' := by
  go_enter Try.func14, Try.ntmps14
  go_wp2_with fail
  go_loop [3, 5] (fun n i => ∃ k : Nat, k ≤ 7 ∧ i = .int .i64 k ∧ n = .int .i64 (szTo (kn m) k)) (fun _ i => 7 - (intOf i).toNat)
  case atStart => exact ⟨0, by omega, rfl, rfl⟩
  case round =>
    obtain ⟨k, hk, rfl, rfl⟩ := hrel
    have b1 := szTo_le (kn m) k
    have b2 := bt_le (kn m) k
    by_cases hlt : k < 7
    · have R := and_one (kn m) k (kn_lt m)
      go_wp2_with ((with_reducible refine (known_any _ _).mono ?_); rintro e w' ⟨rfl, rfl⟩)
      go_round
      case rel => exact ⟨k + 1, by omega, by go_num, by show Value.int .i64 _ = .int .i64 (((szTo (kn m) k + bt (kn m) k : Nat)) : Int); push_cast; rfl⟩
      case measure => simp [intOf]; omega
    · obtain rfl : k = 7 := by omega
      go_wp2_with fail
      go_ret
      exact ⟨rfl, rfl⟩
theorem half (t k i : Nat) (h : t = k / 2 ^ i) : (t : Int).tdiv 2 = ((k / 2 ^ (i + 1) : Nat) : Int) := by
  subst h
  rw [show (2 : Int) = ((2 : Nat) : Int) from rfl, ← Int.ofNat_tdiv, Nat.div_div_eq_div_mul, Nat.pow_succ]
theorem hasB_mod (k : Nat) (n : Nat) (h2 : n < 7) (hk : k < 128) : (((k / 2 ^ n : Nat) : Int) % 2 == 1) = hasB (k : Int) n := by
  unfold hasB
  rw [kn_nat hk, decide_eq_true (by omega : 0 ≤ (n : Int)), decide_eq_true (by omega : (n : Int) < 7), Int.toNat_natCast]
  have := bt_le k n
  have e : ((k / 2 ^ n : Nat) : Int) % 2 = (bt k n : Int) := by unfold bt; push_cast; rfl
  rw [e]
  by_cases h : bt k n = 1
  · rw [h]; rfl
  · rw [show bt k n = 0 by omega]; rfl
theorem kn_out {m : Int} (h : ¬ (0 ≤ m ∧ m < 128)) : kn m = 0 := by unfold kn; rw [if_neg h]
theorem hasB_out {m : Int} (n : Int) (h : ¬ (0 ≤ m ∧ m < 128)) : hasB m n = false := by
  unfold hasB
  rw [kn_out h]
  have : bt 0 n.toNat = 0 := by unfold bt; rw [Nat.zero_div]
  rw [this]; simp
set_option maxHeartbeats 1000000 in
theorem rhas_any (m n : Int) (w : World) : Calls Try.prog 11 #[.int .i64 m, .int .i64 n] w fun e w' => e = .returned (.bool (hasB m n)) ∧ w = w' := by
  by_cases h1 : m < 0
  · have R := Lib.hid (hasB_out (m := m) n (by omega))
    go_enter Try.func11, Try.ntmps11
    go_wp2_with fail
    go_ret
    exact ⟨ret_bool R.out.symm, rfl⟩
  by_cases h2 : 127 < m
  · have R := Lib.hid (hasB_out (m := m) n (by omega))
    have h0 : 0 ≤ m := by omega
    clear h1
    go_enter Try.func11, Try.ntmps11
    go_wp2_with fail
    go_ret
    exact ⟨ret_bool R.out.symm, rfl⟩
  by_cases h3 : n < 0
  · have R := Lib.hid (hasB_low m n (by omega))
    have h0 : 0 ≤ m := by omega
    have h4 : m ≤ 127 := by omega
    clear h1 h2
    go_enter Try.func11, Try.ntmps11
    go_wp2_with fail
    go_ret
    exact ⟨ret_bool R.out.symm, rfl⟩
  by_cases h4 : 6 < n
  · have R := Lib.hid (hasB_high m n (by omega))
    have h0 : 0 ≤ m := by omega
    have h5 : m ≤ 127 := by omega
    have h6 : 0 ≤ n := by omega
    clear h1 h2 h3
    go_enter Try.func11, Try.ntmps11
    go_wp2_with fail
    go_ret
    exact ⟨ret_bool R.out.symm, rfl⟩
  obtain ⟨k, rfl⟩ : ∃ k : Nat, m = k := ⟨m.toNat, by omega⟩
  obtain ⟨j, rfl⟩ : ∃ j : Nat, n = j := ⟨n.toNat, by omega⟩
  have hk : k < 128 := by omega
  have hj : j < 7 := by omega
  have R := Lib.hid (hasB_mod k j hj hk)
  have d1 : (k : Int) ≤ 127 := by omega
  have d2 : (j : Int) ≤ 6 := by omega
  clear h1 h2 h3 h4
  go_enter Try.func11, Try.ntmps11
  go_wp2_with fail
  go_loop [0, 5] (fun t i => ∃ c : Nat, c ≤ j ∧ i = .int .i64 c ∧ ∃ x : Nat, x = k / 2 ^ c ∧ x < 128 ∧ t = .int .i64 x) (fun _ i => j - (intOf i).toNat)
  case atStart => exact ⟨0, by omega, rfl, k, by simp, hk, rfl⟩
  case round =>
    obtain ⟨c, hc, rfl, x, hx, hx2, rfl⟩ := hrel
    by_cases hlt : c < j
    · have X := Lib.hid (half x k c hx)
      have L := Lib.hid (show k / 2 ^ (c + 1) ≤ k from Nat.div_le_self _ _)
      clear hx
      go_wp2_with fail
      go_round
      case rel => exact ⟨c + 1, by omega, by go_num, k / 2 ^ (c + 1), rfl, by have := L.out; omega, by have := X.out; rw [Int.tdiv_eq_ediv_of_nonneg (by omega)] at this; rw [this]⟩
      case measure => simp [intOf]; omega
    · obtain rfl : c = j := by omega
      have X := Lib.hid hx
      clear hx
      go_wp2_with fail
      go_ret
      exact ⟨ret_bool (by rw [← R.out, ← X.out]), rfl⟩
theorem hasB_bt (m : Int) (i : Nat) (h : i < 7) : hasB m i = decide (bt (kn m) i = 1) := by
  unfold hasB
  rw [decide_eq_true (by omega : 0 ≤ (i : Int)), decide_eq_true (by omega : (i : Int) < 7), Int.toNat_natCast]; rfl
theorem szTo_yes {k i : Nat} (h : decide (bt k i = 1) = true) : szTo k (i + 1) = szTo k i + 1 := by
  show szTo k i + bt k i = _; rw [of_decide_eq_true h]
theorem szTo_no {k i : Nat} (h : decide (bt k i = 1) = false) : szTo k (i + 1) = szTo k i := by
  have := of_decide_eq_false h; have := bt_le k i
  show szTo k i + bt k i = _; omega
set_option maxHeartbeats 1000000 in
theorem rsize_any (m : Int) (w : World) : Calls Try.prog 10 #[.int .i64 m] w fun e w' => e = .returned (.int .i64 (sz (kn m))) ∧ w = w' := by
  go_enter Try.func10, Try.ntmps10
  go_wp2_with fail
  go_loop [3, 4] (fun n i => ∃ k : Nat, k ≤ 7 ∧ i = .int .i64 k ∧ n = .int .i64 (szTo (kn m) k)) (fun _ i => 7 - (intOf i).toNat)
  case atStart => exact ⟨0, by omega, rfl, rfl⟩
  case round =>
    obtain ⟨k, hk, rfl, rfl⟩ := hrel
    have b1 := szTo_le (kn m) k
    by_cases hlt : k < 7
    · have H := hasB_bt m k hlt
      rcases hd : decide (bt (kn m) k = 1) with _ | _
      · rw [hd] at H
        have S := Lib.hid (szTo_no hd)
        clear hd
        go_wp2_with ((with_reducible refine (rhas_any _ _ _).mono ?_); rintro e w' ⟨rfl, rfl⟩)
        go_round
        case rel => exact ⟨k + 1, by omega, by go_num, by rw [S.out]⟩
        case measure => simp [intOf]; omega
      · rw [hd] at H
        have S := Lib.hid (szTo_yes hd)
        clear hd
        go_wp2_with ((with_reducible refine (rhas_any _ _ _).mono ?_); rintro e w' ⟨rfl, rfl⟩)
        go_round
        case rel => exact ⟨k + 1, by omega, by go_num, by rw [S.out]; go_num⟩
        case measure => simp [intOf]; omega
    · obtain rfl : k = 7 := by omega
      go_wp2_with fail
      go_ret
      exact ⟨rfl, rfl⟩
end Go.Proofs.Ytnlpmapnlhkpkaa
