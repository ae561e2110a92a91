/-
  ENOUGH AND NEAR, the program's and the document's.
-/
import Derived.Test.YtnlpmapnlhkpkaaCsm
namespace Go.Proofs.Ytnlpmapnlhkpkaa
open Go.RowKit
theorem size_nat {k : Nat} (h : k < 128) (w : World) : Calls Try.prog 14 #[.int .i64 k] w fun e w' => e = .returned (.int .i64 (sz k)) ∧ w = w' := by
  have := size_any (k : Int) w
  rw [kn_nat h] at this
  exact this
theorem and_lt (a b : Nat) (h : a < 128) : a &&& b < 128 := by have := Nat.and_le_left (n := a) (m := b); omega
theorem xor_lt (a b : Nat) (h : a < 128) (h2 : b < 128) : a ^^^ b < 128 := Nat.xor_lt_two_pow (n := 7) (by omega) (by omega)
theorem enough_any (m x : Int) (w : World) : Calls Try.prog 15 #[.int .i64 m, .int .i64 x] w fun e w' => e = .returned (.bool (enoughB m x)) ∧ w = w' := by
  have k1 := kn_lt m
  have k2 := kn_lt x
  have R := i64_and_nat (kn m) (kn x) (by omega) (by omega)
  have hl := and_lt (kn m) (kn x) k1
  have z1 := sz_le (kn m)
  have z2 := sz_le (kn m &&& kn x)
  go_enter Try.func15, Try.ntmps15
  go_wp2_with fail
  refine (known_any _ _).mono ?_
  rintro e w' ⟨rfl, rfl⟩
  go_wp2_with fail
  refine (known_any _ _).mono ?_
  rintro e w' ⟨rfl, rfl⟩
  go_wp2_with fail
  refine (size_nat hl _).mono ?_
  rintro e w' ⟨rfl, rfl⟩
  go_wp2_with fail
  refine (size_any _ _).mono ?_
  rintro e w' ⟨rfl, rfl⟩
  go_wp2_with fail
  go_ret
  exact ⟨ret_bool (by unfold enoughB; exact decide_eq_decide.2 (by omega)), rfl⟩
theorem nearB_a {a : Int} (b : Int) (h : ¬ 0 < sz (kn a)) : nearB a b = false := by unfold nearB; rw [decide_eq_false h]; rfl
theorem nearB_b (a : Int) {b : Int} (h : ¬ 0 < sz (kn b)) : nearB a b = false := by unfold nearB; rw [decide_eq_false h]; simp
theorem nearB_c {a b : Int} (h1 : 0 < sz (kn a)) (h2 : 0 < sz (kn b)) : nearB a b = decide (sz (kn a ^^^ kn b) ≤ 1) := by unfold nearB; rw [decide_eq_true h1, decide_eq_true h2]; rfl
theorem near_any (a b : Int) (w : World) : Calls Try.prog 17 #[.int .i64 a, .int .i64 b] w fun e w' => e = .returned (.bool (nearB a b)) ∧ w = w' := by
  have k1 := kn_lt a
  have k2 := kn_lt b
  by_cases h1 : 0 < sz (kn a)
  · by_cases h2 : 0 < sz (kn b)
    · have R := i64_xor_nat (kn a) (kn b) (by omega) (by omega)
      have hl := xor_lt (kn a) (kn b) k1 k2
      have N := Lib.hid (nearB_c h1 h2)
      go_enter Try.func17, Try.ntmps17
      go_wp2_with fail
      refine (size_any _ _).mono ?_
      rintro e w' ⟨rfl, rfl⟩
      go_wp2_with fail
      refine (size_any _ _).mono ?_
      rintro e w' ⟨rfl, rfl⟩
      go_wp2_with fail
      refine (known_any _ _).mono ?_
      rintro e w' ⟨rfl, rfl⟩
      go_wp2_with fail
      refine (known_any _ _).mono ?_
      rintro e w' ⟨rfl, rfl⟩
      go_wp2_with fail
      refine (size_nat hl _).mono ?_
      rintro e w' ⟨rfl, rfl⟩
      go_wp2_with fail
      go_ret
      exact ⟨ret_bool (by rw [N.out]; exact decide_eq_decide.2 (by omega)), rfl⟩
    · have N := Lib.hid (nearB_b a h2)
      have h0 : sz (kn b) = 0 := by omega
      have h3 := Lib.hid h0
      have d : decide ((0 : Int) < (sz (kn b) : Int)) = false := by simp [h0]
      clear h2 h0
      go_enter Try.func17, Try.ntmps17
      go_wp2_with fail
      refine (size_any _ _).mono ?_
      rintro e w' ⟨rfl, rfl⟩
      go_wp2_with fail
      refine (size_any _ _).mono ?_
      rintro e w' ⟨rfl, rfl⟩
      have h0 : sz (kn b) = 0 := h3.out
      go_wp2_with fail
      go_ret
      exact ⟨ret_bool N.out.symm, rfl⟩
  · have N := Lib.hid (nearB_a b h1)
    have h0 : sz (kn a) = 0 := by omega
    clear h1
    go_enter Try.func17, Try.ntmps17
    go_wp2_with fail
    refine (size_any _ _).mono ?_
    rintro e w' ⟨rfl, rfl⟩
    go_wp2_with fail
    go_ret
    exact ⟨ret_bool N.out.symm, rfl⟩
theorem and_yes {a b i : Nat} (h1 : decide (bt a i = 1) = true) (h2 : decide (bt b i = 1) = true) : szTo (a &&& b) (i + 1) = szTo (a &&& b) i + 1 := by
  show _ + bt (a &&& b) i = _; rw [bt_and, of_decide_eq_true h1, of_decide_eq_true h2]
theorem and_no1 {a b i : Nat} (h1 : decide (bt a i = 1) = false) : szTo (a &&& b) (i + 1) = szTo (a &&& b) i := by
  have := of_decide_eq_false h1; have := bt_le a i
  show _ + bt (a &&& b) i = _; rw [bt_and, show bt a i = 0 by omega]; omega
theorem and_no2 {a b i : Nat} (h1 : decide (bt b i = 1) = false) : szTo (a &&& b) (i + 1) = szTo (a &&& b) i := by
  have := of_decide_eq_false h1; have := bt_le b i
  show _ + bt (a &&& b) i = _; rw [bt_and, show bt b i = 0 by omega]; omega
set_option maxHeartbeats 1000000 in
theorem renough_any (m x : Int) (w : World) : Calls Try.prog 16 #[.int .i64 m, .int .i64 x] w fun e w' => e = .returned (.bool (enoughB m x)) ∧ w = w' := by
  have z1 := sz_le (kn m)
  have z2 := sz_le (kn m &&& kn x)
  go_enter Try.func16, Try.ntmps16
  go_wp2_with fail
  go_loop [5, 6] (fun n i => ∃ k : Nat, k ≤ 7 ∧ i = .int .i64 k ∧ n = .int .i64 (szTo (kn m &&& kn x) k)) (fun _ i => 7 - (intOf i).toNat)
  case atStart => exact ⟨0, by omega, rfl, rfl⟩
  case round =>
    obtain ⟨k, hk, rfl, rfl⟩ := hrel
    have b1 := szTo_le (kn m &&& kn x) k
    by_cases hlt : k < 7
    · have H := hasB_bt m k hlt
      have G := hasB_bt x k hlt
      rcases hd : decide (bt (kn m) k = 1) with _ | _
      · rw [hd] at H
        have S := Lib.hid (and_no1 (b := kn x) hd)
        clear hd G
        go_wp2_with ((with_reducible refine (rhas_any _ _ _).mono ?_); rintro e w' ⟨rfl, rfl⟩)
        go_round
        case rel => exact ⟨k + 1, by omega, by go_num, by rw [S.out]⟩
        case measure => simp [intOf]; omega
      · rw [hd] at H
        rcases hx : decide (bt (kn x) k = 1) with _ | _
        · rw [hx] at G
          have S := Lib.hid (and_no2 (a := kn m) hx)
          clear hd hx
          go_wp2_with ((with_reducible refine (rhas_any _ _ _).mono ?_); rintro e w' ⟨rfl, rfl⟩)
          go_round
          case rel => exact ⟨k + 1, by omega, by go_num, by rw [S.out]⟩
          case measure => simp [intOf]; omega
        · rw [hx] at G
          have S := Lib.hid (and_yes hd hx)
          clear hd hx
          go_wp2_with ((with_reducible refine (rhas_any _ _ _).mono ?_); rintro e w' ⟨rfl, rfl⟩)
          go_round
          case rel => exact ⟨k + 1, by omega, by go_num, by rw [S.out]; go_num⟩
          case measure => simp [intOf]; omega
    · obtain rfl : k = 7 := by omega
      go_wp2_with ((with_reducible refine (rsize_any _ _).mono ?_); rintro e w' ⟨rfl, rfl⟩)
      go_ret
      exact ⟨ret_bool (by unfold enoughB; show _ = decide (_ < 2 * szTo (kn m &&& kn x) 7); exact decide_eq_decide.2 (by omega)), rfl⟩
theorem xor_step (a b i : Nat) : szTo (a ^^^ b) (i + 1) + 2 * (bt a i * bt b i) = szTo (a ^^^ b) i + bt a i + bt b i := by
  have := bt_xor a b i
  show szTo (a ^^^ b) i + bt (a ^^^ b) i + _ = _
  omega
theorem bt_yes {a i : Nat} (h : decide (bt a i = 1) = true) : bt a i = 1 := of_decide_eq_true h
theorem bt_no {a i : Nat} (h : decide (bt a i = 1) = false) : bt a i = 0 := by have := of_decide_eq_false h; have := bt_le a i; omega
set_option maxHeartbeats 2000000 in
theorem rnear_any (a b : Int) (w : World) : Calls Try.prog 18 #[.int .i64 a, .int .i64 b] w fun e w' => e = .returned (.bool (nearB a b)) ∧ w = w' := by
  have z1 := sz_le (kn a)
  have z2 := sz_le (kn b)
  go_enter Try.func18, Try.ntmps18
  go_wp2_with fail
  go_loop [5, 6, 7] (fun p q i => ∃ k x y : Nat, k ≤ 7 ∧ i = .int .i64 k ∧ p = .int .i64 x ∧ q = .int .i64 y ∧ Hid (x + y = szTo (kn a ^^^ kn b) k) ∧ x ≤ k ∧ y ≤ k) (fun _ _ i => 7 - (intOf i).toNat)
  case atStart => exact ⟨0, 0, 0, by omega, rfl, rfl, rfl, Lib.hid rfl, by omega, by omega⟩
  case round =>
    obtain ⟨k, x, y, hk, rfl, rfl, rfl, hs, hx, hy⟩ := hrel
    by_cases hlt : k < 7
    · have H := hasB_bt a k hlt
      have G := hasB_bt b k hlt
      have S := Lib.hid (xor_step (kn a) (kn b) k)
      rcases hd : decide (bt (kn a) k = 1) with _ | _ <;> rcases hx' : decide (bt (kn b) k = 1) with _ | _
      · rw [hd] at H
        rw [hx'] at G
        have A := Lib.hid hd
        have B := Lib.hid hx'
        clear hd hx'
        go_wp2_with ((with_reducible refine (rhas_any _ _ _).mono ?_); rintro e w' ⟨rfl, rfl⟩)
        go_round
        case rel => exact ⟨k + 1, x, y, by omega, by go_num, by go_num, by go_num, Lib.hid (by have s := S.out; have h := hs.out; rw [bt_no A.out, bt_no B.out] at s; omega), by omega, by omega⟩
        case measure => simp [intOf]; omega
      · rw [hd] at H
        rw [hx'] at G
        have A := Lib.hid hd
        have B := Lib.hid hx'
        clear hd hx'
        go_wp2_with ((with_reducible refine (rhas_any _ _ _).mono ?_); rintro e w' ⟨rfl, rfl⟩)
        go_round
        case rel => exact ⟨k + 1, x, y + 1, by omega, by go_num, by go_num, by go_num, Lib.hid (by have s := S.out; have h := hs.out; rw [bt_no A.out, bt_yes B.out] at s; omega), by omega, by omega⟩
        case measure => simp [intOf]; omega
      · rw [hd] at H
        rw [hx'] at G
        have A := Lib.hid hd
        have B := Lib.hid hx'
        clear hd hx'
        go_wp2_with ((with_reducible refine (rhas_any _ _ _).mono ?_); rintro e w' ⟨rfl, rfl⟩)
        go_round
        case rel => exact ⟨k + 1, x + 1, y, by omega, by go_num, by go_num, by go_num, Lib.hid (by have s := S.out; have h := hs.out; rw [bt_yes A.out, bt_no B.out] at s; omega), by omega, by omega⟩
        case measure => simp [intOf]; omega
      · rw [hd] at H
        rw [hx'] at G
        have A := Lib.hid hd
        have B := Lib.hid hx'
        clear hd hx'
        go_wp2_with ((with_reducible refine (rhas_any _ _ _).mono ?_); rintro e w' ⟨rfl, rfl⟩)
        go_round
        case rel => exact ⟨k + 1, x, y, by omega, by go_num, by go_num, by go_num, Lib.hid (by have s := S.out; have h := hs.out; rw [bt_yes A.out, bt_yes B.out] at s; omega), by omega, by omega⟩
        case measure => simp [intOf]; omega
    · obtain rfl : k = 7 := by omega
      have hs' : Hid (x + y = sz (kn a ^^^ kn b)) := hs
      clear hs
      by_cases h1 : 0 < sz (kn a)
      · by_cases h2 : 0 < sz (kn b)
        · have N := Lib.hid (nearB_c h1 h2)
          go_wp2_with ((with_reducible refine (rsize_any _ _).mono ?_); rintro e w' ⟨rfl, rfl⟩)
          go_ret
          exact ⟨ret_bool (by rw [N.out, ← hs'.out]; exact decide_eq_decide.2 (by omega)), rfl⟩
        · have N := Lib.hid (nearB_b a h2)
          go_wp2_with ((with_reducible refine (rsize_any _ _).mono ?_); rintro e w' ⟨rfl, rfl⟩)
          go_ret
          exact ⟨ret_bool N.out.symm, rfl⟩
      · have N := Lib.hid (nearB_a b h1)
        go_wp2_with ((with_reducible refine (rsize_any _ _).mono ?_); rintro e w' ⟨rfl, rfl⟩)
        go_ret
        exact ⟨ret_bool N.out.symm, rfl⟩
end Go.Proofs.Ytnlpmapnlhkpkaa
