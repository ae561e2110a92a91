/-
  THE LAW OF CouncilAll, as a walk.
-/
import Derived.Test.YtnlpmapnlhkpkaaCml
import Derived.IntWalk
namespace Go.Proofs.Ytnlpmapnlhkpkaa
open Go.RowKit
theorem near_nat {a b : Nat} (_ha : a < 128) (_hb : b < 128) (w : World) : Calls Try.prog 17 #[.int .i64 a, .int .i64 b] w fun e w' => e = .returned (.bool (nearB a b)) ∧ w = w' := near_any _ _ w
theorem both_not_zero {a b x y : Nat} (ha : a < 128) (hb : b < 128) (hx : x < 128) (hy : y < 128) (h1 : nearB a b = true) (h2 : decide (sz a < 2 * sz (a &&& x)) = true) (h3 : decide (sz b < 2 * sz (b &&& y)) = true) : ¬ (x &&& y = 0) := by
  intro h
  obtain ⟨i, hi, e⟩ := meet_some (a := (a : Int)) (b := (b : Int)) (x := (x : Int)) (y := (y : Int)) h1
    (by unfold enoughB; rw [kn_nat ha, kn_nat hx]; exact h2) (by unfold enoughB; rw [kn_nat hb, kn_nat hy]; exact h3)
  unfold meetB at e
  rw [kn_nat hx, kn_nat hy] at e
  simp only [Bool.and_eq_true, decide_eq_true_eq] at e
  have := bt_and x y i
  rw [h, e.1, e.2.1] at this
  have z : bt 0 i = 0 := by unfold bt; rw [Nat.zero_div]
  rw [z] at this
  omega
theorem near_self : ∀ a : Nat, a < 128 → a ≠ 0 → nearB a a = true := by decide +kernel
theorem all_mod (a : Int) : ∃ k : Nat, k < 128 ∧ (wrap64 (a.tmod 128 + 128)).tmod 128 = (k : Int) := by
  have h1 := Int.tmod_lt_of_pos a (show (0 : Int) < 128 by decide)
  have h2 : -128 < a.tmod 128 := by
    have := Int.tmod_lt_of_pos (-a) (show (0 : Int) < 128 by decide)
    rw [Int.neg_tmod] at this
    omega
  have e : wrap64 (a.tmod 128 + 128) = a.tmod 128 + 128 := by unfold wrap64; omega
  rw [e, Int.tmod_eq_emod_of_nonneg (by omega)]
  exact ⟨((a.tmod 128 + 128) % 128).toNat, by omega, by omega⟩
set_option maxHeartbeats 4000000 in
set_option maxRecDepth 100000 in
theorem all_law (a : Int) (w : World) : Calls Try.prog 6 #[.int .i64 a] w (Tru2 w) := by
  obtain ⟨k, hk, hm⟩ := all_mod a
  have HM := Lib.hid hm
  clear hm
  go_enter Try.func6, Try.ntmps6
  go_wp2_with fail
  rw [HM.out]
  go_loop [3] (fun i => ∃ b : Nat, b ≤ 128 ∧ i = .int .i64 b) (fun i => 128 - (intOf i).toNat)
  case atStart => exact ⟨0, by omega, rfl⟩
  case round =>
    obtain ⟨b, hb, rfl⟩ := hrel
    by_cases hlb : b < 128
    · rcases hn : nearB k b with _ | _
      · have N := Lib.hid hn
        clear hn
        go_wp2_with fail
        refine (near_nat hk hlb _).mono ?_
        rintro e w1 ⟨rfl, rfl⟩
        rw [N.out]
        go_wp2_with fail
        go_round
        case rel => exact ⟨b + 1, by omega, by go_num⟩
        case measure => simp [intOf]; omega
      · have N := Lib.hid hn
        clear hn
        go_wp2_with fail
        refine (near_nat hk hlb _).mono ?_
        rintro e w1 ⟨rfl, rfl⟩
        rw [N.out]
        go_wp2_with fail
        go_loop [4] (fun i => ∃ x : Nat, x ≤ 128 ∧ i = .int .i64 x) (fun i => 128 - (intOf i).toNat)
        case atStart => exact ⟨0, by omega, rfl⟩
        case round =>
          obtain ⟨x, hx, rfl⟩ := hrel
          by_cases hlx : x < 128
          · have AX := i64_and_nat x k (by omega) (by omega)
            by_cases he : x &&& k = x
            · have d1 : (((x &&& k : Nat) : Int) != (x : Int)) = false := by rw [he]; simp
              have HE := Lib.hid he
              clear he
              rcases hq : decide (sz k < 2 * sz (k &&& x)) with _ | _
              · have Q := Lib.hid hq
                clear hq
                go_wp2_with fail
                refine (enough_nat hk hlx _).mono ?_
                rintro e w1 ⟨rfl, rfl⟩
                rw [Q.out]
                go_wp2_with fail
                go_round
                case rel => exact ⟨x + 1, by omega, by go_num⟩
                case measure => simp [intOf]; omega
              · have Q := Lib.hid hq
                clear hq
                go_wp2_with fail
                refine (enough_nat hk hlx _).mono ?_
                rintro e w1 ⟨rfl, rfl⟩
                rw [Q.out]
                go_wp2_with fail
                go_loop [5] (fun i => ∃ y : Nat, y ≤ 128 ∧ i = .int .i64 y) (fun i => 128 - (intOf i).toNat)
                case atStart => exact ⟨0, by omega, rfl⟩
                case round =>
                  obtain ⟨y, hy, rfl⟩ := hrel
                  by_cases hly : y < 128
                  · have AY := i64_and_nat y b (by omega) (by omega)
                    have AZ := i64_and_nat x y (by omega) (by omega)
                    by_cases he2 : y &&& b = y
                    · have d2 : (((y &&& b : Nat) : Int) == (y : Int)) = true := by rw [he2]; simp
                      have HE2 := Lib.hid he2
                      clear he2
                      rcases hr : decide (sz b < 2 * sz (b &&& y)) with _ | _
                      · have R := Lib.hid hr
                        clear hr
                        go_wp2_with fail
                        refine (enough_nat hlb hly _).mono ?_
                        rintro e w1 ⟨rfl, rfl⟩
                        rw [R.out]
                        go_wp2_with fail
                        go_round
                        case rel => exact ⟨y + 1, by omega, by go_num⟩
                        case measure => simp [intOf]; omega
                      · have R := Lib.hid hr
                        have d3 : (((x &&& y : Nat) : Int) == 0) = false := by have := both_not_zero hk hlb hlx hly N.out Q.out R.out; simpa using this
                        clear hr
                        go_wp2_with fail
                        refine (enough_nat hlb hly _).mono ?_
                        rintro e w1 ⟨rfl, rfl⟩
                        rw [R.out]
                        go_wp2_with fail
                        go_round
                        case rel => exact ⟨y + 1, by omega, by go_num⟩
                        case measure => simp [intOf]; omega
                    · have d2 : (((y &&& b : Nat) : Int) == (y : Int)) = false := by simp; omega
                      clear he2
                      go_wp2_with fail
                      go_round
                      case rel => exact ⟨y + 1, by omega, by go_num⟩
                      case measure => simp [intOf]; omega
                  · obtain rfl : y = 128 := by omega
                    go_wp2_with fail
                    go_round
                    case rel => exact ⟨x + 1, by omega, by go_num⟩
                    case measure => simp [intOf]; omega
            · have d1 : (((x &&& k : Nat) : Int) != (x : Int)) = true := by simp; omega
              clear he
              go_wp2_with fail
              go_round
              case rel => exact ⟨x + 1, by omega, by go_num⟩
              case measure => simp [intOf]; omega
          · obtain rfl : x = 128 := by omega
            go_wp2_with fail
            go_round
            case rel => exact ⟨b + 1, by omega, by go_num⟩
            case measure => simp [intOf]; omega
    · obtain rfl : b = 128 := by omega
      by_cases h0 : k = 0
      · subst h0
        go_wp2_with fail
        refine awake_met _ _ fun w2 b2 => ?_
        have B2 := Lib.hid b2
        clear b2
        go_wp2_with fail
        go_ret
        exact ⟨rfl, B2.out⟩
      · have d0 : ((k : Int) == 0) = false := by simp; omega
        have S := Lib.hid (near_self k hk h0)
        clear h0
        go_wp2_with fail
        refine awake_met _ _ fun w2 b2 => ?_
        have B2 := Lib.hid b2
        clear b2
        go_wp2_with fail
        refine (near_nat hk hk _).mono ?_
        rintro e w1 ⟨rfl, rfl⟩
        rw [S.out]
        go_wp2_with fail
        go_ret
        exact ⟨rfl, B2.out⟩
end Go.Proofs.Ytnlpmapnlhkpkaa
