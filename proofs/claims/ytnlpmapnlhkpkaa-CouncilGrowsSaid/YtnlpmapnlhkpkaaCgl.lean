/-
  THE LAWS OF CouncilGrows AND CouncilMeets, as walks.
-/
import Derived.Test.YtnlpmapnlhkpkaaCgr
namespace Go.Proofs.Ytnlpmapnlhkpkaa
open Go.RowKit
def Tru (w : World) (e : Ending) (w' : World) : Prop := e = .returned (.bool true) ∧ Below w.heap.size w w'
set_option maxHeartbeats 4000000 in
theorem grows_in (k x r : Nat) (hk : k < 128) (hx : x < 128) (hr : r < 128) (w : World) : Calls Try.prog 8 #[.int .i64 k, .int .i64 x, .int .i64 r] w (Tru w) := by
  have k1 : (k : Int) ≤ 127 := by omega
  have x1 : (x : Int) ≤ 127 := by omega
  have r1 : (r : Int) ≤ 127 := by omega
  have O := i64_or_nat x r (by omega) (by omega)
  have ol := or_lt x r hx hr
  have A := i64_and_nat k (x ||| r) (by omega) (by omega)
  have al := and_lt k (x ||| r) hk
  have N := comp_bits x hx
  have nl : 127 - x < 128 := by omega
  generalize hc : 127 - x = c at *
  by_cases h0 : k = 0
  · subst h0
    have E1 : ∀ y, decide (sz 0 < 2 * sz (0 &&& y)) = false := fun y => by rw [Nat.zero_and, sz_zero]; rfl
    have F := Lib.hid E1
    clear E1
    go_enter Try.func8, Try.ntmps8
    go_wp2_with fail
    refine (enough_nat hk hx _).mono ?_
    rintro e w1 ⟨rfl, rfl⟩
    rw [F.out]
    go_wp2_with fail
    refine (enough_nat hk hx _).mono ?_
    rintro e w1 ⟨rfl, rfl⟩
    rw [F.out]
    go_wp2_with fail
    refine awake_met _ _ fun w2 b2 => ?_
    have B2 := Lib.hid b2
    clear b2
    go_wp2_with fail
    refine (enough_nat hk hx _).mono ?_
    rintro e w1 ⟨rfl, rfl⟩
    rw [F.out]
    go_wp2_with fail
    go_ret
    exact ⟨rfl, B2.out⟩
  · have d0 : ((k : Int) == 0) = false := by simp; omega
    have d1 : ((k : Int) != 0) = true := by simp; omega
    have P := Lib.hid (show decide (sz k < 2 * sz (k &&& k)) = true by rw [Nat.and_self]; have := sz_pos k hk h0; simp; omega)
    clear h0
    by_cases hq : sz k < 2 * sz (k &&& x)
    · have Q := Lib.hid (decide_eq_true hq)
      have G1 := Lib.hid (decide_eq_true (grow_or (r := r) hq))
      have G2 := Lib.hid (decide_eq_true (grow_in (r := r) hq))
      have G3 := Lib.hid (decide_eq_false (show ¬ sz k < 2 * sz (k &&& c) by rw [← hc]; exact not_both hx hq))
      clear hq hc
      go_enter Try.func8, Try.ntmps8
      go_wp2_with fail
      refine (enough_nat hk hk _).mono ?_
      rintro e w1 ⟨rfl, rfl⟩
      rw [P.out]
      go_wp2_with fail
      refine (enough_nat hk hx _).mono ?_
      rintro e w1 ⟨rfl, rfl⟩
      rw [Q.out]
      go_wp2_with fail
      refine (enough_nat hk ol _).mono ?_
      rintro e w1 ⟨rfl, rfl⟩
      rw [G1.out]
      go_wp2_with fail
      refine (enough_nat al hx _).mono ?_
      rintro e w1 ⟨rfl, rfl⟩
      rw [G2.out]
      go_wp2_with fail
      refine awake_met _ _ fun w2 b2 => ?_
      have B2 := Lib.hid b2
      clear b2
      go_wp2_with fail
      refine (enough_nat hk hx _).mono ?_
      rintro e w1 ⟨rfl, rfl⟩
      rw [Q.out]
      go_wp2_with fail
      refine (enough_nat hk nl _).mono ?_
      rintro e w1 ⟨rfl, rfl⟩
      rw [G3.out]
      go_wp2_with fail
      go_ret
      exact ⟨rfl, B2.out⟩
    · have Q := Lib.hid (decide_eq_false hq)
      clear hq hc
      go_enter Try.func8, Try.ntmps8
      go_wp2_with fail
      refine (enough_nat hk hk _).mono ?_
      rintro e w1 ⟨rfl, rfl⟩
      rw [P.out]
      go_wp2_with fail
      refine (enough_nat hk hx _).mono ?_
      rintro e w1 ⟨rfl, rfl⟩
      rw [Q.out]
      go_wp2_with fail
      refine awake_met _ _ fun w2 b2 => ?_
      have B2 := Lib.hid b2
      clear b2
      go_wp2_with fail
      refine (enough_nat hk hx _).mono ?_
      rintro e w1 ⟨rfl, rfl⟩
      rw [Q.out]
      go_wp2_with fail
      go_ret
      exact ⟨rfl, B2.out⟩
set_option maxHeartbeats 4000000 in
/-- a number is no mask, or one of the others is none -/
theorem grows_out (m x r : Int) (h : ¬ ((0 ≤ m ∧ m < 128) ∧ (0 ≤ x ∧ x < 128) ∧ (0 ≤ r ∧ r < 128))) (w : World) : Calls Try.prog 8 #[.int .i64 m, .int .i64 x, .int .i64 r] w (Tru w) := by
  by_cases hm : 0 ≤ m ∧ m < 128
  · obtain ⟨k, rfl⟩ : ∃ k : Nat, m = k := ⟨m.toNat, by omega⟩
    have hk : k < 128 := by omega
    have k1 : (k : Int) ≤ 127 := by omega
    have c : x < 0 ∨ (0 ≤ x ∧ 127 < x) ∨ (0 ≤ x ∧ x ≤ 127 ∧ r < 0) ∨ (0 ≤ x ∧ x ≤ 127 ∧ 0 ≤ r ∧ 127 < r) := by omega
    have z7 := sz_le k
    clear h hm
    by_cases h0 : k = 0
    · subst h0
      have Z := Lib.hid sz_zero
      rcases c with c1 | ⟨c1, c2⟩ | ⟨c1, c2, c3⟩ | ⟨c1, c2, c3, c4⟩
      all_goals
        go_enter Try.func8, Try.ntmps8
        go_wp2_with fail
        refine awake_met _ _ fun w2 b2 => ?_
        have B2 := Lib.hid b2
        clear b2
        go_wp2_with fail
        refine (size_nat hk _).mono ?_
        rintro e w1 ⟨rfl, rfl⟩
        rw [Z.out]
        go_wp2_with fail
        go_ret
        exact ⟨rfl, B2.out⟩
    · have d0 : ((k : Int) == 0) = false := by simp; omega
      have p0 : (0 : Int) < (sz k : Int) := by have := sz_pos k hk h0; omega
      have e0 : decide ((k : Int) < 0) = false := by simp
      have e1 : decide ((127 : Int) < (k : Int)) = false := by simp; omega
      have E0 := Lib.hid e0
      have E1 := Lib.hid e1
      clear h0
      rcases c with c1 | ⟨c1, c2⟩ | ⟨c1, c2, c3⟩ | ⟨c1, c2, c3, c4⟩
      all_goals
        go_enter Try.func8, Try.ntmps8
        go_wp2_with fail
        refine awake_met _ _ fun w2 b2 => ?_
        have B2 := Lib.hid b2
        clear b2
        go_wp2_with fail
        refine (size_nat hk _).mono ?_
        rintro e w1 ⟨rfl, rfl⟩
        go_wp2_with fail
        go_ret
        exact ⟨ret_bool (by first | rfl | (rw [E0.out, E1.out]; rfl)), B2.out⟩
  · have Z := Lib.hid (show sz (kn m) = 0 by rw [kn_out hm]; exact sz_zero)
    have d0 : (m == 0) = false := by simp; omega
    have c : m < 0 ∨ (0 ≤ m ∧ 127 < m) := by omega
    clear h hm
    rcases c with c1 | ⟨c1, c2⟩
    all_goals
      go_enter Try.func8, Try.ntmps8
      go_wp2_with fail
      refine awake_met _ _ fun w2 b2 => ?_
      have B2 := Lib.hid b2
      clear b2
      go_wp2_with fail
      refine (size_any _ _).mono ?_
      rintro e w1 ⟨rfl, rfl⟩
      rw [Z.out]
      go_wp2_with fail
      go_ret
      exact ⟨rfl, B2.out⟩
theorem grows_law (m x r : Int) (w : World) : Calls Try.prog 8 #[.int .i64 m, .int .i64 x, .int .i64 r] w (Tru w) := by
  by_cases h : (0 ≤ m ∧ m < 128) ∧ (0 ≤ x ∧ x < 128) ∧ (0 ≤ r ∧ r < 128)
  · have := grows_in m.toNat x.toNat r.toNat (by omega) (by omega) (by omega) w
    rw [show (m.toNat : Int) = m by omega, show (x.toNat : Int) = x by omega, show (r.toNat : Int) = r by omega] at this
    exact this
  · exact grows_out m x r h w
end Go.Proofs.Ytnlpmapnlhkpkaa
