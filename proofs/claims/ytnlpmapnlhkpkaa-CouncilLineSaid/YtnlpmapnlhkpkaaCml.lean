/-
  THE LAWS OF CouncilMeets AND CouncilAll, as walks.
-/
import Derived.Test.YtnlpmapnlhkpkaaCgr
namespace Go.Proofs.Ytnlpmapnlhkpkaa
open Go.RowKit
def Tru2 (w : World) (e : Ending) (w' : World) : Prop := e = .returned (.bool true) ∧ Below w.heap.size w w'
theorem b_drew {B : Nat} {w w1 : World} (h : Below B w w1) (n : Nat) : Below B w (w1.drewN n) := h.trans ⟨rfl, rfl, rfl, Nat.le_refl _, fun _ _ => rfl⟩
/-- a node that is in all of them -/
def meetB (a b x y : Int) (i : Nat) : Bool := decide (bt (kn x) i = 1) && (decide (bt (kn y) i = 1) && (decide (bt (kn a) i = 1) || decide (bt (kn b) i = 1)))
theorem meet_some {a b x y : Int} (h1 : nearB a b = true) (h2 : enoughB a x = true) (h3 : enoughB b y = true) : ∃ i, i < 7 ∧ meetB a b x y i = true := by
  have n : sz (kn a ^^^ kn b) ≤ 1 := by
    unfold nearB at h1
    simp only [Bool.and_eq_true, decide_eq_true_eq] at h1
    exact h1.2
  obtain ⟨i, hi, e1, e2, e3⟩ := meets (kn a) (kn b) (kn x) (kn y) n (of_decide_eq_true h2) (of_decide_eq_true h3)
  refine ⟨i, hi, ?_⟩
  unfold meetB
  simp only [Bool.and_eq_true, Bool.or_eq_true, decide_eq_true_eq]
  exact ⟨e1, e2, e3⟩
set_option maxHeartbeats 4000000 in
theorem meets_law (a b x y : Int) (w : World) : Calls Try.prog 5 #[.int .i64 a, .int .i64 b, .agg #[.int .i64 x, .int .i64 y]] w (Tru2 w) := by
  have B0 := Lib.hid ((Below.refl w.heap.size w).alloc (Nat.le_refl _) (.cells #[.int .i64 x, .int .i64 y] 31))
  by_cases c1 : nearB a b = true
  · by_cases c2 : enoughB a x = true
    · by_cases c3 : enoughB b y = true
      · have M := Lib.hid (meet_some c1 c2 c3)
        have C1 := Lib.hid c1
        have C2 := Lib.hid c2
        have C3 := Lib.hid c3
        clear c1 c2 c3
        go_enter Try.func5, Try.ntmps5
        go_wp2_with fail
        go_quiet (fail)
        have B1 := Lib.hid (b_drew B0.out nq)
        generalize (w.alloc (.cells #[.int .i64 x, .int .i64 y] 31)).drewN nq = w1 at *
        go_wp2_with fail
        refine (near_any _ _ _).mono ?_
        rintro e w2 ⟨rfl, rfl⟩
        rw [C1.out]
        go_wp2_with fail
        refine (enough_any _ _ _).mono ?_
        rintro e w2 ⟨rfl, rfl⟩
        rw [C2.out]
        go_wp2_with fail
        refine (enough_any _ _ _).mono ?_
        rintro e w2 ⟨rfl, rfl⟩
        rw [C3.out]
        go_wp2_with fail
        go_loop [9] (fun i => ∃ k : Nat, k ≤ 7 ∧ i = .int .i64 k ∧ Hid (∀ j, j < k → meetB a b x y j = false)) (fun i => 7 - (intOf i).toNat)
        case atStart => exact ⟨0, by omega, rfl, Lib.hid (fun j hj => by omega)⟩
        case round =>
          obtain ⟨k, hk, rfl, hno⟩ := hrel
          by_cases hlt : k < 7
          · have HX := hasB_bt x k hlt
            have HY := hasB_bt y k hlt
            have HA := hasB_bt a k hlt
            have HB := hasB_bt b k hlt
            rcases hm : meetB a b x y k with _ | _
            · have NX : Hid (∀ j, j < k + 1 → meetB a b x y j = false) := Lib.hid (fun j hj => by
                by_cases e : j = k
                · rw [e]; exact hm
                · exact hno.out j (by omega))
              unfold meetB at hm
              rcases dx : decide (bt (kn x) k = 1) with _ | _
              · rw [dx] at HX
                clear dx hm HY HA HB
                go_wp2_with ((with_reducible refine (has_any _ _ _).mono ?_); rintro e w' ⟨rfl, rfl⟩)
                go_round
                case rel => exact ⟨k + 1, by omega, by go_num, NX⟩
                case measure => simp [intOf]; omega
              · rw [dx] at HX hm
                rcases dy : decide (bt (kn y) k = 1) with _ | _
                · rw [dy] at HY
                  clear dx dy hm HA HB
                  go_wp2_with ((with_reducible refine (has_any _ _ _).mono ?_); rintro e w' ⟨rfl, rfl⟩)
                  go_round
                  case rel => exact ⟨k + 1, by omega, by go_num, NX⟩
                  case measure => simp [intOf]; omega
                · rw [dy] at HY hm
                  rcases da : decide (bt (kn a) k = 1) with _ | _
                  · rw [da] at HA hm
                    rcases db : decide (bt (kn b) k = 1) with _ | _
                    · rw [db] at HB
                      clear dx dy da db hm
                      go_wp2_with ((with_reducible refine (has_any _ _ _).mono ?_); rintro e w' ⟨rfl, rfl⟩)
                      go_round
                      case rel => exact ⟨k + 1, by omega, by go_num, NX⟩
                      case measure => simp [intOf]; omega
                    · rw [db] at hm; exact absurd hm (by decide)
                  · rw [da] at hm; exact absurd hm (by simp)
            · unfold meetB at hm
              simp only [Bool.and_eq_true] at hm
              obtain ⟨m1, m2, m3⟩ := hm
              rw [m1] at HX
              rw [m2] at HY
              clear m1 m2
              rcases da : decide (bt (kn a) k = 1) with _ | _
              · rw [da, Bool.false_or] at m3
                rw [da] at HA
                rw [m3] at HB
                clear da m3
                go_wp2_with (first | ((with_reducible refine (has_any _ _ _).mono ?_); rintro e w' ⟨rfl, rfl⟩) | (refine awake_met _ _ fun w2 b2 => ?_; have B2 := Lib.hid b2; clear b2))
                go_ret
                exact ⟨rfl, B1.out.trans (B2.out.mono B1.out.size)⟩
              · rw [da] at HA
                clear da m3 HB
                go_wp2_with (first | ((with_reducible refine (has_any _ _ _).mono ?_); rintro e w' ⟨rfl, rfl⟩) | (refine awake_met _ _ fun w2 b2 => ?_; have B2 := Lib.hid b2; clear b2))
                go_ret
                exact ⟨rfl, B1.out.trans (B2.out.mono B1.out.size)⟩
          · obtain rfl : k = 7 := by omega
            exfalso
            obtain ⟨i, hi, e⟩ := M.out
            have := hno.out i hi
            rw [e] at this
            cases this
      · have C1 := Lib.hid c1
        have C2 := Lib.hid c2
        have C3 := Lib.hid (show enoughB b y = false by simpa using c3)
        clear c1 c2 c3
        go_enter Try.func5, Try.ntmps5
        go_wp2_with fail
        go_quiet (fail)
        have B1 := Lib.hid (b_drew B0.out nq)
        generalize (w.alloc (.cells #[.int .i64 x, .int .i64 y] 31)).drewN nq = w1 at *
        go_wp2_with fail
        refine (near_any _ _ _).mono ?_
        rintro e w2 ⟨rfl, rfl⟩
        rw [C1.out]
        go_wp2_with fail
        refine (enough_any _ _ _).mono ?_
        rintro e w2 ⟨rfl, rfl⟩
        rw [C2.out]
        go_wp2_with fail
        refine (enough_any _ _ _).mono ?_
        rintro e w2 ⟨rfl, rfl⟩
        rw [C3.out]
        go_wp2_with fail
        refine awake_met _ _ fun w2 b2 => ?_
        have B2 := Lib.hid b2
        clear b2
        go_wp2_with fail
        go_ret
        exact ⟨rfl, B1.out.trans (B2.out.mono B1.out.size)⟩
    · have C1 := Lib.hid c1
      have C2 := Lib.hid (show enoughB a x = false by simpa using c2)
      clear c1 c2
      go_enter Try.func5, Try.ntmps5
      go_wp2_with fail
      go_quiet (fail)
      have B1 := Lib.hid (b_drew B0.out nq)
      generalize (w.alloc (.cells #[.int .i64 x, .int .i64 y] 31)).drewN nq = w1 at *
      go_wp2_with fail
      refine (near_any _ _ _).mono ?_
      rintro e w2 ⟨rfl, rfl⟩
      rw [C1.out]
      go_wp2_with fail
      refine (enough_any _ _ _).mono ?_
      rintro e w2 ⟨rfl, rfl⟩
      rw [C2.out]
      go_wp2_with fail
      refine awake_met _ _ fun w2 b2 => ?_
      have B2 := Lib.hid b2
      clear b2
      go_wp2_with fail
      go_ret
      exact ⟨rfl, B1.out.trans (B2.out.mono B1.out.size)⟩
  · have C1 := Lib.hid (show nearB a b = false by simpa using c1)
    clear c1
    go_enter Try.func5, Try.ntmps5
    go_wp2_with fail
    go_quiet (fail)
    have B1 := Lib.hid (b_drew B0.out nq)
    generalize (w.alloc (.cells #[.int .i64 x, .int .i64 y] 31)).drewN nq = w1 at *
    go_wp2_with fail
    refine (near_any _ _ _).mono ?_
    rintro e w2 ⟨rfl, rfl⟩
    rw [C1.out]
    go_wp2_with fail
    refine awake_met _ _ fun w2 b2 => ?_
    have B2 := Lib.hid b2
    clear b2
    go_wp2_with fail
    go_ret
    exact ⟨rfl, B1.out.trans (B2.out.mono B1.out.size)⟩
end Go.Proofs.Ytnlpmapnlhkpkaa
