/-
  THE WALKS OF the document's own Whole, of real.Part and of the document's own.
-/
import Derived.Test.YtgenefamhhncbaaWhole
import Derived.RegionTactic
namespace Go.Proofs.Ytgenefamhhncbaa
open Go.RowKit
theorem ret_ub {a b : Int} {c d : Bool} (h : a = b) (h' : c = d) : Ending.returned (.tuple #[.int .u64 a, .bool c]) = .returned (.tuple #[.int .u64 b, .bool d]) := by rw [h, h']
theorem rung_int {m : Nat} : ((m.log2 : Int) + 1022 + 0) * 4503599627370496 + (keptM m false : Nat) = (rung m : Nat) := by
  rw [keptM_false]; unfold rung; omega
theorem exact_big {m : Nat} {A : Int} {b : Bool} (h : 53 < m.log2 + 1) (g : A = ((m % 2 ^ (m.log2 - 52) : Nat) : Int)) (x : b = (decide (m.log2 ≤ 52) || decide (m % 2 ^ (m.log2 - 52) = 0))) : (decide ((m.log2 : Int) + 1 ≤ 53) || A == 0) = b := by
  rw [x, g, decide_eq_false (show ¬ m.log2 ≤ 52 by omega), decide_eq_false (show ¬ (m.log2 : Int) + 1 ≤ 53 by omega)]
  apply Bool.eq_iff_iff.2
  generalize m % 2 ^ (m.log2 - 52) = z
  simp
set_option maxHeartbeats 1000000 in
theorem rwhole_any (n : Int) (h0 : -9223372036854775808 ≤ n) (h1 : n ≤ 9223372036854775807) (w : World) : Calls Try.prog 91 #[.int .i64 n] w fun r w' => r = .returned (.tuple #[.int .u64 (wholeB n : Nat), .bool (isExact n.natAbs)]) ∧ w = w' := by
  by_cases hz : n = 0
  · subst hz
    go_enter Try.func91, Try.ntmps91
    go_wp2_with fail
    refine (magnitude_any 0 (by decide) (by decide) _).mono ?_
    rintro r w1 ⟨rfl, rfl⟩
    go_wp2_with fail
    refine (rounded_zero 0 false _).mono ?_
    rintro r w1 ⟨rfl, rfl⟩
    go_wp2_with fail
    refine (len_any 0 (by decide) _).mono ?_
    rintro r w1 ⟨rfl, rfl⟩
    go_wp2_with fail
    go_ret2
    exact ⟨ret_ub (by decide +kernel) (by decide +kernel), rfl⟩
  · have hm : n.natAbs ≠ 0 := by omega
    have hl : n.natAbs < 18446744073709551616 := by omega
    have hlog : n.natAbs.log2 ≤ 63 := (rung_bounds hm (by omega)).1
    have hrung := (rung_bounds hm (by omega)).2.1
    have M := magnitude_any n h0 h1
    have R : ∀ w, Calls Try.prog 95 #[.int .u64 (n.natAbs : Nat), .int .i64 0, .bool false] w fun r w' => r = .returned (.int .u64 (rung n.natAbs : Nat)) ∧ w = w' := by
      intro w
      refine (rounded_any n.natAbs 0 false hl w hm (by omega) (by omega)).mono ?_
      rintro r w1 ⟨rfl, rfl⟩
      exact ⟨ret_u64 rung_int, rfl⟩
    have L := len_any n.natAbs hl
    unfold lenN at L
    rw [if_neg hm] at L
    have B := wholeB_form hz h0 h1
    have X : Hid (isExact n.natAbs = (decide (n.natAbs.log2 ≤ 52) || decide (n.natAbs % 2 ^ (n.natAbs.log2 - 52) = 0))) := Lib.hid rfl
    generalize n.natAbs = m at *
    by_cases hn : n < 0
    · have B1 := Lib.hid (show ((rung m : Nat) : Int) + 9223372036854775808 = (wholeB n : Nat) by rw [B]; simp [hn]; omega)
      clear B
      by_cases hs : m.log2 + 1 ≤ 53
      · go_enter Try.func91, Try.ntmps91
        go_wp2_with fail
        refine (M _).mono ?_
        rintro r w1 ⟨rfl, rfl⟩
        go_wp2_with fail
        refine (R _).mono ?_
        rintro r w1 ⟨rfl, rfl⟩
        go_wp2_with fail
        refine (L _).mono ?_
        rintro r w1 ⟨rfl, rfl⟩
        go_wp2_with fail
        go_ret2
        exact ⟨ret_ub B1.out (by rw [X.out]; simp; omega), rfl⟩
      · have hs' : 53 < m.log2 + 1 := by omega
        have G := Lib.hid (big_rest hm hl hs')
        have HS := Lib.hid hs'
        clear hs
        go_enter Try.func91, Try.ntmps91
        go_wp2_with fail
        refine (M _).mono ?_
        rintro r w1 ⟨rfl, rfl⟩
        go_wp2_with fail
        refine (R _).mono ?_
        rintro r w1 ⟨rfl, rfl⟩
        go_wp2_with fail
        refine (L _).mono ?_
        rintro r w1 ⟨rfl, rfl⟩
        go_wp2_with fail
        go_ret2
        exact ⟨ret_ub B1.out (exact_big HS.out G.out X.out), rfl⟩
    · have B1 := Lib.hid (show ((rung m : Nat) : Int) = (wholeB n : Nat) by rw [B]; simp [hn])
      have hn' : 0 ≤ n := by omega
      clear B hn
      by_cases hs : m.log2 + 1 ≤ 53
      · go_enter Try.func91, Try.ntmps91
        go_wp2_with fail
        refine (M _).mono ?_
        rintro r w1 ⟨rfl, rfl⟩
        go_wp2_with fail
        refine (R _).mono ?_
        rintro r w1 ⟨rfl, rfl⟩
        go_wp2_with fail
        refine (L _).mono ?_
        rintro r w1 ⟨rfl, rfl⟩
        go_wp2_with fail
        go_ret2
        exact ⟨ret_ub B1.out (by rw [X.out]; simp; omega), rfl⟩
      · have hs' : 53 < m.log2 + 1 := by omega
        have G := Lib.hid (big_rest hm hl hs')
        have HS := Lib.hid hs'
        clear hs
        go_enter Try.func91, Try.ntmps91
        go_wp2_with fail
        refine (M _).mono ?_
        rintro r w1 ⟨rfl, rfl⟩
        go_wp2_with fail
        refine (R _).mono ?_
        rintro r w1 ⟨rfl, rfl⟩
        go_wp2_with fail
        refine (L _).mono ?_
        rintro r w1 ⟨rfl, rfl⟩
        go_wp2_with fail
        go_ret2
        exact ⟨ret_ub B1.out (exact_big HS.out G.out X.out), rfl⟩
end Go.Proofs.Ytgenefamhhncbaa
