/-
  A WHOLE NUMBER AND A REAL ONE: event.mixed.
-/
import Derived.Test.YtceenimikhlpcaaCmp
namespace Go.Proofs.Ytceenimikhlpcaa
open Go.RowKit
/-- how a whole number stands to a real one -/
def mxI (n : Int) (f : Nat) : Int := if isNan f = true then 1 else tri (ltP (wk n, n - wholeV n) (rkey f, 0)) (ltP (rkey f, 0) (wk n, n - wholeV n))
theorem rkey_inj {x y : Nat} (hx : x < 18446744073709551616) (hy : y < 18446744073709551616) (h : rkey x = rkey y) (h0 : rkey x ≠ 0) : x = y := by
  unfold rkey at *
  split at h <;> split at h <;> split at h0 <;> omega
theorem exact_whole {n : Int} (h0 : -9223372036854775808 ≤ n) (h1 : n ≤ 9223372036854775807) : isExact n.natAbs = true ↔ wholeV n = n := by
  have h := near_exact n.natAbs
  rw [← h]
  unfold wholeV sg
  by_cases hn : n < 0
  · simp only [hn, decide_true, if_true]; omega
  · simp only [hn, decide_false, Bool.false_eq_true, if_false]; omega
theorem wk_ne {n : Int} (hn : n ≠ 0) (h0 : -9223372036854775808 ≤ n) (h1 : n ≤ 9223372036854775807) : wk n ≠ 0 := by
  have := (rung_bounds (m := n.natAbs) (by omega) (by omega)).2.2
  rw [wk_sg hn h0 h1]
  split <;> omega
end Go.Proofs.Ytceenimikhlpcaa
