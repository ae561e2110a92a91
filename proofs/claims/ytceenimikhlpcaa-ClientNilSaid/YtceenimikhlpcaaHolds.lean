/-
  THE WALKS OF real.Holds and of the document's own: by the words' places alone.
-/
import Derived.Test.YtceenimikhlpcaaRank
import Derived.Deep.QuietTactic
import Derived.BigQuiet
namespace Go.Proofs.Ytceenimikhlpcaa
open Go.RowKit
/-- what a comparing answers, of how two stand -/
def opO (op : Int) (o : Option Ordering) : Bool :=
  if op = 1 then o == some .eq else if op = 2 then o != some .eq else if op = 3 then o == some .lt else if op = 4 then o == some .lt || o == some .eq
  else if op = 5 then o == some .gt else if op = 6 then o == some .gt || o == some .eq else false
/-- how two words stand as numbers -/
def ord (x y : Nat) : Option Ordering := if isNan x || isNan y then none else some (compare (rkey x) (rkey y))
theorem ord_order (x y : Nat) (hx : x < 18446744073709551616) (hy : y < 18446744073709551616) : FloatKind.f64.format.order x y = ord x y := by
  show Ieee.double.order x y = ord x y
  unfold ord
  by_cases h1 : isNan x = true
  · rw [order_nan_left x y hx h1, h1]; rfl
  · have h1 : isNan x = false := by simpa using h1
    by_cases h2 : isNan y = true
    · rw [order_nan_right x y hy h2, h2, h1]; rfl
    · have h2 : isNan y = false := by simpa using h2
      rw [order_key x y hx hy h1 h2, h1, h2]; rfl
theorem ret_any {a b : Bool} (h : a = b) (e : Ending) (he : e = .returned (.bool a)) : e = .returned (.bool b) := by rw [he, h]
theorem sign_yes {x : Nat} (hx : x < 18446744073709551616) (h : 9223372036854775808 ≤ x) : ((x : Int) / 9223372036854775808 == 1) = true := by simp; omega
theorem sign_no {x : Nat} (h : ¬ 9223372036854775808 ≤ x) : ((x : Int) / 9223372036854775808 == 1) = false := by simp; omega
theorem rkey_yes {x : Nat} (h : 9223372036854775808 ≤ x) : rkey x = -((x : Int) - 9223372036854775808) := by unfold rkey; rw [if_neg (by omega)]
theorem rkey_no {x : Nat} (h : ¬ 9223372036854775808 ≤ x) : rkey x = x := by unfold rkey; rw [if_pos (by omega)]
theorem ord_none_left {x y : Nat} (h : isNan x = true) : ord x y = none := by unfold ord; rw [h]; rfl
theorem ord_none_right {x y : Nat} (h : isNan y = true) : ord x y = none := by unfold ord; rw [h, Bool.or_true]; rfl
theorem ord_some {x y : Nat} (h : isNan x = false) (h' : isNan y = false) : ord x y = some (compare (rkey x) (rkey y)) := by unfold ord; rw [h, h']; rfl
theorem opO_none (op : Int) : opO op none = decide (op = 2) := by
  unfold opO
  by_cases h : op = 2
  · subst h; decide
  · simp [h]
end Go.Proofs.Ytceenimikhlpcaa
