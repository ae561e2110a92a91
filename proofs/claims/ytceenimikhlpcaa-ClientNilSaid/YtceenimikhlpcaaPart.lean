/-
  THE WALKS OF the document's own Whole, of real.Part and of the document's own.
-/
import Derived.Test.YtceenimikhlpcaaWhole
import Derived.RegionTactic
namespace Go.Proofs.Ytceenimikhlpcaa
open Go.RowKit
theorem ret_ub {a b : Int} {c d : Bool} (h : a = b) (h' : c = d) : Ending.returned (.tuple #[.int .u64 a, .bool c]) = .returned (.tuple #[.int .u64 b, .bool d]) := by rw [h, h']
theorem rung_int {m : Nat} : ((m.log2 : Int) + 1022 + 0) * 4503599627370496 + (keptM m false : Nat) = (rung m : Nat) := by
  rw [keptM_false]; unfold rung; omega
theorem exact_big {m : Nat} {A : Int} {b : Bool} (h : 53 < m.log2 + 1) (g : A = ((m % 2 ^ (m.log2 - 52) : Nat) : Int)) (x : b = (decide (m.log2 ≤ 52) || decide (m % 2 ^ (m.log2 - 52) = 0))) : (decide ((m.log2 : Int) + 1 ≤ 53) || A == 0) = b := by
  rw [x, g, decide_eq_false (show ¬ m.log2 ≤ 52 by omega), decide_eq_false (show ¬ (m.log2 : Int) + 1 ≤ 53 by omega)]
  apply Bool.eq_iff_iff.2
  generalize m % 2 ^ (m.log2 - 52) = z
  simp
end Go.Proofs.Ytceenimikhlpcaa
