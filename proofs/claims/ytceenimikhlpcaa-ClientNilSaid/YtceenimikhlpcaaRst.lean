/-
  THE DOCUMENT's OWN Stands AND Holds.
-/
import Derived.Test.YtceenimikhlpcaaRless
import Derived.BigQuiet
import Derived.Lib.QuietBelow
namespace Go.Proofs.Ytceenimikhlpcaa
open Go.RowKit
theorem drewN_below {B : Nat} {a w : World} (h : Below B a w) (n : Nat) : Below B a (w.drewN n) := ⟨h.os, h.tape, h.output, h.size, h.block⟩
theorem mixed : Try.prog.follows .mixedOrders = true := by kernel_rfl
theorem same_below {P : Program} {f : FuncId} {args : Array Value} {w : World} {X : Ending} (h : Calls P f args w fun r w' => r = X ∧ w = w') : Calls P f args w fun r w' => r = X ∧ Below w.heap.size w w' :=
  h.mono (by rintro r w' ⟨rfl, rfl⟩; exact ⟨rfl, Below.refl _ _⟩)
theorem ret_i64' {a b : Int} (h : a = b) : Ending.returned (.int .i64 a) = .returned (.int .i64 b) := by rw [h]
end Go.Proofs.Ytceenimikhlpcaa
