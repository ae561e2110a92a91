/-
  THE LAWS EventHolds, EventOrder AS WALKS.
-/
import Derived.Test.YtbghjcfepjbppaaChk0
namespace Go.Proofs.Ytbghjcfepjbppaa
open Go.RowKit
theorem opS3 (s : Int) (h : s = 0 ∨ s = 1 ∨ s = 2 ∨ s = 3 ∨ s = 4) : (opS 3 s = decide (s = 2)) ∧ (opS 1 s = decide (s = 3)) ∧ (opS 5 s = decide (s = 4)) := by
  rcases h with rfl | rfl | rfl | rfl | rfl <;> decide
end Go.Proofs.Ytbghjcfepjbppaa
