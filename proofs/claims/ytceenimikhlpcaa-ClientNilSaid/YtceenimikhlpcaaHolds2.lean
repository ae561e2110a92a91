/-
  THE WALK OF event.Holds.
-/
import Derived.Test.YtceenimikhlpcaaStnd
namespace Go.Proofs.Ytceenimikhlpcaa
open Go.RowKit
theorem opS_zero (op : Int) : opS op 0 = false := rfl
theorem opS_1 {s : Int} (h : s ≠ 0) : opS 1 s = (s == 3) := by unfold opS; rw [if_neg h]; rfl
theorem opS_2 {s : Int} (h : s ≠ 0) : opS 2 s = (s != 3) := by unfold opS; rw [if_neg h]; rfl
theorem opS_3 {s : Int} (h : s ≠ 0) : opS 3 s = (s == 2) := by unfold opS; rw [if_neg h]; rfl
theorem opS_4 {s : Int} (h : s ≠ 0) : opS 4 s = (s == 2 || s == 3) := by unfold opS; rw [if_neg h]; rfl
theorem opS_5 {s : Int} (h : s ≠ 0) : opS 5 s = (s == 4) := by unfold opS; rw [if_neg h]; rfl
theorem opS_6 {s : Int} (h : s ≠ 0) : opS 6 s = (s == 4 || s == 3) := by unfold opS; rw [if_neg h]; rfl
theorem opS_else {op s : Int} (h : op ≠ 1 ∧ op ≠ 2 ∧ op ≠ 3 ∧ op ≠ 4 ∧ op ≠ 5 ∧ op ≠ 6) : opS op s = false := by
  unfold opS
  split
  · rfl
  · rw [if_neg h.1, if_neg h.2.1, if_neg h.2.2.1, if_neg h.2.2.2.1, if_neg h.2.2.2.2.1, if_neg h.2.2.2.2.2]
end Go.Proofs.Ytceenimikhlpcaa
