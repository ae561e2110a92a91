/-
  WHAT A CHANGE COSTS; a torn one.
-/
import Derived.Test.YtejmoaloomnmkaaDk
namespace Go.Proofs.Ytejmoaloomnmkaa
open Go.RowKit
def Chg.cost : Chg → Int
  | .put _ _ s => 1 + s.size
  | _ => 1
/-- the type, what it holds, the function of its cost -/
def Chg.ty : Chg → TypeId
  | .put _ _ _ => 60
  | .trim _ _ => 84
  | .move _ _ => 86
  | .drop _ => 89
def Chg.in_ : Chg → Value
  | .put f a s => .agg #[.string f, .int .i64 a, .string s]
  | .trim f n => .agg #[.string f, .int .i64 n]
  | .move f t => .agg #[.string f, .string t]
  | .drop f => .agg #[.string f]
def Chg.fn : Chg → FuncId
  | .put _ _ _ => 89
  | .trim _ _ => 90
  | .move _ _ => 91
  | .drop _ => 92
theorem Chg.val_eq (c : Chg) : c.val = .iface c.ty c.in_ := by cases c <;> rfl
theorem cost_put (f : Nm) (a : Nat) (s : ByteArray) (hs : s.size ≤ 4194304) (w : World) : Calls Try.prog 89 #[(Chg.put f a s).in_] w fun e w' => e = .returned (.int .i64 (1 + s.size)) ∧ Below w.heap.size w w' := by
  unfold Chg.in_
  go_enter Try.func89, Try.ntmps89
  go_wp2_with fail
  go_ret
  exact ⟨rfl, (Below.refl _ _).alloc (Nat.le_refl _) _⟩
theorem cost_trim (f : Nm) (n : Nat) (w : World) : Calls Try.prog 90 #[(Chg.trim f n).in_] w fun e w' => e = .returned (.int .i64 1) ∧ Below w.heap.size w w' := by
  unfold Chg.in_
  go_enter Try.func90, Try.ntmps90
  go_wp2_with fail
  go_ret
  exact ⟨rfl, (Below.refl _ _).alloc (Nat.le_refl _) _⟩
theorem cost_move (f t : Nm) (w : World) : Calls Try.prog 91 #[(Chg.move f t).in_] w fun e w' => e = .returned (.int .i64 1) ∧ Below w.heap.size w w' := by
  unfold Chg.in_
  go_enter Try.func91, Try.ntmps91
  go_wp2_with fail
  go_ret
  exact ⟨rfl, (Below.refl _ _).alloc (Nat.le_refl _) _⟩
theorem cost_drop (f : Nm) (w : World) : Calls Try.prog 92 #[(Chg.drop f).in_] w fun e w' => e = .returned (.int .i64 1) ∧ Below w.heap.size w w' := by
  unfold Chg.in_
  go_enter Try.func92, Try.ntmps92
  go_wp2_with fail
  go_ret
  exact ⟨rfl, (Below.refl _ _).alloc (Nat.le_refl _) _⟩
theorem Chg.cost_any (c : Chg) (hc : c.cost ≤ 4194305) (w : World) : Calls Try.prog c.fn #[c.in_] w fun e w' => e = .returned (.int .i64 c.cost) ∧ Below w.heap.size w w' := by
  cases c with
  | put f a s => exact cost_put f a s (by unfold Chg.cost at hc; simp only at hc; omega) w
  | trim f n => exact cost_trim f n w
  | move f t => exact cost_move f t w
  | drop f => exact cost_drop f w
theorem torn_any (f : Nm) (a n : Nat) (s : ByteArray) (hn : n ≤ s.size) (w : World) : Calls Try.prog 48 #[(Chg.put f a s).in_, .int .i64 n] w fun e w' => e = .returned (Chg.put f a (s.extract 0 n)).in_ ∧ Below w.heap.size w w' := by
  unfold Chg.in_
  simp only
  go_enter Try.func48, Try.ntmps48
  go_wp2_with fail
  refine bodyPost_ret (by simp [results, Try.results48, go_sem]; try rfl) rfl ?_
  exact ⟨rfl, ((Below.refl _ _).alloc (Nat.le_refl _) _).alloc (by simp) _⟩
end Go.Proofs.Ytejmoaloomnmkaa
