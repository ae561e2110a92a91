/-
  THE LAW OF CouncilReaches, as a walk.
-/
import Derived.Test.YtnlpmapnlhkpkaaCml
import Derived.Test.YtnlpmapnlhkpkaaCrr
import Derived.Lib.QuietBelow
namespace Go.Proofs.Ytnlpmapnlhkpkaa
open Go.RowKit
theorem mixed : Try.prog.follows .mixedOrders = true := by kernel_rfl
theorem same_below {P : Program} {f : FuncId} {args : Array Value} {w : World} {X : Ending} (h : Calls P f args w fun r w' => r = X ∧ w = w') : Calls P f args w fun r w' => r = X ∧ Below w.heap.size w w' :=
  h.mono (by rintro r w' ⟨rfl, rfl⟩; exact ⟨rfl, Below.refl _ _⟩)
theorem load7 {w : World} {X : Nat} {v0 v1 v2 v3 v4 v5 v6 : Int} (h : Blk w X 28 #[.int .i64 v0, .int .i64 v1, .int .i64 v2, .int .i64 v3, .int .i64 v4, .int .i64 v5, .int .i64 v6]) (i : Nat) (hi : i < 7) : w.cell? ⟨X, i, none⟩ = some (.int .i64 ([v0, v1, v2, v3, v4, v5, v6].getD i 0)) := by
  rw [h.cell]
  rcases i with _ | _ | _ | _ | _ | _ | _ | i <;> first | rfl | omega
set_option maxHeartbeats 4000000 in
theorem reaches_law (a b v0 v1 v2 v3 v4 v5 v6 : Int) (w : World) : Calls Try.prog 4 #[.int .i64 a, .int .i64 b, .agg #[.int .i64 v0, .int .i64 v1, .int .i64 v2, .int .i64 v3, .int .i64 v4, .int .i64 v5, .int .i64 v6]] w (Tru2 w) := by
  have K := Blk.new w 28 #[.int .i64 v0, .int .i64 v1, .int .i64 v2, .int .i64 v3, .int .i64 v4, .int .i64 v5, .int .i64 v6]
  have B0 := Lib.hid ((Below.refl w.heap.size w).alloc (Nat.le_refl _) (.cells #[.int .i64 v0, .int .i64 v1, .int .i64 v2, .int .i64 v3, .int .i64 v4, .int .i64 v5, .int .i64 v6] 28))
  obtain ⟨w2, hw2⟩ : ∃ w2, w2 = w.alloc (.cells #[.int .i64 v0, .int .i64 v1, .int .i64 v2, .int .i64 v3, .int .i64 v4, .int .i64 v5, .int .i64 v6] 28) := ⟨_, rfl⟩
  rw [← hw2] at K B0
  have W2 := Lib.hid hw2
  clear hw2
  have c0 := fun d os => cell_regrown (K.cell 0) d os
  have c1 := fun d os => cell_regrown (K.cell 1) d os
  have c2 := fun d os => cell_regrown (K.cell 2) d os
  have c3 := fun d os => cell_regrown (K.cell 3) d os
  have c4 := fun d os => cell_regrown (K.cell 4) d os
  have c5 := fun d os => cell_regrown (K.cell 5) d os
  have c6 := fun d os => cell_regrown (K.cell 6) d os
  have C1 := Lib.hid (fun d os => Calls.regrown_of (d := d) (os := os) (awake_any (Go.Sort.grow (redrawn w2 d) os)))
  have C2 := Lib.hid (fun d os => Calls.regrown_of (d := d) (os := os) (same_below (near_any a b (Go.Sort.grow (redrawn w2 d) os))))
  have C3 := Lib.hid (fun d os => Calls.regrown_of (d := d) (os := os) (same_below (rnear_any a b (Go.Sort.grow (redrawn w2 d) os))))
  have C4 := Lib.hid (fun d os => Calls.regrown_of (d := d) (os := os) (reached_any a v0 v1 v2 v3 v4 v5 v6 (Go.Sort.grow (redrawn w2 d) os)))
  have C5 := Lib.hid (fun d os => Calls.regrown_of (d := d) (os := os) (rreached_any a v0 v1 v2 v3 v4 v5 v6 (Go.Sort.grow (redrawn w2 d) os)))
  clear K
  go_enter Try.func4, Try.ntmps4
  go_wp2_with fail
  rw [← W2.out]
  refine wp_region_quiet_below mixed (by kernel_rfl) ?_
  repeat (quiet_step (first | (with_reducible exact C1.out _ _) | (with_reducible exact C2.out _ _) | (with_reducible exact C3.out _ _) | (with_reducible exact C4.out _ _) | (with_reducible exact C5.out _ _)))
  refine wpQuiet_nil ?_
  intro _ hw'
  obtain ⟨⟨dq, osq⟩, hw''⟩ := hw'
  subst hw''
  have B3 := Lib.hid (B0.out.trans ((below_regrown w2 dq osq).mono B0.out.size))
  clear c0 c1 c2 c3 c4 c5 c6
  generalize Go.Sort.grow (redrawn w2 dq) osq = w3 at *
  go_wp2_with fail
  go_ret
  exact ⟨rfl, B3.out⟩
end Go.Proofs.Ytnlpmapnlhkpkaa
