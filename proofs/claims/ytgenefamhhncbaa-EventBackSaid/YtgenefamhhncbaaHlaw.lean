/-
  THE LAWS EventHolds, EventOrder AS WALKS.
-/
import Derived.Test.YtgenefamhhncbaaChk0
namespace Go.Proofs.Ytgenefamhhncbaa
open Go.RowKit
set_option maxHeartbeats 1000000 in
theorem holds_law (op : Int) (a b : Val) (ha : a.Wf) (hb : b.Wf) (w : World) : Calls Try.prog 8 #[.int .i64 op, a.val, b.val] w fun e w' => e = .returned (.bool true) ∧ Below w.heap.size w w' := by
  have EH := evholds_any op a b ha hb
  have RH := rholds_any op a b ha hb
  obtain ⟨w2, hw2, B2, A2, C2⟩ := boxed w a b 47 47
  have W2 := Lib.hid hw2
  have B2h := Lib.hid B2
  obtain ⟨a0, a1, a2, a3, la⟩ := A2
  obtain ⟨b0, b1, b2, b3, lb⟩ := C2
  unfold Val.val at EH RH ⊢
  obtain ⟨ak, an, af, sa⟩ := a
  obtain ⟨bk, bn, bf, sb⟩ := b
  generalize opS op (stV _ _) = r at *
  simp only at *
  clear hw2 B2
  generalize hy : w.heap.size = Y at *
  have a0 := fun d os => cell_regrown a0 d os
  have a1 := fun d os => cell_regrown a1 d os
  have a2 := fun d os => cell_regrown a2 d os
  have a3 := fun d os => cell_regrown a3 d os
  have b0 := fun d os => cell_regrown b0 d os
  have b1 := fun d os => cell_regrown b1 d os
  have b2 := fun d os => cell_regrown b2 d os
  have b3 := fun d os => cell_regrown b3 d os
  have C1 := Lib.hid (fun d os => Calls.regrown_of (d := d) (os := os) (awake_any (Go.Sort.grow (redrawn w2 d) os)))
  have C2 := Lib.hid (fun d os => Calls.regrown_of (d := d) (os := os) (EH (Go.Sort.grow (redrawn w2 d) os)))
  have C3 := Lib.hid (fun d os => Calls.regrown_of (d := d) (os := os) (RH (Go.Sort.grow (redrawn w2 d) os)))
  clear EH RH ha hb
  go_enter Try.func8, Try.ntmps8
  go_wp2_with fail
  rw [← W2.out]
  refine wp_region_quiet_below mixed (by kernel_rfl) ?_
  repeat (quiet_step (first | (with_reducible exact C1.out _ _) | (with_reducible exact C2.out _ _) | (with_reducible exact C3.out _ _)))
  refine wpQuiet_nil ?_
  intro _ hw'
  obtain ⟨⟨dq, osq⟩, hw''⟩ := hw'
  subst hw''
  go_wp2_with fail
  go_ret
  exact ⟨ret_bool (by simp), B2h.out.trans ((below_regrown w2 dq osq).mono (by have := B2h.out.size; omega))⟩
theorem opS3 (s : Int) (h : s = 0 ∨ s = 1 ∨ s = 2 ∨ s = 3 ∨ s = 4) : (opS 3 s = decide (s = 2)) ∧ (opS 1 s = decide (s = 3)) ∧ (opS 5 s = decide (s = 4)) := by
  rcases h with rfl | rfl | rfl | rfl | rfl <;> decide
set_option maxHeartbeats 1000000 in
theorem stands_any (a b : Val) (ha : a.Wf) (hb : b.Wf) (w : World) : Calls Try.prog 26 #[a.val, b.val] w fun e w' => e = .returned (.int .i64 (sdI (stV a b))) ∧ Below w.heap.size w w' := by
  have E3 := evholds_any 3 a b ha hb
  have E1 := evholds_any 1 a b ha hb
  have E5 := evholds_any 5 a b ha hb
  obtain ⟨o3, o1, o5⟩ := opS3 (stV a b) (stV_range a b)
  rw [o3] at E3
  rw [o1] at E1
  rw [o5] at E5
  have hr := stV_range a b
  obtain ⟨w2, hw2, B2, A2, C2⟩ := boxed w a b 47 47
  have W2 := Lib.hid hw2
  have B2h := Lib.hid B2
  obtain ⟨a0, a1, a2, a3, la⟩ := A2
  obtain ⟨b0, b1, b2, b3, lb⟩ := C2
  unfold Val.val at E1 E3 E5 ⊢
  obtain ⟨ak, an, af, sa⟩ := a
  obtain ⟨bk, bn, bf, sb⟩ := b
  generalize stV _ _ = s at *
  simp only at *
  clear hw2 B2 o1 o3 o5
  generalize hy : w.heap.size = Y at *
  have a0 := fun d os => cell_regrown a0 d os
  have a1 := fun d os => cell_regrown a1 d os
  have a2 := fun d os => cell_regrown a2 d os
  have a3 := fun d os => cell_regrown a3 d os
  have b0 := fun d os => cell_regrown b0 d os
  have b1 := fun d os => cell_regrown b1 d os
  have b2 := fun d os => cell_regrown b2 d os
  have b3 := fun d os => cell_regrown b3 d os
  rcases hr with rfl | rfl | rfl | rfl | rfl
  all_goals
    have C1 := Lib.hid (fun d os => Calls.regrown_of (d := d) (os := os) (E1 (Go.Sort.grow (redrawn w2 d) os)))
    have C2 := Lib.hid (fun d os => Calls.regrown_of (d := d) (os := os) (E3 (Go.Sort.grow (redrawn w2 d) os)))
    have C3 := Lib.hid (fun d os => Calls.regrown_of (d := d) (os := os) (E5 (Go.Sort.grow (redrawn w2 d) os)))
    clear E1 E3 E5 ha hb
    simp only [Int.reduceEq, decide_false, decide_true] at C1 C2 C3
    go_enter Try.func26, Try.ntmps26
    go_wp2_with fail
    rw [← W2.out]
    refine wp_region_quiet_below mixed (by kernel_rfl) ?_
    repeat (quiet_step (first | (with_reducible exact C1.out _ _) | (with_reducible exact C2.out _ _) | (with_reducible exact C3.out _ _)))
    refine wpQuiet_nil ?_
    intro _ hw'
    obtain ⟨⟨dq, osq⟩, hw''⟩ := hw'
    subst hw''
    go_wp2_with fail
    go_ret
    exact ⟨rfl, B2h.out.trans ((below_regrown w2 dq osq).mono (by have := B2h.out.size; omega))⟩
end Go.Proofs.Ytgenefamhhncbaa
