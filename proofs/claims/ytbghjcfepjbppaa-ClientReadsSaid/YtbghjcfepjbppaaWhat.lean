/-
  WHAT A VALUE's KIND NAMES, WRITTEN: event.what.
-/
import Derived.Test.YtbghjcfepjbppaaEnc
namespace Go.Proofs.Ytbghjcfepjbppaa
open Go.RowKit
set_option maxHeartbeats 1000000 in
theorem what_any (v : Val) (hw : v.Wf) (hs : v.s.size ≤ 9223372036854775798) (w : World) : Calls Try.prog 99 #[v.val] w fun e w' => e = .returned (.string (whatS v)) ∧ Below w.heap.size w w' := by
  obtain ⟨k, n, f, s⟩ := v
  obtain ⟨_, n0, n1, hf⟩ := hw
  simp only at n0 n1 hf hs
  have I := Lib.hid (fun w => Bt.int_any n n0 n1 w)
  have R := Lib.hid (fun w => Bt.real_any f hf w)
  have T := Lib.hid (fun w => Bt.text_any s hs w)
  unfold Val.val whatS
  simp only
  obtain ⟨w1, hw1, K1, B1⟩ : ∃ w1, w1 = w.alloc (.cells #[.int .i64 k, .int .i64 n, .float .f64 f, .string s] 103) ∧ Blk w1 w.heap.size 103 #[.int .i64 k, .int .i64 n, .float .f64 f, .string s] ∧ Below w.heap.size w w1 := ⟨_, rfl, heap_alloc_new w _, (Below.refl _ w).alloc (Nat.le_refl _) _⟩
  have W1 := Lib.hid hw1
  have B1h := Lib.hid B1
  have e0 : w1.cell? ⟨w.heap.size, 0, none⟩ = some (.int .i64 k) := K1.cell 0
  have e1 : w1.cell? ⟨w.heap.size, 1, none⟩ = some (.int .i64 n) := K1.cell 1
  have e2 : w1.cell? ⟨w.heap.size, 2, none⟩ = some (.float .f64 f) := K1.cell 2
  have e3 : w1.cell? ⟨w.heap.size, 3, none⟩ = some (.string s) := K1.cell 3
  clear hw1 B1 K1 n0 n1 hf hs
  generalize hy : w.heap.size = Y at *
  by_cases h1 : k = 1
  · subst h1
    rw [if_pos rfl]
    go_enter Try.func99, Try.ntmps99
    go_wp2_with fail
    rw [← W1.out]
    go_wp2_with fail
    refine (I.out _).mono ?_
    rintro e w2 ⟨rfl, b2⟩
    have B2h := Lib.hid (B1h.out.trans (b2.mono (by have := B1h.out.size; omega)))
    clear b2
    go_wp2_with fail
    go_ret
    exact ⟨rfl, B2h.out⟩
  rw [if_neg h1]
  by_cases h2 : k = 2
  · subst h2
    rw [if_pos rfl]
    clear h1
    go_enter Try.func99, Try.ntmps99
    go_wp2_with fail
    rw [← W1.out]
    go_wp2_with fail
    refine (R.out _).mono ?_
    rintro e w2 ⟨rfl, b2⟩
    have B2h := Lib.hid (B1h.out.trans (b2.mono (by have := B1h.out.size; omega)))
    clear b2
    go_wp2_with fail
    go_ret
    exact ⟨rfl, B2h.out⟩
  rw [if_neg h2]
  have d1 : (k == 1) = false := by simpa using h1
  have d2 : (k == 2) = false := by simpa using h2
  clear h1 h2
  go_enter Try.func99, Try.ntmps99
  go_wp2_with fail
  rw [← W1.out]
  go_wp2_with fail
  refine (T.out _).mono ?_
  rintro e w2 ⟨rfl, b2⟩
  have B2h := Lib.hid (B1h.out.trans (b2.mono (by have := B1h.out.size; omega)))
  clear b2
  go_wp2_with fail
  go_ret
  exact ⟨rfl, B2h.out⟩
end Go.Proofs.Ytbghjcfepjbppaa
