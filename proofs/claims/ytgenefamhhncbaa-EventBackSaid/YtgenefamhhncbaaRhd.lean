/-
  THE DOCUMENT's OWN Holds.
-/
import Derived.Test.YtgenefamhhncbaaRst
namespace Go.Proofs.Ytgenefamhhncbaa
open Go.RowKit
theorem rstands_any (a b : Val) (ha : a.Wf) (hb : b.Wf) (ka : isK a = true) (kb : isK b = true) (w : World) : Calls Try.prog 54 #[a.val, b.val] w fun e w' => e = .returned (.int .i64 (sdI (stV a b))) ∧ Below w.heap.size w w' := by
  have ka := isK_cases ka
  have kb := isK_cases kb
  obtain ⟨ak, an, af, sa⟩ := a
  obtain ⟨bk, bn, bf, sb⟩ := b
  obtain ⟨_, a0, a1, a2⟩ := ha
  obtain ⟨_, b0, b1, b2⟩ := hb
  simp only at ka kb a0 a1 a2 b0 b1 b2
  rcases ka with rfl | rfl | rfl <;> rcases kb with rfl | rfl | rfl
  · rw [stV_11 _ _ _ _ _ _ a0 a1 b0 b1]; exact rstands_11 an bn af bf sa sb a0 a1 b0 b1 a2 b2 w
  · rw [stV_12]; exact rstands_12 an bn af bf sa sb a0 a1 b0 b1 a2 b2 w
  · rw [stV_13]; exact rstands_13 an bn af bf sa sb a0 a1 b0 b1 a2 b2 w
  · rw [stV_21]; exact rstands_21 an bn af bf sa sb a0 a1 b0 b1 a2 b2 w
  · rw [stV_22]; exact rstands_22 an bn af bf sa sb a0 a1 b0 b1 a2 b2 w
  · rw [stV_23]; exact rstands_23 an bn af bf sa sb a0 a1 b0 b1 a2 b2 w
  · rw [stV_31]; exact rstands_31 an bn af bf sa sb a0 a1 b0 b1 a2 b2 w
  · rw [stV_32]; exact rstands_32 an bn af bf sa sb a0 a1 b0 b1 a2 b2 w
  · rw [stV_33]; exact rstands_33 an bn af bf sa sb a0 a1 b0 b1 a2 b2 w
theorem stV_range (a b : Val) : stV a b = 0 ∨ stV a b = 1 ∨ stV a b = 2 ∨ stV a b = 3 ∨ stV a b = 4 := by
  unfold stV
  split
  · exact .inl rfl
  · split
    · rcases tri_cases (ltS a.s b.s) (ltS b.s a.s) with h | h | h <;> simp [h]
    · split
      · exact .inr (.inl rfl)
      · split
        · exact .inr (.inl rfl)
        · rcases tri_cases (ltP (nk a) (nk b)) (ltP (nk b) (nk a)) with h | h | h <;> simp [h]
theorem stV_pos {a b : Val} (ka : isK a = true) (kb : isK b = true) : stV a b ≠ 0 := by
  unfold stV
  rw [if_neg (by rw [ka, kb]; decide)]
  split
  · rcases tri_cases (ltS a.s b.s) (ltS b.s a.s) with h | h | h <;> simp [h]
  · split
    · decide
    · split
      · decide
      · rcases tri_cases (ltP (nk a) (nk b)) (ltP (nk b) (nk a)) with h | h | h <;> simp [h]
set_option maxHeartbeats 2000000 in
theorem rholds_lt (op : Int) (a b : Val) (ka : 1 ≤ a.k ∧ a.k ≤ 3) (kb : 1 ≤ b.k ∧ b.k ≤ 3) (S : Hid (∀ w, Calls Try.prog 54 #[.agg #[.int .i64 a.k, .int .i64 a.n, .float .f64 a.f, .string a.s], .agg #[.int .i64 b.k, .int .i64 b.n, .float .f64 b.f, .string b.s]] w fun e w' => e = .returned (.int .i64 (-1)) ∧ Below w.heap.size w w')) (w : World) :
    Calls Try.prog 25 #[.int .i64 op, .agg #[.int .i64 a.k, .int .i64 a.n, .float .f64 a.f, .string a.s], .agg #[.int .i64 b.k, .int .i64 b.n, .float .f64 b.f, .string b.s]] w fun e w' => e = .returned (.bool (opS op 2)) ∧ Below w.heap.size w w' := by
  obtain ⟨w2, hw2, B2, A2, C2⟩ := boxed w a b 50 50
  have W2 := Lib.hid hw2
  have B2h := Lib.hid B2
  obtain ⟨a0, a1, a2, a3, la⟩ := A2
  obtain ⟨b0, b1, b2, b3, lb⟩ := C2
  obtain ⟨ak, an, af, sa⟩ := a
  obtain ⟨bk, bn, bf, sb⟩ := b
  simp only at *
  clear hw2 B2
  obtain ⟨ka1, ka2⟩ := ka
  obtain ⟨kb1, kb2⟩ := kb
  generalize hy : w.heap.size = Y at *
  have START : Hid (∀ w3, Below w2.heap.size w2 w3 → Below Y w w3) := Lib.hid (fun w3 bb => B2h.out.trans (bb.mono (by have := B2h.out.size; omega)))
  by_cases o1 : op = 1
  · subst o1
    go_enter Try.func25, Try.ntmps25
    go_wp2_with fail
    rw [← W2.out]
    go_wp2_with fail
    refine (S.out _).mono ?_
    rintro e w3 ⟨rfl, bb⟩
    have B3h := Lib.hid (START.out w3 bb)
    clear bb a0 a1 a2 a3 b0 b1 b2 b3
    go_wp2_with fail
    all_goals (first | go_ret | go_ret2)
    all_goals exact ⟨rfl, B3h.out⟩
  by_cases o2 : op = 2
  · subst o2
    go_enter Try.func25, Try.ntmps25
    go_wp2_with fail
    rw [← W2.out]
    go_wp2_with fail
    refine (S.out _).mono ?_
    rintro e w3 ⟨rfl, bb⟩
    have B3h := Lib.hid (START.out w3 bb)
    clear bb a0 a1 a2 a3 b0 b1 b2 b3
    go_wp2_with fail
    all_goals (first | go_ret | go_ret2)
    all_goals exact ⟨rfl, B3h.out⟩
  by_cases o3 : op = 3
  · subst o3
    go_enter Try.func25, Try.ntmps25
    go_wp2_with fail
    rw [← W2.out]
    go_wp2_with fail
    refine (S.out _).mono ?_
    rintro e w3 ⟨rfl, bb⟩
    have B3h := Lib.hid (START.out w3 bb)
    clear bb a0 a1 a2 a3 b0 b1 b2 b3
    go_wp2_with fail
    all_goals (first | go_ret | go_ret2)
    all_goals exact ⟨rfl, B3h.out⟩
  by_cases o4 : op = 4
  · subst o4
    go_enter Try.func25, Try.ntmps25
    go_wp2_with fail
    rw [← W2.out]
    go_wp2_with fail
    refine (S.out _).mono ?_
    rintro e w3 ⟨rfl, bb⟩
    have B3h := Lib.hid (START.out w3 bb)
    clear bb a0 a1 a2 a3 b0 b1 b2 b3
    go_wp2_with fail
    all_goals (first | go_ret | go_ret2)
    all_goals exact ⟨rfl, B3h.out⟩
  by_cases o5 : op = 5
  · subst o5
    go_enter Try.func25, Try.ntmps25
    go_wp2_with fail
    rw [← W2.out]
    go_wp2_with fail
    refine (S.out _).mono ?_
    rintro e w3 ⟨rfl, bb⟩
    have B3h := Lib.hid (START.out w3 bb)
    clear bb a0 a1 a2 a3 b0 b1 b2 b3
    go_wp2_with fail
    all_goals (first | go_ret | go_ret2)
    all_goals exact ⟨rfl, B3h.out⟩
  by_cases o6 : op = 6
  · subst o6
    go_enter Try.func25, Try.ntmps25
    go_wp2_with fail
    rw [← W2.out]
    go_wp2_with fail
    refine (S.out _).mono ?_
    rintro e w3 ⟨rfl, bb⟩
    have B3h := Lib.hid (START.out w3 bb)
    clear bb a0 a1 a2 a3 b0 b1 b2 b3
    go_wp2_with fail
    all_goals (first | go_ret | go_ret2)
    all_goals exact ⟨rfl, B3h.out⟩
  rw [opS_else ⟨o1, o2, o3, o4, o5, o6⟩]
  have e1 : (op == 1) = false := by simpa using o1
  have e2 : (op == 2) = false := by simpa using o2
  have e3 : (op == 3) = false := by simpa using o3
  have e4 : (op == 4) = false := by simpa using o4
  have e5 : (op == 5) = false := by simpa using o5
  have e6 : (op == 6) = false := by simpa using o6
  clear o1 o2 o3 o4 o5 o6
  go_enter Try.func25, Try.ntmps25
  go_wp2_with fail
  rw [← W2.out]
  go_wp2_with fail
  refine (S.out _).mono ?_
  rintro e w3 ⟨rfl, bb⟩
  have B3h := Lib.hid (START.out w3 bb)
  clear bb a0 a1 a2 a3 b0 b1 b2 b3
  go_wp2_with fail
  all_goals (first | go_ret | go_ret2)
  all_goals exact ⟨rfl, B3h.out⟩
set_option maxHeartbeats 2000000 in
theorem rholds_eq (op : Int) (a b : Val) (ka : 1 ≤ a.k ∧ a.k ≤ 3) (kb : 1 ≤ b.k ∧ b.k ≤ 3) (S : Hid (∀ w, Calls Try.prog 54 #[.agg #[.int .i64 a.k, .int .i64 a.n, .float .f64 a.f, .string a.s], .agg #[.int .i64 b.k, .int .i64 b.n, .float .f64 b.f, .string b.s]] w fun e w' => e = .returned (.int .i64 (0)) ∧ Below w.heap.size w w')) (w : World) :
    Calls Try.prog 25 #[.int .i64 op, .agg #[.int .i64 a.k, .int .i64 a.n, .float .f64 a.f, .string a.s], .agg #[.int .i64 b.k, .int .i64 b.n, .float .f64 b.f, .string b.s]] w fun e w' => e = .returned (.bool (opS op 3)) ∧ Below w.heap.size w w' := by
  obtain ⟨w2, hw2, B2, A2, C2⟩ := boxed w a b 50 50
  have W2 := Lib.hid hw2
  have B2h := Lib.hid B2
  obtain ⟨a0, a1, a2, a3, la⟩ := A2
  obtain ⟨b0, b1, b2, b3, lb⟩ := C2
  obtain ⟨ak, an, af, sa⟩ := a
  obtain ⟨bk, bn, bf, sb⟩ := b
  simp only at *
  clear hw2 B2
  obtain ⟨ka1, ka2⟩ := ka
  obtain ⟨kb1, kb2⟩ := kb
  generalize hy : w.heap.size = Y at *
  have START : Hid (∀ w3, Below w2.heap.size w2 w3 → Below Y w w3) := Lib.hid (fun w3 bb => B2h.out.trans (bb.mono (by have := B2h.out.size; omega)))
  by_cases o1 : op = 1
  · subst o1
    go_enter Try.func25, Try.ntmps25
    go_wp2_with fail
    rw [← W2.out]
    go_wp2_with fail
    refine (S.out _).mono ?_
    rintro e w3 ⟨rfl, bb⟩
    have B3h := Lib.hid (START.out w3 bb)
    clear bb a0 a1 a2 a3 b0 b1 b2 b3
    go_wp2_with fail
    all_goals (first | go_ret | go_ret2)
    all_goals exact ⟨rfl, B3h.out⟩
  by_cases o2 : op = 2
  · subst o2
    go_enter Try.func25, Try.ntmps25
    go_wp2_with fail
    rw [← W2.out]
    go_wp2_with fail
    refine (S.out _).mono ?_
    rintro e w3 ⟨rfl, bb⟩
    have B3h := Lib.hid (START.out w3 bb)
    clear bb a0 a1 a2 a3 b0 b1 b2 b3
    go_wp2_with fail
    all_goals (first | go_ret | go_ret2)
    all_goals exact ⟨rfl, B3h.out⟩
  by_cases o3 : op = 3
  · subst o3
    go_enter Try.func25, Try.ntmps25
    go_wp2_with fail
    rw [← W2.out]
    go_wp2_with fail
    refine (S.out _).mono ?_
    rintro e w3 ⟨rfl, bb⟩
    have B3h := Lib.hid (START.out w3 bb)
    clear bb a0 a1 a2 a3 b0 b1 b2 b3
    go_wp2_with fail
    all_goals (first | go_ret | go_ret2)
    all_goals exact ⟨rfl, B3h.out⟩
  by_cases o4 : op = 4
  · subst o4
    go_enter Try.func25, Try.ntmps25
    go_wp2_with fail
    rw [← W2.out]
    go_wp2_with fail
    refine (S.out _).mono ?_
    rintro e w3 ⟨rfl, bb⟩
    have B3h := Lib.hid (START.out w3 bb)
    clear bb a0 a1 a2 a3 b0 b1 b2 b3
    go_wp2_with fail
    all_goals (first | go_ret | go_ret2)
    all_goals exact ⟨rfl, B3h.out⟩
  by_cases o5 : op = 5
  · subst o5
    go_enter Try.func25, Try.ntmps25
    go_wp2_with fail
    rw [← W2.out]
    go_wp2_with fail
    refine (S.out _).mono ?_
    rintro e w3 ⟨rfl, bb⟩
    have B3h := Lib.hid (START.out w3 bb)
    clear bb a0 a1 a2 a3 b0 b1 b2 b3
    go_wp2_with fail
    all_goals (first | go_ret | go_ret2)
    all_goals exact ⟨rfl, B3h.out⟩
  by_cases o6 : op = 6
  · subst o6
    go_enter Try.func25, Try.ntmps25
    go_wp2_with fail
    rw [← W2.out]
    go_wp2_with fail
    refine (S.out _).mono ?_
    rintro e w3 ⟨rfl, bb⟩
    have B3h := Lib.hid (START.out w3 bb)
    clear bb a0 a1 a2 a3 b0 b1 b2 b3
    go_wp2_with fail
    all_goals (first | go_ret | go_ret2)
    all_goals exact ⟨rfl, B3h.out⟩
  rw [opS_else ⟨o1, o2, o3, o4, o5, o6⟩]
  have e1 : (op == 1) = false := by simpa using o1
  have e2 : (op == 2) = false := by simpa using o2
  have e3 : (op == 3) = false := by simpa using o3
  have e4 : (op == 4) = false := by simpa using o4
  have e5 : (op == 5) = false := by simpa using o5
  have e6 : (op == 6) = false := by simpa using o6
  clear o1 o2 o3 o4 o5 o6
  go_enter Try.func25, Try.ntmps25
  go_wp2_with fail
  rw [← W2.out]
  go_wp2_with fail
  refine (S.out _).mono ?_
  rintro e w3 ⟨rfl, bb⟩
  have B3h := Lib.hid (START.out w3 bb)
  clear bb a0 a1 a2 a3 b0 b1 b2 b3
  go_wp2_with fail
  all_goals (first | go_ret | go_ret2)
  all_goals exact ⟨rfl, B3h.out⟩
set_option maxHeartbeats 2000000 in
theorem rholds_gt (op : Int) (a b : Val) (ka : 1 ≤ a.k ∧ a.k ≤ 3) (kb : 1 ≤ b.k ∧ b.k ≤ 3) (S : Hid (∀ w, Calls Try.prog 54 #[.agg #[.int .i64 a.k, .int .i64 a.n, .float .f64 a.f, .string a.s], .agg #[.int .i64 b.k, .int .i64 b.n, .float .f64 b.f, .string b.s]] w fun e w' => e = .returned (.int .i64 (1)) ∧ Below w.heap.size w w')) (w : World) :
    Calls Try.prog 25 #[.int .i64 op, .agg #[.int .i64 a.k, .int .i64 a.n, .float .f64 a.f, .string a.s], .agg #[.int .i64 b.k, .int .i64 b.n, .float .f64 b.f, .string b.s]] w fun e w' => e = .returned (.bool (opS op 4)) ∧ Below w.heap.size w w' := by
  obtain ⟨w2, hw2, B2, A2, C2⟩ := boxed w a b 50 50
  have W2 := Lib.hid hw2
  have B2h := Lib.hid B2
  obtain ⟨a0, a1, a2, a3, la⟩ := A2
  obtain ⟨b0, b1, b2, b3, lb⟩ := C2
  obtain ⟨ak, an, af, sa⟩ := a
  obtain ⟨bk, bn, bf, sb⟩ := b
  simp only at *
  clear hw2 B2
  obtain ⟨ka1, ka2⟩ := ka
  obtain ⟨kb1, kb2⟩ := kb
  generalize hy : w.heap.size = Y at *
  have START : Hid (∀ w3, Below w2.heap.size w2 w3 → Below Y w w3) := Lib.hid (fun w3 bb => B2h.out.trans (bb.mono (by have := B2h.out.size; omega)))
  by_cases o1 : op = 1
  · subst o1
    go_enter Try.func25, Try.ntmps25
    go_wp2_with fail
    rw [← W2.out]
    go_wp2_with fail
    refine (S.out _).mono ?_
    rintro e w3 ⟨rfl, bb⟩
    have B3h := Lib.hid (START.out w3 bb)
    clear bb a0 a1 a2 a3 b0 b1 b2 b3
    go_wp2_with fail
    all_goals (first | go_ret | go_ret2)
    all_goals exact ⟨rfl, B3h.out⟩
  by_cases o2 : op = 2
  · subst o2
    go_enter Try.func25, Try.ntmps25
    go_wp2_with fail
    rw [← W2.out]
    go_wp2_with fail
    refine (S.out _).mono ?_
    rintro e w3 ⟨rfl, bb⟩
    have B3h := Lib.hid (START.out w3 bb)
    clear bb a0 a1 a2 a3 b0 b1 b2 b3
    go_wp2_with fail
    all_goals (first | go_ret | go_ret2)
    all_goals exact ⟨rfl, B3h.out⟩
  by_cases o3 : op = 3
  · subst o3
    go_enter Try.func25, Try.ntmps25
    go_wp2_with fail
    rw [← W2.out]
    go_wp2_with fail
    refine (S.out _).mono ?_
    rintro e w3 ⟨rfl, bb⟩
    have B3h := Lib.hid (START.out w3 bb)
    clear bb a0 a1 a2 a3 b0 b1 b2 b3
    go_wp2_with fail
    all_goals (first | go_ret | go_ret2)
    all_goals exact ⟨rfl, B3h.out⟩
  by_cases o4 : op = 4
  · subst o4
    go_enter Try.func25, Try.ntmps25
    go_wp2_with fail
    rw [← W2.out]
    go_wp2_with fail
    refine (S.out _).mono ?_
    rintro e w3 ⟨rfl, bb⟩
    have B3h := Lib.hid (START.out w3 bb)
    clear bb a0 a1 a2 a3 b0 b1 b2 b3
    go_wp2_with fail
    all_goals (first | go_ret | go_ret2)
    all_goals exact ⟨rfl, B3h.out⟩
  by_cases o5 : op = 5
  · subst o5
    go_enter Try.func25, Try.ntmps25
    go_wp2_with fail
    rw [← W2.out]
    go_wp2_with fail
    refine (S.out _).mono ?_
    rintro e w3 ⟨rfl, bb⟩
    have B3h := Lib.hid (START.out w3 bb)
    clear bb a0 a1 a2 a3 b0 b1 b2 b3
    go_wp2_with fail
    all_goals (first | go_ret | go_ret2)
    all_goals exact ⟨rfl, B3h.out⟩
  by_cases o6 : op = 6
  · subst o6
    go_enter Try.func25, Try.ntmps25
    go_wp2_with fail
    rw [← W2.out]
    go_wp2_with fail
    refine (S.out _).mono ?_
    rintro e w3 ⟨rfl, bb⟩
    have B3h := Lib.hid (START.out w3 bb)
    clear bb a0 a1 a2 a3 b0 b1 b2 b3
    go_wp2_with fail
    all_goals (first | go_ret | go_ret2)
    all_goals exact ⟨rfl, B3h.out⟩
  rw [opS_else ⟨o1, o2, o3, o4, o5, o6⟩]
  have e1 : (op == 1) = false := by simpa using o1
  have e2 : (op == 2) = false := by simpa using o2
  have e3 : (op == 3) = false := by simpa using o3
  have e4 : (op == 4) = false := by simpa using o4
  have e5 : (op == 5) = false := by simpa using o5
  have e6 : (op == 6) = false := by simpa using o6
  clear o1 o2 o3 o4 o5 o6
  go_enter Try.func25, Try.ntmps25
  go_wp2_with fail
  rw [← W2.out]
  go_wp2_with fail
  refine (S.out _).mono ?_
  rintro e w3 ⟨rfl, bb⟩
  have B3h := Lib.hid (START.out w3 bb)
  clear bb a0 a1 a2 a3 b0 b1 b2 b3
  go_wp2_with fail
  all_goals (first | go_ret | go_ret2)
  all_goals exact ⟨rfl, B3h.out⟩
set_option maxHeartbeats 2000000 in
theorem rholds_un (op : Int) (a b : Val) (ka : 1 ≤ a.k ∧ a.k ≤ 3) (kb : 1 ≤ b.k ∧ b.k ≤ 3) (S : Hid (∀ w, Calls Try.prog 54 #[.agg #[.int .i64 a.k, .int .i64 a.n, .float .f64 a.f, .string a.s], .agg #[.int .i64 b.k, .int .i64 b.n, .float .f64 b.f, .string b.s]] w fun e w' => e = .returned (.int .i64 (2)) ∧ Below w.heap.size w w')) (w : World) :
    Calls Try.prog 25 #[.int .i64 op, .agg #[.int .i64 a.k, .int .i64 a.n, .float .f64 a.f, .string a.s], .agg #[.int .i64 b.k, .int .i64 b.n, .float .f64 b.f, .string b.s]] w fun e w' => e = .returned (.bool (opS op 1)) ∧ Below w.heap.size w w' := by
  obtain ⟨w2, hw2, B2, A2, C2⟩ := boxed w a b 50 50
  have W2 := Lib.hid hw2
  have B2h := Lib.hid B2
  obtain ⟨a0, a1, a2, a3, la⟩ := A2
  obtain ⟨b0, b1, b2, b3, lb⟩ := C2
  obtain ⟨ak, an, af, sa⟩ := a
  obtain ⟨bk, bn, bf, sb⟩ := b
  simp only at *
  clear hw2 B2
  obtain ⟨ka1, ka2⟩ := ka
  obtain ⟨kb1, kb2⟩ := kb
  generalize hy : w.heap.size = Y at *
  have START : Hid (∀ w3, Below w2.heap.size w2 w3 → Below Y w w3) := Lib.hid (fun w3 bb => B2h.out.trans (bb.mono (by have := B2h.out.size; omega)))
  have R := Lib.hid (show (op == 2) = opS op 1 by
    unfold opS
    rw [if_neg (by decide)]
    by_cases h2 : op = 2
    · subst h2; rfl
    · have : (op == 2) = false := by simpa using h2
      rw [this]
      (repeat' split) <;> first | rfl | omega)
  go_enter Try.func25, Try.ntmps25
  go_wp2_with fail
  rw [← W2.out]
  go_wp2_with fail
  refine (S.out _).mono ?_
  rintro e w3 ⟨rfl, bb⟩
  have B3h := Lib.hid (START.out w3 bb)
  clear bb a0 a1 a2 a3 b0 b1 b2 b3
  go_wp2_with fail
  all_goals (first | go_ret | go_ret2)
  all_goals exact ⟨ret_bool R.out, B3h.out⟩
set_option maxHeartbeats 2000000 in
theorem rholds_none (op : Int) (a b : Val) (h : (isK a && isK b) = false) (w : World) :
    Calls Try.prog 25 #[.int .i64 op, .agg #[.int .i64 a.k, .int .i64 a.n, .float .f64 a.f, .string a.s], .agg #[.int .i64 b.k, .int .i64 b.n, .float .f64 b.f, .string b.s]] w fun e w' => e = .returned (.bool false) ∧ Below w.heap.size w w' := by
  have hc : a.k < 1 ∨ (1 ≤ a.k ∧ 3 < a.k) ∨ (1 ≤ a.k ∧ a.k ≤ 3 ∧ b.k < 1) ∨ (1 ≤ a.k ∧ a.k ≤ 3 ∧ 1 ≤ b.k ∧ 3 < b.k) := by
    unfold isK at h
    simp only [Bool.and_eq_false_iff, Bool.or_eq_false_iff, decide_eq_false_iff_not] at h
    omega
  obtain ⟨w2, hw2, B2, A2, C2⟩ := boxed w a b 50 50
  have W2 := Lib.hid hw2
  have B2h := Lib.hid B2
  obtain ⟨a0, a1, a2, a3, la⟩ := A2
  obtain ⟨b0, b1, b2, b3, lb⟩ := C2
  obtain ⟨ak, an, af, sa⟩ := a
  obtain ⟨bk, bn, bf, sb⟩ := b
  simp only at *
  clear hw2 B2 h
  generalize hy : w.heap.size = Y at *
  rcases hc with h1 | ⟨h1, h2⟩ | ⟨h1, h2, h3⟩ | ⟨h1, h2, h3, h4⟩
  all_goals
    go_enter Try.func25, Try.ntmps25
    go_wp2_with fail
    rw [← W2.out]
    go_wp2_with fail
    all_goals go_ret
    all_goals exact ⟨rfl, B2h.out⟩
theorem rholds_any (op : Int) (a b : Val) (ha : a.Wf) (hb : b.Wf) (w : World) : Calls Try.prog 25 #[.int .i64 op, a.val, b.val] w fun e w' => e = .returned (.bool (opS op (stV a b))) ∧ Below w.heap.size w w' := by
  by_cases hk : (isK a && isK b) = false
  · have e : stV a b = 0 := by unfold stV; rw [if_pos hk]
    rw [e]
    exact rholds_none op a b hk w
  · have ka : isK a = true := by cases e : isK a <;> simp_all
    have kb : isK b = true := by cases e : isK b <;> simp_all
    have S := rstands_any a b ha hb ka kb
    have hp := stV_pos ka kb
    have k1 := isK_cases ka
    have k2 := isK_cases kb
    rcases stV_range a b with h | h | h | h | h
    · exact absurd h hp
    · rw [h] at S ⊢; exact rholds_un op a b (by omega) (by omega) (Lib.hid S) w
    · rw [h] at S ⊢; exact rholds_lt op a b (by omega) (by omega) (Lib.hid S) w
    · rw [h] at S ⊢; exact rholds_eq op a b (by omega) (by omega) (Lib.hid S) w
    · rw [h] at S ⊢; exact rholds_gt op a b (by omega) (by omega) (Lib.hid S) w
end Go.Proofs.Ytgenefamhhncbaa
