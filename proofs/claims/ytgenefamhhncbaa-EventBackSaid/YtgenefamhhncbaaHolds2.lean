/-
  THE WALK OF event.Holds.
-/
import Derived.Test.YtgenefamhhncbaaStnd
namespace Go.Proofs.Ytgenefamhhncbaa
open Go.RowKit
theorem opS_zero (op : Int) : opS op 0 = false := rfl
theorem opS_1 {s : Int} (h : s ≠ 0) : opS 1 s = (s == 3) := by unfold opS; rw [if_neg h]; rfl
theorem opS_2 {s : Int} (h : s ≠ 0) : opS 2 s = (s != 3) := by unfold opS; rw [if_neg h]; rfl
theorem opS_3 {s : Int} (h : s ≠ 0) : opS 3 s = (s == 2) := by unfold opS; rw [if_neg h]; rfl
theorem opS_4 {s : Int} (h : s ≠ 0) : opS 4 s = (s == 2 || s == 3) := by unfold opS; rw [if_neg h]; rfl
theorem opS_5 {s : Int} (h : s ≠ 0) : opS 5 s = (s == 4) := by unfold opS; rw [if_neg h]; rfl
theorem opS_6 {s : Int} (h : s ≠ 0) : opS 6 s = (s == 4 || s == 3) := by unfold opS; rw [if_neg h]; rfl
theorem opS_else {op s : Int} (h : op ≠ 1 ∧ op ≠ 2 ∧ op ≠ 3 ∧ op ≠ 4 ∧ op ≠ 5 ∧ op ≠ 6) : opS op s = false := by
  unfold opS
  split
  · rfl
  · rw [if_neg h.1, if_neg h.2.1, if_neg h.2.2.1, if_neg h.2.2.2.1, if_neg h.2.2.2.2.1, if_neg h.2.2.2.2.2]
set_option maxHeartbeats 2000000 in
theorem evholds_core (op s : Int) (a b : Val) (S : Hid (∀ w, Calls Try.prog 53 #[.agg #[.int .i64 a.k, .int .i64 a.n, .float .f64 a.f, .string a.s], .agg #[.int .i64 b.k, .int .i64 b.n, .float .f64 b.f, .string b.s]] w fun e w' => e = .returned (.int .i64 s) ∧ Below w.heap.size w w')) (w : World) :
    Calls Try.prog 24 #[.int .i64 op, .agg #[.int .i64 a.k, .int .i64 a.n, .float .f64 a.f, .string a.s], .agg #[.int .i64 b.k, .int .i64 b.n, .float .f64 b.f, .string b.s]] w fun e w' => e = .returned (.bool (opS op s)) ∧ Below w.heap.size w w' := by
  obtain ⟨w2, hw2, B2, A2, C2⟩ := boxed w a b 47 47
  have W2 := Lib.hid hw2
  have B2h := Lib.hid B2
  obtain ⟨a0, a1, a2, a3, la⟩ := A2
  obtain ⟨b0, b1, b2, b3, lb⟩ := C2
  obtain ⟨ak, an, af, sa⟩ := a
  obtain ⟨bk, bn, bf, sb⟩ := b
  simp only at *
  clear hw2 B2
  generalize hy : w.heap.size = Y at *
  have START : Hid (∀ w3, Below w2.heap.size w2 w3 → Below Y w w3) := Lib.hid (fun w3 bb => B2h.out.trans (bb.mono (by have := B2h.out.size; omega)))
  by_cases s0 : s = 0
  · subst s0
    rw [opS_zero]
    go_enter Try.func24, Try.ntmps24
    go_wp2_with fail
    rw [← W2.out]
    go_wp2_with fail
    refine (S.out _).mono ?_
    rintro e w3 ⟨rfl, bb⟩
    have B3h := Lib.hid (START.out w3 bb)
    clear bb a0 a1 a2 a3 b0 b1 b2 b3
    go_wp2_with fail
    all_goals (first | go_ret | go_ret2)
    all_goals exact ⟨by (first | rfl | (exact ret_bool (by simp_all))), B3h.out⟩
  have d0 : (s == 0) = false := by simpa using s0
  by_cases o1 : op = 1
  · subst o1
    rw [opS_1 s0]
    clear s0
    go_enter Try.func24, Try.ntmps24
    go_wp2_with fail
    rw [← W2.out]
    go_wp2_with fail
    refine (S.out _).mono ?_
    rintro e w3 ⟨rfl, bb⟩
    have B3h := Lib.hid (START.out w3 bb)
    clear bb a0 a1 a2 a3 b0 b1 b2 b3
    go_wp2_with fail
    all_goals (first | go_ret | go_ret2)
    all_goals exact ⟨by (first | rfl | (exact ret_bool (by simp_all))), B3h.out⟩
  by_cases o2 : op = 2
  · subst o2
    rw [opS_2 s0]
    clear s0
    go_enter Try.func24, Try.ntmps24
    go_wp2_with fail
    rw [← W2.out]
    go_wp2_with fail
    refine (S.out _).mono ?_
    rintro e w3 ⟨rfl, bb⟩
    have B3h := Lib.hid (START.out w3 bb)
    clear bb a0 a1 a2 a3 b0 b1 b2 b3
    go_wp2_with fail
    all_goals (first | go_ret | go_ret2)
    all_goals exact ⟨by (first | rfl | (exact ret_bool (by simp_all))), B3h.out⟩
  by_cases o3 : op = 3
  · subst o3
    rw [opS_3 s0]
    clear s0
    go_enter Try.func24, Try.ntmps24
    go_wp2_with fail
    rw [← W2.out]
    go_wp2_with fail
    refine (S.out _).mono ?_
    rintro e w3 ⟨rfl, bb⟩
    have B3h := Lib.hid (START.out w3 bb)
    clear bb a0 a1 a2 a3 b0 b1 b2 b3
    go_wp2_with fail
    all_goals (first | go_ret | go_ret2)
    all_goals exact ⟨by (first | rfl | (exact ret_bool (by simp_all))), B3h.out⟩
  by_cases o4 : op = 4
  · subst o4
    rw [opS_4 s0]
    clear s0
    go_enter Try.func24, Try.ntmps24
    go_wp2_with fail
    rw [← W2.out]
    go_wp2_with fail
    refine (S.out _).mono ?_
    rintro e w3 ⟨rfl, bb⟩
    have B3h := Lib.hid (START.out w3 bb)
    clear bb a0 a1 a2 a3 b0 b1 b2 b3
    go_wp2_with fail
    all_goals (first | go_ret | go_ret2)
    all_goals exact ⟨by (first | rfl | (exact ret_bool (by simp_all))), B3h.out⟩
  by_cases o5 : op = 5
  · subst o5
    rw [opS_5 s0]
    clear s0
    go_enter Try.func24, Try.ntmps24
    go_wp2_with fail
    rw [← W2.out]
    go_wp2_with fail
    refine (S.out _).mono ?_
    rintro e w3 ⟨rfl, bb⟩
    have B3h := Lib.hid (START.out w3 bb)
    clear bb a0 a1 a2 a3 b0 b1 b2 b3
    go_wp2_with fail
    all_goals (first | go_ret | go_ret2)
    all_goals exact ⟨by (first | rfl | (exact ret_bool (by simp_all))), B3h.out⟩
  by_cases o6 : op = 6
  · subst o6
    rw [opS_6 s0]
    clear s0
    go_enter Try.func24, Try.ntmps24
    go_wp2_with fail
    rw [← W2.out]
    go_wp2_with fail
    refine (S.out _).mono ?_
    rintro e w3 ⟨rfl, bb⟩
    have B3h := Lib.hid (START.out w3 bb)
    clear bb a0 a1 a2 a3 b0 b1 b2 b3
    go_wp2_with fail
    all_goals (first | go_ret | go_ret2)
    all_goals exact ⟨by (first | rfl | (exact ret_bool (by simp_all))), B3h.out⟩
  rw [opS_else ⟨o1, o2, o3, o4, o5, o6⟩]
  have e1 : (op == 1) = false := by simpa using o1
  have e2 : (op == 2) = false := by simpa using o2
  have e3 : (op == 3) = false := by simpa using o3
  have e4 : (op == 4) = false := by simpa using o4
  have e5 : (op == 5) = false := by simpa using o5
  have e6 : (op == 6) = false := by simpa using o6
  clear s0 o1 o2 o3 o4 o5 o6
  go_enter Try.func24, Try.ntmps24
  go_wp2_with fail
  rw [← W2.out]
  go_wp2_with fail
  refine (S.out _).mono ?_
  rintro e w3 ⟨rfl, bb⟩
  have B3h := Lib.hid (START.out w3 bb)
  clear bb a0 a1 a2 a3 b0 b1 b2 b3
  go_wp2_with fail
  all_goals (first | go_ret | go_ret2)
  all_goals exact ⟨by (first | rfl | (exact ret_bool (by simp_all))), B3h.out⟩
theorem evholds_any (op : Int) (a b : Val) (ha : a.Wf) (hb : b.Wf) (w : World) : Calls Try.prog 24 #[.int .i64 op, a.val, b.val] w fun e w' => e = .returned (.bool (opS op (stV a b))) ∧ Below w.heap.size w w' :=
  evholds_core op (stV a b) a b (Lib.hid (stand_any a b ha hb)) w
end Go.Proofs.Ytgenefamhhncbaa
