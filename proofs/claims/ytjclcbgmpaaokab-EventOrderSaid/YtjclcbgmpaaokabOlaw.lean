/-
  THE LAW EventOrder AS A WALK.
-/
import Derived.Test.YtjclcbgmpaaokabHlaw
namespace Go.Proofs.Ytjclcbgmpaaokab
open Go.RowKit
/-- three values, boxed -/
theorem boxed3 (w : World) (a b c : Val) (t : TypeId) : ∃ w2, w2 = ((w.alloc (.cells #[.int .i64 a.k, .int .i64 a.n, .float .f64 a.f, .string a.s] t)).alloc (.cells #[.int .i64 b.k, .int .i64 b.n, .float .f64 b.f, .string b.s] t)).alloc (.cells #[.int .i64 c.k, .int .i64 c.n, .float .f64 c.f, .string c.s] t) ∧ Below w.heap.size w w2 ∧ VAt w2 w.heap.size a ∧ VAt w2 (w.heap.size + 1) b ∧ VAt w2 (w.heap.size + 1 + 1) c := by
  obtain ⟨w1, hw1, B1, A1, C1⟩ := boxed w a b t t
  have e : w1.heap.size = w.heap.size + 1 + 1 := by rw [hw1]; simp
  have b2 := (Below.refl w1.heap.size w1).alloc (Nat.le_refl _) (.cells #[.int .i64 c.k, .int .i64 c.n, .float .f64 c.f, .string c.s] t)
  refine ⟨_, by rw [← hw1], B1.trans (b2.mono (by omega)), A1.below b2, C1.below b2, ?_⟩
  rw [← e]
  exact VAt.new w1 c t
set_option maxHeartbeats 4000000 in
theorem order_core (a b c : Val) (x xb y z : Int) (O : Ord3 x xb y z)
    (X : Hid (∀ w, Calls Try.prog 26 #[.agg #[.int .i64 a.k, .int .i64 a.n, .float .f64 a.f, .string a.s], .agg #[.int .i64 b.k, .int .i64 b.n, .float .f64 b.f, .string b.s]] w fun e w' => e = .returned (.int .i64 x) ∧ Below w.heap.size w w'))
    (XB : Hid (∀ w, Calls Try.prog 26 #[.agg #[.int .i64 b.k, .int .i64 b.n, .float .f64 b.f, .string b.s], .agg #[.int .i64 a.k, .int .i64 a.n, .float .f64 a.f, .string a.s]] w fun e w' => e = .returned (.int .i64 xb) ∧ Below w.heap.size w w'))
    (Y : Hid (∀ w, Calls Try.prog 26 #[.agg #[.int .i64 b.k, .int .i64 b.n, .float .f64 b.f, .string b.s], .agg #[.int .i64 c.k, .int .i64 c.n, .float .f64 c.f, .string c.s]] w fun e w' => e = .returned (.int .i64 y) ∧ Below w.heap.size w w'))
    (Z : Hid (∀ w, Calls Try.prog 26 #[.agg #[.int .i64 a.k, .int .i64 a.n, .float .f64 a.f, .string a.s], .agg #[.int .i64 c.k, .int .i64 c.n, .float .f64 c.f, .string c.s]] w fun e w' => e = .returned (.int .i64 z) ∧ Below w.heap.size w w')) (w : World) :
    Calls Try.prog 9 #[.agg #[.int .i64 a.k, .int .i64 a.n, .float .f64 a.f, .string a.s], .agg #[.int .i64 b.k, .int .i64 b.n, .float .f64 b.f, .string b.s], .agg #[.int .i64 c.k, .int .i64 c.n, .float .f64 c.f, .string c.s]] w fun e w' => e = .returned (.bool true) ∧ Below w.heap.size w w' := by
  obtain ⟨w2, hw2, B2, A2, D2, E2⟩ := boxed3 w a b c 47
  have W2 := Lib.hid hw2
  have B2h := Lib.hid B2
  have A2h := Lib.hid A2
  have D2h := Lib.hid D2
  obtain ⟨a0, a1, a2, a3, la⟩ := A2
  obtain ⟨b0, b1, b2, b3, lb⟩ := D2
  obtain ⟨c0, c1, c2, c3, lc⟩ := E2
  obtain ⟨ak, an, af, sa⟩ := a
  obtain ⟨bk, bn, bf, sb⟩ := b
  obtain ⟨ck, cn, cf, sc⟩ := c
  simp only at *
  clear hw2 B2
  generalize hy : w.heap.size = Q at *
  have a0 := fun d os => cell_regrown a0 d os
  have a1 := fun d os => cell_regrown a1 d os
  have a2 := fun d os => cell_regrown a2 d os
  have a3 := fun d os => cell_regrown a3 d os
  have b0 := fun d os => cell_regrown b0 d os
  have b1 := fun d os => cell_regrown b1 d os
  have b2 := fun d os => cell_regrown b2 d os
  have b3 := fun d os => cell_regrown b3 d os
  have c0 := fun d os => cell_regrown c0 d os
  have c1 := fun d os => cell_regrown c1 d os
  have c2 := fun d os => cell_regrown c2 d os
  have c3 := fun d os => cell_regrown c3 d os
  have C1 := Lib.hid (fun d os => Calls.regrown_of (d := d) (os := os) (X.out (Go.Sort.grow (redrawn w2 d) os)))
  have C2 := Lib.hid (fun d os => Calls.regrown_of (d := d) (os := os) (Y.out (Go.Sort.grow (redrawn w2 d) os)))
  have C3 := Lib.hid (fun d os => Calls.regrown_of (d := d) (os := os) (Z.out (Go.Sort.grow (redrawn w2 d) os)))
  go_enter Try.func9, Try.ntmps9
  go_wp2_with fail
  rw [← W2.out]
  refine wp_region_quiet_below mixed (by kernel_rfl) ?_
  repeat (quiet_step (first | (with_reducible exact C1.out _ _) | (with_reducible exact C2.out _ _) | (with_reducible exact C3.out _ _)))
  refine wpQuiet_nil ?_
  intro _ hw'
  obtain ⟨⟨dq, osq⟩, hw''⟩ := hw'
  subst hw''
  have B3h := Lib.hid (B2h.out.trans ((below_regrown w2 dq osq).mono (by have := B2h.out.size; omega)))
  obtain ⟨a0, a1, a2, a3, la⟩ := A2h.out.below (below_regrown w2 dq osq)
  obtain ⟨b0, b1, b2, b3, lb⟩ := D2h.out.below (below_regrown w2 dq osq)
  have A3h := Lib.hid (A2h.out.below (below_regrown w2 dq osq))
  have D3h := Lib.hid (D2h.out.below (below_regrown w2 dq osq))
  simp only at a0 a1 a2 a3 b0 b1 b2 b3
  generalize Go.Sort.grow (redrawn w2 dq) osq = w3 at *
  clear C1 C2 C3 X Y Z c0 c1 c2 c3 A2h D2h B2h W2
  obtain ⟨vx, vy, vz, ob, ot⟩ := O
  have z3 : (z == 3) = false := by rcases vz with rfl | rfl | rfl | rfl <;> rfl
  have y3 : (y == 3) = false := by rcases vy with rfl | rfl | rfl | rfl <;> rfl
  by_cases x2 : x = 2
  · subst x2
    have e := ob.1 rfl
    subst e
    clear ob ot vx vy vz
    go_wp2_with fail
    refine (XB.out _).mono ?_
    rintro e w4 ⟨rfl, b4⟩
    obtain ⟨p0, p1, p2, p3, lp⟩ := A3h.out.below b4
    obtain ⟨q0, q1, q2, q3, lq⟩ := D3h.out.below b4
    simp only at p0 p1 p2 p3 q0 q1 q2 q3
    have B4h := Lib.hid (B3h.out.trans (b4.mono (by have := B3h.out.size; omega)))
    clear b4 a0 a1 a2 a3 b0 b1 b2 b3 A3h D3h B3h
    go_wp2_with fail
    refine (awake_any _).mono ?_
    rintro e w6 ⟨rfl, b6⟩
    have B6h := Lib.hid (B4h.out.trans (b6.mono (by have := B4h.out.size; omega)))
    clear b6 B4h
    go_wp2_with fail
    go_ret
    exact ⟨rfl, B6h.out⟩
  have exb := ob.2 x2
  subst exb
  clear ob
  by_cases y2 : y = 2
  · subst y2
    rcases vx with rfl | rfl | rfl | h
    case inr.inr.inr => exact absurd h x2
    all_goals
      clear ot vy vz x2
      try simp only [Int.neg_neg, Int.neg_zero, Int.reduceNeg] at XB
      go_wp2_with fail
      refine (XB.out _).mono ?_
      rintro e w4 ⟨rfl, b4⟩
      obtain ⟨p0, p1, p2, p3, lp⟩ := A3h.out.below b4
      obtain ⟨q0, q1, q2, q3, lq⟩ := D3h.out.below b4
      simp only at p0 p1 p2 p3 q0 q1 q2 q3
      have B4h := Lib.hid (B3h.out.trans (b4.mono (by have := B3h.out.size; omega)))
      clear b4 a0 a1 a2 a3 b0 b1 b2 b3 A3h D3h B3h
      go_wp2_with fail
      refine (XB.out _).mono ?_
      rintro e w5 ⟨rfl, b5⟩
      have B5h := Lib.hid (B4h.out.trans (b5.mono (by have := B4h.out.size; omega)))
      clear b5 p0 p1 p2 p3 q0 q1 q2 q3 B4h
      go_wp2_with fail
      refine (awake_any _).mono ?_
      rintro e w6 ⟨rfl, b6⟩
      have B6h := Lib.hid (B5h.out.trans (b6.mono (by have := B5h.out.size; omega)))
      clear b6 B5h
      go_wp2_with fail
      go_ret
      exact ⟨rfl, B6h.out⟩
  obtain ⟨t0, t1, t2, t3⟩ := ot x2 y2
  clear ot
  have zc : z = -1 ∨ z = 0 ∨ z = 1 := by omega
  rcases vx with rfl | rfl | rfl | h
  case inr.inr.inr => exact absurd h x2
  all_goals
    rcases vy with rfl | rfl | rfl | h
    case inr.inr.inr => exact absurd h y2
    all_goals
      rcases zc with rfl | rfl | rfl
      all_goals first
        | (exfalso; omega)
        | skip
  all_goals
    clear t0 t1 t2 t3 x2 y2 vz z3 y3
    try simp only [Int.neg_neg, Int.neg_zero, Int.reduceNeg] at XB
    go_wp2_with fail
    refine (XB.out _).mono ?_
    rintro e w4 ⟨rfl, b4⟩
    obtain ⟨p0, p1, p2, p3, lp⟩ := A3h.out.below b4
    obtain ⟨q0, q1, q2, q3, lq⟩ := D3h.out.below b4
    simp only at p0 p1 p2 p3 q0 q1 q2 q3
    have B4h := Lib.hid (B3h.out.trans (b4.mono (by have := B3h.out.size; omega)))
    clear b4 a0 a1 a2 a3 b0 b1 b2 b3 A3h D3h B3h
    go_wp2_with fail
    refine (XB.out _).mono ?_
    rintro e w5 ⟨rfl, b5⟩
    have B5h := Lib.hid (B4h.out.trans (b5.mono (by have := B4h.out.size; omega)))
    clear b5 p0 p1 p2 p3 q0 q1 q2 q3 B4h
    go_wp2_with fail
    refine (awake_any _).mono ?_
    rintro e w6 ⟨rfl, b6⟩
    have B6h := Lib.hid (B5h.out.trans (b6.mono (by have := B5h.out.size; omega)))
    clear b6 B5h
    go_wp2_with fail
    go_ret
    exact ⟨rfl, B6h.out⟩
theorem order_law (a b c : Val) (ha : a.Wf) (hb : b.Wf) (hc : c.Wf) (w : World) : Calls Try.prog 9 #[a.val, b.val, c.val] w fun e w' => e = .returned (.bool true) ∧ Below w.heap.size w w' :=
  order_core a b c _ _ _ _ (stV_order a b c) (Lib.hid (stands_any a b ha hb)) (Lib.hid (stands_any b a hb ha)) (Lib.hid (stands_any b c hb hc)) (Lib.hid (stands_any a c ha hc)) w
end Go.Proofs.Ytjclcbgmpaaokab
