/-
  THE LAWS RealOrder, RealSigns AS WALKS.
-/
import Derived.Test.YtiklaaganiafjaaLaws
namespace Go.Proofs.Ytiklaaganiafjaa
open Go.RowKit
theorem partN_lt {p q : Int} (hp0 : -9223372036854775808 ≤ p) (hp1 : p ≤ 9223372036854775807) (hq0 : -9223372036854775808 ≤ q) (hq1 : q ≤ 9223372036854775807) : partN p q < 18446744073709551616 := by
  by_cases hq : q = 0
  · unfold partN
    rw [if_pos hq]
    split
    · decide
    · split <;> decide
  · by_cases hp : p = 0
    · unfold partN
      rw [if_neg hq, if_pos hp]
      split <;> decide
    · exact (quo_end hp hq hp0 hp1 hq0 hq1 ⟨rfl, rfl⟩).2.2.2.2.2
theorem rank_nan {a : Nat} (h : isNan a = true) : rankN a = 18446744073709551615 := by unfold rankN; rw [if_pos h]
theorem rank_some {a : Nat} (ha : a < 18446744073709551616) (h : isNan a = false) : rankN a < 18446744073709551615 := by
  have h' : ¬ 9218868437227405312 < a % 9223372036854775808 := fun x => by rw [(isNan_iff a).2 x] at h; cases h
  unfold rankN
  rw [h, if_neg (by decide)]
  split <;> omega
theorem rank_rkey {a b : Nat} (h : isNan a = false) (h' : isNan b = false) (ha : a < 18446744073709551616) (hb : b < 18446744073709551616) :
    (rkey a ≠ rkey b → (rankN a < rankN b ↔ rkey a < rkey b)) ∧ (rankN a = rankN b → rkey a = rkey b) := by
  unfold rankN rkey
  simp only [h, h', Bool.false_eq_true, if_false]
  constructor <;> (repeat' split) <;> omega
theorem okO_of (ra rb rc : Nat) (ka kb : Int) (na nb e l : Bool)
    (h1 : na = true → ra = 18446744073709551615) (h1' : na = false → ra < 18446744073709551615) (h2 : nb = true → rb = 18446744073709551615) (h2' : nb = false → rb < 18446744073709551615)
    (h3 : na = false → nb = false → (ka ≠ kb → (ra < rb ↔ ka < kb)) ∧ (ra = rb → ka = kb) ∧ e = decide (ka = kb) ∧ l = decide (ka < kb))
    (h4 : na = true ∨ nb = true → e = false ∧ l = false) :
    okO (decide (ra < rb)) (decide (rb < ra)) (decide (ra = rb)) (decide (rb < rc)) (decide (ra < rc)) na nb e l = true := by
  cases na
  · cases nb
    · obtain ⟨g1, g2, rfl, rfl⟩ := h3 rfl rfl
      have h1' := h1' rfl
      have h2' := h2' rfl
      unfold okO
      rcases Nat.lt_trichotomy ra rb with t | t | t
      · by_cases k : ka = kb
        · by_cases u : rb < rc <;> by_cases v : ra < rc <;> simp [t, k, u, v, Nat.not_lt_of_lt t, Nat.ne_of_lt t] <;> omega
        · have := (g1 k).1 t
          by_cases u : rb < rc <;> by_cases v : ra < rc <;> simp [t, k, u, v, this, Nat.not_lt_of_lt t, Nat.ne_of_lt t] <;> omega
      · have k := g2 t
        subst t; subst k
        by_cases u : ra < rc <;> simp [u]
      · by_cases k : ka = kb
        · simp [t, k, Nat.not_lt_of_lt t, Nat.ne_of_gt t]
        · have := mt (g1 k).2 (by omega)
          simp [t, k, this, Nat.not_lt_of_lt t, Nat.ne_of_gt t]
    · obtain ⟨rfl, rfl⟩ := h4 (.inr rfl)
      have h1' := h1' rfl
      have h2 := h2 rfl
      subst h2
      unfold okO
      by_cases u : 18446744073709551615 < rc <;> by_cases v : ra < rc <;> simp [h1', u, v, Nat.not_lt_of_lt h1', Nat.ne_of_lt h1'] <;> omega
  · obtain ⟨rfl, rfl⟩ := h4 (.inl rfl)
    have h1 := h1 rfl
    subst h1
    cases nb
    · have h2' := h2' rfl
      unfold okO
      simp [h2', Nat.not_lt_of_lt h2', Nat.ne_of_gt h2']
    · have h2 := h2 rfl
      subst h2
      unfold okO
      by_cases u : 18446744073709551615 < rc <;> simp [u]
theorem ord_self (a : Nat) : (ord a a == some .eq) = !isNan a ∧ (ord a a != some .eq) = isNan a := by
  cases h : isNan a
  · rw [ord_some h h, compare_eq' rfl]; exact ⟨rfl, rfl⟩
  · rw [ord_none_left h]; exact ⟨rfl, rfl⟩
theorem order_law (a b c : Nat) (ha : a < 18446744073709551616) (hb : b < 18446744073709551616) (hc : c < 18446744073709551616) (w : World) :
    Calls Try.prog 8 #[.float .f64 a, .float .f64 b, .float .f64 c] w fun r w' => r = .returned (.bool true) ∧ w = w' := by
  refine order_core a b c (decide (rankN a < rankN b)) (decide (rankN b < rankN a)) (decide (rankN a = rankN b)) (decide (rankN b < rankN c)) (decide (rankN a < rankN c)) (isNan a) (isNan b) (ord a b == some .eq) (ord a b == some .lt)
    (okO_of _ _ _ (rkey a) (rkey b) _ _ _ _ rank_nan (rank_some ha) rank_nan (rank_some hb) ?_ ?_)
    (less_any a b ha hb) (less_any b a hb ha) (same_any a b ha hb) (less_any b c hb hc) (less_any a c ha hc) ?_ ?_ ?_ ?_ ?_ ?_ ?_ w
  · intro h1 h2
    refine ⟨(rank_rkey h1 h2 ha hb).1, (rank_rkey h1 h2 ha hb).2, ?_, ?_⟩
    · rw [ord_some h1 h2]
      rcases Int.lt_trichotomy (rkey a) (rkey b) with t | t | t
      · rw [compare_lt' t, decide_eq_false (by omega)]; rfl
      · rw [compare_eq' t, decide_eq_true t]; rfl
      · rw [compare_gt' t, decide_eq_false (by omega)]; rfl
    · rw [ord_some h1 h2]
      rcases Int.lt_trichotomy (rkey a) (rkey b) with t | t | t
      · rw [compare_lt' t, decide_eq_true t]; rfl
      · rw [compare_eq' t, decide_eq_false (by omega)]; rfl
      · rw [compare_gt' t, decide_eq_false (by omega)]; rfl
  · rintro (h | h)
    · rw [ord_none_left h]; exact ⟨rfl, rfl⟩
    · rw [ord_none_right h]; exact ⟨rfl, rfl⟩
  · rw [ord_order a a ha ha]; exact (ord_self a).1
  · rw [ord_order a a ha ha]; exact (ord_self a).2
  · rw [ord_order b b hb hb]; exact (ord_self b).1
  · rw [ord_order b b hb hb]; exact (ord_self b).2
  · rw [ord_order a b ha hb]
  · rw [ord_order a b ha hb]; cases ord a b <;> rfl
  · rw [ord_order a b ha hb]
theorem holds_at {op : Int} {x y : Nat} {b : Bool} (hx : x < 18446744073709551616) (hy : y < 18446744073709551616) (h : opO op (ord x y) = b) (w : World) : Calls Try.prog 15 #[.int .i64 op, .float .f64 x, .float .f64 y] w fun r w' => r = .returned (.bool b) ∧ w = w' := by
  rw [← h]; exact holds_any op x y hx hy w
set_option maxHeartbeats 4000000 in
theorem signs_core (a b : Nat) (na nb h1 h2 h3 h4 h5 h6 g : Bool)
    (ok : (if na || nb then !h1 && h2 && !h3 && !h4 && !h5 && !h6 else (h1 && !h2 && !h3 && h4 && !h5 && h6 && !g) || (!h1 && h2 && h3 && h4 && !h5 && !h6 && g) || (!h1 && h2 && !h3 && !h4 && h5 && h6 && !g)) = true)
    (H1 : ∀ w, Calls Try.prog 15 #[.int .i64 1, .float .f64 a, .float .f64 b] w fun r w' => r = .returned (.bool h1) ∧ w = w')
    (H2 : ∀ w, Calls Try.prog 15 #[.int .i64 2, .float .f64 a, .float .f64 b] w fun r w' => r = .returned (.bool h2) ∧ w = w')
    (H3 : ∀ w, Calls Try.prog 15 #[.int .i64 3, .float .f64 a, .float .f64 b] w fun r w' => r = .returned (.bool h3) ∧ w = w')
    (H4 : ∀ w, Calls Try.prog 15 #[.int .i64 4, .float .f64 a, .float .f64 b] w fun r w' => r = .returned (.bool h4) ∧ w = w')
    (H5 : ∀ w, Calls Try.prog 15 #[.int .i64 5, .float .f64 a, .float .f64 b] w fun r w' => r = .returned (.bool h5) ∧ w = w')
    (H6 : ∀ w, Calls Try.prog 15 #[.int .i64 6, .float .f64 a, .float .f64 b] w fun r w' => r = .returned (.bool h6) ∧ w = w')
    (G : ∀ w, Calls Try.prog 15 #[.int .i64 5, .float .f64 b, .float .f64 a] w fun r w' => r = .returned (.bool g) ∧ w = w')
    (q1 : (FloatKind.f64.format.order a a != some .eq) = na) (q2 : (FloatKind.f64.format.order b b != some .eq) = nb) (w : World) :
    Calls Try.prog 9 #[.float .f64 a, .float .f64 b] w fun r w' => r = .returned (.bool true) ∧ w = w' := by
  cases h1 <;> cases h2 <;> cases h3 <;> cases h4 <;> cases h5 <;> cases h6 <;> first
    | (exfalso; revert ok; clear H1 H2 H3 H4 H5 H6 G q1 q2; cases na <;> cases nb <;> cases g <;> decide)
    | (cases na <;> cases nb <;> cases g <;> first
      | (exfalso; revert ok; decide)
      | (go_enter Try.func9, Try.ntmps9
         go_wp2_with fail
         refine wp_loop_rounds 8 ?_
         rw [rounds_succ]
         go_wp2_with (first | (go_at_call 15; (first | (with_reducible refine (H1 _).mono ?_) | (with_reducible refine (H2 _).mono ?_) | (with_reducible refine (H3 _).mono ?_) | (with_reducible refine (H4 _).mono ?_) | (with_reducible refine (H5 _).mono ?_) | (with_reducible refine (H6 _).mono ?_) | (with_reducible refine (G _).mono ?_)); rintro r w1 ⟨rfl, rfl⟩) | (go_at_call 11; refine (awake_any _).mono ?_; rintro r w1 ⟨rfl, rfl⟩))
         rw [rounds_succ]
         go_wp2_with (first | (go_at_call 15; (first | (with_reducible refine (H1 _).mono ?_) | (with_reducible refine (H2 _).mono ?_) | (with_reducible refine (H3 _).mono ?_) | (with_reducible refine (H4 _).mono ?_) | (with_reducible refine (H5 _).mono ?_) | (with_reducible refine (H6 _).mono ?_) | (with_reducible refine (G _).mono ?_)); rintro r w1 ⟨rfl, rfl⟩) | (go_at_call 11; refine (awake_any _).mono ?_; rintro r w1 ⟨rfl, rfl⟩))
         rw [rounds_succ]
         go_wp2_with (first | (go_at_call 15; (first | (with_reducible refine (H1 _).mono ?_) | (with_reducible refine (H2 _).mono ?_) | (with_reducible refine (H3 _).mono ?_) | (with_reducible refine (H4 _).mono ?_) | (with_reducible refine (H5 _).mono ?_) | (with_reducible refine (H6 _).mono ?_) | (with_reducible refine (G _).mono ?_)); rintro r w1 ⟨rfl, rfl⟩) | (go_at_call 11; refine (awake_any _).mono ?_; rintro r w1 ⟨rfl, rfl⟩))
         rw [rounds_succ]
         go_wp2_with (first | (go_at_call 15; (first | (with_reducible refine (H1 _).mono ?_) | (with_reducible refine (H2 _).mono ?_) | (with_reducible refine (H3 _).mono ?_) | (with_reducible refine (H4 _).mono ?_) | (with_reducible refine (H5 _).mono ?_) | (with_reducible refine (H6 _).mono ?_) | (with_reducible refine (G _).mono ?_)); rintro r w1 ⟨rfl, rfl⟩) | (go_at_call 11; refine (awake_any _).mono ?_; rintro r w1 ⟨rfl, rfl⟩))
         rw [rounds_succ]
         go_wp2_with (first | (go_at_call 15; (first | (with_reducible refine (H1 _).mono ?_) | (with_reducible refine (H2 _).mono ?_) | (with_reducible refine (H3 _).mono ?_) | (with_reducible refine (H4 _).mono ?_) | (with_reducible refine (H5 _).mono ?_) | (with_reducible refine (H6 _).mono ?_) | (with_reducible refine (G _).mono ?_)); rintro r w1 ⟨rfl, rfl⟩) | (go_at_call 11; refine (awake_any _).mono ?_; rintro r w1 ⟨rfl, rfl⟩))
         rw [rounds_succ]
         go_wp2_with (first | (go_at_call 15; (first | (with_reducible refine (H1 _).mono ?_) | (with_reducible refine (H2 _).mono ?_) | (with_reducible refine (H3 _).mono ?_) | (with_reducible refine (H4 _).mono ?_) | (with_reducible refine (H5 _).mono ?_) | (with_reducible refine (H6 _).mono ?_) | (with_reducible refine (G _).mono ?_)); rintro r w1 ⟨rfl, rfl⟩) | (go_at_call 11; refine (awake_any _).mono ?_; rintro r w1 ⟨rfl, rfl⟩))
         rw [rounds_succ]
         go_wp2_with (first | (go_at_call 15; (first | (with_reducible refine (H1 _).mono ?_) | (with_reducible refine (H2 _).mono ?_) | (with_reducible refine (H3 _).mono ?_) | (with_reducible refine (H4 _).mono ?_) | (with_reducible refine (H5 _).mono ?_) | (with_reducible refine (H6 _).mono ?_) | (with_reducible refine (G _).mono ?_)); rintro r w1 ⟨rfl, rfl⟩) | (go_at_call 11; refine (awake_any _).mono ?_; rintro r w1 ⟨rfl, rfl⟩))
         go_ret
         exact ⟨rfl, rfl⟩))
theorem opO_ord (a b : Nat) (op : Int) (o : Option Ordering) (h : ord a b = o) : opO op (ord a b) = opO op o := by rw [h]
theorem signs_law (a b : Nat) (ha : a < 18446744073709551616) (hb : b < 18446744073709551616) (w : World) :
    Calls Try.prog 9 #[.float .f64 a, .float .f64 b] w fun r w' => r = .returned (.bool true) ∧ w = w' := by
  refine signs_core a b (isNan a) (isNan b) (opO 1 (ord a b)) (opO 2 (ord a b)) (opO 3 (ord a b)) (opO 4 (ord a b)) (opO 5 (ord a b)) (opO 6 (ord a b)) (opO 5 (ord b a)) ?_
    (holds_at ha hb rfl) (holds_at ha hb rfl) (holds_at ha hb rfl) (holds_at ha hb rfl) (holds_at ha hb rfl) (holds_at ha hb rfl) (holds_at hb ha rfl) ?_ ?_ w
  · by_cases h : isNan a = true
    · rw [ord_none_left h, h]; simp only [Bool.true_or, if_true]; decide
    · have h : isNan a = false := by simpa using h
      by_cases h' : isNan b = true
      · rw [ord_none_right h', h']; simp only [Bool.or_true, if_true]; decide
      · have h' : isNan b = false := by simpa using h'
        rw [ord_some h h', ord_some h' h, h, h']
        rcases Int.lt_trichotomy (rkey a) (rkey b) with t | t | t
        · rw [compare_lt' t, compare_gt' t]; decide
        · rw [compare_eq' t, compare_eq' t.symm]; decide
        · rw [compare_gt' t, compare_lt' t]; decide
  · rw [ord_order a a ha ha]; exact (ord_self a).2
  · rw [ord_order b b hb hb]; exact (ord_self b).2
end Go.Proofs.Ytiklaaganiafjaa
