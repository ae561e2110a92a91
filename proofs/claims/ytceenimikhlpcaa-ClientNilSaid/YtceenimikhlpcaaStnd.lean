/-
  THE WALKS OF event.stand, event.Holds.
-/
import Derived.Test.YtceenimikhlpcaaMixed
namespace Go.Proofs.Ytceenimikhlpcaa
open Go.RowKit
theorem Val.blk (v : Val) : v.val = .agg #[.int .i64 v.k, .int .i64 v.n, .float .f64 v.f, .string v.s] := rfl
/-- four cells of a value -/
structure VAt (w : World) (g : Nat) (v : Val) : Prop where
  c0 : w.cell? ⟨g, 0, none⟩ = some (.int .i64 v.k)
  c1 : w.cell? ⟨g, 1, none⟩ = some (.int .i64 v.n)
  c2 : w.cell? ⟨g, 2, none⟩ = some (.float .f64 v.f)
  c3 : w.cell? ⟨g, 3, none⟩ = some (.string v.s)
  lt : g < w.heap.size
theorem VAt.new (w : World) (v : Val) (t : TypeId) : VAt (w.alloc (.cells #[.int .i64 v.k, .int .i64 v.n, .float .f64 v.f, .string v.s] t)) w.heap.size v := by
  have h := heap_alloc_new w (.cells #[.int .i64 v.k, .int .i64 v.n, .float .f64 v.f, .string v.s] t)
  refine ⟨?_, ?_, ?_, ?_, by simp⟩
  · rw [cell_of_row _ _ 0 _ _ _ h]; rfl
  · rw [cell_of_row _ _ 1 _ _ _ h]; rfl
  · rw [cell_of_row _ _ 2 _ _ _ h]; rfl
  · rw [cell_of_row _ _ 3 _ _ _ h]; rfl
theorem VAt.below {w w' : World} {g : Nat} {v : Val} (h : VAt w g v) (hb : Below w.heap.size w w') : VAt w' g v :=
  ⟨by rw [hb.cell (p := ⟨g, 0, none⟩) h.lt]; exact h.c0, by rw [hb.cell (p := ⟨g, 1, none⟩) h.lt]; exact h.c1, by rw [hb.cell (p := ⟨g, 2, none⟩) h.lt]; exact h.c2, by rw [hb.cell (p := ⟨g, 3, none⟩) h.lt]; exact h.c3, Nat.lt_of_lt_of_le h.lt hb.size⟩
/-- the two values of a call, boxed -/
theorem boxed (w : World) (a b : Val) (t u : TypeId) : ∃ w2, w2 = (w.alloc (.cells #[.int .i64 a.k, .int .i64 a.n, .float .f64 a.f, .string a.s] t)).alloc (.cells #[.int .i64 b.k, .int .i64 b.n, .float .f64 b.f, .string b.s] u) ∧ Below w.heap.size w w2 ∧ VAt w2 w.heap.size a ∧ VAt w2 (w.heap.size + 1) b := by
  have b1 := (Below.refl w.heap.size w).alloc (Nat.le_refl _) (.cells #[.int .i64 a.k, .int .i64 a.n, .float .f64 a.f, .string a.s] t)
  refine ⟨_, rfl, b1.alloc (by simp) _, ?_, ?_⟩
  · exact (VAt.new w a t).below ((Below.refl _ _).alloc (Nat.le_refl _) _)
  · have := VAt.new (w.alloc (.cells #[.int .i64 a.k, .int .i64 a.n, .float .f64 a.f, .string a.s] t)) b u
    simpa using this
/-! ### what stV says at each pair of kinds -/
theorem stV_33 (an bn : Int) (af bf : Nat) (sa sb : ByteArray) : stV ⟨3, an, af, sa⟩ ⟨3, bn, bf, sb⟩ = tri (ltS sa sb) (ltS sb sa) := by simp [stV, isK]
theorem stV_31 (an bn : Int) (af bf : Nat) (sa sb : ByteArray) : stV ⟨3, an, af, sa⟩ ⟨1, bn, bf, sb⟩ = 1 := by simp [stV, isK]
theorem stV_32 (an bn : Int) (af bf : Nat) (sa sb : ByteArray) : stV ⟨3, an, af, sa⟩ ⟨2, bn, bf, sb⟩ = 1 := by simp [stV, isK]
theorem stV_13 (an bn : Int) (af bf : Nat) (sa sb : ByteArray) : stV ⟨1, an, af, sa⟩ ⟨3, bn, bf, sb⟩ = 1 := by simp [stV, isK]
theorem stV_23 (an bn : Int) (af bf : Nat) (sa sb : ByteArray) : stV ⟨2, an, af, sa⟩ ⟨3, bn, bf, sb⟩ = 1 := by simp [stV, isK]
theorem stV_11 (an bn : Int) (af bf : Nat) (sa sb : ByteArray) (ha0 : -9223372036854775808 ≤ an) (ha1 : an ≤ 9223372036854775807) (hb0 : -9223372036854775808 ≤ bn) (hb1 : bn ≤ 9223372036854775807) :
    stV ⟨1, an, af, sa⟩ ⟨1, bn, bf, sb⟩ = trI an bn := by
  have key : ∀ m n : Int, -9223372036854775808 ≤ m → m ≤ 9223372036854775807 → -9223372036854775808 ≤ n → n ≤ 9223372036854775807 → ltP (wk m, m - wholeV m) (wk n, n - wholeV n) = decide (m < n) := by
    intro m n m0 m1 n0 n1
    apply Bool.eq_iff_iff.2
    rw [ltP_iff]
    simp only [decide_eq_true_eq]
    constructor
    · rintro (h | ⟨h, h'⟩)
      · apply Int.lt_of_not_ge
        intro hg
        have := wk_mono n0 n1 m0 m1 hg
        omega
      · have := wk_inj m0 m1 n0 n1 h
        omega
    · intro h
      have h1 := wk_mono m0 m1 n0 n1 (Int.le_of_lt h)
      by_cases he : wk m = wk n
      · right
        have := wk_inj m0 m1 n0 n1 he
        exact ⟨he, by omega⟩
      · left; omega
  have e : stV ⟨1, an, af, sa⟩ ⟨1, bn, bf, sb⟩ = tri (ltP (wk an, an - wholeV an) (wk bn, bn - wholeV bn)) (ltP (wk bn, bn - wholeV bn) (wk an, an - wholeV an)) := by simp [stV, isK, nanV, nk]
  rw [e, key an bn ha0 ha1 hb0 hb1, key bn an hb0 hb1 ha0 ha1]
  unfold trI tri
  by_cases h1 : an < bn
  · simp [h1]
  · by_cases h2 : an = bn
    · subst h2; simp
    · have h3 : bn < an := by omega
      simp [h1, h2, h3]
theorem stV_12 (an bn : Int) (af bf : Nat) (sa sb : ByteArray) : stV ⟨1, an, af, sa⟩ ⟨2, bn, bf, sb⟩ = mxI an bf := by simp [stV, isK, nanV, nk, mxI]
theorem tri_turn (x y : Bool) (h : x = true → y = false) : tnI (tri x y) = tri y x := by cases x <;> cases y <;> first | rfl | (simp at h)
theorem stV_21 (an bn : Int) (af bf : Nat) (sa sb : ByteArray) : stV ⟨2, an, af, sa⟩ ⟨1, bn, bf, sb⟩ = tnI (mxI bn af) := by
  have e : stV ⟨2, an, af, sa⟩ ⟨1, bn, bf, sb⟩ = if isNan af = true then 1 else tri (ltP (rkey af, 0) (wk bn, bn - wholeV bn)) (ltP (wk bn, bn - wholeV bn) (rkey af, 0)) := by simp [stV, isK, nanV, nk]
  rw [e]
  unfold mxI
  by_cases hn : isNan af = true
  · simp [hn, tnI]
  · simp only [hn, if_false, Bool.false_eq_true]
    exact (tri_turn _ _ (weakP.irr _ _)).symm
theorem trO_cmp (a b : Int) : trO (some (compare a b)) = tri (ltP (a, 0) (b, 0)) (ltP (b, 0) (a, 0)) := by
  rcases Int.lt_trichotomy a b with h | h | h
  · rw [compare_lt' h]
    have : ltP (a, 0) (b, 0) = true := (ltP_iff _ _).2 (.inl h)
    rw [this]; rfl
  · subst h
    rw [compare_eq' rfl]
    have : ltP (a, 0) (a, 0) = false := (ltP_not _ _).2 (by simp)
    rw [this]; rfl
  · rw [compare_gt' h]
    have h1 : ltP (b, 0) (a, 0) = true := (ltP_iff _ _).2 (.inl h)
    have h2 : ltP (a, 0) (b, 0) = false := weakP.irr _ _ h1
    rw [h1, h2]; rfl
theorem stV_22 (an bn : Int) (af bf : Nat) (sa sb : ByteArray) : stV ⟨2, an, af, sa⟩ ⟨2, bn, bf, sb⟩ = trO (ord af bf) := by
  have e : stV ⟨2, an, af, sa⟩ ⟨2, bn, bf, sb⟩ = if isNan af = true ∨ isNan bf = true then 1 else tri (ltP (rkey af, 0) (rkey bf, 0)) (ltP (rkey bf, 0) (rkey af, 0)) := by simp [stV, isK, nanV, nk]
  rw [e]
  by_cases h1 : isNan af = true
  · rw [if_pos (.inl h1), ord_none_left h1]; rfl
  · by_cases h2 : isNan bf = true
    · rw [if_pos (.inr h2), ord_none_right h2]; rfl
    · rw [if_neg (by simp [h1, h2]), ord_some (by simpa using h1) (by simpa using h2), trO_cmp]
theorem isK_cases {v : Val} (h : isK v = true) : v.k = 1 ∨ v.k = 2 ∨ v.k = 3 := by
  unfold isK at h
  simp only [Bool.or_eq_true, decide_eq_true_eq] at h
  omega
end Go.Proofs.Ytceenimikhlpcaa
