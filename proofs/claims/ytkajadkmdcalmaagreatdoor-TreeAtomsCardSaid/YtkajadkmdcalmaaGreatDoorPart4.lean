/-
  WHAT THE ROWS REST ON, part 4: Stnd Holds2.
-/
import Derived.Test.YtkajadkmdcalmaaGreatDoorPart3
/-
  THE WALKS OF event.stand, event.Holds.
-/
namespace Go.Proofs.YtkajadkmdcalmaaGreatDoor
open Go.RowKit
theorem Val.blk (v : Val) : v.val = .agg #[.int .i64 v.k, .int .i64 v.n, .float .f64 v.f, .string v.s] := rfl
/-- four cells of a value -/
structure VAt (w : World) (g : Nat) (v : Val) : Prop where
  c0 : w.cell? ⟨g, 0, none⟩ = some (.int .i64 v.k)
  c1 : w.cell? ⟨g, 1, none⟩ = some (.int .i64 v.n)
  c2 : w.cell? ⟨g, 2, none⟩ = some (.float .f64 v.f)
  c3 : w.cell? ⟨g, 3, none⟩ = some (.string v.s)
  lt : g < w.heap.size
theorem VAt.new (w : World) (v : Val) (t : TypeId) : VAt (w.alloc (.cells #[.int .i64 v.k, .int .i64 v.n, .float .f64 v.f, .string v.s] t)) w.heap.size v := by
  have h := heap_alloc_new w (.cells #[.int .i64 v.k, .int .i64 v.n, .float .f64 v.f, .string v.s] t)
  refine ⟨?_, ?_, ?_, ?_, by simp⟩
  · rw [cell_of_row _ _ 0 _ _ _ h]; rfl
  · rw [cell_of_row _ _ 1 _ _ _ h]; rfl
  · rw [cell_of_row _ _ 2 _ _ _ h]; rfl
  · rw [cell_of_row _ _ 3 _ _ _ h]; rfl
theorem VAt.below {w w' : World} {g : Nat} {v : Val} (h : VAt w g v) (hb : Below w.heap.size w w') : VAt w' g v :=
  ⟨by rw [hb.cell (p := ⟨g, 0, none⟩) h.lt]; exact h.c0, by rw [hb.cell (p := ⟨g, 1, none⟩) h.lt]; exact h.c1, by rw [hb.cell (p := ⟨g, 2, none⟩) h.lt]; exact h.c2, by rw [hb.cell (p := ⟨g, 3, none⟩) h.lt]; exact h.c3, Nat.lt_of_lt_of_le h.lt hb.size⟩
/-- the two values of a call, boxed -/
theorem boxed (w : World) (a b : Val) (t u : TypeId) : ∃ w2, w2 = (w.alloc (.cells #[.int .i64 a.k, .int .i64 a.n, .float .f64 a.f, .string a.s] t)).alloc (.cells #[.int .i64 b.k, .int .i64 b.n, .float .f64 b.f, .string b.s] u) ∧ Below w.heap.size w w2 ∧ VAt w2 w.heap.size a ∧ VAt w2 (w.heap.size + 1) b := by
  have b1 := (Below.refl w.heap.size w).alloc (Nat.le_refl _) (.cells #[.int .i64 a.k, .int .i64 a.n, .float .f64 a.f, .string a.s] t)
  refine ⟨_, rfl, b1.alloc (by simp) _, ?_, ?_⟩
  · exact (VAt.new w a t).below ((Below.refl _ _).alloc (Nat.le_refl _) _)
  · have := VAt.new (w.alloc (.cells #[.int .i64 a.k, .int .i64 a.n, .float .f64 a.f, .string a.s] t)) b u
    simpa using this
/-! ### what stV says at each pair of kinds -/
theorem stV_33 (an bn : Int) (af bf : Nat) (sa sb : ByteArray) : stV ⟨3, an, af, sa⟩ ⟨3, bn, bf, sb⟩ = tri (ltS sa sb) (ltS sb sa) := by simp [stV, isK]
theorem stV_31 (an bn : Int) (af bf : Nat) (sa sb : ByteArray) : stV ⟨3, an, af, sa⟩ ⟨1, bn, bf, sb⟩ = 1 := by simp [stV, isK]
theorem stV_32 (an bn : Int) (af bf : Nat) (sa sb : ByteArray) : stV ⟨3, an, af, sa⟩ ⟨2, bn, bf, sb⟩ = 1 := by simp [stV, isK]
theorem stV_13 (an bn : Int) (af bf : Nat) (sa sb : ByteArray) : stV ⟨1, an, af, sa⟩ ⟨3, bn, bf, sb⟩ = 1 := by simp [stV, isK]
theorem stV_23 (an bn : Int) (af bf : Nat) (sa sb : ByteArray) : stV ⟨2, an, af, sa⟩ ⟨3, bn, bf, sb⟩ = 1 := by simp [stV, isK]
theorem stV_11 (an bn : Int) (af bf : Nat) (sa sb : ByteArray) (ha0 : -9223372036854775808 ≤ an) (ha1 : an ≤ 9223372036854775807) (hb0 : -9223372036854775808 ≤ bn) (hb1 : bn ≤ 9223372036854775807) :
    stV ⟨1, an, af, sa⟩ ⟨1, bn, bf, sb⟩ = trI an bn := by
  have key : ∀ m n : Int, -9223372036854775808 ≤ m → m ≤ 9223372036854775807 → -9223372036854775808 ≤ n → n ≤ 9223372036854775807 → ltP (wk m, m - wholeV m) (wk n, n - wholeV n) = decide (m < n) := by
    intro m n m0 m1 n0 n1
    apply Bool.eq_iff_iff.2
    rw [ltP_iff]
    simp only [decide_eq_true_eq]
    constructor
    · rintro (h | ⟨h, h'⟩)
      · apply Int.lt_of_not_ge
        intro hg
        have := wk_mono n0 n1 m0 m1 hg
        omega
      · have := wk_inj m0 m1 n0 n1 h
        omega
    · intro h
      have h1 := wk_mono m0 m1 n0 n1 (Int.le_of_lt h)
      by_cases he : wk m = wk n
      · right
        have := wk_inj m0 m1 n0 n1 he
        exact ⟨he, by omega⟩
      · left; omega
  have e : stV ⟨1, an, af, sa⟩ ⟨1, bn, bf, sb⟩ = tri (ltP (wk an, an - wholeV an) (wk bn, bn - wholeV bn)) (ltP (wk bn, bn - wholeV bn) (wk an, an - wholeV an)) := by simp [stV, isK, nanV, nk]
  rw [e, key an bn ha0 ha1 hb0 hb1, key bn an hb0 hb1 ha0 ha1]
  unfold trI tri
  by_cases h1 : an < bn
  · simp [h1]
  · by_cases h2 : an = bn
    · subst h2; simp
    · have h3 : bn < an := by omega
      simp [h1, h2, h3]
theorem stV_12 (an bn : Int) (af bf : Nat) (sa sb : ByteArray) : stV ⟨1, an, af, sa⟩ ⟨2, bn, bf, sb⟩ = mxI an bf := by simp [stV, isK, nanV, nk, mxI]
theorem tri_turn (x y : Bool) (h : x = true → y = false) : tnI (tri x y) = tri y x := by cases x <;> cases y <;> first | rfl | (simp at h)
theorem stV_21 (an bn : Int) (af bf : Nat) (sa sb : ByteArray) : stV ⟨2, an, af, sa⟩ ⟨1, bn, bf, sb⟩ = tnI (mxI bn af) := by
  have e : stV ⟨2, an, af, sa⟩ ⟨1, bn, bf, sb⟩ = if isNan af = true then 1 else tri (ltP (rkey af, 0) (wk bn, bn - wholeV bn)) (ltP (wk bn, bn - wholeV bn) (rkey af, 0)) := by simp [stV, isK, nanV, nk]
  rw [e]
  unfold mxI
  by_cases hn : isNan af = true
  · simp [hn, tnI]
  · simp only [hn, if_false, Bool.false_eq_true]
    exact (tri_turn _ _ (weakP.irr _ _)).symm
theorem trO_cmp (a b : Int) : trO (some (compare a b)) = tri (ltP (a, 0) (b, 0)) (ltP (b, 0) (a, 0)) := by
  rcases Int.lt_trichotomy a b with h | h | h
  · rw [compare_lt' h]
    have : ltP (a, 0) (b, 0) = true := (ltP_iff _ _).2 (.inl h)
    rw [this]; rfl
  · subst h
    rw [compare_eq' rfl]
    have : ltP (a, 0) (a, 0) = false := (ltP_not _ _).2 (by simp)
    rw [this]; rfl
  · rw [compare_gt' h]
    have h1 : ltP (b, 0) (a, 0) = true := (ltP_iff _ _).2 (.inl h)
    have h2 : ltP (a, 0) (b, 0) = false := weakP.irr _ _ h1
    rw [h1, h2]; rfl
theorem stV_22 (an bn : Int) (af bf : Nat) (sa sb : ByteArray) : stV ⟨2, an, af, sa⟩ ⟨2, bn, bf, sb⟩ = trO (ord af bf) := by
  have e : stV ⟨2, an, af, sa⟩ ⟨2, bn, bf, sb⟩ = if isNan af = true ∨ isNan bf = true then 1 else tri (ltP (rkey af, 0) (rkey bf, 0)) (ltP (rkey bf, 0) (rkey af, 0)) := by simp [stV, isK, nanV, nk]
  rw [e]
  by_cases h1 : isNan af = true
  · rw [if_pos (.inl h1), ord_none_left h1]; rfl
  · by_cases h2 : isNan bf = true
    · rw [if_pos (.inr h2), ord_none_right h2]; rfl
    · rw [if_neg (by simp [h1, h2]), ord_some (by simpa using h1) (by simpa using h2), trO_cmp]
set_option maxHeartbeats 1000000 in
theorem stand_11 (an bn : Int) (af bf : Nat) (sa sb : ByteArray) (_ha0 : -9223372036854775808 ≤ an) (_ha1 : an ≤ 9223372036854775807) (_hb0 : -9223372036854775808 ≤ bn) (_hb1 : bn ≤ 9223372036854775807) (_haf : af < 18446744073709551616) (_hbf : bf < 18446744073709551616) (w : World) :
    Calls Tryz.prog 49 #[.agg #[.int .i64 1, .int .i64 an, .float .f64 af, .string sa], .agg #[.int .i64 1, .int .i64 bn, .float .f64 bf, .string sb]] w fun e w' => e = .returned (.int .i64 (trI an bn)) ∧ Below w.heap.size w w' := by
  obtain ⟨w2, hw2, B2, A2, C2⟩ := boxed w ⟨1, an, af, sa⟩ ⟨1, bn, bf, sb⟩ 72 72
  have KA := Lib.hid (fun w => show Calls Tryz.prog 72 #[.agg #[.int .i64 1, .int .i64 an, .float .f64 af, .string sa]] w (fun e w' => e = .returned (.bool true) ∧ Below w.heap.size w w') from kind_any ⟨1, an, af, sa⟩ w)
  have KB := Lib.hid (fun w => show Calls Tryz.prog 72 #[.agg #[.int .i64 1, .int .i64 bn, .float .f64 bf, .string sb]] w (fun e w' => e = .returned (.bool true) ∧ Below w.heap.size w w') from kind_any ⟨1, bn, bf, sb⟩ w)
  have W2 := Lib.hid hw2
  have B2h := Lib.hid B2
  have A2h := Lib.hid A2
  have C2h := Lib.hid C2
  clear hw2 B2 A2 C2
  generalize hy : w.heap.size = Y at *
  go_enter Tryz.func49, Tryz.ntmps49
  go_wp2_with fail
  rw [← W2.out]
  refine (KA.out _).mono ?_
  rintro e w3 ⟨rfl, b3⟩
  have A3h := Lib.hid (A2h.out.below b3)
  have C3h := Lib.hid (C2h.out.below b3)
  have B3h := Lib.hid (B2h.out.trans (b3.mono (by have := B2h.out.size; omega)))
  obtain ⟨b0, b1, b2, b3', lb⟩ := C2h.out.below b3
  simp only at b0 b1 b2 b3'
  clear b3 A2h C2h B2h
  go_wp2_with fail
  refine (KB.out _).mono ?_
  rintro e w4 ⟨rfl, b4⟩
  obtain ⟨a0, a1, a2, a3, la⟩ := A3h.out.below b4
  obtain ⟨d0, d1, d2, d3, ld⟩ := C3h.out.below b4
  simp only at a0 a1 a2 a3 d0 d1 d2 d3
  have B4h := Lib.hid (B3h.out.trans (b4.mono (by have := B3h.out.size; omega)))
  clear b4 A3h C3h B3h b0 b1 b2 b3' lb KA KB
  go_wp2_with fail
  refine (orderI_any an bn _).mono ?_
  rintro e w5 ⟨rfl, rfl⟩
  go_wp2_with fail
  go_ret
  exact ⟨rfl, B4h.out⟩
set_option maxHeartbeats 1000000 in
theorem stand_12 (an bn : Int) (af bf : Nat) (sa sb : ByteArray) (ha0 : -9223372036854775808 ≤ an) (ha1 : an ≤ 9223372036854775807) (_hb0 : -9223372036854775808 ≤ bn) (_hb1 : bn ≤ 9223372036854775807) (_haf : af < 18446744073709551616) (hbf : bf < 18446744073709551616) (w : World) :
    Calls Tryz.prog 49 #[.agg #[.int .i64 1, .int .i64 an, .float .f64 af, .string sa], .agg #[.int .i64 2, .int .i64 bn, .float .f64 bf, .string sb]] w fun e w' => e = .returned (.int .i64 (mxI an bf)) ∧ Below w.heap.size w w' := by
  obtain ⟨w2, hw2, B2, A2, C2⟩ := boxed w ⟨1, an, af, sa⟩ ⟨2, bn, bf, sb⟩ 72 72
  have KA := Lib.hid (fun w => show Calls Tryz.prog 72 #[.agg #[.int .i64 1, .int .i64 an, .float .f64 af, .string sa]] w (fun e w' => e = .returned (.bool true) ∧ Below w.heap.size w w') from kind_any ⟨1, an, af, sa⟩ w)
  have KB := Lib.hid (fun w => show Calls Tryz.prog 72 #[.agg #[.int .i64 2, .int .i64 bn, .float .f64 bf, .string sb]] w (fun e w' => e = .returned (.bool true) ∧ Below w.heap.size w w') from kind_any ⟨2, bn, bf, sb⟩ w)
  have W2 := Lib.hid hw2
  have B2h := Lib.hid B2
  have A2h := Lib.hid A2
  have C2h := Lib.hid C2
  clear hw2 B2 A2 C2
  generalize hy : w.heap.size = Y at *
  go_enter Tryz.func49, Tryz.ntmps49
  go_wp2_with fail
  rw [← W2.out]
  refine (KA.out _).mono ?_
  rintro e w3 ⟨rfl, b3⟩
  have A3h := Lib.hid (A2h.out.below b3)
  have C3h := Lib.hid (C2h.out.below b3)
  have B3h := Lib.hid (B2h.out.trans (b3.mono (by have := B2h.out.size; omega)))
  obtain ⟨b0, b1, b2, b3', lb⟩ := C2h.out.below b3
  simp only at b0 b1 b2 b3'
  clear b3 A2h C2h B2h
  go_wp2_with fail
  refine (KB.out _).mono ?_
  rintro e w4 ⟨rfl, b4⟩
  obtain ⟨a0, a1, a2, a3, la⟩ := A3h.out.below b4
  obtain ⟨d0, d1, d2, d3, ld⟩ := C3h.out.below b4
  simp only at a0 a1 a2 a3 d0 d1 d2 d3
  have B4h := Lib.hid (B3h.out.trans (b4.mono (by have := B3h.out.size; omega)))
  clear b4 A3h C3h B3h b0 b1 b2 b3' lb KA KB
  go_wp2_with fail
  refine (mixed_any an bf ha0 ha1 hbf _).mono ?_
  rintro e w5 ⟨rfl, rfl⟩
  go_wp2_with fail
  go_ret
  exact ⟨rfl, B4h.out⟩
set_option maxHeartbeats 1000000 in
theorem stand_13 (an bn : Int) (af bf : Nat) (sa sb : ByteArray) (_ha0 : -9223372036854775808 ≤ an) (_ha1 : an ≤ 9223372036854775807) (_hb0 : -9223372036854775808 ≤ bn) (_hb1 : bn ≤ 9223372036854775807) (_haf : af < 18446744073709551616) (_hbf : bf < 18446744073709551616) (w : World) :
    Calls Tryz.prog 49 #[.agg #[.int .i64 1, .int .i64 an, .float .f64 af, .string sa], .agg #[.int .i64 3, .int .i64 bn, .float .f64 bf, .string sb]] w fun e w' => e = .returned (.int .i64 (1)) ∧ Below w.heap.size w w' := by
  obtain ⟨w2, hw2, B2, A2, C2⟩ := boxed w ⟨1, an, af, sa⟩ ⟨3, bn, bf, sb⟩ 72 72
  have KA := Lib.hid (fun w => show Calls Tryz.prog 72 #[.agg #[.int .i64 1, .int .i64 an, .float .f64 af, .string sa]] w (fun e w' => e = .returned (.bool true) ∧ Below w.heap.size w w') from kind_any ⟨1, an, af, sa⟩ w)
  have KB := Lib.hid (fun w => show Calls Tryz.prog 72 #[.agg #[.int .i64 3, .int .i64 bn, .float .f64 bf, .string sb]] w (fun e w' => e = .returned (.bool true) ∧ Below w.heap.size w w') from kind_any ⟨3, bn, bf, sb⟩ w)
  have W2 := Lib.hid hw2
  have B2h := Lib.hid B2
  have A2h := Lib.hid A2
  have C2h := Lib.hid C2
  clear hw2 B2 A2 C2
  generalize hy : w.heap.size = Y at *
  go_enter Tryz.func49, Tryz.ntmps49
  go_wp2_with fail
  rw [← W2.out]
  refine (KA.out _).mono ?_
  rintro e w3 ⟨rfl, b3⟩
  have A3h := Lib.hid (A2h.out.below b3)
  have C3h := Lib.hid (C2h.out.below b3)
  have B3h := Lib.hid (B2h.out.trans (b3.mono (by have := B2h.out.size; omega)))
  obtain ⟨b0, b1, b2, b3', lb⟩ := C2h.out.below b3
  simp only at b0 b1 b2 b3'
  clear b3 A2h C2h B2h
  go_wp2_with fail
  refine (KB.out _).mono ?_
  rintro e w4 ⟨rfl, b4⟩
  obtain ⟨a0, a1, a2, a3, la⟩ := A3h.out.below b4
  obtain ⟨d0, d1, d2, d3, ld⟩ := C3h.out.below b4
  simp only at a0 a1 a2 a3 d0 d1 d2 d3
  have B4h := Lib.hid (B3h.out.trans (b4.mono (by have := B3h.out.size; omega)))
  clear b4 A3h C3h B3h b0 b1 b2 b3' lb KA KB
  go_wp2_with fail
  go_ret
  exact ⟨rfl, B4h.out⟩
set_option maxHeartbeats 1000000 in
theorem stand_21 (an bn : Int) (af bf : Nat) (sa sb : ByteArray) (_ha0 : -9223372036854775808 ≤ an) (_ha1 : an ≤ 9223372036854775807) (hb0 : -9223372036854775808 ≤ bn) (hb1 : bn ≤ 9223372036854775807) (haf : af < 18446744073709551616) (_hbf : bf < 18446744073709551616) (w : World) :
    Calls Tryz.prog 49 #[.agg #[.int .i64 2, .int .i64 an, .float .f64 af, .string sa], .agg #[.int .i64 1, .int .i64 bn, .float .f64 bf, .string sb]] w fun e w' => e = .returned (.int .i64 (tnI (mxI bn af))) ∧ Below w.heap.size w w' := by
  obtain ⟨w2, hw2, B2, A2, C2⟩ := boxed w ⟨2, an, af, sa⟩ ⟨1, bn, bf, sb⟩ 72 72
  have KA := Lib.hid (fun w => show Calls Tryz.prog 72 #[.agg #[.int .i64 2, .int .i64 an, .float .f64 af, .string sa]] w (fun e w' => e = .returned (.bool true) ∧ Below w.heap.size w w') from kind_any ⟨2, an, af, sa⟩ w)
  have KB := Lib.hid (fun w => show Calls Tryz.prog 72 #[.agg #[.int .i64 1, .int .i64 bn, .float .f64 bf, .string sb]] w (fun e w' => e = .returned (.bool true) ∧ Below w.heap.size w w') from kind_any ⟨1, bn, bf, sb⟩ w)
  have W2 := Lib.hid hw2
  have B2h := Lib.hid B2
  have A2h := Lib.hid A2
  have C2h := Lib.hid C2
  clear hw2 B2 A2 C2
  generalize hy : w.heap.size = Y at *
  go_enter Tryz.func49, Tryz.ntmps49
  go_wp2_with fail
  rw [← W2.out]
  refine (KA.out _).mono ?_
  rintro e w3 ⟨rfl, b3⟩
  have A3h := Lib.hid (A2h.out.below b3)
  have C3h := Lib.hid (C2h.out.below b3)
  have B3h := Lib.hid (B2h.out.trans (b3.mono (by have := B2h.out.size; omega)))
  obtain ⟨b0, b1, b2, b3', lb⟩ := C2h.out.below b3
  simp only at b0 b1 b2 b3'
  clear b3 A2h C2h B2h
  go_wp2_with fail
  refine (KB.out _).mono ?_
  rintro e w4 ⟨rfl, b4⟩
  obtain ⟨a0, a1, a2, a3, la⟩ := A3h.out.below b4
  obtain ⟨d0, d1, d2, d3, ld⟩ := C3h.out.below b4
  simp only at a0 a1 a2 a3 d0 d1 d2 d3
  have B4h := Lib.hid (B3h.out.trans (b4.mono (by have := B3h.out.size; omega)))
  clear b4 A3h C3h B3h b0 b1 b2 b3' lb KA KB
  go_wp2_with fail
  refine (mixed_any bn af hb0 hb1 haf _).mono ?_
  rintro e w5 ⟨rfl, rfl⟩
  go_wp2_with fail
  refine (turned_any _ _).mono ?_
  rintro e w6 ⟨rfl, rfl⟩
  go_wp2_with fail
  go_ret
  exact ⟨rfl, B4h.out⟩
set_option maxHeartbeats 1000000 in
theorem stand_22 (an bn : Int) (af bf : Nat) (sa sb : ByteArray) (_ha0 : -9223372036854775808 ≤ an) (_ha1 : an ≤ 9223372036854775807) (_hb0 : -9223372036854775808 ≤ bn) (_hb1 : bn ≤ 9223372036854775807) (haf : af < 18446744073709551616) (hbf : bf < 18446744073709551616) (w : World) :
    Calls Tryz.prog 49 #[.agg #[.int .i64 2, .int .i64 an, .float .f64 af, .string sa], .agg #[.int .i64 2, .int .i64 bn, .float .f64 bf, .string sb]] w fun e w' => e = .returned (.int .i64 (trO (ord af bf))) ∧ Below w.heap.size w w' := by
  obtain ⟨w2, hw2, B2, A2, C2⟩ := boxed w ⟨2, an, af, sa⟩ ⟨2, bn, bf, sb⟩ 72 72
  have KA := Lib.hid (fun w => show Calls Tryz.prog 72 #[.agg #[.int .i64 2, .int .i64 an, .float .f64 af, .string sa]] w (fun e w' => e = .returned (.bool true) ∧ Below w.heap.size w w') from kind_any ⟨2, an, af, sa⟩ w)
  have KB := Lib.hid (fun w => show Calls Tryz.prog 72 #[.agg #[.int .i64 2, .int .i64 bn, .float .f64 bf, .string sb]] w (fun e w' => e = .returned (.bool true) ∧ Below w.heap.size w w') from kind_any ⟨2, bn, bf, sb⟩ w)
  have W2 := Lib.hid hw2
  have B2h := Lib.hid B2
  have A2h := Lib.hid A2
  have C2h := Lib.hid C2
  clear hw2 B2 A2 C2
  generalize hy : w.heap.size = Y at *
  go_enter Tryz.func49, Tryz.ntmps49
  go_wp2_with fail
  rw [← W2.out]
  refine (KA.out _).mono ?_
  rintro e w3 ⟨rfl, b3⟩
  have A3h := Lib.hid (A2h.out.below b3)
  have C3h := Lib.hid (C2h.out.below b3)
  have B3h := Lib.hid (B2h.out.trans (b3.mono (by have := B2h.out.size; omega)))
  obtain ⟨b0, b1, b2, b3', lb⟩ := C2h.out.below b3
  simp only at b0 b1 b2 b3'
  clear b3 A2h C2h B2h
  go_wp2_with fail
  refine (KB.out _).mono ?_
  rintro e w4 ⟨rfl, b4⟩
  obtain ⟨a0, a1, a2, a3, la⟩ := A3h.out.below b4
  obtain ⟨d0, d1, d2, d3, ld⟩ := C3h.out.below b4
  simp only at a0 a1 a2 a3 d0 d1 d2 d3
  have B4h := Lib.hid (B3h.out.trans (b4.mono (by have := B3h.out.size; omega)))
  clear b4 A3h C3h B3h b0 b1 b2 b3' lb KA KB
  go_wp2_with fail
  refine (orderF_any af bf haf hbf _).mono ?_
  rintro e w5 ⟨rfl, rfl⟩
  go_wp2_with fail
  go_ret
  exact ⟨rfl, B4h.out⟩
set_option maxHeartbeats 1000000 in
theorem stand_23 (an bn : Int) (af bf : Nat) (sa sb : ByteArray) (_ha0 : -9223372036854775808 ≤ an) (_ha1 : an ≤ 9223372036854775807) (_hb0 : -9223372036854775808 ≤ bn) (_hb1 : bn ≤ 9223372036854775807) (_haf : af < 18446744073709551616) (_hbf : bf < 18446744073709551616) (w : World) :
    Calls Tryz.prog 49 #[.agg #[.int .i64 2, .int .i64 an, .float .f64 af, .string sa], .agg #[.int .i64 3, .int .i64 bn, .float .f64 bf, .string sb]] w fun e w' => e = .returned (.int .i64 (1)) ∧ Below w.heap.size w w' := by
  obtain ⟨w2, hw2, B2, A2, C2⟩ := boxed w ⟨2, an, af, sa⟩ ⟨3, bn, bf, sb⟩ 72 72
  have KA := Lib.hid (fun w => show Calls Tryz.prog 72 #[.agg #[.int .i64 2, .int .i64 an, .float .f64 af, .string sa]] w (fun e w' => e = .returned (.bool true) ∧ Below w.heap.size w w') from kind_any ⟨2, an, af, sa⟩ w)
  have KB := Lib.hid (fun w => show Calls Tryz.prog 72 #[.agg #[.int .i64 3, .int .i64 bn, .float .f64 bf, .string sb]] w (fun e w' => e = .returned (.bool true) ∧ Below w.heap.size w w') from kind_any ⟨3, bn, bf, sb⟩ w)
  have W2 := Lib.hid hw2
  have B2h := Lib.hid B2
  have A2h := Lib.hid A2
  have C2h := Lib.hid C2
  clear hw2 B2 A2 C2
  generalize hy : w.heap.size = Y at *
  go_enter Tryz.func49, Tryz.ntmps49
  go_wp2_with fail
  rw [← W2.out]
  refine (KA.out _).mono ?_
  rintro e w3 ⟨rfl, b3⟩
  have A3h := Lib.hid (A2h.out.below b3)
  have C3h := Lib.hid (C2h.out.below b3)
  have B3h := Lib.hid (B2h.out.trans (b3.mono (by have := B2h.out.size; omega)))
  obtain ⟨b0, b1, b2, b3', lb⟩ := C2h.out.below b3
  simp only at b0 b1 b2 b3'
  clear b3 A2h C2h B2h
  go_wp2_with fail
  refine (KB.out _).mono ?_
  rintro e w4 ⟨rfl, b4⟩
  obtain ⟨a0, a1, a2, a3, la⟩ := A3h.out.below b4
  obtain ⟨d0, d1, d2, d3, ld⟩ := C3h.out.below b4
  simp only at a0 a1 a2 a3 d0 d1 d2 d3
  have B4h := Lib.hid (B3h.out.trans (b4.mono (by have := B3h.out.size; omega)))
  clear b4 A3h C3h B3h b0 b1 b2 b3' lb KA KB
  go_wp2_with fail
  go_ret
  exact ⟨rfl, B4h.out⟩
set_option maxHeartbeats 1000000 in
theorem stand_31 (an bn : Int) (af bf : Nat) (sa sb : ByteArray) (_ha0 : -9223372036854775808 ≤ an) (_ha1 : an ≤ 9223372036854775807) (_hb0 : -9223372036854775808 ≤ bn) (_hb1 : bn ≤ 9223372036854775807) (_haf : af < 18446744073709551616) (_hbf : bf < 18446744073709551616) (w : World) :
    Calls Tryz.prog 49 #[.agg #[.int .i64 3, .int .i64 an, .float .f64 af, .string sa], .agg #[.int .i64 1, .int .i64 bn, .float .f64 bf, .string sb]] w fun e w' => e = .returned (.int .i64 (1)) ∧ Below w.heap.size w w' := by
  obtain ⟨w2, hw2, B2, A2, C2⟩ := boxed w ⟨3, an, af, sa⟩ ⟨1, bn, bf, sb⟩ 72 72
  have KA := Lib.hid (fun w => show Calls Tryz.prog 72 #[.agg #[.int .i64 3, .int .i64 an, .float .f64 af, .string sa]] w (fun e w' => e = .returned (.bool true) ∧ Below w.heap.size w w') from kind_any ⟨3, an, af, sa⟩ w)
  have KB := Lib.hid (fun w => show Calls Tryz.prog 72 #[.agg #[.int .i64 1, .int .i64 bn, .float .f64 bf, .string sb]] w (fun e w' => e = .returned (.bool true) ∧ Below w.heap.size w w') from kind_any ⟨1, bn, bf, sb⟩ w)
  have W2 := Lib.hid hw2
  have B2h := Lib.hid B2
  have A2h := Lib.hid A2
  have C2h := Lib.hid C2
  clear hw2 B2 A2 C2
  generalize hy : w.heap.size = Y at *
  go_enter Tryz.func49, Tryz.ntmps49
  go_wp2_with fail
  rw [← W2.out]
  refine (KA.out _).mono ?_
  rintro e w3 ⟨rfl, b3⟩
  have A3h := Lib.hid (A2h.out.below b3)
  have C3h := Lib.hid (C2h.out.below b3)
  have B3h := Lib.hid (B2h.out.trans (b3.mono (by have := B2h.out.size; omega)))
  obtain ⟨b0, b1, b2, b3', lb⟩ := C2h.out.below b3
  simp only at b0 b1 b2 b3'
  clear b3 A2h C2h B2h
  go_wp2_with fail
  refine (KB.out _).mono ?_
  rintro e w4 ⟨rfl, b4⟩
  obtain ⟨a0, a1, a2, a3, la⟩ := A3h.out.below b4
  obtain ⟨d0, d1, d2, d3, ld⟩ := C3h.out.below b4
  simp only at a0 a1 a2 a3 d0 d1 d2 d3
  have B4h := Lib.hid (B3h.out.trans (b4.mono (by have := B3h.out.size; omega)))
  clear b4 A3h C3h B3h b0 b1 b2 b3' lb KA KB
  go_wp2_with fail
  go_ret
  exact ⟨rfl, B4h.out⟩
set_option maxHeartbeats 1000000 in
theorem stand_32 (an bn : Int) (af bf : Nat) (sa sb : ByteArray) (_ha0 : -9223372036854775808 ≤ an) (_ha1 : an ≤ 9223372036854775807) (_hb0 : -9223372036854775808 ≤ bn) (_hb1 : bn ≤ 9223372036854775807) (_haf : af < 18446744073709551616) (_hbf : bf < 18446744073709551616) (w : World) :
    Calls Tryz.prog 49 #[.agg #[.int .i64 3, .int .i64 an, .float .f64 af, .string sa], .agg #[.int .i64 2, .int .i64 bn, .float .f64 bf, .string sb]] w fun e w' => e = .returned (.int .i64 (1)) ∧ Below w.heap.size w w' := by
  obtain ⟨w2, hw2, B2, A2, C2⟩ := boxed w ⟨3, an, af, sa⟩ ⟨2, bn, bf, sb⟩ 72 72
  have KA := Lib.hid (fun w => show Calls Tryz.prog 72 #[.agg #[.int .i64 3, .int .i64 an, .float .f64 af, .string sa]] w (fun e w' => e = .returned (.bool true) ∧ Below w.heap.size w w') from kind_any ⟨3, an, af, sa⟩ w)
  have KB := Lib.hid (fun w => show Calls Tryz.prog 72 #[.agg #[.int .i64 2, .int .i64 bn, .float .f64 bf, .string sb]] w (fun e w' => e = .returned (.bool true) ∧ Below w.heap.size w w') from kind_any ⟨2, bn, bf, sb⟩ w)
  have W2 := Lib.hid hw2
  have B2h := Lib.hid B2
  have A2h := Lib.hid A2
  have C2h := Lib.hid C2
  clear hw2 B2 A2 C2
  generalize hy : w.heap.size = Y at *
  go_enter Tryz.func49, Tryz.ntmps49
  go_wp2_with fail
  rw [← W2.out]
  refine (KA.out _).mono ?_
  rintro e w3 ⟨rfl, b3⟩
  have A3h := Lib.hid (A2h.out.below b3)
  have C3h := Lib.hid (C2h.out.below b3)
  have B3h := Lib.hid (B2h.out.trans (b3.mono (by have := B2h.out.size; omega)))
  obtain ⟨b0, b1, b2, b3', lb⟩ := C2h.out.below b3
  simp only at b0 b1 b2 b3'
  clear b3 A2h C2h B2h
  go_wp2_with fail
  refine (KB.out _).mono ?_
  rintro e w4 ⟨rfl, b4⟩
  obtain ⟨a0, a1, a2, a3, la⟩ := A3h.out.below b4
  obtain ⟨d0, d1, d2, d3, ld⟩ := C3h.out.below b4
  simp only at a0 a1 a2 a3 d0 d1 d2 d3
  have B4h := Lib.hid (B3h.out.trans (b4.mono (by have := B3h.out.size; omega)))
  clear b4 A3h C3h B3h b0 b1 b2 b3' lb KA KB
  go_wp2_with fail
  go_ret
  exact ⟨rfl, B4h.out⟩
set_option maxHeartbeats 1000000 in
theorem stand_33 (an bn : Int) (af bf : Nat) (sa sb : ByteArray) (_ha0 : -9223372036854775808 ≤ an) (_ha1 : an ≤ 9223372036854775807) (_hb0 : -9223372036854775808 ≤ bn) (_hb1 : bn ≤ 9223372036854775807) (_haf : af < 18446744073709551616) (_hbf : bf < 18446744073709551616) (w : World) :
    Calls Tryz.prog 49 #[.agg #[.int .i64 3, .int .i64 an, .float .f64 af, .string sa], .agg #[.int .i64 3, .int .i64 bn, .float .f64 bf, .string sb]] w fun e w' => e = .returned (.int .i64 (tri (ltS sa sb) (ltS sb sa))) ∧ Below w.heap.size w w' := by
  obtain ⟨w2, hw2, B2, A2, C2⟩ := boxed w ⟨3, an, af, sa⟩ ⟨3, bn, bf, sb⟩ 72 72
  have KA := Lib.hid (fun w => show Calls Tryz.prog 72 #[.agg #[.int .i64 3, .int .i64 an, .float .f64 af, .string sa]] w (fun e w' => e = .returned (.bool true) ∧ Below w.heap.size w w') from kind_any ⟨3, an, af, sa⟩ w)
  have KB := Lib.hid (fun w => show Calls Tryz.prog 72 #[.agg #[.int .i64 3, .int .i64 bn, .float .f64 bf, .string sb]] w (fun e w' => e = .returned (.bool true) ∧ Below w.heap.size w w') from kind_any ⟨3, bn, bf, sb⟩ w)
  have W2 := Lib.hid hw2
  have B2h := Lib.hid B2
  have A2h := Lib.hid A2
  have C2h := Lib.hid C2
  clear hw2 B2 A2 C2
  generalize hy : w.heap.size = Y at *
  go_enter Tryz.func49, Tryz.ntmps49
  go_wp2_with fail
  rw [← W2.out]
  refine (KA.out _).mono ?_
  rintro e w3 ⟨rfl, b3⟩
  have A3h := Lib.hid (A2h.out.below b3)
  have C3h := Lib.hid (C2h.out.below b3)
  have B3h := Lib.hid (B2h.out.trans (b3.mono (by have := B2h.out.size; omega)))
  obtain ⟨b0, b1, b2, b3', lb⟩ := C2h.out.below b3
  simp only at b0 b1 b2 b3'
  clear b3 A2h C2h B2h
  go_wp2_with fail
  refine (KB.out _).mono ?_
  rintro e w4 ⟨rfl, b4⟩
  obtain ⟨a0, a1, a2, a3, la⟩ := A3h.out.below b4
  obtain ⟨d0, d1, d2, d3, ld⟩ := C3h.out.below b4
  simp only at a0 a1 a2 a3 d0 d1 d2 d3
  have B4h := Lib.hid (B3h.out.trans (b4.mono (by have := B3h.out.size; omega)))
  clear b4 A3h C3h B3h b0 b1 b2 b3' lb KA KB
  go_wp2_with fail
  refine (orderS_any sa sb _).mono ?_
  rintro e w5 ⟨rfl, rfl⟩
  go_wp2_with fail
  go_ret
  exact ⟨rfl, B4h.out⟩
set_option maxHeartbeats 1000000 in
theorem stand_none (a b : Val) (h : (isK a && isK b) = false) (w : World) : Calls Tryz.prog 49 #[a.val, b.val] w fun e w' => e = .returned (.int .i64 0) ∧ Below w.heap.size w w' := by
  obtain ⟨w2, hw2, B2, A2, C2⟩ := boxed w a b 72 72
  have KA := Lib.hid (kind_any a)
  have KB := Lib.hid (kind_any b)
  have W2 := Lib.hid hw2
  have B2h := Lib.hid B2
  have A2h := Lib.hid A2
  have C2h := Lib.hid C2
  clear hw2 B2 A2 C2
  unfold Val.val at KA KB ⊢
  generalize hy : w.heap.size = Y at *
  by_cases ka : isK a = true
  · rw [ka] at KA
    have kb : isK b = false := by cases e : isK b <;> simp_all
    rw [kb] at KB
    clear h ka kb
    go_enter Tryz.func49, Tryz.ntmps49
    go_wp2_with fail
    rw [← W2.out]
    refine (KA.out _).mono ?_
    rintro e w3 ⟨rfl, b3⟩
    have B3h := Lib.hid (B2h.out.trans (b3.mono (by have := B2h.out.size; omega)))
    obtain ⟨b0, b1, b2, b3', lb⟩ := C2h.out.below b3
    clear b3 A2h C2h B2h
    go_wp2_with fail
    refine (KB.out _).mono ?_
    rintro e w4 ⟨rfl, b4⟩
    have B4h := Lib.hid (B3h.out.trans (b4.mono (by have := B3h.out.size; omega)))
    clear b4 b0 b1 b2 b3'
    go_wp2_with fail
    go_ret
    exact ⟨rfl, B4h.out⟩
  · have ka : isK a = false := by simpa using ka
    rw [ka] at KA
    clear h ka
    go_enter Tryz.func49, Tryz.ntmps49
    go_wp2_with fail
    rw [← W2.out]
    refine (KA.out _).mono ?_
    rintro e w3 ⟨rfl, b3⟩
    have B3h := Lib.hid (B2h.out.trans (b3.mono (by have := B2h.out.size; omega)))
    clear b3 A2h C2h B2h
    go_wp2_with fail
    go_ret
    exact ⟨rfl, B3h.out⟩
theorem isK_cases {v : Val} (h : isK v = true) : v.k = 1 ∨ v.k = 2 ∨ v.k = 3 := by
  unfold isK at h
  simp only [Bool.or_eq_true, decide_eq_true_eq] at h
  omega
theorem stand_any (a b : Val) (ha : a.Wf) (hb : b.Wf) (w : World) : Calls Tryz.prog 49 #[a.val, b.val] w fun e w' => e = .returned (.int .i64 (stV a b)) ∧ Below w.heap.size w w' := by
  by_cases hk : (isK a && isK b) = false
  · have e : stV a b = 0 := by unfold stV; rw [if_pos hk]
    rw [e]
    exact stand_none a b hk w
  · have ka := isK_cases (v := a) (by cases e : isK a <;> simp_all)
    have kb := isK_cases (v := b) (by cases e : isK b <;> simp_all)
    obtain ⟨ak, an, af, sa⟩ := a
    obtain ⟨bk, bn, bf, sb⟩ := b
    obtain ⟨_, a0, a1, a2⟩ := ha
    obtain ⟨_, b0, b1, b2⟩ := hb
    simp only at ka kb a0 a1 a2 b0 b1 b2
    clear hk
    rcases ka with rfl | rfl | rfl <;> rcases kb with rfl | rfl | rfl
    · rw [stV_11 _ _ _ _ _ _ a0 a1 b0 b1]; exact stand_11 an bn af bf sa sb a0 a1 b0 b1 a2 b2 w
    · rw [stV_12]; exact stand_12 an bn af bf sa sb a0 a1 b0 b1 a2 b2 w
    · rw [stV_13]; exact stand_13 an bn af bf sa sb a0 a1 b0 b1 a2 b2 w
    · rw [stV_21]; exact stand_21 an bn af bf sa sb a0 a1 b0 b1 a2 b2 w
    · rw [stV_22]; exact stand_22 an bn af bf sa sb a0 a1 b0 b1 a2 b2 w
    · rw [stV_23]; exact stand_23 an bn af bf sa sb a0 a1 b0 b1 a2 b2 w
    · rw [stV_31]; exact stand_31 an bn af bf sa sb a0 a1 b0 b1 a2 b2 w
    · rw [stV_32]; exact stand_32 an bn af bf sa sb a0 a1 b0 b1 a2 b2 w
    · rw [stV_33]; exact stand_33 an bn af bf sa sb a0 a1 b0 b1 a2 b2 w
end Go.Proofs.YtkajadkmdcalmaaGreatDoor
/-
  THE WALK OF event.Holds.
-/
namespace Go.Proofs.YtkajadkmdcalmaaGreatDoor
open Go.RowKit
theorem opS_zero (op : Int) : opS op 0 = false := rfl
theorem opS_1 {s : Int} (h : s ≠ 0) : opS 1 s = (s == 3) := by unfold opS; rw [if_neg h]; rfl
theorem opS_2 {s : Int} (h : s ≠ 0) : opS 2 s = (s != 3) := by unfold opS; rw [if_neg h]; rfl
theorem opS_3 {s : Int} (h : s ≠ 0) : opS 3 s = (s == 2) := by unfold opS; rw [if_neg h]; rfl
theorem opS_4 {s : Int} (h : s ≠ 0) : opS 4 s = (s == 2 || s == 3) := by unfold opS; rw [if_neg h]; rfl
theorem opS_5 {s : Int} (h : s ≠ 0) : opS 5 s = (s == 4) := by unfold opS; rw [if_neg h]; rfl
theorem opS_6 {s : Int} (h : s ≠ 0) : opS 6 s = (s == 4 || s == 3) := by unfold opS; rw [if_neg h]; rfl
theorem opS_else {op s : Int} (h : op ≠ 1 ∧ op ≠ 2 ∧ op ≠ 3 ∧ op ≠ 4 ∧ op ≠ 5 ∧ op ≠ 6) : opS op s = false := by
  unfold opS
  split
  · rfl
  · rw [if_neg h.1, if_neg h.2.1, if_neg h.2.2.1, if_neg h.2.2.2.1, if_neg h.2.2.2.2.1, if_neg h.2.2.2.2.2]
set_option maxHeartbeats 2000000 in
theorem evholds_core (op s : Int) (a b : Val) (S : Hid (∀ w, Calls Tryz.prog 49 #[.agg #[.int .i64 a.k, .int .i64 a.n, .float .f64 a.f, .string a.s], .agg #[.int .i64 b.k, .int .i64 b.n, .float .f64 b.f, .string b.s]] w fun e w' => e = .returned (.int .i64 s) ∧ Below w.heap.size w w')) (w : World) :
    Calls Tryz.prog 32 #[.int .i64 op, .agg #[.int .i64 a.k, .int .i64 a.n, .float .f64 a.f, .string a.s], .agg #[.int .i64 b.k, .int .i64 b.n, .float .f64 b.f, .string b.s]] w fun e w' => e = .returned (.bool (opS op s)) ∧ Below w.heap.size w w' := by
  obtain ⟨w2, hw2, B2, A2, C2⟩ := boxed w a b 72 72
  have W2 := Lib.hid hw2
  have B2h := Lib.hid B2
  obtain ⟨a0, a1, a2, a3, la⟩ := A2
  obtain ⟨b0, b1, b2, b3, lb⟩ := C2
  obtain ⟨ak, an, af, sa⟩ := a
  obtain ⟨bk, bn, bf, sb⟩ := b
  simp only at *
  clear hw2 B2
  generalize hy : w.heap.size = Y at *
  have START : Hid (∀ w3, Below w2.heap.size w2 w3 → Below Y w w3) := Lib.hid (fun w3 bb => B2h.out.trans (bb.mono (by have := B2h.out.size; omega)))
  by_cases s0 : s = 0
  · subst s0
    rw [opS_zero]
    go_enter Tryz.func32, Tryz.ntmps32
    go_wp2_with fail
    rw [← W2.out]
    go_wp2_with fail
    refine (S.out _).mono ?_
    rintro e w3 ⟨rfl, bb⟩
    have B3h := Lib.hid (START.out w3 bb)
    clear bb a0 a1 a2 a3 b0 b1 b2 b3
    go_wp2_with fail
    all_goals (first | go_ret | go_ret2)
    all_goals exact ⟨by (first | rfl | (exact ret_bool (by simp_all))), B3h.out⟩
  have d0 : (s == 0) = false := by simpa using s0
  by_cases o1 : op = 1
  · subst o1
    rw [opS_1 s0]
    clear s0
    go_enter Tryz.func32, Tryz.ntmps32
    go_wp2_with fail
    rw [← W2.out]
    go_wp2_with fail
    refine (S.out _).mono ?_
    rintro e w3 ⟨rfl, bb⟩
    have B3h := Lib.hid (START.out w3 bb)
    clear bb a0 a1 a2 a3 b0 b1 b2 b3
    go_wp2_with fail
    all_goals (first | go_ret | go_ret2)
    all_goals exact ⟨by (first | rfl | (exact ret_bool (by simp_all))), B3h.out⟩
  by_cases o2 : op = 2
  · subst o2
    rw [opS_2 s0]
    clear s0
    go_enter Tryz.func32, Tryz.ntmps32
    go_wp2_with fail
    rw [← W2.out]
    go_wp2_with fail
    refine (S.out _).mono ?_
    rintro e w3 ⟨rfl, bb⟩
    have B3h := Lib.hid (START.out w3 bb)
    clear bb a0 a1 a2 a3 b0 b1 b2 b3
    go_wp2_with fail
    all_goals (first | go_ret | go_ret2)
    all_goals exact ⟨by (first | rfl | (exact ret_bool (by simp_all))), B3h.out⟩
  by_cases o3 : op = 3
  · subst o3
    rw [opS_3 s0]
    clear s0
    go_enter Tryz.func32, Tryz.ntmps32
    go_wp2_with fail
    rw [← W2.out]
    go_wp2_with fail
    refine (S.out _).mono ?_
    rintro e w3 ⟨rfl, bb⟩
    have B3h := Lib.hid (START.out w3 bb)
    clear bb a0 a1 a2 a3 b0 b1 b2 b3
    go_wp2_with fail
    all_goals (first | go_ret | go_ret2)
    all_goals exact ⟨by (first | rfl | (exact ret_bool (by simp_all))), B3h.out⟩
  by_cases o4 : op = 4
  · subst o4
    rw [opS_4 s0]
    clear s0
    go_enter Tryz.func32, Tryz.ntmps32
    go_wp2_with fail
    rw [← W2.out]
    go_wp2_with fail
    refine (S.out _).mono ?_
    rintro e w3 ⟨rfl, bb⟩
    have B3h := Lib.hid (START.out w3 bb)
    clear bb a0 a1 a2 a3 b0 b1 b2 b3
    go_wp2_with fail
    all_goals (first | go_ret | go_ret2)
    all_goals exact ⟨by (first | rfl | (exact ret_bool (by simp_all))), B3h.out⟩
  by_cases o5 : op = 5
  · subst o5
    rw [opS_5 s0]
    clear s0
    go_enter Tryz.func32, Tryz.ntmps32
    go_wp2_with fail
    rw [← W2.out]
    go_wp2_with fail
    refine (S.out _).mono ?_
    rintro e w3 ⟨rfl, bb⟩
    have B3h := Lib.hid (START.out w3 bb)
    clear bb a0 a1 a2 a3 b0 b1 b2 b3
    go_wp2_with fail
    all_goals (first | go_ret | go_ret2)
    all_goals exact ⟨by (first | rfl | (exact ret_bool (by simp_all))), B3h.out⟩
  by_cases o6 : op = 6
  · subst o6
    rw [opS_6 s0]
    clear s0
    go_enter Tryz.func32, Tryz.ntmps32
    go_wp2_with fail
    rw [← W2.out]
    go_wp2_with fail
    refine (S.out _).mono ?_
    rintro e w3 ⟨rfl, bb⟩
    have B3h := Lib.hid (START.out w3 bb)
    clear bb a0 a1 a2 a3 b0 b1 b2 b3
    go_wp2_with fail
    all_goals (first | go_ret | go_ret2)
    all_goals exact ⟨by (first | rfl | (exact ret_bool (by simp_all))), B3h.out⟩
  rw [opS_else ⟨o1, o2, o3, o4, o5, o6⟩]
  have e1 : (op == 1) = false := by simpa using o1
  have e2 : (op == 2) = false := by simpa using o2
  have e3 : (op == 3) = false := by simpa using o3
  have e4 : (op == 4) = false := by simpa using o4
  have e5 : (op == 5) = false := by simpa using o5
  have e6 : (op == 6) = false := by simpa using o6
  clear s0 o1 o2 o3 o4 o5 o6
  go_enter Tryz.func32, Tryz.ntmps32
  go_wp2_with fail
  rw [← W2.out]
  go_wp2_with fail
  refine (S.out _).mono ?_
  rintro e w3 ⟨rfl, bb⟩
  have B3h := Lib.hid (START.out w3 bb)
  clear bb a0 a1 a2 a3 b0 b1 b2 b3
  go_wp2_with fail
  all_goals (first | go_ret | go_ret2)
  all_goals exact ⟨by (first | rfl | (exact ret_bool (by simp_all))), B3h.out⟩
theorem evholds_any (op : Int) (a b : Val) (ha : a.Wf) (hb : b.Wf) (w : World) : Calls Tryz.prog 32 #[.int .i64 op, a.val, b.val] w fun e w' => e = .returned (.bool (opS op (stV a b))) ∧ Below w.heap.size w w' :=
  evholds_core op (stV a b) a b (Lib.hid (stand_any a b ha hb)) w
end Go.Proofs.YtkajadkmdcalmaaGreatDoor
