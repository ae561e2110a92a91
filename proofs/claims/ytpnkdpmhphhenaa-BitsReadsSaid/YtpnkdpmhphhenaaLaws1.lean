/-
  awake, AND THE LAWS BitsNumbers, BitsReals, BitsTexts, BitsNil AS WALKS.
-/
import Derived.Test.YtpnkdpmhphhenaaMeths
namespace Go.Proofs.Ytpnkdpmhphhenaa
open Go.RowKit
theorem n247 : numS 247 = ⟨#[247]⟩ := by decide +kernel
theorem n256 : numS 256 = ⟨#[249, 1, 0]⟩ := by decide +kernel
theorem im1 : intS (-1) = ⟨#[1]⟩ := by decide +kernel
theorem txt9 : tText ⟨#[2, 97, 98]⟩ 0 9 = (⟨#[97, 98]⟩, ⟨#[]⟩, 0) := by decide +kernel
theorem below_grown {w w' w'' : World} {b : Nat} (h : Below w.heap.size w w') (hb : w.heap.size ≤ b) (hg : w'.grownBy w'' (some b)) : Below w.heap.size w w'' :=
  h.grown hg h.size (fun k hk => by cases hk; exact hb)
set_option maxHeartbeats 400000 in
theorem awake_any (w : World) : Calls Try.prog 11 #[] w fun r w' => r = .returned (.bool true) ∧ Below w.heap.size w w' := by
  go_enter Try.func11, Try.ntmps11
  go_wp2_with fail
  refine (at_any _ _ (by decide)).mono ?_
  rintro r w1 ⟨b, rfl, hb, ht, h1⟩
  go_wp2_with fail
  refine (num_any _ (by decide) (by decide) _).mono ?_
  rintro r w2 ⟨rfl, h2⟩
  rw [n247]
  go_wp2_with fail
  refine (num_any _ (by decide) (by decide) _).mono ?_
  rintro r w3 ⟨rfl, h3⟩
  rw [n256]
  go_wp2_with fail
  refine (int_any _ (by decide) (by decide) _).mono ?_
  rintro r w4 ⟨rfl, h4⟩
  rw [im1]
  have t4 := ((ht.next h2).next h3).next h4
  go_wp2_with fail
  refine (tapeText_any t4 (by decide) (by decide) (by decide)).mono ?_
  rintro r w5 ⟨rfl, g5, t5⟩
  rw [txt9] at t5 ⊢
  unfold vText
  go_wp2_with fail
  refine (end_any t5).mono ?_
  rintro r w6 ⟨rfl, rfl⟩
  go_wp2_with fail
  go_ret
  exact ⟨rfl, below_grown (((h1.trans (h2.mono h1.size)).trans (h3.mono (Nat.le_trans h1.size h2.size))).trans (h4.mono (Nat.le_trans h1.size (Nat.le_trans h2.size h3.size)))) hb g5⟩
set_option maxHeartbeats 400000 in
theorem numbers_law (n m : Int) (h0 : 0 ≤ n) (h1 : n < 18446744073709551616) (h2 : -9223372036854775808 ≤ m) (h3 : m ≤ 9223372036854775807) (w : World) :
    Calls Try.prog 3 #[.int .u64 n, .int .i64 m] w fun r w' => r = .returned (.bool true) ∧ Below w.heap.size w w' := by
  go_enter Try.func3, Try.ntmps3
  go_wp2_with fail
  refine (awake_any _).mono ?_
  rintro r w1 ⟨rfl, b1⟩
  go_wp2_with fail
  refine (num_any _ h0 h1 _).mono ?_
  rintro r w2 ⟨rfl, b2⟩
  go_wp2_with fail
  refine (rnum_any _ h0 h1 _).mono ?_
  rintro r w3 ⟨rfl, b3⟩
  go_wp2_with fail
  refine (int_any _ h2 h3 _).mono ?_
  rintro r w4 ⟨rfl, b4⟩
  go_wp2_with fail
  refine (rint_any _ h2 h3 _).mono ?_
  rintro r w5 ⟨rfl, b5⟩
  go_wp2_with fail
  go_ret
  have s1 := b1.size
  have s2 := b2.size
  have s3 := b3.size
  have s4 := b4.size
  exact ⟨rfl, (((b1.trans (b2.mono s1)).trans (b3.mono (by omega))).trans (b4.mono (by omega))).trans (b5.mono (by omega))⟩
set_option maxHeartbeats 400000 in
theorem reals_law (f : Nat) (b : Bool) (hf : f < 18446744073709551616) (w : World) :
    Calls Try.prog 4 #[.float .f64 f, .bool b] w fun r w' => r = .returned (.bool true) ∧ Below w.heap.size w w' := by
  go_enter Try.func4, Try.ntmps4
  go_wp2_with fail
  refine (awake_any _).mono ?_
  rintro r w1 ⟨rfl, b1⟩
  go_wp2_with fail
  refine (real_any _ hf _).mono ?_
  rintro r w2 ⟨rfl, b2⟩
  go_wp2_with fail
  refine (rreal_any _ hf _).mono ?_
  rintro r w3 ⟨rfl, b3⟩
  go_wp2_with fail
  refine (flag_any _ _).mono ?_
  rintro r w4 ⟨rfl, rfl⟩
  go_wp2_with fail
  refine (rflag_any _ _).mono ?_
  rintro r w5 ⟨rfl, rfl⟩
  go_wp2_with fail
  go_ret
  have s1 := b1.size
  have s2 := b2.size
  exact ⟨rfl, (b1.trans (b2.mono s1)).trans (b3.mono (by omega))⟩
set_option maxHeartbeats 400000 in
theorem texts_law (s : ByteArray) (hs : s.size ≤ 9223372036854775798) (w : World) :
    Calls Try.prog 5 #[.string s] w fun r w' => r = .returned (.bool true) ∧ Below w.heap.size w w' := by
  go_enter Try.func5, Try.ntmps5
  go_wp2_with fail
  refine (awake_any _).mono ?_
  rintro r w1 ⟨rfl, b1⟩
  go_wp2_with fail
  refine (text_any _ hs _).mono ?_
  rintro r w2 ⟨rfl, b2⟩
  go_wp2_with fail
  refine (rtext_any _ hs _).mono ?_
  rintro r w3 ⟨rfl, b3⟩
  go_wp2_with fail
  go_ret
  have s1 := b1.size
  have s2 := b2.size
  exact ⟨rfl, (b1.trans (b2.mono s1)).trans (b3.mono (by omega))⟩
set_option maxHeartbeats 400000 in
theorem nil_law (most : Int) (w : World) :
    Calls Try.prog 10 #[.int .i64 most] w fun r w' => r = .returned (.bool true) ∧ Below w.heap.size w w' := by
  go_enter Try.func10, Try.ntmps10
  go_wp2_with fail
  refine (awake_any _).mono ?_
  rintro r w1 ⟨rfl, b1⟩
  go_wp2_with fail
  refine (tapeNum_nil _).mono ?_
  rintro r w2 ⟨rfl, rfl⟩
  go_wp2_with fail
  refine (tapeInt_nil _).mono ?_
  rintro r w2 ⟨rfl, rfl⟩
  go_wp2_with fail
  refine (tapeReal_nil _).mono ?_
  rintro r w2 ⟨rfl, rfl⟩
  go_wp2_with fail
  refine (tapeText_nil _ _).mono ?_
  rintro r w2 ⟨rfl, b2⟩
  go_wp2_with fail
  refine (tapeFlag_nil _).mono ?_
  rintro r w3 ⟨rfl, rfl⟩
  go_wp2_with fail
  refine (rest_nil _).mono ?_
  rintro r w3 ⟨rfl, rfl⟩
  go_wp2_with fail
  refine (err_nil _).mono ?_
  rintro r w3 ⟨rfl, rfl⟩
  go_wp2_with fail
  refine (end_nil _).mono ?_
  rintro r w3 ⟨rfl, rfl⟩
  go_wp2_with fail
  go_ret
  exact ⟨rfl, b1.trans (b2.mono b1.size)⟩
end Go.Proofs.Ytpnkdpmhphhenaa
