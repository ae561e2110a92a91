/-
  awake, AND THE LAWS CrcSums, CrcReads AS WALKS.
-/
import Derived.Test.YtpnkdpmhphhenabRall
namespace Go.Proofs.Ytpnkdpmhphhenab
open Go.RowKit Go.Sort
theorem aw1 : CrcP.sumN (ByteArray.mk #[49, 50, 51, 52, 53, 54, 55, 56, 57]).data.toList = 3808858755 := by decide +kernel
theorem aw2 : unp (packS ⟨#[97]⟩ ++ ⟨#[120]⟩) = (⟨#[97]⟩, ⟨#[120]⟩, 0) := by decide +kernel
theorem aw3 : (packS ⟨#[97]⟩).size = 8 := by decide +kernel
theorem aw4 : (packS ⟨#[97]⟩ ++ ⟨#[120]⟩).size = 9 := by decide +kernel
theorem aw_unpack (w : World) : Calls Try.prog 13 #[.string (packS ⟨#[97]⟩ ++ ⟨#[120]⟩)] w fun e w' => e = .returned (.tuple #[.string ⟨#[97]⟩, .string ⟨#[120]⟩, .int .i64 0]) ∧ Below w.heap.size w w' := by
  have h := unpack_any (packS ⟨#[97]⟩ ++ ⟨#[120]⟩) (by rw [aw4]; decide) w
  rw [aw2] at h
  exact h
theorem aw_sum (w : World) : Calls Try.prog 11 #[.string ⟨#[49, 50, 51, 52, 53, 54, 55, 56, 57]⟩] w fun e w' => e = .returned (.int .u32 3808858755) ∧ w = w' := by
  have h := sum_any ⟨#[49, 50, 51, 52, 53, 54, 55, 56, 57]⟩ (by decide) w
  rw [aw1] at h
  exact h
theorem aw_core (p : ByteArray) (hp : p.size = 8) (h1 : ∀ w, Calls Try.prog 9 #[.string ⟨#[97]⟩] w fun e w' => e = .returned (.tuple #[.string p, .int .i64 0]) ∧ Below w.heap.size w w')
    (h2 : ∀ w, Calls Try.prog 13 #[.string (p ++ ⟨#[120]⟩)] w fun e w' => e = .returned (.tuple #[.string ⟨#[97]⟩, .string ⟨#[120]⟩, .int .i64 0]) ∧ Below w.heap.size w w') (w : World) :
    Calls Try.prog 8 #[] w fun e w' => e = .returned (.bool true) ∧ Below w.heap.size w w' := by
  have H1 := Lib.hid h1
  have H2 := Lib.hid h2
  clear h1 h2
  go_enter Try.func8, Try.ntmps8
  go_wp2_with fail
  refine (H1.out _).mono ?_
  rintro e w1 ⟨rfl, b1⟩
  go_wp2_with fail
  refine (H2.out _).mono ?_
  rintro e w2 ⟨rfl, b2⟩
  go_wp2_with fail
  refine (aw_sum _).mono ?_
  rintro e w3 ⟨rfl, rfl⟩
  go_wp2_with fail
  go_ret
  exact ⟨rfl, b1.trans (b2.mono b1.size)⟩
theorem awake_any (w : World) : Calls Try.prog 8 #[] w fun e w' => e = .returned (.bool true) ∧ Below w.heap.size w w' :=
  aw_core (packS ⟨#[97]⟩) aw3 (fun w => pack_any _ (by decide) w) aw_unpack w
theorem b_le {a b c : World} (h : Below a.heap.size a b) (k : Below b.heap.size b c) : Below a.heap.size a c := h.trans (k.mono h.size)
set_option maxHeartbeats 400000 in
theorem sums_law (s : ByteArray) (hs : s.size ≤ 9223372036854775807) (w : World) :
    Calls Try.prog 3 #[.string s] w fun e w' => e = .returned (.bool true) ∧ Below w.heap.size w w' := by
  by_cases h1 : s.size ≤ 1048576
  · by_cases h2 : s.size ≤ 20000
    · go_enter Try.func3, Try.ntmps3
      go_wp2_with fail
      refine (pack_any s h1 _).mono ?_
      rintro e w1 ⟨rfl, b1⟩
      go_wp2_with fail
      refine (rpack_any s h1 _).mono ?_
      rintro e w2 ⟨rfl, b2⟩
      go_wp2_with fail
      refine (awake_any _).mono ?_
      rintro e w3 ⟨rfl, b3⟩
      generalize packS s = pk at *
      go_wp2_with fail
      refine (sum_any s hs _).mono ?_
      rintro e w4 ⟨rfl, rfl⟩
      go_wp2_with fail
      refine (rsum_any s hs _).mono ?_
      rintro e w5 ⟨rfl, rfl⟩
      go_wp2_with fail
      go_ret
      exact ⟨rfl, b_le (b_le b1 b2) b3⟩
    · go_enter Try.func3, Try.ntmps3
      go_wp2_with fail
      refine (awake_any _).mono ?_
      rintro e w3 ⟨rfl, b3⟩
      go_wp2_with fail
      go_ret
      exact ⟨rfl, b3⟩
  · go_enter Try.func3, Try.ntmps3
    go_wp2_with fail
    refine (pack_long s (by omega) hs _).mono ?_
    rintro e w1 ⟨rfl, rfl⟩
    go_wp2_with fail
    refine (rpack_long s (by omega) hs _).mono ?_
    rintro e w2 ⟨rfl, rfl⟩
    go_wp2_with fail
    refine (awake_any _).mono ?_
    rintro e w3 ⟨rfl, b3⟩
    go_wp2_with fail
    go_ret
    exact ⟨rfl, b3⟩
theorem allS_small (s : ByteArray) : (allS s).1.length ≤ s.size := by
  have h : ∀ k t, (alls k t).1.length ≤ k := by
    intro k
    induction k with
    | zero => intro t; exact Nat.le_refl _
    | succ k ih =>
      intro t
      simp only [alls]
      split
      · exact Nat.zero_le _
      · have := ih (unp t).2.1
        simp; exact this
  have h7 : ∀ k t, 7 * (alls k t).1.length ≤ t.size := by
    intro k
    induction k with
    | zero => intro t; exact Nat.zero_le _
    | succ k ih =>
      intro t
      simp only [alls]
      split
      · exact Nat.zero_le _
      · rename_i hh
        have := ih (unp t).2.1
        have hl := unp_less t (by simpa using hh)
        simp; omega
  have := h7 (s.size + 1) s
  unfold allS; omega
set_option maxHeartbeats 1000000 in
theorem reads_law (s : ByteArray) (hs : s.size ≤ 9223372036854775807) (w : World) :
    Calls Try.prog 4 #[.string s] w fun e w' => e = .returned (.bool true) ∧ Below w.heap.size w w' := by
  by_cases h2 : s.size ≤ 20000
  · have hsm := allS_small s
    have hu := Lib.hid (fun W => unpack_any s (by omega) W)
    have hru := Lib.hid (fun W => runpack_any s (by omega) W)
    have ha := Lib.hid (fun W => all_any s (by omega) W)
    have hra := Lib.hid (fun W => rall_any s (by omega) W)
    rcases hx : unp s with ⟨a, b, e⟩
    rcases hy : allS s with ⟨xs, r⟩
    rw [hx] at hu hru
    rw [hy] at ha hra hsm
    clear hx hy
    go_enter Try.func4, Try.ntmps4
    go_wp2_with fail
    refine (hu.out _).mono ?_
    rintro x1 w1 ⟨rfl, b1⟩
    unfold unpV
    go_wp2_with fail
    refine (hru.out _).mono ?_
    rintro x2 w2 ⟨rfl, b2⟩
    unfold unpV
    go_wp2_with fail
    refine (ha.out _).mono ?_
    rintro x3 w3 ⟨v, rfl, o3, b3⟩
    go_wp2_with fail
    refine (hra.out _).mono ?_
    rintro x4 w4 ⟨v', rfl, o4, b4⟩
    obtain ⟨p, c, rfl, t3⟩ := o3.strs
    obtain ⟨p', c', rfl, t4⟩ := o4.strs
    go_wp2_with fail
    refine (awake_any _).mono ?_
    rintro x5 w5 ⟨rfl, b5⟩
    have hsame := Lib.hid (same_any xs p p' c c' w5 (by omega) ((t3.below b4).below b5) (t4.below b5))
    go_wp2_with fail
    refine hsame.out.mono ?_
    rintro x6 w6 ⟨rfl, b6⟩
    go_wp2_with fail
    go_ret
    exact ⟨rfl, b_le (b_le (b_le (b_le (b_le b1 b2) b3) b4) b5) b6⟩
  · go_enter Try.func4, Try.ntmps4
    go_wp2_with fail
    refine (awake_any _).mono ?_
    rintro e w3 ⟨rfl, b3⟩
    go_wp2_with fail
    go_ret
    exact ⟨rfl, b3⟩
end Go.Proofs.Ytpnkdpmhphhenab
