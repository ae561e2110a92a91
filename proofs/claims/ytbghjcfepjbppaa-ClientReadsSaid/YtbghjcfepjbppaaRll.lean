/-
  THE LAW OF ClientReads AS A WALK: a reader that may not be.
-/
import Derived.Test.YtbghjcfepjbppaaRlp
import Derived.Test.YtbghjcfepjbppaaChk4
namespace Go.Proofs.Ytbghjcfepjbppaa
open Go.RowKit
set_option maxHeartbeats 4000000 in
set_option maxRecDepth 100000 in
theorem reads_no (nodes most : Int) (nm : ByteArray) (l : Value) (hk : nm.size ≤ 9223372036854775807) (h : mayR nodes nm most = false) (w : World) :
    Calls Try.prog 4 #[.agg #[.int .i64 nodes, .string nm], .int .i64 most, l] w fun e w' => e = .returned (.bool true) ∧ Below w.heap.size w w' := by
  have NR := Lib.hid (fun W => rdr_newN nodes nm most hk h W)
  have WD := Lib.hid (fun W => rword_any nm hk W)
  have B1 := Lib.hid (fun o d => drewB ((Below.refl w.heap.size w).alloc (Nat.le_refl _) o) d)
  have hz : Hid (∀ o d, w.heap.size ≤ ((w.alloc o).drewN d).heap.size) := Lib.hid (fun o d => (B1.out o d).size)
  unfold mayR manyB at h
  by_cases h1 : nodes < 1
  · go_enter Try.func4, Try.ntmps4
    go_wp2_with fail
    go_quiet (fail)
    go_wp2_with fail
    refine (NR.out _).mono ?_
    rintro e w1 ⟨rfl, rfl⟩
    go_wp2_with fail
    refine (awake_any _).mono ?_
    rintro e w2 ⟨rfl, b2⟩
    have B2 := Lib.hid ((B1.out _ _).trans (b2.mono (hz.out _ _)))
    clear b2
    go_wp2_with fail
    go_ret
    exact ⟨rfl, B2.out⟩
  · have g1 : decide (nodes < 1) = false := decide_eq_false h1
    have g1' : decide (1 ≤ nodes) = true := decide_eq_true (by omega)
    rw [g1'] at h
    by_cases h2 : 7 < nodes
    · have g2 : decide (7 < nodes) = true := decide_eq_true h2
      go_enter Try.func4, Try.ntmps4
      go_wp2_with fail
      go_quiet (fail)
      go_wp2_with fail
      refine (NR.out _).mono ?_
      rintro e w1 ⟨rfl, rfl⟩
      go_wp2_with fail
      refine (awake_any _).mono ?_
      rintro e w2 ⟨rfl, b2⟩
      have B2 := Lib.hid ((B1.out _ _).trans (b2.mono (hz.out _ _)))
      clear b2
      go_wp2_with fail
      go_ret
      exact ⟨rfl, B2.out⟩
    · have g2 : decide (7 < nodes) = false := decide_eq_false h2
      have g2' : decide (nodes ≤ 7) = true := decide_eq_true (by omega)
      rw [g2', Bool.true_and, Bool.true_and] at h
      generalize wordB nm = b2 at *
      cases b2
      · go_enter Try.func4, Try.ntmps4
        go_wp2_with fail
        go_quiet (fail)
        go_wp2_with fail
        refine (NR.out _).mono ?_
        rintro e w1 ⟨rfl, rfl⟩
        go_wp2_with fail
        refine (WD.out _).mono ?_
        rintro e w1 ⟨rfl, rfl⟩
        go_wp2_with fail
        refine (awake_any _).mono ?_
        rintro e w2 ⟨rfl, b2⟩
        have B2 := Lib.hid ((B1.out _ _).trans (b2.mono (hz.out _ _)))
        clear b2
        go_wp2_with fail
        go_ret
        exact ⟨rfl, B2.out⟩
      · have g3 : decide (most < 1) = true := by
          simp only [Bool.true_and, decide_eq_false_iff_not] at h
          simp; omega
        clear h
        go_enter Try.func4, Try.ntmps4
        go_wp2_with fail
        go_quiet (fail)
        go_wp2_with fail
        refine (NR.out _).mono ?_
        rintro e w1 ⟨rfl, rfl⟩
        go_wp2_with fail
        refine (WD.out _).mono ?_
        rintro e w1 ⟨rfl, rfl⟩
        go_wp2_with fail
        refine (awake_any _).mono ?_
        rintro e w2 ⟨rfl, b2⟩
        have B2 := Lib.hid ((B1.out _ _).trans (b2.mono (hz.out _ _)))
        clear b2
        go_wp2_with fail
        go_ret
        exact ⟨rfl, B2.out⟩
end Go.Proofs.Ytbghjcfepjbppaa
