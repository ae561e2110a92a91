/-
  FOR AgendaPlays: the document's own First.
-/
import Derived.Test.YtiklaaganiafjabRefs
namespace Go.Proofs.Ytiklaaganiafjab
open Go.RowKit
theorem rfirst_any (a : Option Addr) (c : Nat) (Z : Int) (R : List It) (w : World) (h : Its w a R) :
    Calls Try.prog 22 #[.agg #[.slice a R.length c, .int .i64 Z]] w fun e w' => e = .returned (fstV R) ∧ Below w.heap.size w w' := by
  have b0 := ((Below.refl w.heap.size w).alloc (Nat.le_refl _) (Obj.cells #[.slice a R.length c, .int .i64 Z] 27)).alloc (by simp) (Obj.cells #[.int .i64 0, .int .i64 0, .int .i64 0] 60)
  cases R with
  | nil =>
    unfold fstV agg
    go_enter Try.func22, Try.ntmps22
    go_wp2_with fail
    refine bodyPost_ret (by simp [results, Try.results22, go_sem]; try rfl) rfl ?_
    exact ⟨rfl, b0⟩
  | cons x R =>
    obtain ⟨g, o, rfl, hg, c1, c2, c3⟩ := h 0 (by simp)
    simp only [List.getElem_cons_zero, Nat.zero_mul, Nat.add_zero] at c1 c2 c3
    generalize hn : (x :: R).length = n at *
    have hn0 : 0 < n := by rw [← hn]; simp
    have hN : ((n : Int) == 0) = false := by simp; omega
    have hl1 : (0 : Int) < (n : Int) := by omega
    have B0 := Lib.hid b0
    clear h hn b0
    unfold fstV agg
    go_enter Try.func22, Try.ntmps22
    go_wp2_with fail
    refine bodyPost_ret (by simp [results, Try.results22, go_sem]; try rfl) rfl ?_
    exact ⟨rfl, ((Below.refl _ _).alloc (Nat.le_refl _) _).alloc (by simp) _⟩
end Go.Proofs.Ytiklaaganiafjab
