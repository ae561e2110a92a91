/-
  THE DOCUMENT's OWN less AND more.
-/
import Derived.Test.YtceenimikhlpcaaHolds2
import Derived.Test.YtceenimikhlpcaaPart
namespace Go.Proofs.Ytceenimikhlpcaa
open Go.RowKit
/-- a whole number ahead of a real one, behind it -/
def lsB (n : Int) (f : Nat) : Bool := ltP (wk n, n - wholeV n) (rkey f, 0)
def mrB (n : Int) (f : Nat) : Bool := ltP (rkey f, 0) (wk n, n - wholeV n)
structure Tie (n : Int) (f : Nat) : Prop where
  e : f = wholeB n
  l : lsB n f = decide (n < wholeV n)
  m : mrB n f = decide (wholeV n < n)
  ne : n ≠ wholeV n
theorem tie_of {n : Int} {f : Nat} (h0 : -9223372036854775808 ≤ n) (h1 : n ≤ 9223372036854775807) (hf : f < 18446744073709551616) (ht : wk n = rkey f) (hx : isExact n.natAbs = false) : Tie n f := by
  have lw := wholeB_lt h0 h1
  have E := exact_whole h0 h1
  have hne : wholeV n ≠ n := fun e => by rw [E.2 e] at hx; cases hx
  have n0 : n ≠ 0 := by rintro rfl; exact hne (by decide +kernel)
  refine ⟨(rkey_inj lw hf ht (wk_ne n0 h0 h1)).symm, ?_, ?_, fun e => hne e.symm⟩
  · apply Bool.eq_iff_iff.2
    unfold lsB
    rw [ltP_iff]
    simp only [decide_eq_true_eq]
    omega
  · apply Bool.eq_iff_iff.2
    unfold mrB
    rw [ltP_iff]
    simp only [decide_eq_true_eq]
    omega
theorem geq_lt {n : Int} (h0 : -9223372036854775808 ≤ n) (h1 : n ≤ 9223372036854775807) (hv : wholeV n < 9223372036854775808) :
    (FloatKind.f64.format.order (wholeB n) 4890909195324358656 == some .gt) = false ∧ (FloatKind.f64.format.order (wholeB n) 4890909195324358656 == some .eq) = false := by
  have T := whole_test n h0 h1
  rw [decide_eq_true hv] at T
  cases ho : FloatKind.f64.format.order (wholeB n) 4890909195324358656 with
  | none => exact ⟨rfl, rfl⟩
  | some o => rw [ho] at T; cases o <;> first | (exact ⟨rfl, rfl⟩) | (exact absurd T (by decide))
theorem geq_of {n : Int} (h0 : -9223372036854775808 ≤ n) (h1 : n ≤ 9223372036854775807) (b : Bool) (hv : decide (wholeV n < 9223372036854775808) = b) :
    (FloatKind.f64.format.order (wholeB n) 4890909195324358656 == some .gt) = (!b && (FloatKind.f64.format.order (wholeB n) 4890909195324358656 == some .gt)) ∧
    (FloatKind.f64.format.order (wholeB n) 4890909195324358656 == some .eq || FloatKind.f64.format.order (wholeB n) 4890909195324358656 == some .gt) = !b ∧
    (FloatKind.f64.format.order (wholeB n) 4890909195324358656 == some .gt || FloatKind.f64.format.order (wholeB n) 4890909195324358656 == some .eq) = !b := by
  have T := whole_test n h0 h1
  have OO := ord_order (wholeB n) 4890909195324358656 (wholeB_lt h0 h1) (by decide)
  rw [ord_some (wholeB_nan h0 h1) (by decide)] at OO
  rw [hv] at T
  rw [OO] at T ⊢
  cases b <;> cases ho : compare (rkey (wholeB n)) (rkey 4890909195324358656) <;> rw [ho] at T <;> first | (exact absurd T (by decide)) | decide
end Go.Proofs.Ytceenimikhlpcaa
