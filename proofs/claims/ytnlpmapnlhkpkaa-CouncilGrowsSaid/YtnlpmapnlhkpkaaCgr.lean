/-
  THE LAW OF CouncilGrows AND THAT OF CouncilMeets, as walks.
-/
import Derived.Test.YtnlpmapnlhkpkaaCaw
import Derived.Deep.QuietTactic
import Derived.BigQuiet
namespace Go.Proofs.Ytnlpmapnlhkpkaa
open Go.RowKit
theorem enough_nat {k x : Nat} (hk : k < 128) (hx : x < 128) (w : World) : Calls Try.prog 15 #[.int .i64 k, .int .i64 x] w fun e w' => e = .returned (.bool (decide (sz k < 2 * sz (k &&& x)))) ∧ w = w' := by
  have := enough_any (k : Int) (x : Int) w
  unfold enoughB at this
  rw [kn_nat hk, kn_nat hx] at this
  exact this
theorem awake_met (w : World) (P : Ending → World → Prop) (h : ∀ w', Below w.heap.size w w' → P (.returned (.bool true)) w') : Calls Try.prog 12 #[] w P :=
  (awake_any w).mono (by rintro e w' ⟨rfl, hb⟩; exact h w' hb)
theorem sz_mono {a b : Nat} (h : ∀ i, i < 7 → bt a i ≤ bt b i) : sz a ≤ sz b := by
  rw [sz_eq, sz_eq]
  have h0 := h 0 (by omega); have h1 := h 1 (by omega); have h2 := h 2 (by omega); have h3 := h 3 (by omega)
  have h4 := h 4 (by omega); have h5 := h 5 (by omega); have h6 := h 6 (by omega)
  omega
theorem and_self' (k : Nat) : k &&& k = k := Nat.and_self k
theorem sz_pos : ∀ k, k < 128 → k ≠ 0 → 0 < sz k := by decide +kernel
theorem sz_zero : sz 0 = 0 := by decide +kernel
theorem comp_bits : ∀ x : Nat, x < 128 → bits .andNot .i64 127 (x : Int) = ((127 - x : Nat) : Int) := by decide +kernel
theorem comp_bt : ∀ x, x < 128 → ∀ i, i < 7 → bt (127 - x) i = 1 - bt x i := by decide +kernel
theorem or_lt (a b : Nat) (h : a < 128) (h2 : b < 128) : a ||| b < 128 := Nat.or_lt_two_pow (n := 7) (by omega) (by omega)
theorem grow_or {k x r : Nat} (h : sz k < 2 * sz (k &&& x)) : sz k < 2 * sz (k &&& (x ||| r)) := by
  have := sz_mono (a := k &&& x) (b := k &&& (x ||| r)) (fun i _ => by
    rw [bt_and, bt_and, bt_or]
    exact Nat.mul_le_mul_left _ (Nat.le_max_left _ _))
  omega
theorem grow_in {k x r : Nat} (h : sz k < 2 * sz (k &&& x)) : sz (k &&& (x ||| r)) < 2 * sz ((k &&& (x ||| r)) &&& x) := by
  have h1 := sz_mono (a := k &&& (x ||| r)) (b := k) (fun i _ => by
    rw [bt_and]
    have := bt_le (x ||| r) i
    have := bt_le k i
    rcases Nat.le_one_iff_eq_zero_or_eq_one.1 (bt_le (x ||| r) i) with e | e <;> rw [e] <;> omega)
  have h2 := sz_mono (a := k &&& x) (b := (k &&& (x ||| r)) &&& x) (fun i _ => by
    rw [bt_and, bt_and, bt_and, bt_or]
    rcases Nat.le_one_iff_eq_zero_or_eq_one.1 (bt_le x i) with e | e <;> rcases Nat.le_one_iff_eq_zero_or_eq_one.1 (bt_le k i) with e2 | e2 <;> rcases Nat.le_one_iff_eq_zero_or_eq_one.1 (bt_le r i) with e3 | e3 <;> rw [e, e2, e3] <;> decide)
  omega
theorem not_both {k x : Nat} (hx : x < 128) (h : sz k < 2 * sz (k &&& x)) : ¬ sz k < 2 * sz (k &&& (127 - x)) := by
  intro h2
  have key : ∀ i, i < 7 → bt (k &&& x) i + bt (k &&& (127 - x)) i ≤ bt k i := fun i hi => by
    rw [bt_and, bt_and, comp_bt x hx i hi]
    rcases Nat.le_one_iff_eq_zero_or_eq_one.1 (bt_le x i) with e | e <;> rcases Nat.le_one_iff_eq_zero_or_eq_one.1 (bt_le k i) with e2 | e2 <;> rw [e, e2] <;> decide
  have k0 := key 0 (by omega)
  have k1 := key 1 (by omega)
  have k2 := key 2 (by omega)
  have k3 := key 3 (by omega)
  have k4 := key 4 (by omega)
  have k5 := key 5 (by omega)
  have k6 := key 6 (by omega)
  rw [sz_eq, sz_eq] at h h2
  omega
end Go.Proofs.Ytnlpmapnlhkpkaa
