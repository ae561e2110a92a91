/-
  ROUNDING KEEPS THE ORDER: of two whole numbers the floats next to them stand as they do, or alike.
-/
import Derived.Test.YtceenimikhlpcaaWhole
namespace Go.Proofs.Ytceenimikhlpcaa
theorem half_mono {m n d : Nat} (h : m ≤ n) : half m d ≤ half n d := by
  unfold half
  have hp : 0 < 2 ^ d := Nat.two_pow_pos _
  have a := Nat.div_add_mod m (2 ^ d)
  have b := Nat.div_add_mod n (2 ^ d)
  have hm := Nat.mod_lt m hp
  have hn := Nat.mod_lt n hp
  have hq : m / 2 ^ d ≤ n / 2 ^ d := Nat.div_le_div_right h
  generalize 2 ^ d = P at *
  generalize m / P = q at *
  generalize n / P = q' at *
  generalize m % P = r at *
  generalize n % P = r' at *
  by_cases e : q = q'
  · subst e
    have hr : r ≤ r' := by omega
    split
    · rename_i hc
      rw [if_pos (by omega)]
      exact Nat.le_refl _
    · omega
  · split <;> omega
theorem log2_mono {m n : Nat} (hm : m ≠ 0) (h : m ≤ n) : m.log2 ≤ n.log2 := (Nat.le_log2 (by omega)).2 (Nat.le_trans (Nat.log2_self_le hm) h)
theorem rung_mono {m n : Nat} (hm : m ≠ 0) (h : m ≤ n) : rung m ≤ rung n := by
  have hl := log2_mono hm h
  have k1 := kept_bounds hm
  have k2 := kept_bounds (m := n) (by omega)
  unfold rung
  by_cases e : m.log2 = n.log2
  · have : kept m ≤ kept n := by
      unfold kept
      rw [e]
      split
      · exact Nat.mul_le_mul_right _ h
      · exact half_mono h
    omega
  · obtain ⟨_, k1⟩ := k1
    obtain ⟨k2, _⟩ := k2
    have he : m.log2 + 1 ≤ n.log2 := by omega
    generalize kept m = x at *
    generalize kept n = y at *
    generalize m.log2 = a at *
    generalize n.log2 = b at *
    clear hl e h hm
    omega
/-- where the float next to n stands -/
def wk (n : Int) : Int := rkey (wholeB n)
theorem wk_zero : wk 0 = 0 := by decide +kernel
theorem wk_sg {n : Int} (hn : n ≠ 0) (h0 : -9223372036854775808 ≤ n) (h1 : n ≤ 9223372036854775807) : wk n = if n < 0 then -(rung n.natAbs : Int) else rung n.natAbs := by
  unfold wk
  rw [wholeB_rkey hn h0 h1]
  unfold sg
  by_cases h : n < 0 <;> simp [h]
theorem wk_mono {a b : Int} (ha0 : -9223372036854775808 ≤ a) (ha1 : a ≤ 9223372036854775807) (hb0 : -9223372036854775808 ≤ b) (hb1 : b ≤ 9223372036854775807) (h : a ≤ b) : wk a ≤ wk b := by
  by_cases a0 : a = 0
  · subst a0
    by_cases b0 : b = 0
    · subst b0; exact Int.le_refl _
    · rw [wk_zero, wk_sg b0 hb0 hb1, if_neg (by omega)]; omega
  · by_cases b0 : b = 0
    · subst b0
      rw [wk_zero, wk_sg a0 ha0 ha1, if_pos (by omega)]; omega
    · rw [wk_sg a0 ha0 ha1, wk_sg b0 hb0 hb1]
      by_cases na : a < 0
      · rw [if_pos na]
        by_cases nb : b < 0
        · rw [if_pos nb]
          have := rung_mono (m := b.natAbs) (n := a.natAbs) (by omega) (by omega)
          omega
        · rw [if_neg nb]; omega
      · rw [if_neg na, if_neg (by omega)]
        have := rung_mono (m := a.natAbs) (n := b.natAbs) (by omega) (by omega)
        omega
/-- floats that stand alike are of one whole number -/
theorem wk_inj {a b : Int} (ha0 : -9223372036854775808 ≤ a) (ha1 : a ≤ 9223372036854775807) (hb0 : -9223372036854775808 ≤ b) (hb1 : b ≤ 9223372036854775807) (h : wk a = wk b) : wholeV a = wholeV b := by
  by_cases a0 : a = 0
  · subst a0
    by_cases b0 : b = 0
    · subst b0; rfl
    · have := (rung_bounds (m := b.natAbs) (by omega) (by omega)).2.2
      rw [wk_zero, wk_sg b0 hb0 hb1] at h
      split at h <;> omega
  · have ra := (rung_bounds (m := a.natAbs) (by omega) (by omega)).2
    by_cases b0 : b = 0
    · subst b0
      rw [wk_zero, wk_sg a0 ha0 ha1] at h
      split at h <;> omega
    · have rb := (rung_bounds (m := b.natAbs) (by omega) (by omega)).2
      rw [wk_sg a0 ha0 ha1, wk_sg b0 hb0 hb1] at h
      have hs : (a < 0 ↔ b < 0) ∧ rung a.natAbs = rung b.natAbs := by
        by_cases na : a < 0 <;> by_cases nb : b < 0 <;> simp only [na, nb, if_true, if_false] at h ⊢ <;> first | (exfalso; omega) | (exact ⟨Iff.rfl, by omega⟩) | (exact ⟨trivial, by omega⟩)
      have t1 := toInt_rung (decide (a < 0)) (m := a.natAbs) (by omega) (by omega)
      have t2 := toInt_rung (decide (b < 0)) (m := b.natAbs) (by omega) (by omega)
      rw [hs.2] at t1
      have hd : decide (a < 0) = decide (b < 0) := by simp only [decide_eq_decide]; exact hs.1
      rw [hd] at t1
      rw [t1] at t2
      unfold wholeV
      rw [hd]
      exact Option.some.inj t2
end Go.Proofs.Ytceenimikhlpcaa
