/-
  THE DOCUMENT's OWN Holds.
-/
import Derived.Test.YtceenimikhlpcaaRst
namespace Go.Proofs.Ytceenimikhlpcaa
open Go.RowKit
theorem stV_range (a b : Val) : stV a b = 0 ∨ stV a b = 1 ∨ stV a b = 2 ∨ stV a b = 3 ∨ stV a b = 4 := by
  unfold stV
  split
  · exact .inl rfl
  · split
    · rcases tri_cases (ltS a.s b.s) (ltS b.s a.s) with h | h | h <;> simp [h]
    · split
      · exact .inr (.inl rfl)
      · split
        · exact .inr (.inl rfl)
        · rcases tri_cases (ltP (nk a) (nk b)) (ltP (nk b) (nk a)) with h | h | h <;> simp [h]
theorem stV_pos {a b : Val} (ka : isK a = true) (kb : isK b = true) : stV a b ≠ 0 := by
  unfold stV
  rw [if_neg (by rw [ka, kb]; decide)]
  split
  · rcases tri_cases (ltS a.s b.s) (ltS b.s a.s) with h | h | h <;> simp [h]
  · split
    · decide
    · split
      · decide
      · rcases tri_cases (ltP (nk a) (nk b)) (ltP (nk b) (nk a)) with h | h | h <;> simp [h]
end Go.Proofs.Ytceenimikhlpcaa
