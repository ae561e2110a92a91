/-
  THE BYTES OF TWO NUMBERS STAND AS THE NUMBERS DO. Plain.
-/
import Derived.Test.YtpnkdpmhphhenaaLaws1
namespace Go.Proofs.Ytpnkdpmhphhenaa
open Go.RowKit
/-- l stands ahead of m, and neither begins with the other -/
def Lex (l m : List UInt8) : Prop := ∃ p x y l' m', l = p ++ x :: l' ∧ m = p ++ y :: m' ∧ x < y
theorem Lex.app {l m : List UInt8} (h : Lex l m) (s t : List UInt8) : Lex (l ++ s) (m ++ t) := by
  obtain ⟨p, x, y, l', m', rfl, rfl, h⟩ := h
  exact ⟨p, x, y, l' ++ s, m' ++ t, by simp, by simp, h⟩
theorem Lex.pre {l m : List UInt8} (h : Lex l m) (s : List UInt8) : Lex (s ++ l) (s ++ m) := by
  obtain ⟨p, x, y, l', m', rfl, rfl, h⟩ := h
  exact ⟨s ++ p, x, y, l', m', by simp, by simp, h⟩
theorem Lex.less {l m : List UInt8} (h : Lex l m) : Op.bytesLess l m = true := by
  obtain ⟨p, x, y, l', m', rfl, rfl, h⟩ := h
  induction p with
  | nil => simp [Op.bytesLess, h]
  | cons a p ih => simp only [List.cons_append, Op.bytesLess, BEq.rfl, Bool.true_and, ih, Bool.or_true]
theorem Lex.not {l m : List UInt8} (h : Lex l m) : Op.bytesLess m l = false := by
  obtain ⟨p, x, y, l', m', rfl, rfl, h⟩ := h
  induction p with
  | nil =>
    have h1 : ¬ y < x := fun k => by rw [UInt8.lt_iff_toNat_lt] at *; omega
    have h2 : (y == x) = false := by rw [beq_eq_false_iff_ne]; intro e; subst e; rw [UInt8.lt_iff_toNat_lt] at h; omega
    simp [Op.bytesLess, h1, h2]
  | cons a p ih =>
    have h1 : ¬ a < a := fun k => by rw [UInt8.lt_iff_toNat_lt] at k; omega
    simp only [List.cons_append, Op.bytesLess, ih, Bool.and_false, Bool.or_false, decide_eq_false_iff_not]; exact h1
theorem Lex.ne {l m : List UInt8} (h : Lex l m) : m ≠ l := by
  intro e
  have h1 := h.less
  have h2 := h.not
  rw [e] at h2
  rw [e] at h1
  rw [h1] at h2; exact absurd h2 (by decide)
theorem less_self (l : List UInt8) : Op.bytesLess l l = false := by
  induction l with
  | nil => rfl
  | cons a l ih =>
    have h1 : ¬ a < a := fun k => by rw [UInt8.lt_iff_toNat_lt] at k; omega
    simp only [Op.bytesLess, ih, Bool.and_false, Bool.or_false, decide_eq_false_iff_not]; exact h1
def u8s (l : List Int) : List UInt8 := l.map fun n => UInt8.ofNat n.toNat
theorem u8_lt {a b : Int} (h0 : 0 ≤ a) (h : a < b) (h1 : b < 256) : UInt8.ofNat a.toNat < UInt8.ofNat b.toNat := by
  rw [UInt8.lt_iff_toNat_lt, UInt8.toNat_ofNat', UInt8.toNat_ofNat']; omega
theorem be_lex : ∀ (k : Nat) (a b : Int), 0 ≤ a → a < b → b < 256 ^ k → Lex (u8s (be k a)) (u8s (be k b))
  | 0, a, b, h0, h, h1 => by simp at h1; omega
  | k + 1, a, b, h0, h, h1 => by
    simp only [be, u8s, List.map_append, List.map_cons, List.map_nil]
    by_cases hq : a / 256 < b / 256
    · refine Lex.app (be_lex k (a / 256) (b / 256) (by omega) hq ?_) _ _
      rw [Int.pow_succ] at h1
      omega
    · have e : a / 256 = b / 256 := by omega
      rw [e]
      exact ⟨_, _, _, [], [], rfl, rfl, u8_lt (by omega) (by omega) (by omega)⟩
theorem wid_mono {a b : Int} (h : a ≤ b) : wid a ≤ wid b := by
  unfold wid
  repeat' split
  all_goals omega
theorem wid_lt {b : Int} (h1 : b < 18446744073709551616) : b < 256 ^ wid b := by
  unfold wid
  repeat' split
  all_goals (simp only [Int.reducePow]; omega)
theorem numS_lex {a b : Int} (h0 : 0 ≤ a) (h : a < b) (h1 : b < 18446744073709551616) : Lex (numS a).data.toList (numS b).data.toList := by
  unfold numS
  rw [strOfNums_data, strOfNums_data]
  have hw := wid_le a
  have hw' := wid_le b
  unfold numI
  by_cases ha : a ≤ 247
  · rw [if_pos ha]
    by_cases hb : b ≤ 247
    · rw [if_pos hb]
      exact ⟨[], _, _, [], [], rfl, rfl, u8_lt h0 h (by omega)⟩
    · rw [if_neg hb]
      exact ⟨[], _, _, [], _, rfl, rfl, u8_lt h0 (by omega) (by omega)⟩
  · rw [if_neg ha, if_neg (by omega)]
    have hm := wid_mono (Int.le_of_lt h)
    by_cases hw2 : wid a < wid b
    · exact ⟨[], _, _, _, _, rfl, rfl, u8_lt (by omega) (by omega) (by omega)⟩
    · have e : wid a = wid b := by omega
      rw [e]
      exact Lex.pre (be_lex (wid b) a b h0 h (wid_lt h1)) [_]
end Go.Proofs.Ytpnkdpmhphhenaa
