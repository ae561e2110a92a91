/-
  WHAT THE ROWS REST ON, part 1: Hd0.
-/
import Derived.Laws.FloatArith
import Derived.Test.YtggjpallbapcmaaRows
import Derived.WalkKit
import Derived.Outline
import Derived.Lib.Hide
import Derived.Laws.Externs
import Derived.WalkLawsBesides
import Derived.Laws.BitsAllLaws
import Derived.Deep.QuietTactic
import Derived.BigQuiet
import Derived.Handy
import Derived.Lib.QuietBelow
import Derived.RegionTactic
/-
  NUMBERS AND VALUES, PLAIN: Ieee Rank Holds Whole Mono Stand Cmp Mixed Stnd Holds2 Part Rless Rst Rhd (carried over from the events' seat, what the client's lacks left out).
-/
/-
  REAL NUMBERS AS WORDS, plain: how two stand; the word next to a whole number, to the last bit; what it is as a whole number again; and the quotient of two such, of 54 digits or of 62.
-/
namespace Go.Proofs.Ytggjpallbapcmaa
open Ieee

/-- where a word stands, as a whole number: the sign's turned -/
def rkey (x : Nat) : Int := if x < 9223372036854775808 then (x : Int) else -((x : Int) - 9223372036854775808)
/-- is it no number? -/
def isNan (x : Nat) : Bool := decide (9218868437227405312 < x % 9223372036854775808)

def units (r : Nat) : Nat := if r < 4503599627370496 then r else (4503599627370496 + r % 4503599627370496) * 2 ^ (r / 4503599627370496 - 1)

theorem units_lt {r s : Nat} (h : r < s) : units r < units s := by
  unfold units
  by_cases hr : r < 4503599627370496
  · rw [if_pos hr]
    by_cases hs : s < 4503599627370496
    · rw [if_pos hs]; exact h
    · rw [if_neg hs]
      have : 1 ≤ 2 ^ (s / 4503599627370496 - 1) := Nat.one_le_two_pow
      calc r < 4503599627370496 * 1 := by omega
        _ ≤ (4503599627370496 + s % 4503599627370496) * 2 ^ (s / 4503599627370496 - 1) := Nat.mul_le_mul (by omega) this
  · have hs : ¬ s < 4503599627370496 := by omega
    rw [if_neg hr, if_neg hs]
    by_cases hd : r / 4503599627370496 = s / 4503599627370496
    · rw [hd]
      exact Nat.mul_lt_mul_of_pos_right (by omega) (Nat.two_pow_pos _)
    · have hlt : r / 4503599627370496 < s / 4503599627370496 := by omega
      obtain ⟨e, he⟩ : ∃ e, s / 4503599627370496 - 1 = (r / 4503599627370496 - 1) + 1 + e := ⟨s / 4503599627370496 - 1 - (r / 4503599627370496 - 1) - 1, by omega⟩
      rw [he, Nat.pow_add, Nat.pow_succ]
      have h1 : 1 ≤ 2 ^ e := Nat.one_le_two_pow
      have hp : 0 < 2 ^ (r / 4503599627370496 - 1) := Nat.two_pow_pos _
      calc (4503599627370496 + r % 4503599627370496) * 2 ^ (r / 4503599627370496 - 1)
          < (4503599627370496 * 2) * 2 ^ (r / 4503599627370496 - 1) := Nat.mul_lt_mul_of_pos_right (by omega) hp
        _ = 4503599627370496 * (2 ^ (r / 4503599627370496 - 1) * 2 * 1) := by rw [Nat.mul_one, Nat.mul_assoc, Nat.mul_comm 2]
        _ ≤ (4503599627370496 + s % 4503599627370496) * (2 ^ (r / 4503599627370496 - 1) * 2 * 2 ^ e) := Nat.mul_le_mul (by omega) (Nat.mul_le_mul (Nat.le_refl _) h1)

theorem units_lt_iff {r s : Nat} : units r < units s ↔ r < s := by
  refine ⟨fun h => ?_, units_lt⟩
  rcases Nat.lt_trichotomy r s with a | a | a
  · exact a
  · subst a; omega
  · have := units_lt a; omega
theorem units_inj {r s : Nat} (h : units r = units s) : r = s := by
  rcases Nat.lt_trichotomy r s with a | a | a
  · have := units_lt a; omega
  · exact a
  · have := units_lt a; omega
theorem units_zero : units 0 = 0 := rfl


theorem compare_of {a b c d : Int} (h : a < b ↔ c < d) (e : a = b ↔ c = d) : compare a b = compare c d := by
  show (if a < b then Ordering.lt else if a = b then .eq else .gt) = (if c < d then Ordering.lt else if c = d then .eq else .gt)
  by_cases h1 : a < b
  · rw [if_pos h1, if_pos (h.1 h1)]
  · rw [if_neg h1, if_neg (fun x => h1 (h.2 x))]
    by_cases h2 : a = b
    · rw [if_pos h2, if_pos (e.1 h2)]
    · rw [if_neg h2, if_neg (fun x => h2 (e.2 x))]

theorem compare_scale {a b : Int} {p : Int} (hp : 0 < p) : compare a b = compare (a * p) (b * p) := by
  refine compare_of ⟨fun h => Int.mul_lt_mul_of_pos_right h hp, fun h => Int.lt_of_mul_lt_mul_right h (Int.le_of_lt hp)⟩ ⟨fun h => by rw [h], fun h => Int.eq_of_mul_eq_mul_right (by omega) h⟩

/-- a finite word -/
def finW (neg : Bool) (r : Nat) : Datum := if r < 4503599627370496 then .number neg r (-1074) else .number neg (4503599627370496 + r % 4503599627370496) (-1074 + (r / 4503599627370496 - 1 : Nat))

def sg (neg : Bool) (n : Nat) : Int := if neg then -(n : Int) else n

theorem order_number (s t : Bool) (m n a b : Nat) : Datum.order (.number s m (-1074 + (a : Nat))) (.number t n (-1074 + (b : Nat))) = some (compare (sg s (m * 2 ^ a)) (sg t (n * 2 ^ b))) := by
  unfold Datum.order
  simp only
  obtain ⟨c, hc⟩ : ∃ c, min a b = c := ⟨_, rfl⟩
  have hmin : min (-1074 + (a : Int)) (-1074 + (b : Int)) = -1074 + (c : Int) := by omega
  have ea : (-1074 + (a : Int) - (-1074 + (c : Int))).toNat = a - c := by omega
  have eb : (-1074 + (b : Int) - (-1074 + (c : Int))).toNat = b - c := by omega
  rw [hmin, ea, eb]
  congr 1
  rw [compare_scale (p := ((2 ^ c : Nat) : Int)) (by exact_mod_cast Nat.two_pow_pos c)]
  have rkey : ∀ (s : Bool) (m a : Nat), c ≤ a → signed s m (a - c) * ((2 ^ c : Nat) : Int) = sg s (m * 2 ^ a) := by
    intro s m a h
    have : m * 2 ^ (a - c) * 2 ^ c = m * 2 ^ a := by rw [Nat.mul_assoc, ← Nat.pow_add, Nat.sub_add_cancel h]
    unfold signed sg
    rw [Nat.shiftLeft_eq]
    cases s
    · simp only [Bool.false_eq_true, if_false]; exact_mod_cast this
    · simp only [if_true]; rw [Int.neg_mul]; congr 1; exact_mod_cast this
  rw [rkey s m a (by omega), rkey t n b (by omega)]

theorem fin_form (neg : Bool) (r : Nat) : ∃ m a : Nat, finW neg r = .number neg m (-1074 + (a : Nat)) ∧ m * 2 ^ a = units r := by
  unfold finW units
  by_cases h : r < 4503599627370496
  · rw [if_pos h, if_pos h]; exact ⟨r, 0, by simp, by simp⟩
  · rw [if_neg h, if_neg h]; exact ⟨_, _, rfl, rfl⟩

theorem order_fin (s t : Bool) (r q : Nat) : Datum.order (finW s r) (finW t q) = some (compare (sg s r) (sg t q)) := by
  obtain ⟨m, a, e1, u1⟩ := fin_form s r
  obtain ⟨n, b, e2, u2⟩ := fin_form t q
  rw [e1, e2, order_number, u1, u2]
  congr 1
  have hr : units r = 0 ↔ r = 0 := ⟨fun h => units_inj (h.trans units_zero.symm), fun h => by rw [h]; rfl⟩
  have hq : units q = 0 ↔ q = 0 := ⟨fun h => units_inj (h.trans units_zero.symm), fun h => by rw [h]; rfl⟩
  have h1 := @units_lt_iff r q
  have h2 := @units_lt_iff q r
  cases s <;> cases t <;> unfold sg <;> simp only [Bool.false_eq_true, if_false, if_true] <;> refine compare_of ?_ ?_ <;> omega

theorem read_double (x : Nat) (h : x < 18446744073709551616) :
    double.read x = if x % 9223372036854775808 < 9218868437227405312 then finW (decide (9223372036854775808 ≤ x)) (x % 9223372036854775808) else if x % 9223372036854775808 = 9218868437227405312 then .infinity (decide (9223372036854775808 ≤ x)) else .nan (decide (9223372036854775808 ≤ x)) (x % 9223372036854775808 - 9218868437227405312) := by
  have e1 : double.signWeight = 9223372036854775808 := by decide +kernel
  have e2 : double.binade = 4503599627370496 := by decide +kernel
  have e3 : double.infRung = 9218868437227405312 := by decide +kernel
  have e4 : double.leastPlace = -1074 := by decide +kernel
  have hn : (x / 9223372036854775808 % 2 == 1) = decide (9223372036854775808 ≤ x) := by
    rw [Bool.eq_iff_iff]; simp; omega
  unfold Format.read
  simp only [e1, e2, e3, e4, hn]
  unfold finW
  by_cases h0 : x % 9223372036854775808 < 4503599627370496
  · have : x % 9223372036854775808 < 9218868437227405312 := by omega
    simp only [h0, this, if_true]
  · simp only [h0, if_false]

theorem order_nan_left (x y : Nat) (hx : x < 18446744073709551616) (h : isNan x = true) : double.order x y = none := by
  have h : 9218868437227405312 < x % 9223372036854775808 := of_decide_eq_true h
  unfold Format.order
  rw [read_double x hx, if_neg (by omega), if_neg (by omega)]
  unfold Datum.order
  cases double.read y <;> rfl
theorem order_nan_right (x y : Nat) (hy : y < 18446744073709551616) (h : isNan y = true) : double.order x y = none := by
  have h : 9218868437227405312 < y % 9223372036854775808 := of_decide_eq_true h
  unfold Format.order
  rw [read_double y hy, if_neg (by omega), if_neg (by omega)]
  unfold Datum.order
  cases double.read x <;> rfl

theorem key_sg (x : Nat) (h : x < 18446744073709551616) : rkey x = sg (decide (9223372036854775808 ≤ x)) (x % 9223372036854775808) := by
  unfold rkey sg
  by_cases hx : x < 9223372036854775808
  · rw [if_pos hx, if_neg (by simp; omega), Nat.mod_eq_of_lt hx]
  · rw [if_neg hx, if_pos (by simp; omega)]; omega

theorem compare_lt' {a b : Int} (h : a < b) : compare a b = .lt := by
  show (if a < b then Ordering.lt else if a = b then .eq else .gt) = _
  rw [if_pos h]
theorem compare_gt' {a b : Int} (h : b < a) : compare a b = .gt := by
  show (if a < b then Ordering.lt else if a = b then .eq else .gt) = _
  rw [if_neg (by omega), if_neg (by omega)]
theorem compare_eq' {a b : Int} (h : a = b) : compare a b = .eq := by
  show (if a < b then Ordering.lt else if a = b then .eq else .gt) = _
  rw [if_neg (by omega), if_pos h]

theorem order_key (x y : Nat) (hx : x < 18446744073709551616) (hy : y < 18446744073709551616) (h1 : isNan x = false) (h2 : isNan y = false) : double.order x y = some (compare (rkey x) (rkey y)) := by
  have h1 : ¬ 9218868437227405312 < x % 9223372036854775808 := of_decide_eq_false h1
  have h2 : ¬ 9218868437227405312 < y % 9223372036854775808 := of_decide_eq_false h2
  unfold Format.order
  rw [read_double x hx, read_double y hy, key_sg x hx, key_sg y hy]
  generalize decide (9223372036854775808 ≤ x) = s
  generalize decide (9223372036854775808 ≤ y) = t
  generalize x % 9223372036854775808 = r at *
  generalize y % 9223372036854775808 = q at *
  by_cases ha : r < 9218868437227405312
  · rw [if_pos ha]
    obtain ⟨m, a, e1, u1⟩ := fin_form s r
    by_cases hb : q < 9218868437227405312
    · rw [if_pos hb, order_fin]
    · rw [if_neg hb, if_pos (by omega), e1]
      unfold Datum.order
      cases t <;> simp only [Bool.false_eq_true, if_false, if_true]
      · rw [compare_lt']; unfold sg; cases s <;> simp only [Bool.false_eq_true, if_false, if_true] <;> omega
      · rw [compare_gt']; unfold sg; cases s <;> simp only [Bool.false_eq_true, if_false, if_true] <;> omega
  · rw [if_neg ha, if_pos (by omega)]
    by_cases hb : q < 9218868437227405312
    · obtain ⟨m, a, e1, u1⟩ := fin_form t q
      rw [if_pos hb, e1]
      unfold Datum.order
      cases s <;> simp only [Bool.false_eq_true, if_false, if_true]
      · rw [compare_gt']; unfold sg; cases t <;> simp only [Bool.false_eq_true, if_false, if_true] <;> omega
      · rw [compare_lt']; unfold sg; cases t <;> simp only [Bool.false_eq_true, if_false, if_true] <;> omega
    · rw [if_neg hb, if_pos (by omega)]
      have : r = q := by omega
      subst this
      unfold Datum.order
      have hr : 0 < r := by omega
      cases s <;> cases t <;> simp only
      · rw [compare_eq' rfl]; rfl
      · rw [compare_gt']; rfl; unfold sg; simp; omega
      · rw [compare_lt']; rfl; unfold sg; simp; omega
      · rw [compare_eq' rfl]; rfl
/-- what is left of n when its last d digits are dropped: to the nearest, of two as near the even one -/
def half (n d : Nat) : Nat := n / 2 ^ d + (if 2 ^ d < 2 * (n % 2 ^ d) ∨ (2 * (n % 2 ^ d) = 2 ^ d ∧ n / 2 ^ d % 2 = 1) then 1 else 0)

theorem cut_even (neg : Bool) (n d : Nat) (h : d ≤ n.log2 + 2) : Toward.even.cut neg n d = half n d := by
  unfold Toward.cut half
  simp only [Nat.min_eq_left h, Nat.shiftLeft_eq, Nat.one_mul]
  congr 1
  by_cases h1 : 2 ^ d < 2 * (n % 2 ^ d)
  · simp [h1]
  · by_cases h2 : 2 * (n % 2 ^ d) = 2 ^ d
    · by_cases h3 : n / 2 ^ d % 2 = 1
      · simp [h2, h3, Bool.toNat]
      · have : (n / 2 ^ d % 2 == 1) = false := by simpa using h3
        simp [h2, this, Bool.toNat]
        omega
    · have : (2 ^ d == 2 * (n % 2 ^ d)) = false := by simp; exact fun h => h2 h.symm
      simp [h1, h2, this, Bool.toNat]

/-- kept digits of a number that is not 0: 53 of them, the first is set (or it is 2^53) -/
def kept (m : Nat) : Nat := if m.log2 ≤ 52 then m * 2 ^ (52 - m.log2) else half m (m.log2 - 52)

theorem half_zero (n : Nat) : half n 0 = n := by
  unfold half
  simp [Nat.mod_one]

theorem nearest_form (neg : Bool) (m : Nat) (p : Int) (hm : m ≠ 0) (h1 : -1074 ≤ p + m.log2 - 52) (h2 : p + m.log2 - 52 + 1074 ≤ 2040) (hk : kept m ≤ 9007199254740992) :
    double.nearest neg m p = (if neg then 9223372036854775808 else 0) + ((p + m.log2 - 52 + 1074).toNat * 4503599627370496 + kept m) := by
  unfold Format.nearest
  have e1 : double.leastPlace = -1074 := by decide +kernel
  have e2 : double.fractionBits = 52 := rfl
  have e3 : double.binade = 4503599627370496 := by decide +kernel
  have e4 : double.infRung = 9218868437227405312 := by decide +kernel
  have e5 : double.signWeight = 9223372036854775808 := by decide +kernel
  simp only [hm, if_false, e1, e2, e3, e4]
  have hl : max (p + (m.log2 : Int) - (52 : Nat)) (-1074) = p + m.log2 - 52 := by omega
  rw [hl]
  have hkept : Toward.even.cut neg (m <<< (p - (p + (m.log2 : Int) - 52)).toNat) (p + (m.log2 : Int) - 52 - p).toNat = kept m := by
    unfold kept
    by_cases hd : m.log2 ≤ 52
    · rw [if_pos hd, show (p + (m.log2 : Int) - 52 - p).toNat = 0 by omega, show (p - (p + (m.log2 : Int) - 52)).toNat = 52 - m.log2 by omega, cut_even _ _ _ (by omega), half_zero, Nat.shiftLeft_eq]
    · rw [if_neg hd, show (p + (m.log2 : Int) - 52 - p).toNat = m.log2 - 52 by omega, show (p - (p + (m.log2 : Int) - 52)).toNat = 0 by omega, Nat.shiftLeft_zero, cut_even _ _ _ (by omega)]
  rw [hkept]
  rw [show p + (m.log2 : Int) - 52 - -1074 = p + m.log2 - 52 + 1074 by omega]
  have hle : (p + (m.log2 : Int) - 52 + 1074).toNat * 4503599627370496 + kept m ≤ 9218868437227405312 := by
    have : (p + (m.log2 : Int) - 52 + 1074).toNat ≤ 2040 := by omega
    omega
  rw [Nat.min_eq_left hle]
  unfold Format.word
  rw [e5]
  cases neg <;> simp

theorem log2_bounds {m : Nat} (hm : m ≠ 0) : 2 ^ m.log2 ≤ m ∧ m < 2 ^ (m.log2 + 1) := ⟨Nat.log2_self_le hm, Nat.lt_log2_self⟩

theorem kept_bounds {m : Nat} (hm : m ≠ 0) : 4503599627370496 ≤ kept m ∧ kept m ≤ 9007199254740992 := by
  obtain ⟨h1, h2⟩ := log2_bounds hm
  unfold kept
  by_cases hd : m.log2 ≤ 52
  · rw [if_pos hd]
    have e : 2 ^ m.log2 * 2 ^ (52 - m.log2) = 4503599627370496 := by rw [← Nat.pow_add, show m.log2 + (52 - m.log2) = 52 by omega]
    have e' : 2 ^ (m.log2 + 1) * 2 ^ (52 - m.log2) = 9007199254740992 := by rw [← Nat.pow_add, show m.log2 + 1 + (52 - m.log2) = 53 by omega]
    have a := Nat.mul_le_mul_right (2 ^ (52 - m.log2)) h1
    have b := Nat.mul_le_mul_right (2 ^ (52 - m.log2)) (Nat.le_of_lt h2)
    omega
  · rw [if_neg hd]
    unfold half
    have hp : 0 < 2 ^ (m.log2 - 52) := Nat.two_pow_pos _
    have e : 4503599627370496 * 2 ^ (m.log2 - 52) = 2 ^ m.log2 := by rw [show (4503599627370496 : Nat) = 2 ^ 52 by decide +kernel, ← Nat.pow_add, show 52 + (m.log2 - 52) = m.log2 by omega]
    have e' : 9007199254740992 * 2 ^ (m.log2 - 52) = 2 ^ (m.log2 + 1) := by rw [show (9007199254740992 : Nat) = 2 ^ 53 by decide +kernel, ← Nat.pow_add, show 53 + (m.log2 - 52) = m.log2 + 1 by omega]
    have a : 4503599627370496 ≤ m / 2 ^ (m.log2 - 52) := (Nat.le_div_iff_mul_le hp).2 (by omega)
    have b : m / 2 ^ (m.log2 - 52) < 9007199254740992 := (Nat.div_lt_iff_lt_mul hp).2 (by omega)
    split <;> omega

/-- the rung of a whole number that is not 0 -/
def rung (m : Nat) : Nat := (m.log2 + 1022) * 4503599627370496 + kept m

theorem floatOfInt_zero : floatOfInt .f64 0 = 0 := by decide +kernel
theorem floatOfInt_form (n : Int) (hn : n ≠ 0) (hl : n.natAbs ≤ 9223372036854775808) : floatOfInt .f64 n = (if n < 0 then 9223372036854775808 else 0) + rung n.natAbs := by
  have hm : n.natAbs ≠ 0 := by omega
  have hlog : n.natAbs.log2 ≤ 63 := by
    have := (Nat.log2_lt hm (k := 64)).2 (by omega)
    omega
  show double.nearest (n < 0) n.natAbs 0 = _
  rw [nearest_form _ _ _ hm (by omega) (by omega) (kept_bounds hm).2]
  unfold rung
  rw [show (0 + (n.natAbs.log2 : Int) - 52 + 1074).toNat = n.natAbs.log2 + 1022 by omega]
  by_cases h : n < 0 <;> simp [h]

/-- the digits kept of n, of which a further part stands behind, if more is said -/
def keptM (m : Nat) (more : Bool) : Nat :=
  if m.log2 ≤ 52 then m * 2 ^ (52 - m.log2)
  else m / 2 ^ (m.log2 - 52) + (if 2 ^ (m.log2 - 52 - 1) < m % 2 ^ (m.log2 - 52) ∨ (m % 2 ^ (m.log2 - 52) = 2 ^ (m.log2 - 52 - 1) ∧ (more = true ∨ m / 2 ^ (m.log2 - 52) % 2 = 1)) then 1 else 0)

theorem keptM_false (m : Nat) : keptM m false = kept m := by
  unfold keptM kept
  by_cases h : m.log2 ≤ 52
  · rw [if_pos h, if_pos h]
  · rw [if_neg h, if_neg h]
    unfold half
    congr 1
    have e : 2 ^ (m.log2 - 52) = 2 * 2 ^ (m.log2 - 52 - 1) := by
      rw [← Nat.pow_succ']; congr 1; omega
    rw [e]
    generalize 2 ^ (m.log2 - 52 - 1) = T
    congr 1
    simp only [Bool.false_eq_true, false_or]
    apply propext
    omega

theorem log2_eq {n k : Nat} (h1 : 2 ^ k ≤ n) (h2 : n < 2 ^ (k + 1)) : n.log2 = k := by
  have hn : n ≠ 0 := by have := Nat.two_pow_pos k; omega
  have a := (Nat.le_log2 hn).2 h1
  have b := (Nat.log2_lt hn).2 h2
  omega

theorem log2_lift {n m j : Nat} (hn : n ≠ 0) (h : m / 2 ^ j = n) : m.log2 = n.log2 + j := by
  obtain ⟨a, b⟩ := log2_bounds hn
  have hp : 0 < 2 ^ j := Nat.two_pow_pos _
  refine log2_eq ?_ ?_
  · rw [Nat.pow_add]
    have := (Nat.le_div_iff_mul_le hp).1 (show 2 ^ n.log2 ≤ m / 2 ^ j by omega)
    exact this
  · rw [show n.log2 + j + 1 = n.log2 + 1 + j by omega, Nat.pow_add]
    exact (Nat.div_lt_iff_lt_mul hp).1 (by omega)

/-- the quotient to 54 digits and a last one that says that more is left; and to 62 digits with what is left: they round alike -/
theorem quotient_same {X N : Nat} (hN : 0 < N) (hq : 9007199254740992 ≤ X / N) (hq2 : X / N < 36028797018963968) :
    (2 * (X / N) + (X % N != 0).toNat).log2 + 7 = (X * 256 / N).log2 ∧ kept (2 * (X / N) + (X % N != 0).toNat) = keptM (X * 256 / N) (decide (0 < X * 256 % N)) := by
  have hX := Nat.div_add_mod X N
  have hXX := Nat.div_add_mod (X * 256) N
  have hr : X % N < N := Nat.mod_lt _ hN
  have hR : X * 256 % N < N := Nat.mod_lt _ hN
  have hQ : X * 256 / N / 2 ^ 8 = X / N := by
    rw [Nat.div_div_eq_div_mul]
    exact Nat.mul_div_mul_right X N (by decide)
  have hM : (2 * (X / N) + (X % N != 0).toNat) / 2 ^ 1 = X / N := by
    have : (X % N != 0).toNat ≤ 1 := by cases (X % N != 0) <;> decide
    omega
  have hne : X / N ≠ 0 := by omega
  have l1 := log2_lift hne hQ
  have l2 := log2_lift hne hM
  have lq1 : 53 ≤ (X / N).log2 := (Nat.le_log2 hne).2 (by omega)
  have lq2 : (X / N).log2 < 55 := (Nat.log2_lt hne).2 (by omega)
  -- what is left, and what is left of what is left
  have hs : (X % N != 0).toNat = if X % N = 0 then 0 else 1 := by
    by_cases h : X % N = 0
    · simp [h]
    · have : (X % N != 0) = true := by simpa using h
      rw [this, if_neg h]; rfl
  have hdiv : X * 256 / N = 256 * (X / N) + (X * 256 / N) % 256 := by omega
  have hleft : 256 * (X % N) = (X * 256 / N) % 256 * N + X * 256 % N := by
    have e1 : N * (X * 256 / N) = 256 * (N * (X / N)) + (X * 256 / N) % 256 * N := by
      calc N * (X * 256 / N) = N * (256 * (X / N) + (X * 256 / N) % 256) := by rw [← hdiv]
        _ = _ := by rw [Nat.mul_add, Nat.mul_comm N ((X * 256 / N) % 256)]; rw [Nat.mul_left_comm]
    omega
  have hs1 : (X % N != 0).toNat ≤ 1 := by rw [hs]; split <;> omega
  have hs0 : (X % N != 0).toNat = 0 ↔ X % N = 0 := by rw [hs]; split <;> omega
  clear hs hX hXX hq hq2
  generalize (X % N != 0).toNat = s at *
  generalize X * 256 / N = Q at *
  generalize X * 256 % N = R at *
  generalize X / N = q at *
  generalize X % N = r at *
  refine ⟨by omega, ?_⟩
  have z : s = 0 ↔ Q % 256 = 0 ∧ R = 0 := by
    rw [hs0]
    constructor
    · intro h; subst h
      have : Q % 256 * N = 0 := by omega
      rcases Nat.mul_eq_zero.1 this with h | h <;> omega
    · rintro ⟨h, h'⟩
      rw [h] at hleft; omega
  clear hleft hs0
  have hl : q.log2 = 53 ∨ q.log2 = 54 := by omega
  unfold kept keptM half
  rcases hl with h | h
  · rw [l1, l2, h]
    simp only [Nat.reduceAdd, Nat.reduceSub, Nat.reducePow, Nat.reduceLeDiff, if_false, decide_eq_true_eq]
    have w : (2 * q + s) / 4 = Q / 512 := by omega
    rw [w]
    congr 1
    congr 1
    apply propext
    omega
  · rw [l1, l2, h]
    simp only [Nat.reduceAdd, Nat.reduceSub, Nat.reducePow, Nat.reduceLeDiff, if_false, decide_eq_true_eq]
    have w : (2 * q + s) / 8 = Q / 1024 := by omega
    rw [w]
    congr 1
    congr 1
    apply propext
    omega

/-- the whole number that the float next to m is -/
def near (m : Nat) : Nat := if m.log2 ≤ 52 then m else kept m * 2 ^ (m.log2 - 52)

theorem rung_bounds {m : Nat} (hm : m ≠ 0) (hl : m ≤ 9223372036854775808) : m.log2 ≤ 63 ∧ rung m < 9218868437227405312 ∧ 4503599627370496 ≤ rung m := by
  have h1 : m.log2 < 64 := (Nat.log2_lt hm).2 (by omega)
  obtain ⟨a, b⟩ := kept_bounds hm
  unfold rung
  omega

theorem cut_zero (neg : Bool) (n d : Nat) (h : d ≤ n.log2 + 2) : Toward.zero.cut neg n d = n / 2 ^ d := by
  unfold Toward.cut
  simp only [Nat.min_eq_left h, Nat.shiftLeft_eq, Nat.one_mul]
  rfl

theorem toInt_number (neg : Bool) (m : Nat) (p : Int) (h : (-p).toNat ≤ (m * 2 ^ p.toNat).log2 + 2) : (Datum.number neg m p).toInt .zero = some (sg neg (m * 2 ^ p.toNat / 2 ^ (-p).toNat)) := by
  unfold Datum.toInt Datum.integral
  simp only [Nat.shiftLeft_eq]
  rw [cut_zero _ _ _ h]
  unfold signed sg
  simp

theorem toInt_rung (neg : Bool) {m : Nat} (hm : m ≠ 0) (hl : m ≤ 9223372036854775808) : (double.read ((if neg then 9223372036854775808 else 0) + rung m)).toInt .zero = some (sg neg (near m)) := by
  obtain ⟨b1, b2, b3⟩ := rung_bounds hm hl
  obtain ⟨k1, k2⟩ := kept_bounds hm
  have hmod : ((if neg then 9223372036854775808 else 0) + rung m) % 9223372036854775808 = rung m := by cases neg <;> simp <;> omega
  have hneg : decide (9223372036854775808 ≤ (if neg then 9223372036854775808 else 0) + rung m) = neg := by cases neg <;> simp <;> omega
  rw [read_double _ (by cases neg <;> simp <;> omega), hmod, hneg, if_pos b2]
  unfold finW
  rw [if_neg (by omega)]
  by_cases hc : kept m = 9007199254740992
  · have e1 : rung m / 4503599627370496 - 1 = m.log2 + 1023 := by unfold rung; omega
    have e2 : rung m % 4503599627370496 = 0 := by unfold rung; omega
    rw [e1, e2]
    have hlog : ¬ m.log2 ≤ 52 := by
      intro h
      have hk : kept m = m * 2 ^ (52 - m.log2) := by unfold kept; rw [if_pos h]
      have := (log2_bounds hm).2
      have e' : 2 ^ (m.log2 + 1) * 2 ^ (52 - m.log2) = 9007199254740992 := by rw [← Nat.pow_add, show m.log2 + 1 + (52 - m.log2) = 53 by omega]
      have hp : 0 < 2 ^ (52 - m.log2) := Nat.two_pow_pos _
      have := Nat.mul_lt_mul_of_pos_right this hp
      omega
    have ep : (-1074 + ((m.log2 + 1023 : Nat) : Int)).toNat = m.log2 - 52 + 1 := by omega
    have en : (-(-1074 + ((m.log2 + 1023 : Nat) : Int))).toNat = 0 := by omega
    rw [toInt_number _ _ _ (by omega), ep, en]
    unfold near
    rw [if_neg hlog, hc]
    refine congrArg (fun x => some (sg neg x)) ?_
    rw [Nat.pow_succ, Nat.pow_zero, Nat.div_one, Nat.mul_comm _ 2, ← Nat.mul_assoc]
  · have e1 : rung m / 4503599627370496 - 1 = m.log2 + 1022 := by unfold rung; omega
    have e2 : 4503599627370496 + rung m % 4503599627370496 = kept m := by unfold rung; omega
    rw [e1, e2]
    have hkl : (kept m).log2 = 52 := log2_eq (by omega) (by omega)
    by_cases hlog : m.log2 ≤ 52
    · have ep : (-1074 + ((m.log2 + 1022 : Nat) : Int)).toNat = 0 := by omega
      have en : (-(-1074 + ((m.log2 + 1022 : Nat) : Int))).toNat = 52 - m.log2 := by omega
      rw [toInt_number _ _ _ (by rw [ep, en, Nat.pow_zero, Nat.mul_one, hkl]; omega), ep, en]
      unfold near
      rw [if_pos hlog]
      unfold kept
      rw [if_pos hlog, Nat.pow_zero, Nat.mul_one, Nat.mul_div_cancel _ (Nat.two_pow_pos _)]
    · have ep : (-1074 + ((m.log2 + 1022 : Nat) : Int)).toNat = m.log2 - 52 := by omega
      have en : (-(-1074 + ((m.log2 + 1022 : Nat) : Int))).toNat = 0 := by omega
      rw [toInt_number _ _ _ (by omega), ep, en]
      unfold near
      rw [if_neg hlog, Nat.pow_zero, Nat.div_one]

/-- is a whole number a float itself? -/
def isExact (m : Nat) : Bool := decide (m.log2 ≤ 52) || decide (m % 2 ^ (m.log2 - 52) = 0)

theorem near_exact (m : Nat) : near m = m ↔ isExact m = true := by
  unfold near isExact
  by_cases h : m.log2 ≤ 52
  · simp [h]
  · rw [if_neg h]
    simp only [h, decide_false, Bool.false_or, decide_eq_true_eq]
    unfold kept half
    rw [if_neg h]
    generalize m.log2 - 52 = d
    have hp : 0 < 2 ^ d := Nat.two_pow_pos _
    have hdm := Nat.div_add_mod m (2 ^ d)
    constructor
    · intro he
      rw [← he, Nat.mul_mod_left]
    · intro he
      rw [he]
      rw [if_neg (by omega), Nat.add_zero, Nat.mul_comm]
      omega

theorem near_le {m : Nat} (hm : m ≠ 0) (hl : m ≤ 9223372036854775808) : near m ≤ 9223372036854775808 := by
  obtain ⟨b1, b2, b3⟩ := rung_bounds hm hl
  obtain ⟨k1, k2⟩ := kept_bounds hm
  by_cases h63 : m.log2 = 63
  · have : m = 9223372036854775808 := by have := (log2_bounds hm).1; rw [h63] at this; omega
    subst this
    decide +kernel
  · unfold near
    by_cases h : m.log2 ≤ 52
    · rw [if_pos h]; exact hl
    · rw [if_neg h]
      calc kept m * 2 ^ (m.log2 - 52) ≤ 9007199254740992 * 2 ^ 10 := Nat.mul_le_mul k2 (Nat.pow_le_pow_right (by decide) (by omega))
        _ = 9223372036854775808 := by decide +kernel

theorem near_lt {m : Nat} (hm : m ≠ 0) (hl : m < 9223372036854775808) : near m < 9223372036854775808 ↔ rung m < 4890909195324358656 := by
  obtain ⟨b1, b2, b3⟩ := rung_bounds hm (by omega)
  obtain ⟨k1, k2⟩ := kept_bounds hm
  have h62 : m.log2 < 63 := (Nat.log2_lt hm).2 (by omega)
  by_cases hc : m.log2 = 62
  · unfold near rung
    rw [hc, if_neg (by decide)]
    simp only [Nat.reduceSub, Nat.reducePow]
    omega
  · have h1 : near m < 9223372036854775808 := by
      unfold near
      by_cases h : m.log2 ≤ 52
      · rw [if_pos h]; exact hl
      · rw [if_neg h]
        calc kept m * 2 ^ (m.log2 - 52) ≤ 9007199254740992 * 2 ^ 9 := Nat.mul_le_mul k2 (Nat.pow_le_pow_right (by decide) (by omega))
          _ < 9223372036854775808 := by decide +kernel
    refine ⟨fun _ => ?_, fun _ => h1⟩
    unfold rung
    omega

/-- the quotient of two words that are whole numbers (not 0) -/
theorem div_rungs (s t : Bool) {m n : Nat} (hm : m ≠ 0) (hn : n ≠ 0) (hl : m ≤ 9223372036854775808) (hl' : n ≤ 9223372036854775808) :
    double.div ((if s then 9223372036854775808 else 0) + rung m) ((if t then 9223372036854775808 else 0) + rung n) =
      some ((if s ^^ t then 9223372036854775808 else 0) + (((((4503599627370496 + rung m % 4503599627370496) * 4611686018427387904 / (4503599627370496 + rung n % 4503599627370496)).log2 + (960 + rung m / 4503599627370496 - rung n / 4503599627370496)) * 4503599627370496)
        + keptM ((4503599627370496 + rung m % 4503599627370496) * 4611686018427387904 / (4503599627370496 + rung n % 4503599627370496)) (decide (0 < (4503599627370496 + rung m % 4503599627370496) * 4611686018427387904 % (4503599627370496 + rung n % 4503599627370496))))) := by
  have hw : ∀ (s : Bool) (m : Nat), m ≠ 0 → m ≤ 9223372036854775808 → double.read ((if s then 9223372036854775808 else 0) + rung m) = .number s (4503599627370496 + rung m % 4503599627370496) (-1074 + (rung m / 4503599627370496 - 1 : Nat)) := by
    intro s m hm hl
    obtain ⟨b1, b2, b3⟩ := rung_bounds hm hl
    have hmod : ((if s then 9223372036854775808 else 0) + rung m) % 9223372036854775808 = rung m := by cases s <;> simp <;> omega
    have hneg : decide (9223372036854775808 ≤ (if s then 9223372036854775808 else 0) + rung m) = s := by cases s <;> simp <;> omega
    rw [read_double _ (by cases s <;> simp <;> omega), hmod, hneg, if_pos b2]
    unfold finW
    rw [if_neg (by omega)]
  have hE : ∀ m : Nat, m ≠ 0 → m ≤ 9223372036854775808 → 1023 ≤ rung m / 4503599627370496 ∧ rung m / 4503599627370496 ≤ 1087 := by
    intro m hm hl
    obtain ⟨b1, b2, b3⟩ := rung_bounds hm hl
    obtain ⟨k1, k2⟩ := kept_bounds hm
    unfold rung
    omega
  obtain ⟨E1, E2⟩ := hE m hm hl
  obtain ⟨F1, F2⟩ := hE n hn hl'
  unfold Format.div
  rw [hw s m hm hl, hw t n hn hl']
  have e2 : double.fractionBits = 52 := rfl
  unfold Datum.quotient
  have hM1 : 4503599627370496 ≤ 4503599627370496 + rung m % 4503599627370496 := by omega
  have hM2 : 4503599627370496 + rung m % 4503599627370496 < 9007199254740992 := by omega
  have hN1 : 4503599627370496 ≤ 4503599627370496 + rung n % 4503599627370496 := by omega
  have hN2 : 4503599627370496 + rung n % 4503599627370496 < 9007199254740992 := by omega
  generalize 4503599627370496 + rung m % 4503599627370496 = M at *
  generalize 4503599627370496 + rung n % 4503599627370496 = N at *
  generalize rung m / 4503599627370496 = E at *
  generalize rung n / 4503599627370496 = F at *
  have lM : M.log2 = 52 := log2_eq (by omega) (by omega)
  have lN : N.log2 = 52 := log2_eq (by omega) (by omega)
  have hN0 : N ≠ 0 := by omega
  simp only [hN0, if_false, e2, lM, lN, Nat.shiftLeft_eq]
  have hq1 : 9007199254740992 ≤ M * 2 ^ 54 / N := (Nat.le_div_iff_mul_le (by omega)).2 (by omega)
  have hq2 : M * 2 ^ 54 / N < 36028797018963968 := (Nat.div_lt_iff_lt_mul (by omega)).2 (by omega)
  obtain ⟨g1, g2⟩ := quotient_same (X := M * 2 ^ 54) (N := N) (by omega) hq1 hq2
  rw [show 52 + 2 + 52 - 52 = 54 by rfl]
  rw [show M * 2 ^ 54 * 256 = M * 4611686018427387904 by omega] at g1 g2
  have hlq : 61 ≤ (M * 4611686018427387904 / N).log2 ∧ (M * 4611686018427387904 / N).log2 < 63 := by
    have a : 2305843009213693952 ≤ M * 4611686018427387904 / N := (Nat.le_div_iff_mul_le (by omega)).2 (by omega)
    have b : M * 4611686018427387904 / N < 9223372036854775808 := (Nat.div_lt_iff_lt_mul (by omega)).2 (by omega)
    exact ⟨(Nat.le_log2 (by omega)).2 (by omega), (Nat.log2_lt (by omega)).2 (by omega)⟩
  have hmag : 2 * (M * 2 ^ 54 / N) + (M * 2 ^ 54 % N != 0).toNat ≠ 0 := by omega
  show Option.map double.write (some (.number _ _ _)) = _
  rw [Option.map_some]
  show some (double.nearest _ _ _) = _
  rw [nearest_form _ _ _ hmag (by omega) (by omega) (kept_bounds hmag).2, g2]
  refine congrArg some ?_
  generalize (2 * (M * 2 ^ 54 / N) + (M * 2 ^ 54 % N != 0).toNat).log2 = L at *
  rw [show (-1074 + ((E - 1 : Nat) : Int) - (-1074 + ((F - 1 : Nat) : Int)) - ((54 : Nat) : Int) - 1 + (L : Int) - 52 + 1074).toNat = (M * 4611686018427387904 / N).log2 + (960 + E - F) by omega]
end Go.Proofs.Ytggjpallbapcmaa
/-
  THE WALKS OF real.Rank, Less, Same and of the document's own place: a float is its 64 bits.
-/
namespace Go.Proofs.Ytggjpallbapcmaa
open Go.RowKit
/-- where a number stands -/
def rankN (x : Nat) : Nat := if isNan x then 18446744073709551615 else if 9223372036854775808 ≤ x then 18446744073709551615 - x else 9223372036854775808 + x
theorem rankN_lt {x : Nat} (h : x < 18446744073709551616) : rankN x < 18446744073709551616 := by unfold rankN; split <;> (try split) <;> omega
theorem nat_and_low (x : Nat) : x &&& 9223372036854775807 = x % 9223372036854775808 := Nat.and_two_pow_sub_one_eq_mod x 63
theorem nat_and_sign (x : Nat) (h : x < 18446744073709551616) : x &&& 9223372036854775808 = if 9223372036854775808 ≤ x then 9223372036854775808 else 0 := by
  have h1 := nat_bit 63 x
  rw [show (2 : Nat) ^ 63 = 9223372036854775808 by decide +kernel] at h1
  rw [h1]
  split <;> omega
theorem and_sign (x : Nat) (h : x < 18446744073709551616) : bits .and .u64 (x : Int) 9223372036854775808 = if 9223372036854775808 ≤ x then 9223372036854775808 else 0 := by
  have := u64_and_nat x 9223372036854775808 h (by decide)
  rw [nat_and_sign x h] at this
  refine this.trans ?_
  split <;> rfl
theorem and_low (x : Nat) (h : x < 18446744073709551616) : bits .and .u64 (x : Int) 9223372036854775807 = ((x % 9223372036854775808 : Nat) : Int) := by
  have := u64_and_nat x 9223372036854775807 h (by decide)
  rw [nat_and_low x] at this
  exact this
theorem andNot_sign (x : Nat) (h : x < 18446744073709551616) : bits .andNot .u64 (x : Int) 9223372036854775808 = ((x % 9223372036854775808 : Nat) : Int) := by
  have := u64_andNot_nat x 9223372036854775808 h (by decide)
  rw [show 18446744073709551615 - 9223372036854775808 = 9223372036854775807 by decide, nat_and_low x] at this
  exact this
theorem not_u64 (r : Nat) (h : r < 18446744073709551616) : bits .xor .u64 IntKind.u64.max (r : Int) = ((18446744073709551615 - r : Nat) : Int) := by
  have e2 : IntKind.u64.max = ((18446744073709551615 : Nat) : Int) := by decide
  rw [e2, u64_xor_nat _ _ (by decide) h]
  congr 1
  apply Nat.eq_of_testBit_eq
  intro i
  rw [Nat.testBit_xor, show 18446744073709551615 = 2 ^ 64 - 1 from rfl, Nat.testBit_two_pow_sub_one, show 2 ^ 64 - 1 - r = 2 ^ 64 - (r + 1) by omega, Nat.testBit_two_pow_sub_succ h]
  by_cases hi : i < 64
  · simp [hi]
  · have : r.testBit i = false := Nat.testBit_lt_two_pow (Nat.lt_of_lt_of_le (show r < 2 ^ 64 from h) (Nat.pow_le_pow_right (by decide) (by omega)))
    simp [hi, this]
theorem or_sign (x : Nat) (h : x < 9223372036854775808) : bits .or .u64 (x : Int) 9223372036854775808 = ((9223372036854775808 + x : Nat) : Int) := by
  have h1 := u64_or_nat x 9223372036854775808 (by omega) (by decide)
  rw [Nat.or_comm, nat_join 63 9223372036854775808 x (by decide +kernel) (by omega)] at h1
  exact h1
theorem run_bits (b : Nat) (w : World) : (callFunc 88 #[.float .f64 b]).run Try.prog w = .ok (.value (.int .u64 (b : Int))) w := by
  rw [run_callFunc_extern (P := Try.prog) (e := Extern.MathFloatBits.float64bits) Try.func88 (by kernel_rfl) (by kernel_rfl) (by kernel_rfl) (by kernel_rfl)]
  rfl
theorem ret_u64 {a b : Int} (h : a = b) : Ending.returned (.int .u64 a) = .returned (.int .u64 b) := by rw [h]
theorem ret_bool {a b : Bool} (h : a = b) : Ending.returned (.bool a) = .returned (.bool b) := by rw [h]
theorem isNan_iff (x : Nat) : isNan x = true ↔ 9218868437227405312 < x % 9223372036854775808 := by unfold isNan; simp
end Go.Proofs.Ytggjpallbapcmaa
/-
  THE WALKS OF real.Holds and of the document's own: by the words' places alone.
-/
namespace Go.Proofs.Ytggjpallbapcmaa
open Go.RowKit
/-- what a comparing answers, of how two stand -/
def opO (op : Int) (o : Option Ordering) : Bool :=
  if op = 1 then o == some .eq else if op = 2 then o != some .eq else if op = 3 then o == some .lt else if op = 4 then o == some .lt || o == some .eq
  else if op = 5 then o == some .gt else if op = 6 then o == some .gt || o == some .eq else false
/-- how two words stand as numbers -/
def ord (x y : Nat) : Option Ordering := if isNan x || isNan y then none else some (compare (rkey x) (rkey y))
theorem ord_order (x y : Nat) (hx : x < 18446744073709551616) (hy : y < 18446744073709551616) : FloatKind.f64.format.order x y = ord x y := by
  show Ieee.double.order x y = ord x y
  unfold ord
  by_cases h1 : isNan x = true
  · rw [order_nan_left x y hx h1, h1]; rfl
  · have h1 : isNan x = false := by simpa using h1
    by_cases h2 : isNan y = true
    · rw [order_nan_right x y hy h2, h2, h1]; rfl
    · have h2 : isNan y = false := by simpa using h2
      rw [order_key x y hx hy h1 h2, h1, h2]; rfl
theorem ret_any {a b : Bool} (h : a = b) (e : Ending) (he : e = .returned (.bool a)) : e = .returned (.bool b) := by rw [he, h]
theorem sign_yes {x : Nat} (hx : x < 18446744073709551616) (h : 9223372036854775808 ≤ x) : ((x : Int) / 9223372036854775808 == 1) = true := by simp; omega
theorem sign_no {x : Nat} (h : ¬ 9223372036854775808 ≤ x) : ((x : Int) / 9223372036854775808 == 1) = false := by simp; omega
theorem rkey_yes {x : Nat} (h : 9223372036854775808 ≤ x) : rkey x = -((x : Int) - 9223372036854775808) := by unfold rkey; rw [if_neg (by omega)]
theorem rkey_no {x : Nat} (h : ¬ 9223372036854775808 ≤ x) : rkey x = x := by unfold rkey; rw [if_pos (by omega)]
theorem ord_none_left {x y : Nat} (h : isNan x = true) : ord x y = none := by unfold ord; rw [h]; rfl
theorem ord_none_right {x y : Nat} (h : isNan y = true) : ord x y = none := by unfold ord; rw [h, Bool.or_true]; rfl
theorem ord_some {x y : Nat} (h : isNan x = false) (h' : isNan y = false) : ord x y = some (compare (rkey x) (rkey y)) := by unfold ord; rw [h, h']; rfl
theorem opO_none (op : Int) : opO op none = decide (op = 2) := by
  unfold opO
  by_cases h : op = 2
  · subst h; decide
  · simp [h]
end Go.Proofs.Ytggjpallbapcmaa
/-
  THE WALKS OF real.Whole, of the document's own, and of its rounding.
-/
namespace Go.Proofs.Ytggjpallbapcmaa
open Go.RowKit
/-- the whole number that the float next to n is -/
def wholeV (n : Int) : Int := sg (decide (n < 0)) (near n.natAbs)
/-- its bits -/
def wholeB (n : Int) : Nat := floatOfInt .f64 n
theorem near_zero : near 0 = 0 := by decide +kernel
theorem wholeB_form {n : Int} (hn : n ≠ 0) (h0 : -9223372036854775808 ≤ n) (h1 : n ≤ 9223372036854775807) : wholeB n = (if decide (n < 0) = true then 9223372036854775808 else 0) + rung n.natAbs := by
  unfold wholeB
  rw [floatOfInt_form n hn (by omega)]
  simp only [decide_eq_true_eq]
theorem wholeB_lt {n : Int} (h0 : -9223372036854775808 ≤ n) (h1 : n ≤ 9223372036854775807) : wholeB n < 18446744073709551616 := by
  by_cases hn : n = 0
  · subst hn; decide +kernel
  · rw [wholeB_form hn h0 h1]
    have := (rung_bounds (m := n.natAbs) (by omega) (by omega)).2.1
    split <;> omega
theorem wholeB_nan {n : Int} (h0 : -9223372036854775808 ≤ n) (h1 : n ≤ 9223372036854775807) : isNan (wholeB n) = false := by
  by_cases hn : n = 0
  · subst hn; decide +kernel
  · rw [wholeB_form hn h0 h1]
    have := (rung_bounds (m := n.natAbs) (by omega) (by omega)).2.1
    unfold isNan
    split <;> simp <;> omega
theorem wholeB_rkey {n : Int} (hn : n ≠ 0) (h0 : -9223372036854775808 ≤ n) (h1 : n ≤ 9223372036854775807) : rkey (wholeB n) = sg (decide (n < 0)) (rung n.natAbs) := by
  rw [wholeB_form hn h0 h1]
  have := (rung_bounds (m := n.natAbs) (by omega) (by omega)).2.1
  unfold rkey sg
  by_cases h : n < 0 <;> simp [h] <;> omega
theorem whole_test (n : Int) (h0 : -9223372036854775808 ≤ n) (h1 : n ≤ 9223372036854775807) : (FloatKind.f64.format.order (wholeB n) 4890909195324358656 == some .lt) = decide (wholeV n < 9223372036854775808) := by
  rw [ord_order _ _ (wholeB_lt h0 h1) (by decide), ord_some (wholeB_nan h0 h1) (by decide)]
  have hc : rkey 4890909195324358656 = 4890909195324358656 := by decide
  rw [hc]
  have key : rkey (wholeB n) < 4890909195324358656 ↔ wholeV n < 9223372036854775808 := by
    by_cases hn : n = 0
    · subst hn; decide +kernel
    · rw [wholeB_rkey hn h0 h1]
      unfold wholeV sg
      by_cases h : n < 0
      · simp [h]; omega
      · have := near_lt (m := n.natAbs) (by omega) (by omega)
        simp only [h, decide_false, Bool.false_eq_true, if_false]
        omega
  by_cases h : rkey (wholeB n) < 4890909195324358656
  · rw [compare_lt' h, decide_eq_true (key.1 h)]; rfl
  · rw [decide_eq_false (mt key.2 h)]
    by_cases e : rkey (wholeB n) = 4890909195324358656
    · rw [compare_eq' e]; rfl
    · rw [compare_gt' (by omega)]; rfl
theorem whole_back (n : Int) (h0 : -9223372036854775808 ≤ n) (h1 : n ≤ 9223372036854775807) (h : wholeV n < 9223372036854775808) : floatToIntVal .f64 (wholeB n) .i64 = some (wholeV n) := by
  have e : (FloatKind.f64.decode (wholeB n)).toInt .zero = some (wholeV n) := by
    by_cases hn : n = 0
    · subst hn; decide +kernel
    · rw [wholeB_form hn h0 h1]
      exact toInt_rung (decide (n < 0)) (m := n.natAbs) (by omega) (by omega)
  unfold floatToIntVal
  rw [e]
  have hle : -9223372036854775808 ≤ wholeV n := by
    unfold wholeV sg
    by_cases hn : n = 0
    · subst hn; rw [show (0 : Int).natAbs = 0 by rfl, near_zero]; decide
    · have := near_le (m := n.natAbs) (by omega) (by omega)
      split <;> omega
  have e1 : IntKind.i64.min = -9223372036854775808 := by decide
  have e2 : IntKind.i64.max = 9223372036854775807 := by decide
  simp only [e1, e2]
  rw [if_pos ⟨hle, by omega⟩]
theorem whole_exact (n : Int) (h0 : -9223372036854775808 ≤ n) (h1 : n ≤ 9223372036854775807) : (decide (wholeV n < 9223372036854775808) && (wholeV n == n)) = isExact n.natAbs := by
  have h := near_exact n.natAbs
  apply Bool.eq_iff_iff.2
  rw [← h]
  simp only [Bool.and_eq_true, decide_eq_true_eq, beq_iff_eq]
  unfold wholeV sg
  by_cases hn : n < 0
  · simp only [hn, decide_true, if_true]; omega
  · simp only [hn, decide_false, Bool.false_eq_true, if_false]; omega
theorem ret_fb {a b : Nat} {c d : Bool} (h : a = b) (h' : c = d) : Ending.returned (.tuple #[.float .f64 a, .bool c]) = .returned (.tuple #[.float .f64 b, .bool d]) := by rw [h, h']
theorem len_half (M : Nat) (h : M ≠ 0) : (if M = 0 then 0 else M.log2 + 1) = (if M / 2 = 0 then 0 else (M / 2).log2 + 1) + 1 := by
  rw [if_neg h]
  by_cases h2 : M / 2 = 0
  · have : M = 1 := by omega
    subst this; rfl
  · rw [if_neg h2]
    have := log2_lift (n := M / 2) (m := M) (j := 1) h2 (by omega)
    omega
theorem len_le {M : Nat} (h : M < 18446744073709551616) : (if M = 0 then 0 else M.log2 + 1) ≤ 64 := by
  split
  · omega
  · have := (Nat.log2_lt (n := M) (k := 64) (by assumption)).2 (by omega)
    omega
/-- a number's length in bits -/
def lenN (M : Nat) : Nat := if M = 0 then 0 else M.log2 + 1
theorem and_52 (x : Nat) (h : x < 18446744073709551616) : bits .and .u64 (x : Int) 4503599627370495 = ((x % 4503599627370496 : Nat) : Int) := by
  have := u64_and_nat x 4503599627370495 h (by decide)
  rw [show x &&& 4503599627370495 = x % 4503599627370496 from Nat.and_two_pow_sub_one_eq_mod x 52] at this
  exact this
theorem small_end {n : Nat} {e : Int} (more : Bool) (h0 : n ≠ 0) (h : n.log2 + 1 ≤ 53) (h1 : 0 ≤ (n.log2 : Int) + 1022 + e) (h2 : (n.log2 : Int) + 1022 + e ≤ 2044) :
    IntKind.u64.wrap ((1022 + ((n.log2 : Int) + 1) + e) * 4503599627370496 + bits .and .u64 (IntKind.u64.wrap ((n : Int) * 2 ^ (52 - n.log2))) 4503599627370495) = ((n.log2 : Int) + 1022 + e) * 4503599627370496 + (keptM n more : Nat) := by
  have hk : keptM n more = n * 2 ^ (52 - n.log2) := by unfold keptM; rw [if_pos (by omega)]
  have hk2 : kept n = n * 2 ^ (52 - n.log2) := by unfold kept; rw [if_pos (by omega)]
  obtain ⟨b1, b2⟩ := log2_bounds h0
  obtain ⟨k1, k2⟩ := kept_bounds h0
  have k3 : n * 2 ^ (52 - n.log2) < 9007199254740992 := by
    have e' : 2 ^ (n.log2 + 1) * 2 ^ (52 - n.log2) = 9007199254740992 := by rw [← Nat.pow_add, show n.log2 + 1 + (52 - n.log2) = 53 by omega]
    rw [← e']
    exact Nat.mul_lt_mul_of_pos_right b2 (Nat.two_pow_pos _)
  have e1 : ((n : Int) * 2 ^ (52 - n.log2)) = ((n * 2 ^ (52 - n.log2) : Nat) : Int) := by push_cast; rfl
  rw [e1, hk]
  rw [hk2] at k1
  generalize n * 2 ^ (52 - n.log2) = q at *
  rw [IntWalk.u64_in (q : Int) (by omega), and_52 q (by omega), IntWalk.u64_in _ (by omega)]
  omega
section
variable {n : Nat} {e : Int} (h0 : n ≠ 0) (hn : n < 18446744073709551616) (h : 53 < n.log2 + 1)
include h0 hn h
theorem big_logs : n.log2 - 52 ≤ 11 ∧ 1 ≤ n.log2 - 52 := by
  have := (Nat.log2_lt (n := n) (k := 64) h0).2 (by omega)
  omega
theorem big_pow : 2 ^ (n.log2 - 52) ≤ 2048 ∧ 2 ^ (n.log2 - 52) = 2 * 2 ^ (n.log2 - 52 - 1) := by
  obtain ⟨a, b⟩ := big_logs h0 hn h
  refine ⟨Nat.pow_le_pow_right (by decide) a, ?_⟩
  rw [← Nat.pow_succ']; congr 1; omega
theorem big_rest : bits .and .u64 (n : Int) (IntKind.u64.wrap (IntKind.u64.wrap (2 ^ (n.log2 - 52)) - 1)) = ((n % 2 ^ (n.log2 - 52) : Nat) : Int) := by
  obtain ⟨p1, p2⟩ := big_pow h0 hn h
  have hp : 0 < 2 ^ (n.log2 - 52) := Nat.two_pow_pos _
  have e1 : (2 : Int) ^ (n.log2 - 52) = ((2 ^ (n.log2 - 52) : Nat) : Int) := by push_cast; rfl
  rw [e1, IntWalk.u64_in ((2 ^ (n.log2 - 52) : Nat) : Int) (by omega), IntWalk.u64_in _ (by omega)]
  rw [show ((2 ^ (n.log2 - 52) : Nat) : Int) - 1 = ((2 ^ (n.log2 - 52) - 1 : Nat) : Int) by omega, u64_and_nat n _ hn (by omega), Nat.and_two_pow_sub_one_eq_mod]
theorem big_half : IntKind.u64.wrap (2 ^ (n.log2 - 52 - 1)) = ((2 ^ (n.log2 - 52 - 1) : Nat) : Int) := by
  obtain ⟨p1, p2⟩ := big_pow h0 hn h
  have e1 : (2 : Int) ^ (n.log2 - 52 - 1) = ((2 ^ (n.log2 - 52 - 1) : Nat) : Int) := by push_cast; rfl
  rw [e1, IntWalk.u64_in _ (by omega)]
omit h0 hn h in
theorem big_whole : (n : Int) / 2 ^ (n.log2 - 52) = ((n / 2 ^ (n.log2 - 52) : Nat) : Int) := by push_cast; rfl
omit hn in
theorem big_less : n / 2 ^ (n.log2 - 52) < 9007199254740992 ∧ 4503599627370496 ≤ n / 2 ^ (n.log2 - 52) := by
  have hp : 0 < 2 ^ (n.log2 - 52) := Nat.two_pow_pos _
  obtain ⟨b1, b2⟩ := log2_bounds h0
  constructor
  · refine (Nat.div_lt_iff_lt_mul hp).2 ?_
    rw [show (9007199254740992 : Nat) = 2 ^ 53 by decide +kernel, ← Nat.pow_add, show 53 + (n.log2 - 52) = n.log2 + 1 by omega]
    exact b2
  · refine (Nat.le_div_iff_mul_le hp).2 ?_
    rw [show (4503599627370496 : Nat) = 2 ^ 52 by decide +kernel, ← Nat.pow_add, show 52 + (n.log2 - 52) = n.log2 by omega]
    exact b1
omit hn in
theorem big_yes {more : Bool} (h1 : 0 ≤ (n.log2 : Int) + 1022 + e) (h2 : (n.log2 : Int) + 1022 + e ≤ 2044)
    (hc : 2 ^ (n.log2 - 52 - 1) < n % 2 ^ (n.log2 - 52) ∨ (n % 2 ^ (n.log2 - 52) = 2 ^ (n.log2 - 52 - 1) ∧ (more = true ∨ n / 2 ^ (n.log2 - 52) % 2 = 1))) :
    IntKind.u64.wrap (IntKind.u64.wrap ((1022 + ((n.log2 : Int) + 1) + e) * 4503599627370496 + IntKind.u64.wrap ((n : Int) / 2 ^ (n.log2 - 52) + 1)) - 4503599627370496) = ((n.log2 : Int) + 1022 + e) * 4503599627370496 + (keptM n more : Nat) := by
  have hk : keptM n more = n / 2 ^ (n.log2 - 52) + 1 := by unfold keptM; rw [if_neg (by omega), if_pos hc]
  obtain ⟨l1, l2⟩ := big_less h0 h
  rw [big_whole, hk]
  generalize n / 2 ^ (n.log2 - 52) = q at *
  rw [IntWalk.u64_in ((q : Int) + 1) (by omega), IntWalk.u64_in ((1022 + ((n.log2 : Int) + 1) + e) * 4503599627370496 + ((q : Int) + 1)) (by omega), IntWalk.u64_in _ (by omega)]
  omega
omit hn in
theorem big_no {more : Bool} (h1 : 0 ≤ (n.log2 : Int) + 1022 + e) (h2 : (n.log2 : Int) + 1022 + e ≤ 2044)
    (hc : ¬ (2 ^ (n.log2 - 52 - 1) < n % 2 ^ (n.log2 - 52) ∨ (n % 2 ^ (n.log2 - 52) = 2 ^ (n.log2 - 52 - 1) ∧ (more = true ∨ n / 2 ^ (n.log2 - 52) % 2 = 1)))) :
    IntKind.u64.wrap (IntKind.u64.wrap ((1022 + ((n.log2 : Int) + 1) + e) * 4503599627370496 + (n : Int) / 2 ^ (n.log2 - 52)) - 4503599627370496) = ((n.log2 : Int) + 1022 + e) * 4503599627370496 + (keptM n more : Nat) := by
  have hk : keptM n more = n / 2 ^ (n.log2 - 52) := by unfold keptM; rw [if_neg (by omega), if_neg hc, Nat.add_zero]
  obtain ⟨l1, l2⟩ := big_less h0 h
  rw [big_whole, hk]
  generalize n / 2 ^ (n.log2 - 52) = q at *
  rw [IntWalk.u64_in ((1022 + ((n.log2 : Int) + 1) + e) * 4503599627370496 + (q : Int)) (by omega), IntWalk.u64_in _ (by omega)]
  omega
end
theorem tmod_two {q : Nat} : ((q : Int).tmod 2 == 1) = decide (q % 2 = 1) := by
  apply Bool.eq_iff_iff.2
  simp only [beq_iff_eq, decide_eq_true_eq]
  rw [Int.tmod_eq_emod_of_nonneg (by omega)]
  omega
end Go.Proofs.Ytggjpallbapcmaa
/-
  ROUNDING KEEPS THE ORDER: of two whole numbers the floats next to them stand as they do, or alike.
-/
namespace Go.Proofs.Ytggjpallbapcmaa
theorem half_mono {m n d : Nat} (h : m ≤ n) : half m d ≤ half n d := by
  unfold half
  have hp : 0 < 2 ^ d := Nat.two_pow_pos _
  have a := Nat.div_add_mod m (2 ^ d)
  have b := Nat.div_add_mod n (2 ^ d)
  have hm := Nat.mod_lt m hp
  have hn := Nat.mod_lt n hp
  have hq : m / 2 ^ d ≤ n / 2 ^ d := Nat.div_le_div_right h
  generalize 2 ^ d = P at *
  generalize m / P = q at *
  generalize n / P = q' at *
  generalize m % P = r at *
  generalize n % P = r' at *
  by_cases e : q = q'
  · subst e
    have hr : r ≤ r' := by omega
    split
    · rename_i hc
      rw [if_pos (by omega)]
      exact Nat.le_refl _
    · omega
  · split <;> omega
theorem log2_mono {m n : Nat} (hm : m ≠ 0) (h : m ≤ n) : m.log2 ≤ n.log2 := (Nat.le_log2 (by omega)).2 (Nat.le_trans (Nat.log2_self_le hm) h)
theorem rung_mono {m n : Nat} (hm : m ≠ 0) (h : m ≤ n) : rung m ≤ rung n := by
  have hl := log2_mono hm h
  have k1 := kept_bounds hm
  have k2 := kept_bounds (m := n) (by omega)
  unfold rung
  by_cases e : m.log2 = n.log2
  · have : kept m ≤ kept n := by
      unfold kept
      rw [e]
      split
      · exact Nat.mul_le_mul_right _ h
      · exact half_mono h
    omega
  · obtain ⟨_, k1⟩ := k1
    obtain ⟨k2, _⟩ := k2
    have he : m.log2 + 1 ≤ n.log2 := by omega
    generalize kept m = x at *
    generalize kept n = y at *
    generalize m.log2 = a at *
    generalize n.log2 = b at *
    clear hl e h hm
    omega
/-- where the float next to n stands -/
def wk (n : Int) : Int := rkey (wholeB n)
theorem wk_zero : wk 0 = 0 := by decide +kernel
theorem wk_sg {n : Int} (hn : n ≠ 0) (h0 : -9223372036854775808 ≤ n) (h1 : n ≤ 9223372036854775807) : wk n = if n < 0 then -(rung n.natAbs : Int) else rung n.natAbs := by
  unfold wk
  rw [wholeB_rkey hn h0 h1]
  unfold sg
  by_cases h : n < 0 <;> simp [h]
theorem wk_mono {a b : Int} (ha0 : -9223372036854775808 ≤ a) (ha1 : a ≤ 9223372036854775807) (hb0 : -9223372036854775808 ≤ b) (hb1 : b ≤ 9223372036854775807) (h : a ≤ b) : wk a ≤ wk b := by
  by_cases a0 : a = 0
  · subst a0
    by_cases b0 : b = 0
    · subst b0; exact Int.le_refl _
    · rw [wk_zero, wk_sg b0 hb0 hb1, if_neg (by omega)]; omega
  · by_cases b0 : b = 0
    · subst b0
      rw [wk_zero, wk_sg a0 ha0 ha1, if_pos (by omega)]; omega
    · rw [wk_sg a0 ha0 ha1, wk_sg b0 hb0 hb1]
      by_cases na : a < 0
      · rw [if_pos na]
        by_cases nb : b < 0
        · rw [if_pos nb]
          have := rung_mono (m := b.natAbs) (n := a.natAbs) (by omega) (by omega)
          omega
        · rw [if_neg nb]; omega
      · rw [if_neg na, if_neg (by omega)]
        have := rung_mono (m := a.natAbs) (n := b.natAbs) (by omega) (by omega)
        omega
/-- floats that stand alike are of one whole number -/
theorem wk_inj {a b : Int} (ha0 : -9223372036854775808 ≤ a) (ha1 : a ≤ 9223372036854775807) (hb0 : -9223372036854775808 ≤ b) (hb1 : b ≤ 9223372036854775807) (h : wk a = wk b) : wholeV a = wholeV b := by
  by_cases a0 : a = 0
  · subst a0
    by_cases b0 : b = 0
    · subst b0; rfl
    · have := (rung_bounds (m := b.natAbs) (by omega) (by omega)).2.2
      rw [wk_zero, wk_sg b0 hb0 hb1] at h
      split at h <;> omega
  · have ra := (rung_bounds (m := a.natAbs) (by omega) (by omega)).2
    by_cases b0 : b = 0
    · subst b0
      rw [wk_zero, wk_sg a0 ha0 ha1] at h
      split at h <;> omega
    · have rb := (rung_bounds (m := b.natAbs) (by omega) (by omega)).2
      rw [wk_sg a0 ha0 ha1, wk_sg b0 hb0 hb1] at h
      have hs : (a < 0 ↔ b < 0) ∧ rung a.natAbs = rung b.natAbs := by
        by_cases na : a < 0 <;> by_cases nb : b < 0 <;> simp only [na, nb, if_true, if_false] at h ⊢ <;> first | (exfalso; omega) | (exact ⟨Iff.rfl, by omega⟩) | (exact ⟨trivial, by omega⟩)
      have t1 := toInt_rung (decide (a < 0)) (m := a.natAbs) (by omega) (by omega)
      have t2 := toInt_rung (decide (b < 0)) (m := b.natAbs) (by omega) (by omega)
      rw [hs.2] at t1
      have hd : decide (a < 0) = decide (b < 0) := by simp only [decide_eq_decide]; exact hs.1
      rw [hd] at t1
      rw [t1] at t2
      unfold wholeV
      rw [hd]
      exact Option.some.inj t2
end Go.Proofs.Ytggjpallbapcmaa
/-
  HOW TWO VALUES STAND. Plain.
-/
namespace Go.Proofs.Ytggjpallbapcmaa
structure Val where
  k : Int
  n : Int
  f : Nat
  s : ByteArray
structure Val.Wf (v : Val) : Prop where
  k : -9223372036854775808 ≤ v.k ∧ v.k ≤ 9223372036854775807
  n0 : -9223372036854775808 ≤ v.n
  n1 : v.n ≤ 9223372036854775807
  f : v.f < 18446744073709551616
def Val.val (v : Val) : Value := .agg #[.int .i64 v.k, .int .i64 v.n, .float .f64 v.f, .string v.s]
/-- ahead of it, behind it, or neither -/
def tri (lt gt : Bool) : Int := if lt then 2 else if gt then 4 else 3
def ltS (a b : ByteArray) : Bool := Op.bytesLess a.toList b.toList
def ltP (p q : Int × Int) : Bool := decide (p.1 < q.1) || (decide (p.1 = q.1) && decide (p.2 < q.2))
/-- where a number stands: the float next to it, and what it lies behind that -/
def nk (v : Val) : Int × Int := if v.k = 1 then (wk v.n, v.n - wholeV v.n) else (rkey v.f, 0)
def isK (v : Val) : Bool := decide (v.k = 1) || decide (v.k = 2) || decide (v.k = 3)
def nanV (v : Val) : Bool := decide (v.k = 2) && isNan v.f
def stV (a b : Val) : Int :=
  if (isK a && isK b) = false then 0 else if a.k = 3 ∧ b.k = 3 then tri (ltS a.s b.s) (ltS b.s a.s) else if a.k = 3 ∨ b.k = 3 then 1
  else if (nanV a || nanV b) = true then 1 else tri (ltP (nk a) (nk b)) (ltP (nk b) (nk a))
/-- what a comparing answers -/
def opS (op s : Int) : Bool :=
  if s = 0 then false else if op = 1 then s == 3 else if op = 2 then s != 3 else if op = 3 then s == 2 else if op = 4 then s == 2 || s == 3 else if op = 5 then s == 4 else if op = 6 then s == 4 || s == 3 else false
/-- -1, 0, 1, or 2 -/
def sdI (s : Int) : Int := if s = 2 then -1 else if s = 3 then 0 else if s = 4 then 1 else 2
/-! ### texts -/
theorem bl_irr : ∀ (l m : List UInt8), Op.bytesLess l m = true → Op.bytesLess m l = false
  | [], [], h => by simp [Op.bytesLess] at h
  | [], _ :: _, _ => by simp [Op.bytesLess]
  | _ :: _, [], h => by simp [Op.bytesLess] at h
  | x :: l, y :: m, h => by
    simp only [Op.bytesLess, Bool.or_eq_true, Bool.and_eq_true, decide_eq_true_eq, beq_iff_eq, Bool.or_eq_false_iff, Bool.and_eq_false_iff, decide_eq_false_iff_not, beq_eq_false_iff_ne] at h ⊢
    rw [UInt8.lt_iff_toNat_lt] at h ⊢
    rcases h with h | ⟨rfl, h⟩
    · exact ⟨by omega, .inl (fun e => by subst e; omega)⟩
    · exact ⟨by omega, .inr (bl_irr l m h)⟩
theorem bl_trans : ∀ (l m k : List UInt8), Op.bytesLess l m = true → Op.bytesLess m k = true → Op.bytesLess l k = true
  | _, [], _, h, _ => by cases ‹List UInt8› <;> simp [Op.bytesLess] at h
  | _, _ :: _, [], _, h => by simp [Op.bytesLess] at h
  | [], _ :: _, _ :: _, _, _ => by simp [Op.bytesLess]
  | x :: l, y :: m, z :: k, h, h' => by
    simp only [Op.bytesLess, Bool.or_eq_true, Bool.and_eq_true, decide_eq_true_eq, beq_iff_eq] at h h' ⊢
    rw [UInt8.lt_iff_toNat_lt] at *
    rcases h with h | ⟨rfl, h⟩
    · rcases h' with h' | ⟨rfl, h'⟩
      · exact .inl (by omega)
      · exact .inl h
    · rcases h' with h' | ⟨rfl, h'⟩
      · exact .inl h'
      · exact .inr ⟨rfl, bl_trans l m k h h'⟩
theorem bl_tot : ∀ (l m : List UInt8), Op.bytesLess l m = false → Op.bytesLess m l = false → l = m
  | [], [], _, _ => rfl
  | [], _ :: _, h, _ => by simp [Op.bytesLess] at h
  | _ :: _, [], _, h => by simp [Op.bytesLess] at h
  | x :: l, y :: m, h, h' => by
    simp only [Op.bytesLess, Bool.or_eq_false_iff, Bool.and_eq_false_iff, decide_eq_false_iff_not, beq_eq_false_iff_ne] at h h'
    rw [UInt8.lt_iff_toNat_lt] at *
    have e : x = y := by apply UInt8.toNat_inj.1; omega
    subst e
    rw [bl_tot l m (by rcases h.2 with h | h; exact absurd rfl h; exact h) (by rcases h'.2 with h | h; exact absurd rfl h; exact h)]
/-- a strict order, what neither stands ahead of being alike -/
structure Weak {α : Type} (L : α → α → Bool) : Prop where
  irr : ∀ x y, L x y = true → L y x = false
  tr : ∀ x y z, L x y = true → L y z = true → L x z = true
  al : ∀ x y z, L x y = false → L y x = false → L x z = L y z ∧ L z x = L z y
theorem weakS : Weak ltS where
  irr _ _ h := bl_irr _ _ h
  tr _ _ _ h h' := bl_trans _ _ _ h h'
  al x y z h h' := by unfold ltS at *; rw [bl_tot _ _ h h']; exact ⟨rfl, rfl⟩
theorem ltP_iff (p q : Int × Int) : ltP p q = true ↔ p.1 < q.1 ∨ (p.1 = q.1 ∧ p.2 < q.2) := by unfold ltP; simp
theorem ltP_not (p q : Int × Int) : ltP p q = false ↔ ¬ (p.1 < q.1 ∨ (p.1 = q.1 ∧ p.2 < q.2)) := by rw [← ltP_iff]; simp
theorem weakP : Weak ltP where
  irr x y h := by rw [ltP_iff] at h; rw [ltP_not]; omega
  tr x y z h h' := by rw [ltP_iff] at *; omega
  al x y z h h' := by
    rw [ltP_not] at h h'
    have e1 : x.1 = y.1 := by omega
    have e2 : x.2 = y.2 := by omega
    unfold ltP
    rw [e1, e2]
    exact ⟨rfl, rfl⟩
/-- the law of an order, of three -/
structure Ord3 (x xb y z : Int) : Prop where
  vx : x = -1 ∨ x = 0 ∨ x = 1 ∨ x = 2
  vy : y = -1 ∨ y = 0 ∨ y = 1 ∨ y = 2
  vz : z = -1 ∨ z = 0 ∨ z = 1 ∨ z = 2
  b : (x = 2 → xb = 2) ∧ (x ≠ 2 → xb = -x)
  t : x ≠ 2 → y ≠ 2 → z ≠ 2 ∧ (x = 0 → z = y) ∧ (y = 0 → z = x) ∧ (x = y → z = x)
theorem tri_cases (lt gt : Bool) : tri lt gt = 2 ∨ tri lt gt = 3 ∨ tri lt gt = 4 := by cases lt <;> cases gt <;> decide
theorem ord3_weak {α : Type} {L : α → α → Bool} (h : Weak L) (a b c : α) :
    Ord3 (sdI (tri (L a b) (L b a))) (sdI (tri (L b a) (L a b))) (sdI (tri (L b c) (L c b))) (sdI (tri (L a c) (L c a))) := by
  have i1 := h.irr a b
  have i2 := h.irr b c
  have i3 := h.irr a c
  have t1 := h.tr a b c
  have t2 := h.tr c b a
  have l1 := h.al a b c
  have l2 := h.al b c a
  generalize L a b = p at *
  generalize L b a = p' at *
  generalize L b c = q at *
  generalize L c b = q' at *
  generalize L a c = r at *
  generalize L c a = r' at *
  cases p <;> cases p' <;> cases q <;> cases q' <;> cases r <;> cases r' <;> simp at i1 i2 i3 t1 t2 l1 l2 <;> exact ⟨by decide, by decide, by decide, by decide, by decide⟩
theorem sdI_vals (s : Int) : sdI s = -1 ∨ sdI s = 0 ∨ sdI s = 1 ∨ sdI s = 2 := by
  unfold sdI
  split
  · exact .inl rfl
  · split
    · exact .inr (.inl rfl)
    · split
      · exact .inr (.inr (.inl rfl))
      · exact .inr (.inr (.inr rfl))
/-- what class a value is of: 0 none, 1 number, 2 text, 3 NaN -/
def clsV (v : Val) : Nat := if isK v = false then 0 else if v.k = 3 then 2 else if nanV v = true then 3 else 1
theorem stV_num {a b : Val} (ha : clsV a = 1) (hb : clsV b = 1) : stV a b = tri (ltP (nk a) (nk b)) (ltP (nk b) (nk a)) := by
  unfold clsV at ha hb
  unfold stV
  by_cases a1 : isK a = false
  · rw [if_pos a1] at ha; cases ha
  rw [if_neg a1] at ha
  by_cases b1 : isK b = false
  · rw [if_pos b1] at hb; cases hb
  rw [if_neg b1] at hb
  by_cases a2 : a.k = 3
  · rw [if_pos a2] at ha; cases ha
  rw [if_neg a2] at ha
  by_cases b2 : b.k = 3
  · rw [if_pos b2] at hb; cases hb
  rw [if_neg b2] at hb
  by_cases a3 : nanV a = true
  · rw [if_pos a3] at ha; cases ha
  by_cases b3 : nanV b = true
  · rw [if_pos b3] at hb; cases hb
  rw [if_neg (by simp_all), if_neg (by simp_all), if_neg (by simp_all), if_neg (by simp_all)]
theorem stV_text {a b : Val} (ha : clsV a = 2) (hb : clsV b = 2) : stV a b = tri (ltS a.s b.s) (ltS b.s a.s) := by
  unfold clsV at ha hb
  unfold stV
  by_cases a1 : isK a = false
  · rw [if_pos a1] at ha; cases ha
  rw [if_neg a1] at ha
  by_cases b1 : isK b = false
  · rw [if_pos b1] at hb; cases hb
  rw [if_neg b1] at hb
  by_cases a2 : a.k = 3
  · by_cases b2 : b.k = 3
    · rw [if_neg (by simp_all), if_pos ⟨a2, b2⟩]
    · rw [if_neg b2] at hb; split at hb <;> cases hb
  · rw [if_neg a2] at ha; split at ha <;> cases ha
theorem stV_else {a b : Val} (h1 : ¬ (clsV a = 1 ∧ clsV b = 1)) (h2 : ¬ (clsV a = 2 ∧ clsV b = 2)) : stV a b = 0 ∨ stV a b = 1 := by
  unfold stV
  by_cases a1 : (isK a && isK b) = false
  · rw [if_pos a1]; exact .inl rfl
  rw [if_neg a1]
  have ka : isK a = true := by cases h : isK a <;> simp_all
  have kb : isK b = true := by cases h : isK b <;> simp_all
  by_cases a2 : a.k = 3 ∧ b.k = 3
  · exact absurd (show clsV a = 2 ∧ clsV b = 2 by unfold clsV; simp [ka, kb, a2.1, a2.2]) h2
  rw [if_neg a2]
  by_cases a3 : a.k = 3 ∨ b.k = 3
  · rw [if_pos a3]; exact .inr rfl
  rw [if_neg a3]
  by_cases a4 : (nanV a || nanV b) = true
  · rw [if_pos a4]; exact .inr rfl
  have na : nanV a = false := by cases h : nanV a <;> simp_all
  have nb : nanV b = false := by cases h : nanV b <;> simp_all
  exact absurd (show clsV a = 1 ∧ clsV b = 1 by
    unfold clsV
    have x1 : ¬ a.k = 3 := fun e => a3 (.inl e)
    have x2 : ¬ b.k = 3 := fun e => a3 (.inr e)
    simp [ka, kb, na, nb, x1, x2]) h1
theorem sdI_else {s : Int} (h : s = 0 ∨ s = 1) : sdI s = 2 := by rcases h with rfl | rfl <;> rfl
/-- VALUES STAND AS AN ORDER -/
theorem stV_order (a b c : Val) : Ord3 (sdI (stV a b)) (sdI (stV b a)) (sdI (stV b c)) (sdI (stV a c)) := by
  by_cases n2 : clsV a = 1 ∧ clsV b = 1
  · by_cases c1 : clsV c = 1
    · rw [stV_num n2.1 n2.2, stV_num n2.2 n2.1, stV_num n2.2 c1, stV_num n2.1 c1]
      exact ord3_weak weakP (nk a) (nk b) (nk c)
    · have hb := sdI_else (stV_else (a := b) (b := c) (fun h => c1 h.2) (fun h => by omega))
      have hh := ord3_weak weakP (nk a) (nk b) (nk b)
      rw [hb]
      rw [stV_num n2.1 n2.2, stV_num n2.2 n2.1]
      exact ⟨hh.vx, by decide, sdI_vals _, hh.b, fun _ h => absurd rfl h⟩
  · by_cases t2 : clsV a = 2 ∧ clsV b = 2
    · by_cases c1 : clsV c = 2
      · rw [stV_text t2.1 t2.2, stV_text t2.2 t2.1, stV_text t2.2 c1, stV_text t2.1 c1]
        exact ord3_weak weakS a.s b.s c.s
      · have hb := sdI_else (stV_else (a := b) (b := c) (fun h => by omega) (fun h => c1 h.2))
        have hh := ord3_weak weakS a.s b.s b.s
        rw [hb]
        rw [stV_text t2.1 t2.2, stV_text t2.2 t2.1]
        exact ⟨hh.vx, by decide, sdI_vals _, hh.b, fun _ h => absurd rfl h⟩
    · have h1 := sdI_else (stV_else n2 t2)
      have h2 := sdI_else (stV_else (a := b) (b := a) (fun h => n2 ⟨h.2, h.1⟩) (fun h => t2 ⟨h.2, h.1⟩))
      rw [h1, h2]
      exact ⟨by decide, sdI_vals _, sdI_vals _, ⟨fun _ => rfl, fun h => absurd rfl h⟩, fun h => absurd rfl h⟩
end Go.Proofs.Ytggjpallbapcmaa
/-
  THE WALKS OF event.order at its three types, event.turned, event.kind, event.mixed.
-/
namespace Go.Proofs.Ytggjpallbapcmaa
open Go.RowKit
def trI (n m : Int) : Int := if n < m then 2 else if n = m then 3 else 4
def trO : Option Ordering → Int
  | none => 1
  | some .lt => 2
  | some .eq => 3
  | some .gt => 4
def tnI (s : Int) : Int := if s = 2 then 4 else if s = 4 then 2 else s
end Go.Proofs.Ytggjpallbapcmaa
/-
  A WHOLE NUMBER AND A REAL ONE: event.mixed.
-/
namespace Go.Proofs.Ytggjpallbapcmaa
open Go.RowKit
/-- how a whole number stands to a real one -/
def mxI (n : Int) (f : Nat) : Int := if isNan f = true then 1 else tri (ltP (wk n, n - wholeV n) (rkey f, 0)) (ltP (rkey f, 0) (wk n, n - wholeV n))
theorem rkey_inj {x y : Nat} (hx : x < 18446744073709551616) (hy : y < 18446744073709551616) (h : rkey x = rkey y) (h0 : rkey x ≠ 0) : x = y := by
  unfold rkey at *
  split at h <;> split at h <;> split at h0 <;> omega
theorem exact_whole {n : Int} (h0 : -9223372036854775808 ≤ n) (h1 : n ≤ 9223372036854775807) : isExact n.natAbs = true ↔ wholeV n = n := by
  have h := near_exact n.natAbs
  rw [← h]
  unfold wholeV sg
  by_cases hn : n < 0
  · simp only [hn, decide_true, if_true]; omega
  · simp only [hn, decide_false, Bool.false_eq_true, if_false]; omega
theorem wk_ne {n : Int} (hn : n ≠ 0) (h0 : -9223372036854775808 ≤ n) (h1 : n ≤ 9223372036854775807) : wk n ≠ 0 := by
  have := (rung_bounds (m := n.natAbs) (by omega) (by omega)).2.2
  rw [wk_sg hn h0 h1]
  split <;> omega
end Go.Proofs.Ytggjpallbapcmaa
/-
  THE WALKS OF event.stand, event.Holds.
-/
namespace Go.Proofs.Ytggjpallbapcmaa
open Go.RowKit
theorem Val.blk (v : Val) : v.val = .agg #[.int .i64 v.k, .int .i64 v.n, .float .f64 v.f, .string v.s] := rfl
/-- four cells of a value -/
structure VAt (w : World) (g : Nat) (v : Val) : Prop where
  c0 : w.cell? ⟨g, 0, none⟩ = some (.int .i64 v.k)
  c1 : w.cell? ⟨g, 1, none⟩ = some (.int .i64 v.n)
  c2 : w.cell? ⟨g, 2, none⟩ = some (.float .f64 v.f)
  c3 : w.cell? ⟨g, 3, none⟩ = some (.string v.s)
  lt : g < w.heap.size
theorem VAt.new (w : World) (v : Val) (t : TypeId) : VAt (w.alloc (.cells #[.int .i64 v.k, .int .i64 v.n, .float .f64 v.f, .string v.s] t)) w.heap.size v := by
  have h := heap_alloc_new w (.cells #[.int .i64 v.k, .int .i64 v.n, .float .f64 v.f, .string v.s] t)
  refine ⟨?_, ?_, ?_, ?_, by simp⟩
  · rw [cell_of_row _ _ 0 _ _ _ h]; rfl
  · rw [cell_of_row _ _ 1 _ _ _ h]; rfl
  · rw [cell_of_row _ _ 2 _ _ _ h]; rfl
  · rw [cell_of_row _ _ 3 _ _ _ h]; rfl
theorem VAt.below {w w' : World} {g : Nat} {v : Val} (h : VAt w g v) (hb : Below w.heap.size w w') : VAt w' g v :=
  ⟨by rw [hb.cell (p := ⟨g, 0, none⟩) h.lt]; exact h.c0, by rw [hb.cell (p := ⟨g, 1, none⟩) h.lt]; exact h.c1, by rw [hb.cell (p := ⟨g, 2, none⟩) h.lt]; exact h.c2, by rw [hb.cell (p := ⟨g, 3, none⟩) h.lt]; exact h.c3, Nat.lt_of_lt_of_le h.lt hb.size⟩
/-- the two values of a call, boxed -/
theorem boxed (w : World) (a b : Val) (t u : TypeId) : ∃ w2, w2 = (w.alloc (.cells #[.int .i64 a.k, .int .i64 a.n, .float .f64 a.f, .string a.s] t)).alloc (.cells #[.int .i64 b.k, .int .i64 b.n, .float .f64 b.f, .string b.s] u) ∧ Below w.heap.size w w2 ∧ VAt w2 w.heap.size a ∧ VAt w2 (w.heap.size + 1) b := by
  have b1 := (Below.refl w.heap.size w).alloc (Nat.le_refl _) (.cells #[.int .i64 a.k, .int .i64 a.n, .float .f64 a.f, .string a.s] t)
  refine ⟨_, rfl, b1.alloc (by simp) _, ?_, ?_⟩
  · exact (VAt.new w a t).below ((Below.refl _ _).alloc (Nat.le_refl _) _)
  · have := VAt.new (w.alloc (.cells #[.int .i64 a.k, .int .i64 a.n, .float .f64 a.f, .string a.s] t)) b u
    simpa using this
/-! ### what stV says at each pair of kinds -/
theorem stV_33 (an bn : Int) (af bf : Nat) (sa sb : ByteArray) : stV ⟨3, an, af, sa⟩ ⟨3, bn, bf, sb⟩ = tri (ltS sa sb) (ltS sb sa) := by simp [stV, isK]
theorem stV_31 (an bn : Int) (af bf : Nat) (sa sb : ByteArray) : stV ⟨3, an, af, sa⟩ ⟨1, bn, bf, sb⟩ = 1 := by simp [stV, isK]
theorem stV_32 (an bn : Int) (af bf : Nat) (sa sb : ByteArray) : stV ⟨3, an, af, sa⟩ ⟨2, bn, bf, sb⟩ = 1 := by simp [stV, isK]
theorem stV_13 (an bn : Int) (af bf : Nat) (sa sb : ByteArray) : stV ⟨1, an, af, sa⟩ ⟨3, bn, bf, sb⟩ = 1 := by simp [stV, isK]
theorem stV_23 (an bn : Int) (af bf : Nat) (sa sb : ByteArray) : stV ⟨2, an, af, sa⟩ ⟨3, bn, bf, sb⟩ = 1 := by simp [stV, isK]
theorem stV_11 (an bn : Int) (af bf : Nat) (sa sb : ByteArray) (ha0 : -9223372036854775808 ≤ an) (ha1 : an ≤ 9223372036854775807) (hb0 : -9223372036854775808 ≤ bn) (hb1 : bn ≤ 9223372036854775807) :
    stV ⟨1, an, af, sa⟩ ⟨1, bn, bf, sb⟩ = trI an bn := by
  have key : ∀ m n : Int, -9223372036854775808 ≤ m → m ≤ 9223372036854775807 → -9223372036854775808 ≤ n → n ≤ 9223372036854775807 → ltP (wk m, m - wholeV m) (wk n, n - wholeV n) = decide (m < n) := by
    intro m n m0 m1 n0 n1
    apply Bool.eq_iff_iff.2
    rw [ltP_iff]
    simp only [decide_eq_true_eq]
    constructor
    · rintro (h | ⟨h, h'⟩)
      · apply Int.lt_of_not_ge
        intro hg
        have := wk_mono n0 n1 m0 m1 hg
        omega
      · have := wk_inj m0 m1 n0 n1 h
        omega
    · intro h
      have h1 := wk_mono m0 m1 n0 n1 (Int.le_of_lt h)
      by_cases he : wk m = wk n
      · right
        have := wk_inj m0 m1 n0 n1 he
        exact ⟨he, by omega⟩
      · left; omega
  have e : stV ⟨1, an, af, sa⟩ ⟨1, bn, bf, sb⟩ = tri (ltP (wk an, an - wholeV an) (wk bn, bn - wholeV bn)) (ltP (wk bn, bn - wholeV bn) (wk an, an - wholeV an)) := by simp [stV, isK, nanV, nk]
  rw [e, key an bn ha0 ha1 hb0 hb1, key bn an hb0 hb1 ha0 ha1]
  unfold trI tri
  by_cases h1 : an < bn
  · simp [h1]
  · by_cases h2 : an = bn
    · subst h2; simp
    · have h3 : bn < an := by omega
      simp [h1, h2, h3]
theorem stV_12 (an bn : Int) (af bf : Nat) (sa sb : ByteArray) : stV ⟨1, an, af, sa⟩ ⟨2, bn, bf, sb⟩ = mxI an bf := by simp [stV, isK, nanV, nk, mxI]
theorem tri_turn (x y : Bool) (h : x = true → y = false) : tnI (tri x y) = tri y x := by cases x <;> cases y <;> first | rfl | (simp at h)
theorem stV_21 (an bn : Int) (af bf : Nat) (sa sb : ByteArray) : stV ⟨2, an, af, sa⟩ ⟨1, bn, bf, sb⟩ = tnI (mxI bn af) := by
  have e : stV ⟨2, an, af, sa⟩ ⟨1, bn, bf, sb⟩ = if isNan af = true then 1 else tri (ltP (rkey af, 0) (wk bn, bn - wholeV bn)) (ltP (wk bn, bn - wholeV bn) (rkey af, 0)) := by simp [stV, isK, nanV, nk]
  rw [e]
  unfold mxI
  by_cases hn : isNan af = true
  · simp [hn, tnI]
  · simp only [hn, if_false, Bool.false_eq_true]
    exact (tri_turn _ _ (weakP.irr _ _)).symm
theorem trO_cmp (a b : Int) : trO (some (compare a b)) = tri (ltP (a, 0) (b, 0)) (ltP (b, 0) (a, 0)) := by
  rcases Int.lt_trichotomy a b with h | h | h
  · rw [compare_lt' h]
    have : ltP (a, 0) (b, 0) = true := (ltP_iff _ _).2 (.inl h)
    rw [this]; rfl
  · subst h
    rw [compare_eq' rfl]
    have : ltP (a, 0) (a, 0) = false := (ltP_not _ _).2 (by simp)
    rw [this]; rfl
  · rw [compare_gt' h]
    have h1 : ltP (b, 0) (a, 0) = true := (ltP_iff _ _).2 (.inl h)
    have h2 : ltP (a, 0) (b, 0) = false := weakP.irr _ _ h1
    rw [h1, h2]; rfl
theorem stV_22 (an bn : Int) (af bf : Nat) (sa sb : ByteArray) : stV ⟨2, an, af, sa⟩ ⟨2, bn, bf, sb⟩ = trO (ord af bf) := by
  have e : stV ⟨2, an, af, sa⟩ ⟨2, bn, bf, sb⟩ = if isNan af = true ∨ isNan bf = true then 1 else tri (ltP (rkey af, 0) (rkey bf, 0)) (ltP (rkey bf, 0) (rkey af, 0)) := by simp [stV, isK, nanV, nk]
  rw [e]
  by_cases h1 : isNan af = true
  · rw [if_pos (.inl h1), ord_none_left h1]; rfl
  · by_cases h2 : isNan bf = true
    · rw [if_pos (.inr h2), ord_none_right h2]; rfl
    · rw [if_neg (by simp [h1, h2]), ord_some (by simpa using h1) (by simpa using h2), trO_cmp]
theorem isK_cases {v : Val} (h : isK v = true) : v.k = 1 ∨ v.k = 2 ∨ v.k = 3 := by
  unfold isK at h
  simp only [Bool.or_eq_true, decide_eq_true_eq] at h
  omega
end Go.Proofs.Ytggjpallbapcmaa
/-
  THE WALK OF event.Holds.
-/
namespace Go.Proofs.Ytggjpallbapcmaa
open Go.RowKit
theorem opS_zero (op : Int) : opS op 0 = false := rfl
theorem opS_1 {s : Int} (h : s ≠ 0) : opS 1 s = (s == 3) := by unfold opS; rw [if_neg h]; rfl
theorem opS_2 {s : Int} (h : s ≠ 0) : opS 2 s = (s != 3) := by unfold opS; rw [if_neg h]; rfl
theorem opS_3 {s : Int} (h : s ≠ 0) : opS 3 s = (s == 2) := by unfold opS; rw [if_neg h]; rfl
theorem opS_4 {s : Int} (h : s ≠ 0) : opS 4 s = (s == 2 || s == 3) := by unfold opS; rw [if_neg h]; rfl
theorem opS_5 {s : Int} (h : s ≠ 0) : opS 5 s = (s == 4) := by unfold opS; rw [if_neg h]; rfl
theorem opS_6 {s : Int} (h : s ≠ 0) : opS 6 s = (s == 4 || s == 3) := by unfold opS; rw [if_neg h]; rfl
theorem opS_else {op s : Int} (h : op ≠ 1 ∧ op ≠ 2 ∧ op ≠ 3 ∧ op ≠ 4 ∧ op ≠ 5 ∧ op ≠ 6) : opS op s = false := by
  unfold opS
  split
  · rfl
  · rw [if_neg h.1, if_neg h.2.1, if_neg h.2.2.1, if_neg h.2.2.2.1, if_neg h.2.2.2.2.1, if_neg h.2.2.2.2.2]
end Go.Proofs.Ytggjpallbapcmaa
/-
  THE WALKS OF the document's own Whole, of real.Part and of the document's own.
-/
namespace Go.Proofs.Ytggjpallbapcmaa
open Go.RowKit
theorem ret_ub {a b : Int} {c d : Bool} (h : a = b) (h' : c = d) : Ending.returned (.tuple #[.int .u64 a, .bool c]) = .returned (.tuple #[.int .u64 b, .bool d]) := by rw [h, h']
theorem rung_int {m : Nat} : ((m.log2 : Int) + 1022 + 0) * 4503599627370496 + (keptM m false : Nat) = (rung m : Nat) := by
  rw [keptM_false]; unfold rung; omega
theorem exact_big {m : Nat} {A : Int} {b : Bool} (h : 53 < m.log2 + 1) (g : A = ((m % 2 ^ (m.log2 - 52) : Nat) : Int)) (x : b = (decide (m.log2 ≤ 52) || decide (m % 2 ^ (m.log2 - 52) = 0))) : (decide ((m.log2 : Int) + 1 ≤ 53) || A == 0) = b := by
  rw [x, g, decide_eq_false (show ¬ m.log2 ≤ 52 by omega), decide_eq_false (show ¬ (m.log2 : Int) + 1 ≤ 53 by omega)]
  apply Bool.eq_iff_iff.2
  generalize m % 2 ^ (m.log2 - 52) = z
  simp
end Go.Proofs.Ytggjpallbapcmaa
/-
  THE DOCUMENT's OWN less AND more.
-/
namespace Go.Proofs.Ytggjpallbapcmaa
open Go.RowKit
/-- a whole number ahead of a real one, behind it -/
def lsB (n : Int) (f : Nat) : Bool := ltP (wk n, n - wholeV n) (rkey f, 0)
def mrB (n : Int) (f : Nat) : Bool := ltP (rkey f, 0) (wk n, n - wholeV n)
structure Tie (n : Int) (f : Nat) : Prop where
  e : f = wholeB n
  l : lsB n f = decide (n < wholeV n)
  m : mrB n f = decide (wholeV n < n)
  ne : n ≠ wholeV n
theorem tie_of {n : Int} {f : Nat} (h0 : -9223372036854775808 ≤ n) (h1 : n ≤ 9223372036854775807) (hf : f < 18446744073709551616) (ht : wk n = rkey f) (hx : isExact n.natAbs = false) : Tie n f := by
  have lw := wholeB_lt h0 h1
  have E := exact_whole h0 h1
  have hne : wholeV n ≠ n := fun e => by rw [E.2 e] at hx; cases hx
  have n0 : n ≠ 0 := by rintro rfl; exact hne (by decide +kernel)
  refine ⟨(rkey_inj lw hf ht (wk_ne n0 h0 h1)).symm, ?_, ?_, fun e => hne e.symm⟩
  · apply Bool.eq_iff_iff.2
    unfold lsB
    rw [ltP_iff]
    simp only [decide_eq_true_eq]
    omega
  · apply Bool.eq_iff_iff.2
    unfold mrB
    rw [ltP_iff]
    simp only [decide_eq_true_eq]
    omega
theorem geq_lt {n : Int} (h0 : -9223372036854775808 ≤ n) (h1 : n ≤ 9223372036854775807) (hv : wholeV n < 9223372036854775808) :
    (FloatKind.f64.format.order (wholeB n) 4890909195324358656 == some .gt) = false ∧ (FloatKind.f64.format.order (wholeB n) 4890909195324358656 == some .eq) = false := by
  have T := whole_test n h0 h1
  rw [decide_eq_true hv] at T
  cases ho : FloatKind.f64.format.order (wholeB n) 4890909195324358656 with
  | none => exact ⟨rfl, rfl⟩
  | some o => rw [ho] at T; cases o <;> first | (exact ⟨rfl, rfl⟩) | (exact absurd T (by decide))
theorem geq_of {n : Int} (h0 : -9223372036854775808 ≤ n) (h1 : n ≤ 9223372036854775807) (b : Bool) (hv : decide (wholeV n < 9223372036854775808) = b) :
    (FloatKind.f64.format.order (wholeB n) 4890909195324358656 == some .gt) = (!b && (FloatKind.f64.format.order (wholeB n) 4890909195324358656 == some .gt)) ∧
    (FloatKind.f64.format.order (wholeB n) 4890909195324358656 == some .eq || FloatKind.f64.format.order (wholeB n) 4890909195324358656 == some .gt) = !b ∧
    (FloatKind.f64.format.order (wholeB n) 4890909195324358656 == some .gt || FloatKind.f64.format.order (wholeB n) 4890909195324358656 == some .eq) = !b := by
  have T := whole_test n h0 h1
  have OO := ord_order (wholeB n) 4890909195324358656 (wholeB_lt h0 h1) (by decide)
  rw [ord_some (wholeB_nan h0 h1) (by decide)] at OO
  rw [hv] at T
  rw [OO] at T ⊢
  cases b <;> cases ho : compare (rkey (wholeB n)) (rkey 4890909195324358656) <;> rw [ho] at T <;> first | (exact absurd T (by decide)) | decide
end Go.Proofs.Ytggjpallbapcmaa
/-
  THE DOCUMENT's OWN Stands AND Holds.
-/
namespace Go.Proofs.Ytggjpallbapcmaa
open Go.RowKit
theorem drewN_below {B : Nat} {a w : World} (h : Below B a w) (n : Nat) : Below B a (w.drewN n) := ⟨h.os, h.tape, h.output, h.size, h.block⟩
theorem mixed : Try.prog.follows .mixedOrders = true := by kernel_rfl
theorem same_below {P : Program} {f : FuncId} {args : Array Value} {w : World} {X : Ending} (h : Calls P f args w fun r w' => r = X ∧ w = w') : Calls P f args w fun r w' => r = X ∧ Below w.heap.size w w' :=
  h.mono (by rintro r w' ⟨rfl, rfl⟩; exact ⟨rfl, Below.refl _ _⟩)
theorem ret_i64' {a b : Int} (h : a = b) : Ending.returned (.int .i64 a) = .returned (.int .i64 b) := by rw [h]
end Go.Proofs.Ytggjpallbapcmaa
/-
  THE DOCUMENT's OWN Holds.
-/
namespace Go.Proofs.Ytggjpallbapcmaa
open Go.RowKit
theorem stV_range (a b : Val) : stV a b = 0 ∨ stV a b = 1 ∨ stV a b = 2 ∨ stV a b = 3 ∨ stV a b = 4 := by
  unfold stV
  split
  · exact .inl rfl
  · split
    · rcases tri_cases (ltS a.s b.s) (ltS b.s a.s) with h | h | h <;> simp [h]
    · split
      · exact .inr (.inl rfl)
      · split
        · exact .inr (.inl rfl)
        · rcases tri_cases (ltP (nk a) (nk b)) (ltP (nk b) (nk a)) with h | h | h <;> simp [h]
theorem stV_pos {a b : Val} (ka : isK a = true) (kb : isK b = true) : stV a b ≠ 0 := by
  unfold stV
  rw [if_neg (by rw [ka, kb]; decide)]
  split
  · rcases tri_cases (ltS a.s b.s) (ltS b.s a.s) with h | h | h <;> simp [h]
  · split
    · decide
    · split
      · decide
      · rcases tri_cases (ltP (nk a) (nk b)) (ltP (nk b) (nk a)) with h | h | h <;> simp [h]
end Go.Proofs.Ytggjpallbapcmaa
