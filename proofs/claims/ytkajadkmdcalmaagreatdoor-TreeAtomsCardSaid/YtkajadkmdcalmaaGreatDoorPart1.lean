/-
  WHAT THE ROWS REST ON, part 1: Frame Ieee Rank.
-/
import Derived.Test.YtkajadkmdcalmaaGreatDoorRows
import Derived.WalkKit
import Derived.ProofKit
import Derived.OpenShut
import Derived.ShutString
import Derived.SizedLaws
import Derived.Laws.Cover2
import Derived.WalkSmall
import Derived.SliceStrings
import Derived.Laws.FloatArith
import Derived.Outline
import Derived.Lib.Hide
import Derived.Laws.Externs
import Derived.WalkLawsBesides
import Derived.Laws.BitsAllLaws
/-
  FOR THE ROWS: whatever the arguments' types: a law that answers true, and below whose heap's old end nothing has turned, leaves each argument as it read.
-/
namespace Go.Proofs.YtkajadkmdcalmaaGreatDoor
open Go.ChangeShapes Go.WideShapes Go.ChangeAt Go.RowKit
theorem own : ownKnob Tryz.prog.godebug = none := by kernel_rfl
theorem laidOut : laidOutB Tryz.prog = true := by kernel_rfl
section
variable {H : Type} {enc : TypeId × Value → H} {P : Program}
theorem trodAll_below (hl : laidOutB P = true) {W W' : World} (hb : Below W.heap.size W W') : ∀ (ts : List TypeId) (vs : List Value) (ds : List (DataW H)) (ps : List MemPlace),
    (∀ t ∈ ts, P.readableRec t = true ∧ t < P.types.size) → DataW.TrodAll enc P W 0 (fun _ => true) true ts vs ds ps → (∀ x ∈ ps, x.block < W.heap.size) →
    DataW.TrodAll enc P W' 0 (fun b => decide (b < W.heap.size)) true ts vs ds ps
  | [], vs, ds, ps, _, h, _ => by
    obtain ⟨rfl, rfl, rfl⟩ := trodAll_nil h
    exact trodAll_mk0
  | t :: ts, vs, ds, ps, hr, h, hlt => by
    obtain ⟨v, vs', d, ds', p, q, rfl, rfl, rfl, h0, h1⟩ := trodAll_cons h
    exact trodAll_cons_mk (Below.trod hl (hr t (by simp)).1 (hr t (by simp)).2 h0 hb (fun x hx => hlt x (by simp [hx])))
      (trodAll_below hl hb ts vs' ds' q (fun u hu => hr u (by simp [hu])) h1 (fun x hx => hlt x (by simp [hx])))
/-- the end of every law's row -/
theorem law_post {f : Func} {s : ChangeSpec} {tb : TypeId} {apart fresh handsOn : Bool} {W W' : World} {args : Array Value} {ds : List (DataW H)} {before pa : List MemPlace}
    (hl : laidOutB P = true) (hr : ∀ t ∈ f.params.toList, P.readableRec t = true ∧ t < P.types.size) (hv : s.vars = []) (ht : f.resultTypes = #[tb]) (hb : P.underlying tb = some .bool)
    (hfn : s.fn H (ds ++ []) = { results := [.lit (.bool true)], args := ds })
    (hW : DataW.Whole enc P f.params.toList s.vars apart W args.toList ds [] before)
    (hA : DataW.TrodAll enc P W 0 (fun _ => true) true f.params.toList args.toList ds pa)
    (hlt : ∀ x ∈ pa, x.block < W.heap.size) (hk : Below W.heap.size W W') :
    s.post enc P f apart fresh handsOn false W args (.bool true) W' := by
  refine ⟨ds, [], before, [], pa, [], hW, ?_, ?_, ?_, hk.frame _, fun h => by cases h⟩
  · rw [ht, hfn]
    exact trodAll_cons_mk (shut_bool hb _) trodAll_mk0
  · rw [hfn]
    exact trodAll_below hl hk _ _ _ _ hr hA hlt
  · rw [hv, hfn]
    rfl
end
end Go.Proofs.YtkajadkmdcalmaaGreatDoor
/-
  REAL NUMBERS AS WORDS, plain: how two stand; the word next to a whole number, to the last bit; what it is as a whole number again; and the quotient of two such, of 54 digits or of 62.
-/
namespace Go.Proofs.YtkajadkmdcalmaaGreatDoor
open Ieee

/-- where a word stands, as a whole number: the sign's turned -/
def rkey (x : Nat) : Int := if x < 9223372036854775808 then (x : Int) else -((x : Int) - 9223372036854775808)
/-- is it no number? -/
def isNan (x : Nat) : Bool := decide (9218868437227405312 < x % 9223372036854775808)

def units (r : Nat) : Nat := if r < 4503599627370496 then r else (4503599627370496 + r % 4503599627370496) * 2 ^ (r / 4503599627370496 - 1)

theorem units_lt {r s : Nat} (h : r < s) : units r < units s := by
  unfold units
  by_cases hr : r < 4503599627370496
  · rw [if_pos hr]
    by_cases hs : s < 4503599627370496
    · rw [if_pos hs]; exact h
    · rw [if_neg hs]
      have : 1 ≤ 2 ^ (s / 4503599627370496 - 1) := Nat.one_le_two_pow
      calc r < 4503599627370496 * 1 := by omega
        _ ≤ (4503599627370496 + s % 4503599627370496) * 2 ^ (s / 4503599627370496 - 1) := Nat.mul_le_mul (by omega) this
  · have hs : ¬ s < 4503599627370496 := by omega
    rw [if_neg hr, if_neg hs]
    by_cases hd : r / 4503599627370496 = s / 4503599627370496
    · rw [hd]
      exact Nat.mul_lt_mul_of_pos_right (by omega) (Nat.two_pow_pos _)
    · have hlt : r / 4503599627370496 < s / 4503599627370496 := by omega
      obtain ⟨e, he⟩ : ∃ e, s / 4503599627370496 - 1 = (r / 4503599627370496 - 1) + 1 + e := ⟨s / 4503599627370496 - 1 - (r / 4503599627370496 - 1) - 1, by omega⟩
      rw [he, Nat.pow_add, Nat.pow_succ]
      have h1 : 1 ≤ 2 ^ e := Nat.one_le_two_pow
      have hp : 0 < 2 ^ (r / 4503599627370496 - 1) := Nat.two_pow_pos _
      calc (4503599627370496 + r % 4503599627370496) * 2 ^ (r / 4503599627370496 - 1)
          < (4503599627370496 * 2) * 2 ^ (r / 4503599627370496 - 1) := Nat.mul_lt_mul_of_pos_right (by omega) hp
        _ = 4503599627370496 * (2 ^ (r / 4503599627370496 - 1) * 2 * 1) := by rw [Nat.mul_one, Nat.mul_assoc, Nat.mul_comm 2]
        _ ≤ (4503599627370496 + s % 4503599627370496) * (2 ^ (r / 4503599627370496 - 1) * 2 * 2 ^ e) := Nat.mul_le_mul (by omega) (Nat.mul_le_mul (Nat.le_refl _) h1)

theorem units_lt_iff {r s : Nat} : units r < units s ↔ r < s := by
  refine ⟨fun h => ?_, units_lt⟩
  rcases Nat.lt_trichotomy r s with a | a | a
  · exact a
  · subst a; omega
  · have := units_lt a; omega
theorem units_inj {r s : Nat} (h : units r = units s) : r = s := by
  rcases Nat.lt_trichotomy r s with a | a | a
  · have := units_lt a; omega
  · exact a
  · have := units_lt a; omega
theorem units_zero : units 0 = 0 := rfl


theorem compare_of {a b c d : Int} (h : a < b ↔ c < d) (e : a = b ↔ c = d) : compare a b = compare c d := by
  show (if a < b then Ordering.lt else if a = b then .eq else .gt) = (if c < d then Ordering.lt else if c = d then .eq else .gt)
  by_cases h1 : a < b
  · rw [if_pos h1, if_pos (h.1 h1)]
  · rw [if_neg h1, if_neg (fun x => h1 (h.2 x))]
    by_cases h2 : a = b
    · rw [if_pos h2, if_pos (e.1 h2)]
    · rw [if_neg h2, if_neg (fun x => h2 (e.2 x))]

theorem compare_scale {a b : Int} {p : Int} (hp : 0 < p) : compare a b = compare (a * p) (b * p) := by
  refine compare_of ⟨fun h => Int.mul_lt_mul_of_pos_right h hp, fun h => Int.lt_of_mul_lt_mul_right h (Int.le_of_lt hp)⟩ ⟨fun h => by rw [h], fun h => Int.eq_of_mul_eq_mul_right (by omega) h⟩

/-- a finite word -/
def finW (neg : Bool) (r : Nat) : Datum := if r < 4503599627370496 then .number neg r (-1074) else .number neg (4503599627370496 + r % 4503599627370496) (-1074 + (r / 4503599627370496 - 1 : Nat))

def sg (neg : Bool) (n : Nat) : Int := if neg then -(n : Int) else n

theorem order_number (s t : Bool) (m n a b : Nat) : Datum.order (.number s m (-1074 + (a : Nat))) (.number t n (-1074 + (b : Nat))) = some (compare (sg s (m * 2 ^ a)) (sg t (n * 2 ^ b))) := by
  unfold Datum.order
  simp only
  obtain ⟨c, hc⟩ : ∃ c, min a b = c := ⟨_, rfl⟩
  have hmin : min (-1074 + (a : Int)) (-1074 + (b : Int)) = -1074 + (c : Int) := by omega
  have ea : (-1074 + (a : Int) - (-1074 + (c : Int))).toNat = a - c := by omega
  have eb : (-1074 + (b : Int) - (-1074 + (c : Int))).toNat = b - c := by omega
  rw [hmin, ea, eb]
  congr 1
  rw [compare_scale (p := ((2 ^ c : Nat) : Int)) (by exact_mod_cast Nat.two_pow_pos c)]
  have rkey : ∀ (s : Bool) (m a : Nat), c ≤ a → signed s m (a - c) * ((2 ^ c : Nat) : Int) = sg s (m * 2 ^ a) := by
    intro s m a h
    have : m * 2 ^ (a - c) * 2 ^ c = m * 2 ^ a := by rw [Nat.mul_assoc, ← Nat.pow_add, Nat.sub_add_cancel h]
    unfold signed sg
    rw [Nat.shiftLeft_eq]
    cases s
    · simp only [Bool.false_eq_true, if_false]; exact_mod_cast this
    · simp only [if_true]; rw [Int.neg_mul]; congr 1; exact_mod_cast this
  rw [rkey s m a (by omega), rkey t n b (by omega)]

theorem fin_form (neg : Bool) (r : Nat) : ∃ m a : Nat, finW neg r = .number neg m (-1074 + (a : Nat)) ∧ m * 2 ^ a = units r := by
  unfold finW units
  by_cases h : r < 4503599627370496
  · rw [if_pos h, if_pos h]; exact ⟨r, 0, by simp, by simp⟩
  · rw [if_neg h, if_neg h]; exact ⟨_, _, rfl, rfl⟩

theorem order_fin (s t : Bool) (r q : Nat) : Datum.order (finW s r) (finW t q) = some (compare (sg s r) (sg t q)) := by
  obtain ⟨m, a, e1, u1⟩ := fin_form s r
  obtain ⟨n, b, e2, u2⟩ := fin_form t q
  rw [e1, e2, order_number, u1, u2]
  congr 1
  have hr : units r = 0 ↔ r = 0 := ⟨fun h => units_inj (h.trans units_zero.symm), fun h => by rw [h]; rfl⟩
  have hq : units q = 0 ↔ q = 0 := ⟨fun h => units_inj (h.trans units_zero.symm), fun h => by rw [h]; rfl⟩
  have h1 := @units_lt_iff r q
  have h2 := @units_lt_iff q r
  cases s <;> cases t <;> unfold sg <;> simp only [Bool.false_eq_true, if_false, if_true] <;> refine compare_of ?_ ?_ <;> omega

theorem read_double (x : Nat) (h : x < 18446744073709551616) :
    double.read x = if x % 9223372036854775808 < 9218868437227405312 then finW (decide (9223372036854775808 ≤ x)) (x % 9223372036854775808) else if x % 9223372036854775808 = 9218868437227405312 then .infinity (decide (9223372036854775808 ≤ x)) else .nan (decide (9223372036854775808 ≤ x)) (x % 9223372036854775808 - 9218868437227405312) := by
  have e1 : double.signWeight = 9223372036854775808 := by decide +kernel
  have e2 : double.binade = 4503599627370496 := by decide +kernel
  have e3 : double.infRung = 9218868437227405312 := by decide +kernel
  have e4 : double.leastPlace = -1074 := by decide +kernel
  have hn : (x / 9223372036854775808 % 2 == 1) = decide (9223372036854775808 ≤ x) := by
    rw [Bool.eq_iff_iff]; simp; omega
  unfold Format.read
  simp only [e1, e2, e3, e4, hn]
  unfold finW
  by_cases h0 : x % 9223372036854775808 < 4503599627370496
  · have : x % 9223372036854775808 < 9218868437227405312 := by omega
    simp only [h0, this, if_true]
  · simp only [h0, if_false]

theorem order_nan_left (x y : Nat) (hx : x < 18446744073709551616) (h : isNan x = true) : double.order x y = none := by
  have h : 9218868437227405312 < x % 9223372036854775808 := of_decide_eq_true h
  unfold Format.order
  rw [read_double x hx, if_neg (by omega), if_neg (by omega)]
  unfold Datum.order
  cases double.read y <;> rfl
theorem order_nan_right (x y : Nat) (hy : y < 18446744073709551616) (h : isNan y = true) : double.order x y = none := by
  have h : 9218868437227405312 < y % 9223372036854775808 := of_decide_eq_true h
  unfold Format.order
  rw [read_double y hy, if_neg (by omega), if_neg (by omega)]
  unfold Datum.order
  cases double.read x <;> rfl

theorem key_sg (x : Nat) (h : x < 18446744073709551616) : rkey x = sg (decide (9223372036854775808 ≤ x)) (x % 9223372036854775808) := by
  unfold rkey sg
  by_cases hx : x < 9223372036854775808
  · rw [if_pos hx, if_neg (by simp; omega), Nat.mod_eq_of_lt hx]
  · rw [if_neg hx, if_pos (by simp; omega)]; omega

theorem compare_lt' {a b : Int} (h : a < b) : compare a b = .lt := by
  show (if a < b then Ordering.lt else if a = b then .eq else .gt) = _
  rw [if_pos h]
theorem compare_gt' {a b : Int} (h : b < a) : compare a b = .gt := by
  show (if a < b then Ordering.lt else if a = b then .eq else .gt) = _
  rw [if_neg (by omega), if_neg (by omega)]
theorem compare_eq' {a b : Int} (h : a = b) : compare a b = .eq := by
  show (if a < b then Ordering.lt else if a = b then .eq else .gt) = _
  rw [if_neg (by omega), if_pos h]

theorem order_key (x y : Nat) (hx : x < 18446744073709551616) (hy : y < 18446744073709551616) (h1 : isNan x = false) (h2 : isNan y = false) : double.order x y = some (compare (rkey x) (rkey y)) := by
  have h1 : ¬ 9218868437227405312 < x % 9223372036854775808 := of_decide_eq_false h1
  have h2 : ¬ 9218868437227405312 < y % 9223372036854775808 := of_decide_eq_false h2
  unfold Format.order
  rw [read_double x hx, read_double y hy, key_sg x hx, key_sg y hy]
  generalize decide (9223372036854775808 ≤ x) = s
  generalize decide (9223372036854775808 ≤ y) = t
  generalize x % 9223372036854775808 = r at *
  generalize y % 9223372036854775808 = q at *
  by_cases ha : r < 9218868437227405312
  · rw [if_pos ha]
    obtain ⟨m, a, e1, u1⟩ := fin_form s r
    by_cases hb : q < 9218868437227405312
    · rw [if_pos hb, order_fin]
    · rw [if_neg hb, if_pos (by omega), e1]
      unfold Datum.order
      cases t <;> simp only [Bool.false_eq_true, if_false, if_true]
      · rw [compare_lt']; unfold sg; cases s <;> simp only [Bool.false_eq_true, if_false, if_true] <;> omega
      · rw [compare_gt']; unfold sg; cases s <;> simp only [Bool.false_eq_true, if_false, if_true] <;> omega
  · rw [if_neg ha, if_pos (by omega)]
    by_cases hb : q < 9218868437227405312
    · obtain ⟨m, a, e1, u1⟩ := fin_form t q
      rw [if_pos hb, e1]
      unfold Datum.order
      cases s <;> simp only [Bool.false_eq_true, if_false, if_true]
      · rw [compare_gt']; unfold sg; cases t <;> simp only [Bool.false_eq_true, if_false, if_true] <;> omega
      · rw [compare_lt']; unfold sg; cases t <;> simp only [Bool.false_eq_true, if_false, if_true] <;> omega
    · rw [if_neg hb, if_pos (by omega)]
      have : r = q := by omega
      subst this
      unfold Datum.order
      have hr : 0 < r := by omega
      cases s <;> cases t <;> simp only
      · rw [compare_eq' rfl]; rfl
      · rw [compare_gt']; rfl; unfold sg; simp; omega
      · rw [compare_lt']; rfl; unfold sg; simp; omega
      · rw [compare_eq' rfl]; rfl
/-- what is left of n when its last d digits are dropped: to the nearest, of two as near the even one -/
def half (n d : Nat) : Nat := n / 2 ^ d + (if 2 ^ d < 2 * (n % 2 ^ d) ∨ (2 * (n % 2 ^ d) = 2 ^ d ∧ n / 2 ^ d % 2 = 1) then 1 else 0)

theorem cut_even (neg : Bool) (n d : Nat) (h : d ≤ n.log2 + 2) : Toward.even.cut neg n d = half n d := by
  unfold Toward.cut half
  simp only [Nat.min_eq_left h, Nat.shiftLeft_eq, Nat.one_mul]
  congr 1
  by_cases h1 : 2 ^ d < 2 * (n % 2 ^ d)
  · simp [h1]
  · by_cases h2 : 2 * (n % 2 ^ d) = 2 ^ d
    · by_cases h3 : n / 2 ^ d % 2 = 1
      · simp [h2, h3, Bool.toNat]
      · have : (n / 2 ^ d % 2 == 1) = false := by simpa using h3
        simp [h2, this, Bool.toNat]
        omega
    · have : (2 ^ d == 2 * (n % 2 ^ d)) = false := by simp; exact fun h => h2 h.symm
      simp [h1, h2, this, Bool.toNat]

/-- kept digits of a number that is not 0: 53 of them, the first is set (or it is 2^53) -/
def kept (m : Nat) : Nat := if m.log2 ≤ 52 then m * 2 ^ (52 - m.log2) else half m (m.log2 - 52)

theorem half_zero (n : Nat) : half n 0 = n := by
  unfold half
  simp [Nat.mod_one]

theorem nearest_form (neg : Bool) (m : Nat) (p : Int) (hm : m ≠ 0) (h1 : -1074 ≤ p + m.log2 - 52) (h2 : p + m.log2 - 52 + 1074 ≤ 2040) (hk : kept m ≤ 9007199254740992) :
    double.nearest neg m p = (if neg then 9223372036854775808 else 0) + ((p + m.log2 - 52 + 1074).toNat * 4503599627370496 + kept m) := by
  unfold Format.nearest
  have e1 : double.leastPlace = -1074 := by decide +kernel
  have e2 : double.fractionBits = 52 := rfl
  have e3 : double.binade = 4503599627370496 := by decide +kernel
  have e4 : double.infRung = 9218868437227405312 := by decide +kernel
  have e5 : double.signWeight = 9223372036854775808 := by decide +kernel
  simp only [hm, if_false, e1, e2, e3, e4]
  have hl : max (p + (m.log2 : Int) - (52 : Nat)) (-1074) = p + m.log2 - 52 := by omega
  rw [hl]
  have hkept : Toward.even.cut neg (m <<< (p - (p + (m.log2 : Int) - 52)).toNat) (p + (m.log2 : Int) - 52 - p).toNat = kept m := by
    unfold kept
    by_cases hd : m.log2 ≤ 52
    · rw [if_pos hd, show (p + (m.log2 : Int) - 52 - p).toNat = 0 by omega, show (p - (p + (m.log2 : Int) - 52)).toNat = 52 - m.log2 by omega, cut_even _ _ _ (by omega), half_zero, Nat.shiftLeft_eq]
    · rw [if_neg hd, show (p + (m.log2 : Int) - 52 - p).toNat = m.log2 - 52 by omega, show (p - (p + (m.log2 : Int) - 52)).toNat = 0 by omega, Nat.shiftLeft_zero, cut_even _ _ _ (by omega)]
  rw [hkept]
  rw [show p + (m.log2 : Int) - 52 - -1074 = p + m.log2 - 52 + 1074 by omega]
  have hle : (p + (m.log2 : Int) - 52 + 1074).toNat * 4503599627370496 + kept m ≤ 9218868437227405312 := by
    have : (p + (m.log2 : Int) - 52 + 1074).toNat ≤ 2040 := by omega
    omega
  rw [Nat.min_eq_left hle]
  unfold Format.word
  rw [e5]
  cases neg <;> simp

theorem log2_bounds {m : Nat} (hm : m ≠ 0) : 2 ^ m.log2 ≤ m ∧ m < 2 ^ (m.log2 + 1) := ⟨Nat.log2_self_le hm, Nat.lt_log2_self⟩

theorem kept_bounds {m : Nat} (hm : m ≠ 0) : 4503599627370496 ≤ kept m ∧ kept m ≤ 9007199254740992 := by
  obtain ⟨h1, h2⟩ := log2_bounds hm
  unfold kept
  by_cases hd : m.log2 ≤ 52
  · rw [if_pos hd]
    have e : 2 ^ m.log2 * 2 ^ (52 - m.log2) = 4503599627370496 := by rw [← Nat.pow_add, show m.log2 + (52 - m.log2) = 52 by omega]
    have e' : 2 ^ (m.log2 + 1) * 2 ^ (52 - m.log2) = 9007199254740992 := by rw [← Nat.pow_add, show m.log2 + 1 + (52 - m.log2) = 53 by omega]
    have a := Nat.mul_le_mul_right (2 ^ (52 - m.log2)) h1
    have b := Nat.mul_le_mul_right (2 ^ (52 - m.log2)) (Nat.le_of_lt h2)
    omega
  · rw [if_neg hd]
    unfold half
    have hp : 0 < 2 ^ (m.log2 - 52) := Nat.two_pow_pos _
    have e : 4503599627370496 * 2 ^ (m.log2 - 52) = 2 ^ m.log2 := by rw [show (4503599627370496 : Nat) = 2 ^ 52 by decide +kernel, ← Nat.pow_add, show 52 + (m.log2 - 52) = m.log2 by omega]
    have e' : 9007199254740992 * 2 ^ (m.log2 - 52) = 2 ^ (m.log2 + 1) := by rw [show (9007199254740992 : Nat) = 2 ^ 53 by decide +kernel, ← Nat.pow_add, show 53 + (m.log2 - 52) = m.log2 + 1 by omega]
    have a : 4503599627370496 ≤ m / 2 ^ (m.log2 - 52) := (Nat.le_div_iff_mul_le hp).2 (by omega)
    have b : m / 2 ^ (m.log2 - 52) < 9007199254740992 := (Nat.div_lt_iff_lt_mul hp).2 (by omega)
    split <;> omega

/-- the rung of a whole number that is not 0 -/
def rung (m : Nat) : Nat := (m.log2 + 1022) * 4503599627370496 + kept m

theorem floatOfInt_zero : floatOfInt .f64 0 = 0 := by decide +kernel
theorem floatOfInt_form (n : Int) (hn : n ≠ 0) (hl : n.natAbs ≤ 9223372036854775808) : floatOfInt .f64 n = (if n < 0 then 9223372036854775808 else 0) + rung n.natAbs := by
  have hm : n.natAbs ≠ 0 := by omega
  have hlog : n.natAbs.log2 ≤ 63 := by
    have := (Nat.log2_lt hm (k := 64)).2 (by omega)
    omega
  show double.nearest (n < 0) n.natAbs 0 = _
  rw [nearest_form _ _ _ hm (by omega) (by omega) (kept_bounds hm).2]
  unfold rung
  rw [show (0 + (n.natAbs.log2 : Int) - 52 + 1074).toNat = n.natAbs.log2 + 1022 by omega]
  by_cases h : n < 0 <;> simp [h]

/-- the digits kept of n, of which a further part stands behind, if more is said -/
def keptM (m : Nat) (more : Bool) : Nat :=
  if m.log2 ≤ 52 then m * 2 ^ (52 - m.log2)
  else m / 2 ^ (m.log2 - 52) + (if 2 ^ (m.log2 - 52 - 1) < m % 2 ^ (m.log2 - 52) ∨ (m % 2 ^ (m.log2 - 52) = 2 ^ (m.log2 - 52 - 1) ∧ (more = true ∨ m / 2 ^ (m.log2 - 52) % 2 = 1)) then 1 else 0)

theorem keptM_false (m : Nat) : keptM m false = kept m := by
  unfold keptM kept
  by_cases h : m.log2 ≤ 52
  · rw [if_pos h, if_pos h]
  · rw [if_neg h, if_neg h]
    unfold half
    congr 1
    have e : 2 ^ (m.log2 - 52) = 2 * 2 ^ (m.log2 - 52 - 1) := by
      rw [← Nat.pow_succ']; congr 1; omega
    rw [e]
    generalize 2 ^ (m.log2 - 52 - 1) = T
    congr 1
    simp only [Bool.false_eq_true, false_or]
    apply propext
    omega

theorem log2_eq {n k : Nat} (h1 : 2 ^ k ≤ n) (h2 : n < 2 ^ (k + 1)) : n.log2 = k := by
  have hn : n ≠ 0 := by have := Nat.two_pow_pos k; omega
  have a := (Nat.le_log2 hn).2 h1
  have b := (Nat.log2_lt hn).2 h2
  omega

theorem log2_lift {n m j : Nat} (hn : n ≠ 0) (h : m / 2 ^ j = n) : m.log2 = n.log2 + j := by
  obtain ⟨a, b⟩ := log2_bounds hn
  have hp : 0 < 2 ^ j := Nat.two_pow_pos _
  refine log2_eq ?_ ?_
  · rw [Nat.pow_add]
    have := (Nat.le_div_iff_mul_le hp).1 (show 2 ^ n.log2 ≤ m / 2 ^ j by omega)
    exact this
  · rw [show n.log2 + j + 1 = n.log2 + 1 + j by omega, Nat.pow_add]
    exact (Nat.div_lt_iff_lt_mul hp).1 (by omega)

/-- the quotient to 54 digits and a last one that says that more is left; and to 62 digits with what is left: they round alike -/
theorem quotient_same {X N : Nat} (hN : 0 < N) (hq : 9007199254740992 ≤ X / N) (hq2 : X / N < 36028797018963968) :
    (2 * (X / N) + (X % N != 0).toNat).log2 + 7 = (X * 256 / N).log2 ∧ kept (2 * (X / N) + (X % N != 0).toNat) = keptM (X * 256 / N) (decide (0 < X * 256 % N)) := by
  have hX := Nat.div_add_mod X N
  have hXX := Nat.div_add_mod (X * 256) N
  have hr : X % N < N := Nat.mod_lt _ hN
  have hR : X * 256 % N < N := Nat.mod_lt _ hN
  have hQ : X * 256 / N / 2 ^ 8 = X / N := by
    rw [Nat.div_div_eq_div_mul]
    exact Nat.mul_div_mul_right X N (by decide)
  have hM : (2 * (X / N) + (X % N != 0).toNat) / 2 ^ 1 = X / N := by
    have : (X % N != 0).toNat ≤ 1 := by cases (X % N != 0) <;> decide
    omega
  have hne : X / N ≠ 0 := by omega
  have l1 := log2_lift hne hQ
  have l2 := log2_lift hne hM
  have lq1 : 53 ≤ (X / N).log2 := (Nat.le_log2 hne).2 (by omega)
  have lq2 : (X / N).log2 < 55 := (Nat.log2_lt hne).2 (by omega)
  -- what is left, and what is left of what is left
  have hs : (X % N != 0).toNat = if X % N = 0 then 0 else 1 := by
    by_cases h : X % N = 0
    · simp [h]
    · have : (X % N != 0) = true := by simpa using h
      rw [this, if_neg h]; rfl
  have hdiv : X * 256 / N = 256 * (X / N) + (X * 256 / N) % 256 := by omega
  have hleft : 256 * (X % N) = (X * 256 / N) % 256 * N + X * 256 % N := by
    have e1 : N * (X * 256 / N) = 256 * (N * (X / N)) + (X * 256 / N) % 256 * N := by
      calc N * (X * 256 / N) = N * (256 * (X / N) + (X * 256 / N) % 256) := by rw [← hdiv]
        _ = _ := by rw [Nat.mul_add, Nat.mul_comm N ((X * 256 / N) % 256)]; rw [Nat.mul_left_comm]
    omega
  have hs1 : (X % N != 0).toNat ≤ 1 := by rw [hs]; split <;> omega
  have hs0 : (X % N != 0).toNat = 0 ↔ X % N = 0 := by rw [hs]; split <;> omega
  clear hs hX hXX hq hq2
  generalize (X % N != 0).toNat = s at *
  generalize X * 256 / N = Q at *
  generalize X * 256 % N = R at *
  generalize X / N = q at *
  generalize X % N = r at *
  refine ⟨by omega, ?_⟩
  have z : s = 0 ↔ Q % 256 = 0 ∧ R = 0 := by
    rw [hs0]
    constructor
    · intro h; subst h
      have : Q % 256 * N = 0 := by omega
      rcases Nat.mul_eq_zero.1 this with h | h <;> omega
    · rintro ⟨h, h'⟩
      rw [h] at hleft; omega
  clear hleft hs0
  have hl : q.log2 = 53 ∨ q.log2 = 54 := by omega
  unfold kept keptM half
  rcases hl with h | h
  · rw [l1, l2, h]
    simp only [Nat.reduceAdd, Nat.reduceSub, Nat.reducePow, Nat.reduceLeDiff, if_false, decide_eq_true_eq]
    have w : (2 * q + s) / 4 = Q / 512 := by omega
    rw [w]
    congr 1
    congr 1
    apply propext
    omega
  · rw [l1, l2, h]
    simp only [Nat.reduceAdd, Nat.reduceSub, Nat.reducePow, Nat.reduceLeDiff, if_false, decide_eq_true_eq]
    have w : (2 * q + s) / 8 = Q / 1024 := by omega
    rw [w]
    congr 1
    congr 1
    apply propext
    omega

/-- the whole number that the float next to m is -/
def near (m : Nat) : Nat := if m.log2 ≤ 52 then m else kept m * 2 ^ (m.log2 - 52)

theorem rung_bounds {m : Nat} (hm : m ≠ 0) (hl : m ≤ 9223372036854775808) : m.log2 ≤ 63 ∧ rung m < 9218868437227405312 ∧ 4503599627370496 ≤ rung m := by
  have h1 : m.log2 < 64 := (Nat.log2_lt hm).2 (by omega)
  obtain ⟨a, b⟩ := kept_bounds hm
  unfold rung
  omega

theorem cut_zero (neg : Bool) (n d : Nat) (h : d ≤ n.log2 + 2) : Toward.zero.cut neg n d = n / 2 ^ d := by
  unfold Toward.cut
  simp only [Nat.min_eq_left h, Nat.shiftLeft_eq, Nat.one_mul]
  rfl

theorem toInt_number (neg : Bool) (m : Nat) (p : Int) (h : (-p).toNat ≤ (m * 2 ^ p.toNat).log2 + 2) : (Datum.number neg m p).toInt .zero = some (sg neg (m * 2 ^ p.toNat / 2 ^ (-p).toNat)) := by
  unfold Datum.toInt Datum.integral
  simp only [Nat.shiftLeft_eq]
  rw [cut_zero _ _ _ h]
  unfold signed sg
  simp

theorem toInt_rung (neg : Bool) {m : Nat} (hm : m ≠ 0) (hl : m ≤ 9223372036854775808) : (double.read ((if neg then 9223372036854775808 else 0) + rung m)).toInt .zero = some (sg neg (near m)) := by
  obtain ⟨b1, b2, b3⟩ := rung_bounds hm hl
  obtain ⟨k1, k2⟩ := kept_bounds hm
  have hmod : ((if neg then 9223372036854775808 else 0) + rung m) % 9223372036854775808 = rung m := by cases neg <;> simp <;> omega
  have hneg : decide (9223372036854775808 ≤ (if neg then 9223372036854775808 else 0) + rung m) = neg := by cases neg <;> simp <;> omega
  rw [read_double _ (by cases neg <;> simp <;> omega), hmod, hneg, if_pos b2]
  unfold finW
  rw [if_neg (by omega)]
  by_cases hc : kept m = 9007199254740992
  · have e1 : rung m / 4503599627370496 - 1 = m.log2 + 1023 := by unfold rung; omega
    have e2 : rung m % 4503599627370496 = 0 := by unfold rung; omega
    rw [e1, e2]
    have hlog : ¬ m.log2 ≤ 52 := by
      intro h
      have hk : kept m = m * 2 ^ (52 - m.log2) := by unfold kept; rw [if_pos h]
      have := (log2_bounds hm).2
      have e' : 2 ^ (m.log2 + 1) * 2 ^ (52 - m.log2) = 9007199254740992 := by rw [← Nat.pow_add, show m.log2 + 1 + (52 - m.log2) = 53 by omega]
      have hp : 0 < 2 ^ (52 - m.log2) := Nat.two_pow_pos _
      have := Nat.mul_lt_mul_of_pos_right this hp
      omega
    have ep : (-1074 + ((m.log2 + 1023 : Nat) : Int)).toNat = m.log2 - 52 + 1 := by omega
    have en : (-(-1074 + ((m.log2 + 1023 : Nat) : Int))).toNat = 0 := by omega
    rw [toInt_number _ _ _ (by omega), ep, en]
    unfold near
    rw [if_neg hlog, hc]
    refine congrArg (fun x => some (sg neg x)) ?_
    rw [Nat.pow_succ, Nat.pow_zero, Nat.div_one, Nat.mul_comm _ 2, ← Nat.mul_assoc]
  · have e1 : rung m / 4503599627370496 - 1 = m.log2 + 1022 := by unfold rung; omega
    have e2 : 4503599627370496 + rung m % 4503599627370496 = kept m := by unfold rung; omega
    rw [e1, e2]
    have hkl : (kept m).log2 = 52 := log2_eq (by omega) (by omega)
    by_cases hlog : m.log2 ≤ 52
    · have ep : (-1074 + ((m.log2 + 1022 : Nat) : Int)).toNat = 0 := by omega
      have en : (-(-1074 + ((m.log2 + 1022 : Nat) : Int))).toNat = 52 - m.log2 := by omega
      rw [toInt_number _ _ _ (by rw [ep, en, Nat.pow_zero, Nat.mul_one, hkl]; omega), ep, en]
      unfold near
      rw [if_pos hlog]
      unfold kept
      rw [if_pos hlog, Nat.pow_zero, Nat.mul_one, Nat.mul_div_cancel _ (Nat.two_pow_pos _)]
    · have ep : (-1074 + ((m.log2 + 1022 : Nat) : Int)).toNat = m.log2 - 52 := by omega
      have en : (-(-1074 + ((m.log2 + 1022 : Nat) : Int))).toNat = 0 := by omega
      rw [toInt_number _ _ _ (by omega), ep, en]
      unfold near
      rw [if_neg hlog, Nat.pow_zero, Nat.div_one]

/-- is a whole number a float itself? -/
def isExact (m : Nat) : Bool := decide (m.log2 ≤ 52) || decide (m % 2 ^ (m.log2 - 52) = 0)

theorem near_exact (m : Nat) : near m = m ↔ isExact m = true := by
  unfold near isExact
  by_cases h : m.log2 ≤ 52
  · simp [h]
  · rw [if_neg h]
    simp only [h, decide_false, Bool.false_or, decide_eq_true_eq]
    unfold kept half
    rw [if_neg h]
    generalize m.log2 - 52 = d
    have hp : 0 < 2 ^ d := Nat.two_pow_pos _
    have hdm := Nat.div_add_mod m (2 ^ d)
    constructor
    · intro he
      rw [← he, Nat.mul_mod_left]
    · intro he
      rw [he]
      rw [if_neg (by omega), Nat.add_zero, Nat.mul_comm]
      omega

theorem near_le {m : Nat} (hm : m ≠ 0) (hl : m ≤ 9223372036854775808) : near m ≤ 9223372036854775808 := by
  obtain ⟨b1, b2, b3⟩ := rung_bounds hm hl
  obtain ⟨k1, k2⟩ := kept_bounds hm
  by_cases h63 : m.log2 = 63
  · have : m = 9223372036854775808 := by have := (log2_bounds hm).1; rw [h63] at this; omega
    subst this
    decide +kernel
  · unfold near
    by_cases h : m.log2 ≤ 52
    · rw [if_pos h]; exact hl
    · rw [if_neg h]
      calc kept m * 2 ^ (m.log2 - 52) ≤ 9007199254740992 * 2 ^ 10 := Nat.mul_le_mul k2 (Nat.pow_le_pow_right (by decide) (by omega))
        _ = 9223372036854775808 := by decide +kernel

theorem near_lt {m : Nat} (hm : m ≠ 0) (hl : m < 9223372036854775808) : near m < 9223372036854775808 ↔ rung m < 4890909195324358656 := by
  obtain ⟨b1, b2, b3⟩ := rung_bounds hm (by omega)
  obtain ⟨k1, k2⟩ := kept_bounds hm
  have h62 : m.log2 < 63 := (Nat.log2_lt hm).2 (by omega)
  by_cases hc : m.log2 = 62
  · unfold near rung
    rw [hc, if_neg (by decide)]
    simp only [Nat.reduceSub, Nat.reducePow]
    omega
  · have h1 : near m < 9223372036854775808 := by
      unfold near
      by_cases h : m.log2 ≤ 52
      · rw [if_pos h]; exact hl
      · rw [if_neg h]
        calc kept m * 2 ^ (m.log2 - 52) ≤ 9007199254740992 * 2 ^ 9 := Nat.mul_le_mul k2 (Nat.pow_le_pow_right (by decide) (by omega))
          _ < 9223372036854775808 := by decide +kernel
    refine ⟨fun _ => ?_, fun _ => h1⟩
    unfold rung
    omega

/-- the quotient of two words that are whole numbers (not 0) -/
theorem div_rungs (s t : Bool) {m n : Nat} (hm : m ≠ 0) (hn : n ≠ 0) (hl : m ≤ 9223372036854775808) (hl' : n ≤ 9223372036854775808) :
    double.div ((if s then 9223372036854775808 else 0) + rung m) ((if t then 9223372036854775808 else 0) + rung n) =
      some ((if s ^^ t then 9223372036854775808 else 0) + (((((4503599627370496 + rung m % 4503599627370496) * 4611686018427387904 / (4503599627370496 + rung n % 4503599627370496)).log2 + (960 + rung m / 4503599627370496 - rung n / 4503599627370496)) * 4503599627370496)
        + keptM ((4503599627370496 + rung m % 4503599627370496) * 4611686018427387904 / (4503599627370496 + rung n % 4503599627370496)) (decide (0 < (4503599627370496 + rung m % 4503599627370496) * 4611686018427387904 % (4503599627370496 + rung n % 4503599627370496))))) := by
  have hw : ∀ (s : Bool) (m : Nat), m ≠ 0 → m ≤ 9223372036854775808 → double.read ((if s then 9223372036854775808 else 0) + rung m) = .number s (4503599627370496 + rung m % 4503599627370496) (-1074 + (rung m / 4503599627370496 - 1 : Nat)) := by
    intro s m hm hl
    obtain ⟨b1, b2, b3⟩ := rung_bounds hm hl
    have hmod : ((if s then 9223372036854775808 else 0) + rung m) % 9223372036854775808 = rung m := by cases s <;> simp <;> omega
    have hneg : decide (9223372036854775808 ≤ (if s then 9223372036854775808 else 0) + rung m) = s := by cases s <;> simp <;> omega
    rw [read_double _ (by cases s <;> simp <;> omega), hmod, hneg, if_pos b2]
    unfold finW
    rw [if_neg (by omega)]
  have hE : ∀ m : Nat, m ≠ 0 → m ≤ 9223372036854775808 → 1023 ≤ rung m / 4503599627370496 ∧ rung m / 4503599627370496 ≤ 1087 := by
    intro m hm hl
    obtain ⟨b1, b2, b3⟩ := rung_bounds hm hl
    obtain ⟨k1, k2⟩ := kept_bounds hm
    unfold rung
    omega
  obtain ⟨E1, E2⟩ := hE m hm hl
  obtain ⟨F1, F2⟩ := hE n hn hl'
  unfold Format.div
  rw [hw s m hm hl, hw t n hn hl']
  have e2 : double.fractionBits = 52 := rfl
  unfold Datum.quotient
  have hM1 : 4503599627370496 ≤ 4503599627370496 + rung m % 4503599627370496 := by omega
  have hM2 : 4503599627370496 + rung m % 4503599627370496 < 9007199254740992 := by omega
  have hN1 : 4503599627370496 ≤ 4503599627370496 + rung n % 4503599627370496 := by omega
  have hN2 : 4503599627370496 + rung n % 4503599627370496 < 9007199254740992 := by omega
  generalize 4503599627370496 + rung m % 4503599627370496 = M at *
  generalize 4503599627370496 + rung n % 4503599627370496 = N at *
  generalize rung m / 4503599627370496 = E at *
  generalize rung n / 4503599627370496 = F at *
  have lM : M.log2 = 52 := log2_eq (by omega) (by omega)
  have lN : N.log2 = 52 := log2_eq (by omega) (by omega)
  have hN0 : N ≠ 0 := by omega
  simp only [hN0, if_false, e2, lM, lN, Nat.shiftLeft_eq]
  have hq1 : 9007199254740992 ≤ M * 2 ^ 54 / N := (Nat.le_div_iff_mul_le (by omega)).2 (by omega)
  have hq2 : M * 2 ^ 54 / N < 36028797018963968 := (Nat.div_lt_iff_lt_mul (by omega)).2 (by omega)
  obtain ⟨g1, g2⟩ := quotient_same (X := M * 2 ^ 54) (N := N) (by omega) hq1 hq2
  rw [show 52 + 2 + 52 - 52 = 54 by rfl]
  rw [show M * 2 ^ 54 * 256 = M * 4611686018427387904 by omega] at g1 g2
  have hlq : 61 ≤ (M * 4611686018427387904 / N).log2 ∧ (M * 4611686018427387904 / N).log2 < 63 := by
    have a : 2305843009213693952 ≤ M * 4611686018427387904 / N := (Nat.le_div_iff_mul_le (by omega)).2 (by omega)
    have b : M * 4611686018427387904 / N < 9223372036854775808 := (Nat.div_lt_iff_lt_mul (by omega)).2 (by omega)
    exact ⟨(Nat.le_log2 (by omega)).2 (by omega), (Nat.log2_lt (by omega)).2 (by omega)⟩
  have hmag : 2 * (M * 2 ^ 54 / N) + (M * 2 ^ 54 % N != 0).toNat ≠ 0 := by omega
  show Option.map double.write (some (.number _ _ _)) = _
  rw [Option.map_some]
  show some (double.nearest _ _ _) = _
  rw [nearest_form _ _ _ hmag (by omega) (by omega) (kept_bounds hmag).2, g2]
  refine congrArg some ?_
  generalize (2 * (M * 2 ^ 54 / N) + (M * 2 ^ 54 % N != 0).toNat).log2 = L at *
  rw [show (-1074 + ((E - 1 : Nat) : Int) - (-1074 + ((F - 1 : Nat) : Int)) - ((54 : Nat) : Int) - 1 + (L : Int) - 52 + 1074).toNat = (M * 4611686018427387904 / N).log2 + (960 + E - F) by omega]
end Go.Proofs.YtkajadkmdcalmaaGreatDoor
/-
  THE WALKS OF real.Rank, Less, Same and of the document's own place: a float is its 64 bits.
-/
namespace Go.Proofs.YtkajadkmdcalmaaGreatDoor
open Go.RowKit
/-- where a number stands -/
def rankN (x : Nat) : Nat := if isNan x then 18446744073709551615 else if 9223372036854775808 ≤ x then 18446744073709551615 - x else 9223372036854775808 + x
theorem rankN_lt {x : Nat} (h : x < 18446744073709551616) : rankN x < 18446744073709551616 := by unfold rankN; split <;> (try split) <;> omega
theorem nat_and_low (x : Nat) : x &&& 9223372036854775807 = x % 9223372036854775808 := Nat.and_two_pow_sub_one_eq_mod x 63
theorem nat_and_sign (x : Nat) (h : x < 18446744073709551616) : x &&& 9223372036854775808 = if 9223372036854775808 ≤ x then 9223372036854775808 else 0 := by
  have h1 := nat_bit 63 x
  rw [show (2 : Nat) ^ 63 = 9223372036854775808 by decide +kernel] at h1
  rw [h1]
  split <;> omega
theorem and_sign (x : Nat) (h : x < 18446744073709551616) : bits .and .u64 (x : Int) 9223372036854775808 = if 9223372036854775808 ≤ x then 9223372036854775808 else 0 := by
  have := u64_and_nat x 9223372036854775808 h (by decide)
  rw [nat_and_sign x h] at this
  refine this.trans ?_
  split <;> rfl
theorem and_low (x : Nat) (h : x < 18446744073709551616) : bits .and .u64 (x : Int) 9223372036854775807 = ((x % 9223372036854775808 : Nat) : Int) := by
  have := u64_and_nat x 9223372036854775807 h (by decide)
  rw [nat_and_low x] at this
  exact this
theorem andNot_sign (x : Nat) (h : x < 18446744073709551616) : bits .andNot .u64 (x : Int) 9223372036854775808 = ((x % 9223372036854775808 : Nat) : Int) := by
  have := u64_andNot_nat x 9223372036854775808 h (by decide)
  rw [show 18446744073709551615 - 9223372036854775808 = 9223372036854775807 by decide, nat_and_low x] at this
  exact this
theorem not_u64 (r : Nat) (h : r < 18446744073709551616) : bits .xor .u64 IntKind.u64.max (r : Int) = ((18446744073709551615 - r : Nat) : Int) := by
  have e2 : IntKind.u64.max = ((18446744073709551615 : Nat) : Int) := by decide
  rw [e2, u64_xor_nat _ _ (by decide) h]
  congr 1
  apply Nat.eq_of_testBit_eq
  intro i
  rw [Nat.testBit_xor, show 18446744073709551615 = 2 ^ 64 - 1 from rfl, Nat.testBit_two_pow_sub_one, show 2 ^ 64 - 1 - r = 2 ^ 64 - (r + 1) by omega, Nat.testBit_two_pow_sub_succ h]
  by_cases hi : i < 64
  · simp [hi]
  · have : r.testBit i = false := Nat.testBit_lt_two_pow (Nat.lt_of_lt_of_le (show r < 2 ^ 64 from h) (Nat.pow_le_pow_right (by decide) (by omega)))
    simp [hi, this]
theorem or_sign (x : Nat) (h : x < 9223372036854775808) : bits .or .u64 (x : Int) 9223372036854775808 = ((9223372036854775808 + x : Nat) : Int) := by
  have h1 := u64_or_nat x 9223372036854775808 (by omega) (by decide)
  rw [Nat.or_comm, nat_join 63 9223372036854775808 x (by decide +kernel) (by omega)] at h1
  exact h1
theorem run_bits (b : Nat) (w : World) : (callFunc 78 #[.float .f64 b]).run Tryz.prog w = .ok (.value (.int .u64 (b : Int))) w := by
  rw [run_callFunc_extern (P := Tryz.prog) (e := Extern.MathFloatBits.float64bits) Tryz.func78 (by kernel_rfl) (by kernel_rfl) (by kernel_rfl) (by kernel_rfl)]
  rfl
theorem ret_u64 {a b : Int} (h : a = b) : Ending.returned (.int .u64 a) = .returned (.int .u64 b) := by rw [h]
theorem ret_bool {a b : Bool} (h : a = b) : Ending.returned (.bool a) = .returned (.bool b) := by rw [h]
theorem isNan_iff (x : Nat) : isNan x = true ↔ 9218868437227405312 < x % 9223372036854775808 := by unfold isNan; simp
theorem nan_any (x : Nat) (_hx : x < 18446744073709551616) (w : World) : Calls Tryz.prog 79 #[.int .u64 x] w fun r w' => r = .returned (.bool (isNan x)) ∧ w = w' := by
  go_enter Tryz.func79, Tryz.ntmps79
  go_wp2_with fail
  go_ret
  refine ⟨ret_bool ?_, rfl⟩
  unfold isNan
  apply Bool.eq_iff_iff.2
  rw [IntKind.wrap_u64]
  simp
  omega
end Go.Proofs.YtkajadkmdcalmaaGreatDoor
