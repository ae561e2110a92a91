/-
  MASKS, PLAIN: which nodes, how many, more than half, near; majorities of masks that are near meet.
-/
import Derived.Lib.Hide
import Derived.Laws.BitsAllLaws
import Derived.Laws.BitsLemmas
import Derived.WalkKit
namespace Go.Proofs.Ytnlpmapnlhkpkaa
open Go.RowKit
theorem ofInt_i64 (a : Nat) (ha : a < 9223372036854775808) : (BitVec.ofInt 64 (a : Int)).toNat = a := by
  rw [BitVec.ofInt_natCast, BitVec.toNat_ofNat]; exact Nat.mod_eq_of_lt (by omega)
theorem i64_and_nat (a b : Nat) (ha : a < 9223372036854775808) (hb : b < 9223372036854775808) : bits .and .i64 (a : Int) (b : Int) = ((a &&& b : Nat) : Int) := by
  have hx : a &&& b < 2 ^ 63 := Nat.and_lt_two_pow _ (by omega)
  show IntKind.i64.wrap ((BitVec.ofInt 64 (a : Int) &&& BitVec.ofInt 64 (b : Int)).toNat : Int) = _
  rw [BitVec.toNat_and, ofInt_i64 a ha, ofInt_i64 b hb, IntKind.wrap_i64]
  omega
theorem i64_or_nat (a b : Nat) (ha : a < 9223372036854775808) (hb : b < 9223372036854775808) : bits .or .i64 (a : Int) (b : Int) = ((a ||| b : Nat) : Int) := by
  have hx : a ||| b < 2 ^ 63 := Nat.or_lt_two_pow (by omega) (by omega)
  show IntKind.i64.wrap ((BitVec.ofInt 64 (a : Int) ||| BitVec.ofInt 64 (b : Int)).toNat : Int) = _
  rw [BitVec.toNat_or, ofInt_i64 a ha, ofInt_i64 b hb, IntKind.wrap_i64]
  omega
theorem i64_xor_nat (a b : Nat) (ha : a < 9223372036854775808) (hb : b < 9223372036854775808) : bits .xor .i64 (a : Int) (b : Int) = ((a ^^^ b : Nat) : Int) := by
  have hx : a ^^^ b < 2 ^ 63 := Nat.xor_lt_two_pow (by omega) (by omega)
  show IntKind.i64.wrap ((BitVec.ofInt 64 (a : Int) ^^^ BitVec.ofInt 64 (b : Int)).toNat : Int) = _
  rw [BitVec.toNat_xor, ofInt_i64 a ha, ofInt_i64 b hb, IntKind.wrap_i64]
  omega
/-- a mask as it is known -/
def kn (m : Int) : Nat := if 0 ≤ m ∧ m < 128 then m.toNat else 0
theorem kn_lt (m : Int) : kn m < 128 := by unfold kn; split <;> omega
theorem kn_kn (m : Int) : kn (kn m : Int) = kn m := by have := kn_lt m; show (if 0 ≤ (kn m : Int) ∧ (kn m : Int) < 128 then ((kn m : Int)).toNat else 0) = kn m; rw [if_pos ⟨by omega, by omega⟩]; omega
theorem kn_nat {k : Nat} (h : k < 128) : kn (k : Int) = k := by unfold kn; rw [if_pos ⟨by omega, by omega⟩]; omega
/-- the bit of a node -/
def bt (k i : Nat) : Nat := k / 2 ^ i % 2
theorem bt_le (k i : Nat) : bt k i ≤ 1 := by unfold bt; omega
theorem bt_test (k i : Nat) : bt k i = (k.testBit i).toNat := (Nat.toNat_testBit k i).symm
theorem bt_and (a b i : Nat) : bt (a &&& b) i = bt a i * bt b i := by
  rw [bt_test, bt_test, bt_test, Nat.testBit_and]; cases a.testBit i <;> cases b.testBit i <;> rfl
theorem bt_or (a b i : Nat) : bt (a ||| b) i = max (bt a i) (bt b i) := by
  rw [bt_test, bt_test, bt_test, Nat.testBit_or]; cases a.testBit i <;> cases b.testBit i <;> rfl
theorem bt_xor (a b i : Nat) : bt (a ^^^ b) i + 2 * (bt a i * bt b i) = bt a i + bt b i := by
  rw [bt_test, bt_test, bt_test, Nat.testBit_xor]; cases a.testBit i <;> cases b.testBit i <;> rfl
/-- how many of the first nodes -/
def szTo (k : Nat) : Nat → Nat
  | 0 => 0
  | i + 1 => szTo k i + bt k i
def sz (k : Nat) : Nat := szTo k 7
theorem sz_eq (k : Nat) : sz k = bt k 0 + bt k 1 + bt k 2 + bt k 3 + bt k 4 + bt k 5 + bt k 6 := by
  show 0 + bt k 0 + bt k 1 + bt k 2 + bt k 3 + bt k 4 + bt k 5 + bt k 6 = _; omega
theorem szTo_le (k i : Nat) : szTo k i ≤ i := by
  induction i with
  | zero => exact Nat.le_refl _
  | succ i ih => have := bt_le k i; show szTo k i + bt k i ≤ i + 1; omega
theorem sz_le (k : Nat) : sz k ≤ 7 := szTo_le k 7
def hasB (m n : Int) : Bool := decide (0 ≤ n) && decide (n < 7) && decide (bt (kn m) n.toNat = 1)
def enoughB (m w : Int) : Bool := decide (sz (kn m) < 2 * sz (kn m &&& kn w))
def nearB (a b : Int) : Bool := decide (0 < sz (kn a)) && decide (0 < sz (kn b)) && decide (sz (kn a ^^^ kn b) ≤ 1)
/-- majorities of masks that are near meet in a node -/
theorem meets (a b x y : Nat) (hn : sz (a ^^^ b) ≤ 1) (h1 : sz a < 2 * sz (a &&& x)) (h2 : sz b < 2 * sz (b &&& y)) :
    ∃ i, i < 7 ∧ bt x i = 1 ∧ bt y i = 1 ∧ (bt a i = 1 ∨ bt b i = 1) := by
  refine Classical.byContradiction fun hno => ?_
  have key : ∀ i, i < 7 → 2 * (bt (a &&& x) i + bt (b &&& y) i) ≤ bt a i + bt b i + bt (a ^^^ b) i := by
    intro i hi
    have hx := bt_xor a b i
    rw [bt_and, bt_and]
    have l1 := bt_le a i
    have l2 := bt_le b i
    have l3 := bt_le x i
    have l4 := bt_le y i
    have hni : ¬ (bt x i = 1 ∧ bt y i = 1 ∧ (bt a i = 1 ∨ bt b i = 1)) := fun h => hno ⟨i, hi, h⟩
    rcases Nat.le_one_iff_eq_zero_or_eq_one.1 l1 with e1 | e1 <;> rcases Nat.le_one_iff_eq_zero_or_eq_one.1 l2 with e2 | e2 <;>
      rcases Nat.le_one_iff_eq_zero_or_eq_one.1 l3 with e3 | e3 <;> rcases Nat.le_one_iff_eq_zero_or_eq_one.1 l4 with e4 | e4 <;>
      simp [e1, e2, e3, e4] at hx hni ⊢ <;> omega
  have k0 := key 0 (by omega)
  have k1 := key 1 (by omega)
  have k2 := key 2 (by omega)
  have k3 := key 3 (by omega)
  have k4 := key 4 (by omega)
  have k5 := key 5 (by omega)
  have k6 := key 6 (by omega)
  rw [sz_eq] at hn
  rw [sz_eq, sz_eq] at h1 h2
  omega
end Go.Proofs.Ytnlpmapnlhkpkaa
