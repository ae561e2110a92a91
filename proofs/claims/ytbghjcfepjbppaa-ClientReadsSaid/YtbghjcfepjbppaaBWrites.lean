/-
  THE WALKS OF bits.Int, bits.Text, bits.Flag and the document's own: over Num's contracts.
-/
import Derived.Test.YtbghjcfepjbppaaBRnum
namespace Go.Proofs.Ytbghjcfepjbppaa.Bt
open Go.RowKit
theorem zig_lt {n : Int} (h0 : -9223372036854775808 ≤ n) (h1 : n ≤ 9223372036854775807) : ((Lib.zigzag n : Nat) : Int) < 18446744073709551616 := by
  have := Lib.zigzag_lt h0 h1; omega
theorem be_len (k : Nat) : ∀ n, (be k n).length = k := by
  induction k with
  | zero => intro n; rfl
  | succ k ih => intro n; simp [be, ih]
theorem wid_le (n : Int) : 1 ≤ wid n ∧ wid n ≤ 8 := by
  unfold wid
  repeat' split
  all_goals omega
theorem numS_size (n : Int) : (numS n).size ≤ 9 := by
  unfold numS numI
  rw [strOfNums_size]
  have := (wid_le n).2
  split
  · simp
  · rw [List.length_cons, be_len]; omega
def intS (n : Int) : ByteArray := numS ((Lib.zigzag n : Nat) : Int)
theorem int_any (n : Int) (h0 : -9223372036854775808 ≤ n) (h1 : n ≤ 9223372036854775807) (w : World) :
    Calls Try.prog 104 #[.int .i64 n] w fun e w' => e = .returned (.string (intS n)) ∧ Below w.heap.size w w' := by
  go_enter Try.func104, Try.ntmps104
  go_wp2_with fail
  refine (fold_any n h0 h1 _).mono ?_
  rintro e w1 ⟨rfl, rfl⟩
  go_wp2_with fail
  refine (num_any _ (Int.natCast_nonneg _) (zig_lt h0 h1) _).mono ?_
  rintro e w1 ⟨rfl, hb⟩
  go_wp2_with fail
  go_ret
  exact ⟨rfl, hb⟩
theorem rint_any (n : Int) (h0 : -9223372036854775808 ≤ n) (h1 : n ≤ 9223372036854775807) (w : World) :
    Calls Try.prog 102 #[.int .i64 n] w fun e w' => e = .returned (.string (intS n)) ∧ Below w.heap.size w w' := by
  by_cases hn : 0 ≤ n
  · have e1 : Hid (((Lib.zigzag n : Nat) : Int) = 2 * n) := by have := Lib.zigzag_nonneg hn; unfold Hid; omega
    go_enter Try.func102, Try.ntmps102
    go_wp2_with fail
    refine (rnum_any _ (by omega) (by omega) _).mono ?_
    rintro e w1 ⟨rfl, hb⟩
    go_wp2_with fail
    go_ret
    exact ⟨by unfold intS; rw [e1.out]; rfl, hb⟩
  · have e1 : Hid (((Lib.zigzag n : Nat) : Int) = 2 * (-(n + 1)) + 1) := by unfold Hid Lib.zigzag; rw [if_neg hn]; omega
    go_enter Try.func102, Try.ntmps102
    go_wp2_with fail
    refine (rnum_any _ (by omega) (by omega) _).mono ?_
    rintro e w1 ⟨rfl, hb⟩
    go_wp2_with fail
    go_ret
    exact ⟨by unfold intS; rw [e1.out]; rfl, hb⟩
/-- the bytes of a text -/
def textS (s : ByteArray) : ByteArray := numS (s.size : Int) ++ s
theorem text_any (s : ByteArray) (hs : s.size ≤ 9223372036854775798) (w : World) :
    Calls Try.prog 87 #[.string s] w fun e w' => e = .returned (.string (textS s)) ∧ Below w.heap.size w w' := by
  have hz := numS_size (s.size : Int)
  have hz2 : (numS (s.size : Int)).size + s.size ≤ 9223372036854775807 := by omega
  go_enter Try.func87, Try.ntmps87
  go_wp2_with fail
  refine (num_any _ (Int.natCast_nonneg _) (by omega) _).mono ?_
  rintro e w1 ⟨rfl, hb⟩
  go_wp2_with fail
  go_ret
  exact ⟨rfl, hb⟩
theorem rtext_any (s : ByteArray) (hs : s.size ≤ 9223372036854775798) (w : World) :
    Calls Try.prog 93 #[.string s] w fun e w' => e = .returned (.string (textS s)) ∧ Below w.heap.size w w' := by
  have hz := numS_size (s.size : Int)
  have hz2 : (numS (s.size : Int)).size + s.size ≤ 9223372036854775807 := by omega
  go_enter Try.func93, Try.ntmps93
  go_wp2_with fail
  refine (rnum_any _ (Int.natCast_nonneg _) (by omega) _).mono ?_
  rintro e w1 ⟨rfl, hb⟩
  go_wp2_with fail
  go_ret
  exact ⟨rfl, hb⟩
def flagS (b : Bool) : ByteArray := if b then ⟨#[1]⟩ else ⟨#[0]⟩
end Go.Proofs.Ytbghjcfepjbppaa.Bt
