/-
  THE WALK OF bits.text: the text of at most so many bytes at the front of bytes.
-/
import Derived.Test.YtbghjcfepjbppaaBFront
namespace Go.Proofs.Ytbghjcfepjbppaa.Bt
open Go.RowKit
theorem clone_any (s : ByteArray) (w : World) (hs : s.size ≤ 281474976710656) :
    Calls Try.prog 53 #[.string s] w fun e w' => e = .returned (.string s) ∧ Below w.heap.size w w' := by
  go_enter Try.func53, Try.ntmps53
  go_wp2_with fail
  refine (lite_clone s _ hs).mono ?_
  rintro e w1 ⟨rfl, hb⟩
  go_wp2_with fail
  go_ret
  exact ⟨rfl, hb⟩
theorem joinN_u64 (l : List UInt8) (h : l.length ≤ 8) : joinN l < 18446744073709551616 :=
  Nat.lt_of_lt_of_le (joinN_lt l) (Nat.le_trans (Nat.pow_le_pow_right (by decide) h) (by decide))
/-- what is read of a number lies in the bytes -/
theorem rdNum_facts (l : List UInt8) : (rdNum l).1 < 18446744073709551616 ∧ (rdNum l).2.1 ≤ l.length ∧ ((rdNum l).2.2 = 0 ∨ ((rdNum l).2.2 = 5 ∧ (rdNum l).1 = 0 ∧ (rdNum l).2.1 = 0) ∨ ((rdNum l).2.2 = 3 ∧ (rdNum l).1 = 0 ∧ (rdNum l).2.1 = 0)) := by
  match l with
  | [] => simp [rdNum]
  | b :: t =>
    have hb := b.toNat_lt
    simp only [rdNum]
    split
    · simp; omega
    · split
      · simp
      · split
        · simp
        · have hj := joinN_u64 (t.take (b.toNat - 247)) (by rw [List.length_take]; omega)
          simp only [true_or, and_true, List.length_cons]
          exact ⟨hj, by omega⟩
/-- the text of at most so many bytes at the front of s -/
def rdText (s : ByteArray) (most : Int) : ByteArray × Nat × Int :=
  if (rdNum s.data.toList).2.2 ≠ 0 then (⟨#[]⟩, 0, (rdNum s.data.toList).2.2)
  else if max most 0 < ((rdNum s.data.toList).1 : Int) then (⟨#[]⟩, 0, 2)
  else if s.size - (rdNum s.data.toList).2.1 < (rdNum s.data.toList).1 then (⟨#[]⟩, 0, 5)
  else (s.extract (rdNum s.data.toList).2.1 ((rdNum s.data.toList).2.1 + (rdNum s.data.toList).1), (rdNum s.data.toList).2.1 + (rdNum s.data.toList).1, 0)
/-- what rtxt says of a read number -/
theorem rdText_eq (s : ByteArray) (most : Int) {N K : Nat} {E : Int} (h : rdNum s.data.toList = (N, K, E)) :
    rdText s most = if E ≠ 0 then (⟨#[]⟩, 0, E) else if max most 0 < (N : Int) then (⟨#[]⟩, 0, 2) else if s.size - K < N then (⟨#[]⟩, 0, 5) else (s.extract K (K + N), K + N, 0) := by
  unfold rdText; rw [h]
def txtR (x : ByteArray × Nat × Int) : Value := .tuple #[.string x.1, .int .i64 x.2.1, .int .i64 x.2.2]
theorem ret_txt {x : ByteArray × Nat × Int} {a : ByteArray} {b c : Int} {k : Nat} (h : x = (a, k, c)) (hb : b = k) : Ending.returned (.tuple #[.string a, .int .i64 b, .int .i64 c]) = .returned (txtR x) := by
  subst h; subst hb; rfl
end Go.Proofs.Ytbghjcfepjbppaa.Bt
