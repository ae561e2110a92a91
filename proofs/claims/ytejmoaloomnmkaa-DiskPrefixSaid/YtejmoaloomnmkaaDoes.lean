/-
  A DOING IS DONE: Does.
-/
import Derived.Test.YtejmoaloomnmkaaPut
namespace Go.Proofs.Ytejmoaloomnmkaa
open Go.RowKit
section
variable (p : Option Addr) (f s : ByteArray) (n k : Int) (w : World)
theorem does_put {Post : Int → World → Prop} (C : ∀ w1, Below w.heap.size w w1 → Calls Try.prog 9 #[.pointer p, .string f, .int .i64 n, .string s] w1 (fun e w' => ∃ x, e = .returned (.int .i64 x) ∧ Post x w')) :
    Calls Try.prog 12 #[.pointer p, .agg #[.int .i64 0, .string f, .int .i64 n, .int .i64 k, .string s]] w (fun e w' => ∃ x, e = .returned (.int .i64 x) ∧ Post x w') := by
  have C1 := Lib.hid (C _ ((Below.refl _ w).alloc (Nat.le_refl _) (.cells #[.int .i64 0, .string f, .int .i64 n, .int .i64 k, .string s] 31)))
  clear C
  go_enter Try.func12, Try.ntmps12
  go_wp2_with fail
  refine C1.out.mono ?_
  rintro e w2 ⟨x, rfl, hp⟩
  have HP := Lib.hid hp
  clear hp C1
  go_wp2_with fail
  first | go_ret | go_ret2
  exact ⟨x, rfl, HP.out⟩
theorem does_trim {Post : Int → World → Prop} (C : ∀ w1, Below w.heap.size w w1 → Calls Try.prog 32 #[.pointer p, .string f, .int .i64 n] w1 (fun e w' => ∃ x, e = .returned (.int .i64 x) ∧ Post x w')) :
    Calls Try.prog 12 #[.pointer p, .agg #[.int .i64 1, .string f, .int .i64 n, .int .i64 k, .string s]] w (fun e w' => ∃ x, e = .returned (.int .i64 x) ∧ Post x w') := by
  have C1 := Lib.hid (C _ ((Below.refl _ w).alloc (Nat.le_refl _) (.cells #[.int .i64 1, .string f, .int .i64 n, .int .i64 k, .string s] 31)))
  clear C
  go_enter Try.func12, Try.ntmps12
  go_wp2_with fail
  refine C1.out.mono ?_
  rintro e w2 ⟨x, rfl, hp⟩
  have HP := Lib.hid hp
  clear hp C1
  go_wp2_with fail
  first | go_ret | go_ret2
  exact ⟨x, rfl, HP.out⟩
theorem does_move {Post : Int → World → Prop} (C : ∀ w1, Below w.heap.size w w1 → Calls Try.prog 33 #[.pointer p, .string f, .string s] w1 (fun e w' => ∃ x, e = .returned (.int .i64 x) ∧ Post x w')) :
    Calls Try.prog 12 #[.pointer p, .agg #[.int .i64 2, .string f, .int .i64 n, .int .i64 k, .string s]] w (fun e w' => ∃ x, e = .returned (.int .i64 x) ∧ Post x w') := by
  have C1 := Lib.hid (C _ ((Below.refl _ w).alloc (Nat.le_refl _) (.cells #[.int .i64 2, .string f, .int .i64 n, .int .i64 k, .string s] 31)))
  clear C
  go_enter Try.func12, Try.ntmps12
  go_wp2_with fail
  refine C1.out.mono ?_
  rintro e w2 ⟨x, rfl, hp⟩
  have HP := Lib.hid hp
  clear hp C1
  go_wp2_with fail
  first | go_ret | go_ret2
  exact ⟨x, rfl, HP.out⟩
theorem does_drop {Post : Int → World → Prop} (C : ∀ w1, Below w.heap.size w w1 → Calls Try.prog 34 #[.pointer p, .string f] w1 (fun e w' => ∃ x, e = .returned (.int .i64 x) ∧ Post x w')) :
    Calls Try.prog 12 #[.pointer p, .agg #[.int .i64 3, .string f, .int .i64 n, .int .i64 k, .string s]] w (fun e w' => ∃ x, e = .returned (.int .i64 x) ∧ Post x w') := by
  have C1 := Lib.hid (C _ ((Below.refl _ w).alloc (Nat.le_refl _) (.cells #[.int .i64 3, .string f, .int .i64 n, .int .i64 k, .string s] 31)))
  clear C
  go_enter Try.func12, Try.ntmps12
  go_wp2_with fail
  refine C1.out.mono ?_
  rintro e w2 ⟨x, rfl, hp⟩
  have HP := Lib.hid hp
  clear hp C1
  go_wp2_with fail
  first | go_ret | go_ret2
  exact ⟨x, rfl, HP.out⟩
theorem does_sync {Post : Int → World → Prop} (C : ∀ w1, Below w.heap.size w w1 → Calls Try.prog 10 #[.pointer p] w1 (fun e w' => ∃ x, e = .returned (.int .i64 x) ∧ Post x w')) :
    Calls Try.prog 12 #[.pointer p, .agg #[.int .i64 4, .string f, .int .i64 n, .int .i64 k, .string s]] w (fun e w' => ∃ x, e = .returned (.int .i64 x) ∧ Post x w') := by
  have C1 := Lib.hid (C _ ((Below.refl _ w).alloc (Nat.le_refl _) (.cells #[.int .i64 4, .string f, .int .i64 n, .int .i64 k, .string s] 31)))
  clear C
  go_enter Try.func12, Try.ntmps12
  go_wp2_with fail
  refine C1.out.mono ?_
  rintro e w2 ⟨x, rfl, hp⟩
  have HP := Lib.hid hp
  clear hp C1
  go_wp2_with fail
  first | go_ret | go_ret2
  exact ⟨x, rfl, HP.out⟩
theorem does_fail {Post : World → Prop} (C : ∀ w1, Below w.heap.size w w1 → Calls Try.prog 13 #[.pointer p, .int .i64 n] w1 (fun e w' => e = .returned (.tuple #[]) ∧ Post w')) :
    Calls Try.prog 12 #[.pointer p, .agg #[.int .i64 5, .string f, .int .i64 n, .int .i64 k, .string s]] w (fun e w' => e = .returned (.int .i64 0) ∧ Post w') := by
  have C1 := Lib.hid (C _ ((Below.refl _ w).alloc (Nat.le_refl _) (.cells #[.int .i64 5, .string f, .int .i64 n, .int .i64 k, .string s] 31)))
  clear C
  go_enter Try.func12, Try.ntmps12
  go_wp2_with fail
  refine C1.out.mono ?_
  rintro e w2 ⟨rfl, hp⟩
  have HP := Lib.hid hp
  clear hp C1
  go_wp2_with fail
  first | go_ret | go_ret2
  exact ⟨rfl, HP.out⟩
theorem does_trip {Post : World → Prop} (C : ∀ w1, Below w.heap.size w w1 → Calls Try.prog 35 #[.pointer p, .int .i64 n, .int .i64 k] w1 (fun e w' => e = .returned (.tuple #[]) ∧ Post w')) :
    Calls Try.prog 12 #[.pointer p, .agg #[.int .i64 6, .string f, .int .i64 n, .int .i64 k, .string s]] w (fun e w' => e = .returned (.int .i64 0) ∧ Post w') := by
  have C1 := Lib.hid (C _ ((Below.refl _ w).alloc (Nat.le_refl _) (.cells #[.int .i64 6, .string f, .int .i64 n, .int .i64 k, .string s] 31)))
  clear C
  go_enter Try.func12, Try.ntmps12
  go_wp2_with fail
  refine C1.out.mono ?_
  rintro e w2 ⟨rfl, hp⟩
  have HP := Lib.hid hp
  clear hp C1
  go_wp2_with fail
  first | go_ret | go_ret2
  exact ⟨rfl, HP.out⟩
theorem does_wake {Post : World → Prop} (C : ∀ w1, Below w.heap.size w w1 → Calls Try.prog 14 #[.pointer p] w1 (fun e w' => e = .returned (.tuple #[]) ∧ Post w')) :
    Calls Try.prog 12 #[.pointer p, .agg #[.int .i64 7, .string f, .int .i64 n, .int .i64 k, .string s]] w (fun e w' => e = .returned (.int .i64 0) ∧ Post w') := by
  have C1 := Lib.hid (C _ ((Below.refl _ w).alloc (Nat.le_refl _) (.cells #[.int .i64 7, .string f, .int .i64 n, .int .i64 k, .string s] 31)))
  clear C
  go_enter Try.func12, Try.ntmps12
  go_wp2_with fail
  refine C1.out.mono ?_
  rintro e w2 ⟨rfl, hp⟩
  have HP := Lib.hid hp
  clear hp C1
  go_wp2_with fail
  first | go_ret | go_ret2
  exact ⟨rfl, HP.out⟩
theorem does_room {Post : World → Prop} (C : ∀ w1, Below w.heap.size w w1 → Calls Try.prog 19 #[.pointer p, .int .i64 n] w1 (fun e w' => e = .returned (.tuple #[]) ∧ Post w')) :
    Calls Try.prog 12 #[.pointer p, .agg #[.int .i64 8, .string f, .int .i64 n, .int .i64 k, .string s]] w (fun e w' => e = .returned (.int .i64 0) ∧ Post w') := by
  have C1 := Lib.hid (C _ ((Below.refl _ w).alloc (Nat.le_refl _) (.cells #[.int .i64 8, .string f, .int .i64 n, .int .i64 k, .string s] 31)))
  clear C
  go_enter Try.func12, Try.ntmps12
  go_wp2_with fail
  refine C1.out.mono ?_
  rintro e w2 ⟨rfl, hp⟩
  have HP := Lib.hid hp
  clear hp C1
  go_wp2_with fail
  first | go_ret | go_ret2
  exact ⟨rfl, HP.out⟩
end
end Go.Proofs.Ytejmoaloomnmkaa
