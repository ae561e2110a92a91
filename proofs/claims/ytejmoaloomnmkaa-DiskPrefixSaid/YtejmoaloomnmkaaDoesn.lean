/-
  A DOING OF NO KIND; a disk that is awake.
-/
import Derived.Test.YtejmoaloomnmkaaPut
namespace Go.Proofs.Ytejmoaloomnmkaa
open Go.RowKit
theorem does_none (p : Option Addr) (f s : ByteArray) (n k kd : Int) (w : World) (h : kd < 0 ∨ 8 < kd) :
    Calls Try.prog 12 #[.pointer p, .agg #[.int .i64 kd, .string f, .int .i64 n, .int .i64 k, .string s]] w (fun e w' => e = .returned (.int .i64 0) ∧ Below w.heap.size w w') := by
  have h0 : ¬ kd = 0 := by omega
  have h1 : ¬ kd = 1 := by omega
  have h2 : ¬ kd = 2 := by omega
  have h3 : ¬ kd = 3 := by omega
  have h4 : ¬ kd = 4 := by omega
  have h5 : ¬ kd = 5 := by omega
  have h6 : ¬ kd = 6 := by omega
  have h7 : ¬ kd = 7 := by omega
  have h8 : ¬ kd = 8 := by omega
  clear h
  have FIN := Lib.hid ((Below.refl _ w).alloc (Nat.le_refl _) (.cells #[.int .i64 kd, .string f, .int .i64 n, .int .i64 k, .string s] 31))
  go_enter Try.func12, Try.ntmps12
  go_wp2_with fail
  first | go_ret | go_ret2
  exact ⟨rfl, FIN.out⟩
end Go.Proofs.Ytejmoaloomnmkaa
