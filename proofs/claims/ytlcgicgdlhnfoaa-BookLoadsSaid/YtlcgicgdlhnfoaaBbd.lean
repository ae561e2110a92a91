/-
  The book: behind 29; what is read.
-/
import Derived.Test.YtlcgicgdlhnfoaaBrf
import Derived.BigRegionIn
namespace Go.Proofs.Ytlcgicgdlhnfoaa
open Go.RowKit
attribute [local go_sem] Oper.semAt_some
theorem behind_any {w : World} (t : Nat) (from_ most : Int) : CallsIn Fence.wide 3 Try.prog 29 #[.pointer (some ⟨t, 0, none⟩), .int .i64 from_, .int .i64 most] w fun e w' =>
    e = .returned (.func (.func 39) #[] #[.pointer (some ⟨w.heap.size, 0, none⟩), .pointer (some ⟨w.heap.size + 1, 0, none⟩), .pointer (some ⟨w.heap.size + 2, 0, none⟩)]) ∧
      w' = ((w.alloc (.cells #[.pointer (some ⟨t, 0, none⟩)] 23)).alloc (.cells #[.int .i64 from_] 3)).alloc (.cells #[.int .i64 most] 3) := by
  refine (callsIn_wide (n := 3)).2 ?_
  go_enter Try.func29, Try.ntmps29
  go_wp2_with fail
  go_ret
  exact ⟨rfl, rfl⟩
/-- which matches are read -/
def sub (base : Int) (LL : List (List Int)) (from_ most : Int) : List (List Int) := (LL.drop (from_ - base).toNat).take most.toNat
abbrev Mv := Value × List Int
def encM (x : Mv) : Value := .agg #[x.1]
theorem pre_step {LL : List (List Int)} {k : Nat} (h : k < LL.length) {pre : List Mv} (hp : pre.map (·.2) = LL.take k) (u : Value) : (pre ++ [(u, LL[k])]).map (·.2) = LL.take (k + 1) := by
  rw [List.map_append, hp, List.take_succ_eq_append_getElem h]
  rfl
end Go.Proofs.Ytlcgicgdlhnfoaa
