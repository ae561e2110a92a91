/-
  A TELLER IS TOLD: a session is opened.
-/
import Derived.Test.YtbghjcfepjbppaaTnx
namespace Go.Proofs.Ytbghjcfepjbppaa
open Go.RowKit
theorem told_nil (e m lead : Int) (w : World) : Calls Try.prog 13 #[.pointer none, .agg #[.int .i64 e, .int .i64 m], .int .i64 lead] w fun r w' => r = .returned (.tuple #[]) ∧ Below w.heap.size w w' := by
  have FIN := Lib.hid (fun o => (Below.refl w.heap.size w).alloc (Nat.le_refl _) o)
  go_enter Try.func13, Try.ntmps13
  go_wp2_with fail
  refine (left_nil _).mono ?_
  rintro e w1 ⟨rfl, rfl⟩
  go_wp2_with fail
  refine bodyPost_ret (results_none rfl _ _ _) rfl ?_
  exact ⟨rfl, FIN.out _⟩
theorem came_opens {w : World} {t : Nat} {nodes to sq m : Int} {wv rv : Value} (T : Blk w t 98 (tel nodes to 0 sq wv rv)) (hm : 1 ≤ m ∧ m ≤ 549755813888) :
    Calls Try.prog 44 #[.pointer (some ⟨t, 0, none⟩), .int .i64 m] w fun e w' => e = .returned (.tuple #[]) ∧ Blk w' t 98 (tel nodes to m 0 wv rv) ∧ Fr w w' (fun q => q = t) := by
  have OP := Lib.hid (open_any T)
  have FIN : Hid (Blk ((w.setCell ⟨t, 2, none⟩ (.int .i64 m)).setCell ⟨t, 3, none⟩ (.int .i64 0)) t 98 (tel nodes to m 0 wv rv) ∧ Fr w ((w.setCell ⟨t, 2, none⟩ (.int .i64 m)).setCell ⟨t, 3, none⟩ (.int .i64 0)) (fun q => q = t)) := Lib.hid ⟨(T.set 2 _).set 3 _, (fr_set w t 2 _).set t 3 _ (.inl rfl)⟩
  have c2 : w.cell? ⟨t, 2, none⟩ = some (.int .i64 0) := T.cell 2
  have c3 : w.cell? ⟨t, 3, none⟩ = some (.int .i64 sq) := T.cell 3
  have fz : ∀ i, w.frozen? ⟨t, i, none⟩ = false := T.free
  obtain ⟨m1, m2⟩ := hm
  clear T
  go_enter Try.func44, Try.ntmps44
  go_wp2_with fail
  refine OP.out.mono ?_
  rintro e w1 ⟨rfl, rfl⟩
  go_wp2_with fail
  go_end0
  exact ⟨rfl, FIN.out⟩
theorem told_opens {w : World} {t : Nat} {nodes to sq m lead : Int} {a : Option Addr} {n c : Nat} {rv : Value} (T : Blk w t 98 (tel nodes to 0 sq (.slice a n c) rv)) (hn : 0 < n) (hm : 1 ≤ m ∧ m ≤ 549755813888) :
    Calls Try.prog 13 #[.pointer (some ⟨t, 0, none⟩), .agg #[.int .i64 0, .int .i64 m], .int .i64 lead] w fun e w' => e = .returned (.tuple #[]) ∧ Blk w' t 98 (tel nodes to m 0 (.slice a n c) rv) ∧ Fr w w' (fun q => q = t) := by
  have B1 := Lib.hid (fun o => (Below.refl w.heap.size w).alloc (Nat.le_refl _) o)
  have LF := Lib.hid (fun o => left_any (T.below (B1.out o)))
  have CM := Lib.hid (fun o => came_opens (T.below (B1.out o)) hm)
  have FW := Lib.hid (fun o => Fr.of_below (B1.out o) (fun q => q = t))
  have hn1 : ((n : Int) == 0) = false := by rw [beq_eq_false_iff_ne]; omega
  clear T B1
  go_enter Try.func13, Try.ntmps13
  go_wp2_with fail
  refine (LF.out _).mono ?_
  rintro e w1 ⟨rfl, rfl⟩
  go_wp2_with fail
  refine (CM.out _).mono ?_
  rintro e w2 ⟨rfl, T2, f2⟩
  have T2 := Lib.hid T2
  have f2 := Lib.hid f2
  go_wp2_with fail
  go_end0
  exact ⟨rfl, T2.out, (FW.out _).on f2.out⟩
end Go.Proofs.Ytbghjcfepjbppaa
