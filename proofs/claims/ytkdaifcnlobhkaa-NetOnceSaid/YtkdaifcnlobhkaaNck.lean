/-
  raft: AN ASK, as a message: Check, spare, nothing, nums.
-/
import Derived.Test.YtkdaifcnlobhkaaRsm
namespace Go.Proofs.Ytkdaifcnlobhkaa
open Go.RowKit
theorem BN1 (w : World) (o : Obj) : Below w.heap.size w (w.alloc o) := (Below.refl _ w).alloc (Nat.le_refl _) o
/-- the cells of an ask -/
def askA (f t m : Int) : Array Value := #[.int .i64 1, .int .i64 f, .int .i64 t, .int .i64 m, .int .i64 0, .int .i64 0, .int .i64 0, .bool false, .slice none 0 0, .int .i64 0, .int .i64 0, .int .i64 0, .string ⟨#[]⟩]
theorem spare_ask (f t m : Int) (w : World) : Calls Try.prog 60 #[.agg (askA f t m)] w fun e w' => e = .returned (.agg (askA f t m)) ∧ Below w.heap.size w w' := by
  unfold askA
  go_enter Try.func60, Try.ntmps60
  go_wp2_with fail
  refine bodyPost_ret (by simp [results, Try.results60, go_sem]; try rfl) rfl ?_
  exact ⟨rfl, (BN1 w _).trans ((BN1 _ _).mono (by simp))⟩
theorem nothing_ask (f t m : Int) (w : World) : Calls Try.prog 59 #[.agg (askA f t m)] w fun e w' => e = .returned (.bool true) ∧ Below w.heap.size w w' := by
  unfold askA
  go_enter Try.func59, Try.ntmps59
  go_wp2_with fail
  go_ret
  exact ⟨rfl, BN1 _ _⟩
theorem entries_nil (w : World) : Calls Try.prog 57 #[.slice none 0 0] w fun e w' => e = .returned (.bool true) ∧ w = w' := by
  go_enter Try.func57, Try.ntmps57
  go_wp2_with fail
  go_rounds 1
  go_ret
  exact ⟨rfl, rfl⟩
theorem node_yes {n : Int} (h : 0 ≤ n ∧ n < 7) (w : World) : Calls Try.prog 55 #[.int .i64 n] w fun e w' => e = .returned (.bool true) ∧ w = w' :=
  (isNode_any n w).mono fun e w' ⟨he, hw⟩ => ⟨by rw [he, show nodeB n = true by unfold nodeB; simp [h.1, h.2]], hw⟩
theorem number_yes {n : Int} (h : 0 ≤ n ∧ n ≤ 549755813888) (w : World) : Calls Try.prog 56 #[.int .i64 n] w fun e w' => e = .returned (.bool true) ∧ w = w' :=
  (number_any n w).mono fun e w' ⟨he, hw⟩ => ⟨by rw [he, show idxB n = true by unfold idxB; simp [h.1, h.2]], hw⟩
theorem snap_zero (w : World) : Calls Try.prog 58 #[.agg #[.int .i64 0, .int .i64 0, .int .i64 0, .string ⟨#[]⟩]] w fun e w' => e = .returned (.bool true) ∧ Below w.heap.size w w' :=
  (snapMay_any 0 0 0 ⟨#[]⟩ w).mono fun e w' h => h
theorem check_same (f m : Int) (hf : 0 ≤ f ∧ f < 7) (w : World) : Calls Try.prog 40 #[.agg (askA f f m)] w fun e w' => e = .returned (.bool false) ∧ Below w.heap.size w w' := by
  have B0 := Lib.hid (BN1 w (.cells (askA f f m) 35))
  have NF := Lib.hid (node_yes hf)
  unfold askA at *
  go_enter Try.func40, Try.ntmps40
  go_wp2_with fail
  refine (NF.out _).mono ?_
  rintro e w1 ⟨rfl, rfl⟩
  go_wp2_with fail
  refine (NF.out _).mono ?_
  rintro e w1 ⟨rfl, rfl⟩
  go_wp2_with fail
  go_ret
  exact ⟨rfl, B0.out⟩
set_option maxHeartbeats 1000000 in
theorem check_ask (f t m : Int) (hf : 0 ≤ f ∧ f < 7) (ht : 0 ≤ t ∧ t < 7) (hm : 0 ≤ m ∧ m ≤ 549755813888) (hft : f ≠ t) (w : World) : Calls Try.prog 40 #[.agg (askA f t m)] w fun e w' => e = .returned (.bool true) ∧ Below w.heap.size w w' := by
  have NF := Lib.hid (node_yes hf)
  have NT := Lib.hid (node_yes ht)
  have NM := Lib.hid (number_yes hm)
  have SP := Lib.hid (spare_ask f t m)
  have NO := Lib.hid (nothing_ask f t m)
  have hb : (f == t) = false := by simp [hft]
  have K0 : Blk (w.alloc (.cells (askA f t m) 35)) w.heap.size 35 (askA f t m) := Blk.new _ _ _
  obtain ⟨W, hW⟩ : ∃ W, W = w.alloc (.cells (askA f t m) 35) := ⟨_, rfl⟩
  have B0 := Lib.hid (BN1 w (.cells (askA f t m) 35))
  rw [← hW] at B0 K0
  have K := Lib.hid K0
  have HW := Lib.hid hW
  clear K0 hW hf ht hm hft
  unfold askA at HW SP NO
  unfold askA
  go_enter Try.func40, Try.ntmps40
  have z0 : W.cell? ⟨w.heap.size, 0, none⟩ = some (.int .i64 1) := K.out.cell 0
  have z1 : W.cell? ⟨w.heap.size, 1, none⟩ = some (.int .i64 f) := K.out.cell 1
  have z2 : W.cell? ⟨w.heap.size, 2, none⟩ = some (.int .i64 t) := K.out.cell 2
  have z3 : W.cell? ⟨w.heap.size, 3, none⟩ = some (.int .i64 m) := K.out.cell 3
  have z4 : W.cell? ⟨w.heap.size, 4, none⟩ = some (.int .i64 0) := K.out.cell 4
  have z5 : W.cell? ⟨w.heap.size, 5, none⟩ = some (.int .i64 0) := K.out.cell 5
  have z6 : W.cell? ⟨w.heap.size, 6, none⟩ = some (.int .i64 0) := K.out.cell 6
  have z8 : W.cell? ⟨w.heap.size, 8, none⟩ = some (.slice none 0 0) := K.out.cell 8
  have z9 : W.cell? ⟨w.heap.size, 9, none⟩ = some (.int .i64 0) := K.out.cell 9
  have z10 : W.cell? ⟨w.heap.size, 10, none⟩ = some (.int .i64 0) := K.out.cell 10
  have z11 : W.cell? ⟨w.heap.size, 11, none⟩ = some (.int .i64 0) := K.out.cell 11
  have z12 : W.cell? ⟨w.heap.size, 12, none⟩ = some (.string ⟨#[]⟩) := K.out.cell 12
  go_wp2_with (rw [← HW.out])
  refine (NF.out _).mono ?_
  rintro e w1 ⟨rfl, rfl⟩
  go_wp2_with fail
  refine (NT.out _).mono ?_
  rintro e w1 ⟨rfl, rfl⟩
  go_wp2_with fail
  refine (NM.out _).mono ?_
  rintro e w1 ⟨rfl, rfl⟩
  go_wp2_with fail
  refine (number_yes (n := 0) (by decide) _).mono ?_
  rintro e w1 ⟨rfl, rfl⟩
  go_wp2_with fail
  refine (number_yes (n := 0) (by decide) _).mono ?_
  rintro e w1 ⟨rfl, rfl⟩
  go_wp2_with fail
  refine (number_yes (n := 0) (by decide) _).mono ?_
  rintro e w1 ⟨rfl, rfl⟩
  go_wp2_with fail
  refine (entries_nil _).mono ?_
  rintro e w1 ⟨rfl, rfl⟩
  go_wp2_with fail
  refine (snap_zero _).mono ?_
  rintro e w1 ⟨rfl, b1⟩
  have K1 := Lib.hid (K.out.next b1)
  have B1 := Lib.hid (B0.out.trans (b1.mono B0.out.size))
  clear b1 z0 z1 z2 z3 z4 z5 z6 z8 z9 z10 z11 z12 K B0
  have z0 : w1.cell? ⟨w.heap.size, 0, none⟩ = some (.int .i64 1) := K1.out.cell 0
  have z1 : w1.cell? ⟨w.heap.size, 1, none⟩ = some (.int .i64 f) := K1.out.cell 1
  have z2 : w1.cell? ⟨w.heap.size, 2, none⟩ = some (.int .i64 t) := K1.out.cell 2
  have z3 : w1.cell? ⟨w.heap.size, 3, none⟩ = some (.int .i64 m) := K1.out.cell 3
  have z4 : w1.cell? ⟨w.heap.size, 4, none⟩ = some (.int .i64 0) := K1.out.cell 4
  have z5 : w1.cell? ⟨w.heap.size, 5, none⟩ = some (.int .i64 0) := K1.out.cell 5
  have z6 : w1.cell? ⟨w.heap.size, 6, none⟩ = some (.int .i64 0) := K1.out.cell 6
  have z7 : w1.cell? ⟨w.heap.size, 7, none⟩ = some (.bool false) := K1.out.cell 7
  have z8 : w1.cell? ⟨w.heap.size, 8, none⟩ = some (.slice none 0 0) := K1.out.cell 8
  have z9 : w1.cell? ⟨w.heap.size, 9, none⟩ = some (.int .i64 0) := K1.out.cell 9
  have z10 : w1.cell? ⟨w.heap.size, 10, none⟩ = some (.int .i64 0) := K1.out.cell 10
  have z11 : w1.cell? ⟨w.heap.size, 11, none⟩ = some (.int .i64 0) := K1.out.cell 11
  have z12 : w1.cell? ⟨w.heap.size, 12, none⟩ = some (.string ⟨#[]⟩) := K1.out.cell 12
  go_wp2_with fail
  refine (SP.out _).mono ?_
  rintro e w2 ⟨rfl, b2⟩
  have B2 := Lib.hid (B1.out.trans (b2.mono B1.out.size))
  clear b2 B1 K1 z0 z1 z2 z3 z4 z5 z6 z7 z8 z9 z10 z11 z12
  go_wp2_with fail
  refine (NO.out _).mono ?_
  rintro e w3 ⟨rfl, b3⟩
  have B3 := Lib.hid (B2.out.trans (b3.mono B2.out.size))
  clear b3 B2
  go_wp2_with fail
  go_ret
  exact ⟨rfl, B3.out⟩
end Go.Proofs.Ytkdaifcnlobhkaa
