/-
  A NIL TELLER, A NIL READER; the law of ClientNil as a walk.
-/
import Derived.Test.YtbghjcfepjbppaaAwk
namespace Go.Proofs.Ytbghjcfepjbppaa
open Go.RowKit
theorem refused_nil (w : World) : Calls Try.prog 37 #[.pointer none] w fun e w' => e = .returned (.slice none 0 0) ∧ w = w' := by
  go_enter Try.func37, Try.ntmps37
  go_wp2_with fail
  go_ret
  exact ⟨rfl, rfl⟩
theorem rtold_nil (l : Value) (m e : Int) (w : World) : Calls Try.prog 21 #[.pointer none, l, .int .i64 m, .int .i64 e] w fun r w' => r = .returned (.tuple #[]) ∧ w = w' := by
  go_enter Try.func21, Try.ntmps21
  go_wp2_with fail
  go_end0
  exact ⟨rfl, rfl⟩
theorem rlate_nil (w : World) : Calls Try.prog 22 #[.pointer none] w fun r w' => r = .returned (.tuple #[]) ∧ w = w' := by
  go_enter Try.func22, Try.ntmps22
  go_wp2_with fail
  go_end0
  exact ⟨rfl, rfl⟩
theorem rask_nil (w : World) : Calls Try.prog 23 #[.pointer none] w fun e w' => e = .returned (.tuple #[askV 0 ⟨#[]⟩ ⟨#[]⟩ 0 0, .bool false]) ∧ Below w.heap.size w w' := by
  have FIN := Lib.hid (fun o => (Below.refl w.heap.size w).alloc (Nat.le_refl _) o)
  unfold askV
  go_enter Try.func23, Try.ntmps23
  go_wp2_with fail
  refine bodyPost_ret (by simp [results, Try.results23, go_sem]; try rfl) rfl ?_
  exact ⟨rfl, FIN.out _⟩
theorem rat_nil (w : World) : Calls Try.prog 24 #[.pointer none] w fun e w' => e = .returned (.int .i64 0) ∧ w = w' := by
  go_enter Try.func24, Try.ntmps24
  go_wp2_with fail
  go_ret
  exact ⟨rfl, rfl⟩
theorem rgone_nil (w : World) : Calls Try.prog 25 #[.pointer none] w fun e w' => e = .returned (.int .i64 0) ∧ w = w' := by
  go_enter Try.func25, Try.ntmps25
  go_wp2_with fail
  go_ret
  exact ⟨rfl, rfl⟩
theorem rgot_nil (w : World) : Calls Try.prog 26 #[.pointer none] w fun e w' => e = .returned (.slice none 0 0) ∧ w = w' := by
  go_enter Try.func26, Try.ntmps26
  go_wp2_with fail
  go_ret
  exact ⟨rfl, rfl⟩
set_option maxHeartbeats 4000000 in
set_option maxRecDepth 100000 in
theorem nil_law (a b c er m n : Int) (k : ByteArray) (p : Option Addr) (fl cp : Nat) (w : World) :
    Calls Try.prog 6 #[evV a b c k (.slice p fl cp), .agg #[.int .i64 er, .int .i64 m], .int .i64 n] w fun e w' => e = .returned (.bool true) ∧ Below w.heap.size w w' := by
  have AN := Lib.hid (fun W => add_nil _ a b c k (.slice p fl cp) rfl W)
  have TA := Lib.hid ask_nil
  have RA := Lib.hid rask_nil
  unfold evV at AN ⊢
  unfold askV at TA RA
  obtain ⟨w1, hw1, E1, R1, B1⟩ : ∃ w1, w1 = (w.alloc (.cells #[.int .i64 a, .int .i64 b, .int .i64 c, .string k, .slice p fl cp] 31)).alloc (.cells #[.int .i64 er, .int .i64 m] 34) ∧ Blk w1 w.heap.size 31 #[.int .i64 a, .int .i64 b, .int .i64 c, .string k, .slice p fl cp] ∧ Blk w1 (w.heap.size + 1) 34 #[.int .i64 er, .int .i64 m] ∧ Below w.heap.size w w1 :=
    ⟨_, rfl, (Blk.new w 31 _).below ((Below.refl _ _).alloc (Nat.le_refl _) _), by have := Blk.new (w.alloc (.cells #[.int .i64 a, .int .i64 b, .int .i64 c, .string k, .slice p fl cp] 31)) 34 #[.int .i64 er, .int .i64 m]; simpa using this, ((Below.refl w.heap.size w).alloc (Nat.le_refl _) _).alloc (by simp) _⟩
  have W1 := Lib.hid hw1
  have E1h := Lib.hid E1
  have R1h := Lib.hid R1
  have B1h := Lib.hid B1
  have hR := R1.lt
  clear E1 R1 B1 hw1
  generalize hy : w.heap.size = Y at *
  go_enter Try.func6, Try.ntmps6
  go_wp2_with fail
  rw [← W1.out]
  have r0 : w1.cell? ⟨Y + 1, 0, none⟩ = some (.int .i64 er) := R1h.out.cell 0
  have r1 : w1.cell? ⟨Y + 1, 1, none⟩ = some (.int .i64 m) := R1h.out.cell 1
  go_wp2_with fail
  refine (told_nil _ _ _ _).mono ?_
  rintro e w2 ⟨rfl, b2⟩
  have R2h := Lib.hid (R1h.out.below b2)
  have E2h := Lib.hid (E1h.out.below b2)
  have B2 := Lib.hid (B1h.out.trans (b2.mono (by omega)))
  have hR2 := R2h.out.lt
  clear r0 r1 b2 R1h E1h B1h W1 hR
  have r0 : w2.cell? ⟨Y + 1, 0, none⟩ = some (.int .i64 er) := R2h.out.cell 0
  go_wp2_with fail
  refine (late_nil _).mono ?_
  rintro e w3 ⟨rfl, rfl⟩
  go_wp2_with fail
  refine (rtold_nil _ _ _ _).mono ?_
  rintro e w3 ⟨rfl, rfl⟩
  go_wp2_with fail
  refine (rlate_nil _).mono ?_
  rintro e w3 ⟨rfl, rfl⟩
  go_wp2_with fail
  refine (TA.out _).mono ?_
  rintro e w3 ⟨rfl, b3⟩
  have E3h := Lib.hid (E2h.out.below b3)
  have B3 := Lib.hid (B2.out.trans (b3.mono (by omega)))
  have hR3 := Nat.lt_of_lt_of_le hR2 b3.size
  clear r0 b3 E2h R2h B2 hR2
  go_wp2_with fail
  obtain ⟨W3, hW3, E4, B4, hz4⟩ : ∃ W3, W3 = w3.alloc (.cells #[.int .i64 0, .string ⟨#[]⟩, .string ⟨#[]⟩, .int .i64 0, .int .i64 0] 63) ∧ Blk W3 Y 31 #[.int .i64 a, .int .i64 b, .int .i64 c, .string k, .slice p fl cp] ∧ Below Y w W3 ∧ Y + 1 < W3.heap.size := ⟨_, rfl, E3h.out.below ((Below.refl _ _).alloc (Nat.le_refl _) _), B3.out.trans ((Below.refl _ _).alloc (by omega) _), by simp; omega⟩
  rw [← hW3]
  have E4 := Lib.hid E4
  have B4 := Lib.hid B4
  generalize w3.heap.size = y3 at *
  clear hW3 E3h B3 hR3
  refine (RA.out _).mono ?_
  rintro e w4 ⟨rfl, b4⟩
  have E5 := Lib.hid (E4.out.below b4)
  have B5 := Lib.hid (B4.out.trans (b4.mono (by omega)))
  have hz5 := Nat.lt_of_lt_of_le hz4 b4.size
  clear b4 E4 B4 hz4
  go_wp2_with fail
  obtain ⟨W4, hW4, E6, B6, hz6⟩ : ∃ W4, W4 = w4.alloc (.cells #[.int .i64 0, .string ⟨#[]⟩, .string ⟨#[]⟩, .int .i64 0, .int .i64 0] 63) ∧ Blk W4 Y 31 #[.int .i64 a, .int .i64 b, .int .i64 c, .string k, .slice p fl cp] ∧ Below Y w W4 ∧ Y + 1 < W4.heap.size := ⟨_, rfl, E5.out.below ((Below.refl _ _).alloc (Nat.le_refl _) _), B5.out.trans ((Below.refl _ _).alloc (by omega) _), by simp; omega⟩
  rw [← hW4]
  have E6 := Lib.hid E6
  have B6 := Lib.hid B6
  generalize w4.heap.size = y4 at *
  clear hW4 E5 B5 hz5
  refine (sess_nil _).mono ?_
  rintro e w5 ⟨rfl, rfl⟩
  go_wp2_with fail
  refine (awake_any _).mono ?_
  rintro e w6 ⟨rfl, b6⟩
  have E7 := E6.out.below b6
  have B7 := Lib.hid (B6.out.trans (b6.mono (by omega)))
  have hz7 := Nat.lt_of_lt_of_le hz6 b6.size
  have e0 : w6.cell? ⟨Y, 0, none⟩ = some (.int .i64 a) := E7.cell 0
  have e1 : w6.cell? ⟨Y, 1, none⟩ = some (.int .i64 b) := E7.cell 1
  have e2 : w6.cell? ⟨Y, 2, none⟩ = some (.int .i64 c) := E7.cell 2
  have e3 : w6.cell? ⟨Y, 3, none⟩ = some (.string k) := E7.cell 3
  have e4 : w6.cell? ⟨Y, 4, none⟩ = some (.slice p fl cp) := E7.cell 4
  clear b6 E6 B6 hz6 E7
  go_wp2_with fail
  refine (AN.out _).mono ?_
  rintro e w7 ⟨rfl, b7⟩
  have B8 := Lib.hid (B7.out.trans (b7.mono (by omega)))
  clear b7 B7 hz7 e0 e1 e2 e3 e4
  go_wp2_with fail
  refine (left_nil _).mono ?_
  rintro e w8 ⟨rfl, rfl⟩
  go_wp2_with fail
  refine (rat_nil _).mono ?_
  rintro e w8 ⟨rfl, rfl⟩
  go_wp2_with fail
  refine (rgone_nil _).mono ?_
  rintro e w8 ⟨rfl, rfl⟩
  go_wp2_with fail
  refine (refused_nil _).mono ?_
  rintro e w8 ⟨rfl, rfl⟩
  go_wp2_with fail
  refine (rgot_nil _).mono ?_
  rintro e w8 ⟨rfl, rfl⟩
  go_wp2_with fail
  go_ret
  exact ⟨rfl, B8.out⟩
end Go.Proofs.Ytbghjcfepjbppaa
