/-
  AN EVENT WITH NUMBERS; a copy of one without fields; the first event of a teller.
-/
import Derived.Test.YtbghjcfepjbppaaTel
import Derived.Test.YtbghjcfepjbppaaChk3
import Derived.RegionTactic
import Derived.BigRegion
import Derived.Lib.SliceRun
namespace Go.Proofs.Ytbghjcfepjbppaa
open Go.RowKit
set_option maxHeartbeats 1000000 in
set_option maxRecDepth 100000 in
theorem numbered_any (a b c id sq : Int) (k : ByteArray) (p : Option Addr) (n cp : Nat) (w : World) (hi : -9223372036854775808 ≤ sq + 1 ∧ sq + 1 ≤ 9223372036854775807) : Calls Try.prog 42 #[evV a b c k (.slice p n cp), .agg #[.int .i64 id, .int .i64 sq]] w fun e w' => e = .returned (evV id (sq + 1) c k (.slice p n cp)) ∧ Below w.heap.size w w' := by
  have hw : wrap64 (sq + 1) = sq + 1 := by unfold wrap64; omega
  unfold evV
  go_enter Try.func42, Try.ntmps42
  go_wp2_with fail
  go_region
  go_wp2_with fail
  refine bodyPost_ret (by simp [results, Try.results42, go_sem]; try rfl) rfl ?_
  refine ⟨rfl, ?_⟩
  exact (((((Below.refl w.heap.size w).alloc (Nat.le_refl _) _).alloc (by simp) _).alloc (by simp; omega) _).drew)
set_option maxRecDepth 100000 in
theorem clone_nil (w : World) : Calls Try.prog 72 #[.slice none 0 0] w fun e w' => e = .returned (.slice none 0 0) ∧ w = w' := by
  have q29 : ∀ (w : World) (a : Option Addr) (n c n' c' : Nat), (binOp .eql 29 (.slice a n c) (.slice none n' c')).run Try.prog w = .ok (.bool a.isNone) w := fun w a n c n' c' => Lib.run_eql_slice_nil w _ _ a n c n' c' Try.underlying29
  go_enter Try.func72, Try.ntmps72
  go_wp2_with fail
  go_ret
  exact ⟨rfl, rfl⟩
set_option maxHeartbeats 1000000 in
set_option maxRecDepth 100000 in
theorem copied_nil (a b c : Int) (k : ByteArray) (hk : k.size ≤ 281474976710656) (w : World) : Calls Try.prog 43 #[evV a b c k (.slice none 0 0)] w fun e w' => e = .returned (evV a b c k (.slice none 0 0)) ∧ Below w.heap.size w w' := by
  obtain ⟨w1, hw1, K1, Z1, B1, hs1⟩ : ∃ w1, w1 = (w.alloc (.cells #[.int .i64 a, .int .i64 b, .int .i64 c, .string k, .slice none 0 0] 31)).alloc (.cells #[.int .i64 0, .int .i64 0, .int .i64 0, .string ⟨#[]⟩, .slice none 0 0] 31) ∧ Blk w1 w.heap.size 31 #[.int .i64 a, .int .i64 b, .int .i64 c, .string k, .slice none 0 0] ∧ Blk w1 (w.heap.size + 1) 31 #[.int .i64 0, .int .i64 0, .int .i64 0, .string ⟨#[]⟩, .slice none 0 0] ∧ Below w.heap.size w w1 ∧ w1.heap.size = w.heap.size + 1 + 1 :=
    ⟨_, rfl, (Blk.new w 31 _).below ((Below.refl _ _).alloc (Nat.le_refl _) _), by have := Blk.new (w.alloc (.cells #[.int .i64 a, .int .i64 b, .int .i64 c, .string k, .slice none 0 0] 31)) 31 #[.int .i64 0, .int .i64 0, .int .i64 0, .string ⟨#[]⟩, .slice none 0 0]; simpa using this, ((Below.refl w.heap.size w).alloc (Nat.le_refl _) _).alloc (by simp) _, by simp⟩
  have SC := Lib.hid (str_clone k w1 hk)
  have W1 := Lib.hid hw1
  unfold evV
  generalize hy : w.heap.size = Y at *
  have e3 : w1.cell? ⟨Y, 3, none⟩ = some (.string k) := K1.cell 3
  have K1h := Lib.hid K1
  have Z1h := Lib.hid Z1
  have B1h := Lib.hid B1
  clear K1 Z1 B1 hw1 hk
  go_enter Try.func43, Try.ntmps43
  go_wp2_with fail
  rw [← W1.out]
  go_wp2_with fail
  refine SC.out.mono ?_
  rintro e w2 ⟨rfl, b2⟩
  have K2 := (K1h.out.below b2).set 3 (.string k)
  have Z2 := (Z1h.out.below b2)
  have c3 : w2.cell? ⟨Y, 3, none⟩ = some (.string k) := (K1h.out.below b2).cell 3
  have c4 : w2.cell? ⟨Y, 4, none⟩ = some (.slice none 0 0) := (K1h.out.below b2).cell 4
  have c0 : w2.cell? ⟨Y, 0, none⟩ = some (.int .i64 a) := (K1h.out.below b2).cell 0
  have c1 : w2.cell? ⟨Y, 1, none⟩ = some (.int .i64 b) := (K1h.out.below b2).cell 1
  have c2 : w2.cell? ⟨Y, 2, none⟩ = some (.int .i64 c) := (K1h.out.below b2).cell 2
  have fz : ∀ i, w2.frozen? ⟨Y, i, none⟩ = false := (K1h.out.below b2).free
  have z0 : w2.cell? ⟨Y + 1, 0, none⟩ = some (.int .i64 0) := Z2.cell 0
  have z1 : w2.cell? ⟨Y + 1, 1, none⟩ = some (.int .i64 0) := Z2.cell 1
  have z2 : w2.cell? ⟨Y + 1, 2, none⟩ = some (.int .i64 0) := Z2.cell 2
  have z3 : w2.cell? ⟨Y + 1, 3, none⟩ = some (.string ⟨#[]⟩) := Z2.cell 3
  have z4 : w2.cell? ⟨Y + 1, 4, none⟩ = some (.slice none 0 0) := Z2.cell 4
  have gz : ∀ i, w2.frozen? ⟨Y + 1, i, none⟩ = false := Z2.free
  have B2 := Lib.hid (B1h.out.trans (b2.mono (by omega)))
  clear b2 K2 Z2 e3 K1h Z1h B1h W1
  go_wp2_with fail
  refine (clone_nil _).mono ?_
  rintro e w3 ⟨rfl, rfl⟩
  go_wp2_with fail
  go_rounds 1
  refine bodyPost_ret (by simp [results, Try.results43, go_sem, c1, c2, c3, c4, z0, z1, z2, z3, z4]; try rfl) rfl ?_
  refine ⟨rfl, ?_⟩
  have l0 : Y ≤ Y := Nat.le_refl _
  have l1 : Y ≤ Y + 1 := Nat.le_succ _
  exact (((((((B2.out.setCell (p := ⟨Y, 3, none⟩) l0 _).setCell (p := ⟨Y, 4, none⟩) l0 _).setCell (p := ⟨Y + 1, 0, none⟩) l1 _).setCell (p := ⟨Y + 1, 1, none⟩) l1 _).setCell (p := ⟨Y + 1, 2, none⟩) l1 _).setCell (p := ⟨Y + 1, 3, none⟩) l1 _).setCell (p := ⟨Y + 1, 4, none⟩) l1 _)
end Go.Proofs.Ytbghjcfepjbppaa
