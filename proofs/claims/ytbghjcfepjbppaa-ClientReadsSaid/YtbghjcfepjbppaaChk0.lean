/-
  THE PAGE's EXAMPLE: an event without fields, checked and written; awake.
-/
import Derived.Test.YtbghjcfepjbppaaWord
import Derived.Test.YtbghjcfepjbppaaBNum
namespace Go.Proofs.Ytbghjcfepjbppaa
open Go.RowKit
@[go_sem] theorem run_store_float {P : Program} {w : World} {a : Addr} {m : Mode} (k : FloatKind) (b : Nat) : (store a (.float k b) m).run P w = stored P w a (.float k b) m := run_store P w a _ m rfl
theorem fields_nil (w : World) : Calls Try.prog 71 #[.slice none 0 0] w fun e w' => e = .returned (.bool true) ∧ w = w' := by
  go_enter Try.func71, Try.ntmps71
  go_wp2_with fail
  go_rounds 1
  go_ret
  exact ⟨rfl, rfl⟩
def evA : Value := .agg #[.int .i64 0, .int .i64 0, .int .i64 0, .string ⟨#[97]⟩, .slice none 0 0]
theorem check_a (w : World) : Calls Try.prog 41 #[evA] w fun e w' => e = .returned (.int .i64 0) ∧ Below w.heap.size w w' := by
  have N := number_any 0
  rw [show numB 0 = true by decide] at N
  have W := word_any ⟨#[97]⟩ (by decide)
  rw [show wordB ⟨#[97]⟩ = true by decide +kernel] at W
  have FIN := Lib.hid ((Below.refl _ w).alloc (Nat.le_refl _) (.cells #[.int .i64 0, .int .i64 0, .int .i64 0, .string ⟨#[97]⟩, .slice none 0 0] 31))
  unfold evA
  go_enter Try.func41, Try.ntmps41
  go_wp2_with fail
  refine (N _).mono ?_
  rintro e w1 ⟨rfl, rfl⟩
  go_wp2_with fail
  refine (N _).mono ?_
  rintro e w1 ⟨rfl, rfl⟩
  go_wp2_with fail
  refine (N _).mono ?_
  rintro e w1 ⟨rfl, rfl⟩
  go_wp2_with fail
  refine (W _).mono ?_
  rintro e w1 ⟨rfl, rfl⟩
  go_wp2_with fail
  refine (fields_nil _).mono ?_
  rintro e w1 ⟨rfl, rfl⟩
  go_wp2_with fail
  go_ret
  exact ⟨rfl, FIN.out⟩
theorem num_0 (w : World) : Calls Try.prog 57 #[.int .u64 0] w fun e w' => e = .returned (.string ⟨#[0]⟩) ∧ Below w.heap.size w w' := Bt.num_any 0 (by decide) (by decide) w
theorem text_a (w : World) : Calls Try.prog 87 #[.string ⟨#[97]⟩] w fun e w' => e = .returned (.string ⟨#[1, 97]⟩) ∧ Below w.heap.size w w' := by
  have N : Hid (∀ w, Calls Try.prog 57 #[.int .u64 1] w fun e w' => e = .returned (.string ⟨#[1]⟩) ∧ Below w.heap.size w w') := Lib.hid (fun w => Bt.num_any 1 (by decide) (by decide) w)
  go_enter Try.func87, Try.ntmps87
  go_wp2_with fail
  refine (N.out _).mono ?_
  rintro e w1 ⟨rfl, b1⟩
  have B1 := Lib.hid b1
  clear b1
  go_wp2_with fail
  go_ret
  exact ⟨rfl, B1.out⟩
set_option maxHeartbeats 1000000 in
theorem encode_a (w : World) : Calls Try.prog 86 #[evA] w fun e w' => e = .returned (.tuple #[.string ⟨#[0, 0, 0, 1, 97, 0]⟩, .int .i64 0]) ∧ Below w.heap.size w w' := by
  obtain ⟨w1, hw1, B1, K1⟩ : ∃ w1, w1 = w.alloc (.cells #[.int .i64 0, .int .i64 0, .int .i64 0, .string ⟨#[97]⟩, .slice none 0 0] 31) ∧ Below w.heap.size w w1 ∧ w1.heap[w.heap.size]? = some (.cells #[.int .i64 0, .int .i64 0, .int .i64 0, .string ⟨#[97]⟩, .slice none 0 0] 31 (0, 0)) :=
    ⟨_, rfl, (Below.refl _ w).alloc (Nat.le_refl _) _, heap_alloc_new w _⟩
  have CH := Lib.hid check_a
  unfold evA at CH ⊢
  have W1 := Lib.hid hw1
  have B1h := Lib.hid B1
  have K1h := Lib.hid K1
  have c0 : w1.cell? ⟨w.heap.size, 0, none⟩ = some (.int .i64 0) := cell_of_row _ _ 0 _ _ _ K1
  have c1 : w1.cell? ⟨w.heap.size, 1, none⟩ = some (.int .i64 0) := cell_of_row _ _ 1 _ _ _ K1
  have c2 : w1.cell? ⟨w.heap.size, 2, none⟩ = some (.int .i64 0) := cell_of_row _ _ 2 _ _ _ K1
  have c3 : w1.cell? ⟨w.heap.size, 3, none⟩ = some (.string ⟨#[97]⟩) := cell_of_row _ _ 3 _ _ _ K1
  have c4 : w1.cell? ⟨w.heap.size, 4, none⟩ = some (.slice none 0 0) := cell_of_row _ _ 4 _ _ _ K1
  clear hw1 B1 K1
  generalize hy : w.heap.size = Y at *
  go_enter Try.func86, Try.ntmps86
  go_wp2_with fail
  rw [← W1.out]
  go_wp2_with fail
  refine (CH.out _).mono ?_
  rintro e w2 ⟨rfl, b2⟩
  have hyl : Y < w1.heap.size := World.block_lt_of_cell? _ _ c0
  have e : ∀ {o : Nat} {v : Value}, w1.cell? ⟨Y, o, none⟩ = some v → w2.cell? ⟨Y, o, none⟩ = some v := fun hc => by rw [b2.cell (p := ⟨_, _, none⟩) hyl]; exact hc
  have d0 := e c0
  have d1 := e c1
  have d2 := e c2
  have d3 := e c3
  have d4 := e c4
  have B2h := Lib.hid (B1h.out.trans (b2.mono (by have := B1h.out.size; omega)))
  clear e b2 c0 c1 c2 c3 c4 K1h
  go_wp2_with fail
  have x0 := fun d os => cell_regrown d0 d os
  have x1 := fun d os => cell_regrown d1 d os
  have x2 := fun d os => cell_regrown d2 d os
  have x3 := fun d os => cell_regrown d3 d os
  have C1 := Lib.hid (fun d os => Calls.regrown_of (d := d) (os := os) (num_0 (Go.Sort.grow (redrawn w2 d) os)))
  have C2 := Lib.hid (fun d os => Calls.regrown_of (d := d) (os := os) (text_a (Go.Sort.grow (redrawn w2 d) os)))
  refine wp_region_quiet_below mixed (by kernel_rfl) ?_
  repeat (quiet_step (first | (exact C1.out _ _) | (exact C2.out _ _)))
  refine wpQuiet_nil ?_
  intro _ hw'
  obtain ⟨⟨dq, osq⟩, hw''⟩ := hw'
  subst hw''
  have y4 := cell_regrown d4 dq osq
  have B3h := Lib.hid (B2h.out.trans ((below_regrown w2 dq osq).mono (by have := B2h.out.size; omega)))
  generalize Go.Sort.grow (redrawn w2 dq) osq = w3 at *
  clear x0 x1 x2 x3 d0 d1 d2 d3 d4 C1 C2
  go_wp2_with fail
  refine (num_0 _).mono ?_
  rintro e w4 ⟨rfl, b4⟩
  have z4 : w4.cell? ⟨Y, 4, none⟩ = some (.slice none 0 0) := by rw [b4.cell (p := ⟨_, _, none⟩) (World.block_lt_of_cell? _ _ y4)]; exact y4
  have B4h := Lib.hid (B3h.out.trans (b4.mono (by have := B3h.out.size; omega)))
  clear b4 y4
  go_wp2_with fail
  go_rounds 1
  go_ret2
  exact ⟨rfl, B4h.out⟩
def vI (n : Int) : Val := ⟨1, n, 0, ⟨#[]⟩⟩
def vF (f : Nat) : Val := ⟨2, 0, f, ⟨#[]⟩⟩
theorem wfI (n : Int) (h0 : -9223372036854775808 ≤ n) (h1 : n ≤ 9223372036854775807) : (vI n).Wf := ⟨by simp [vI], h0, h1, by simp [vI]⟩
theorem wfF (f : Nat) (h : f < 18446744073709551616) : (vF f).Wf := ⟨by simp [vF], by simp [vF], by simp [vF], h⟩
theorem ex1 : opS 5 (stV (vI 9007199254740993) (vF 4845873199050653696)) = true := by decide +kernel
theorem ex2 : opS 1 (stV (vI 1) (vF 4607182418800017408)) = true := by decide +kernel
end Go.Proofs.Ytbghjcfepjbppaa
