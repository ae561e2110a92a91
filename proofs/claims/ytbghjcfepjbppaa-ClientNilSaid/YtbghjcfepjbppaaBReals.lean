/-
  THE WALKS OF REAL NUMBERS: bits.code, bits.Real and the document own; a float is its 64 bits.
-/
import Derived.Test.YtbghjcfepjbppaaBTape
import Derived.Laws.Externs
namespace Go.Proofs.Ytbghjcfepjbppaa.Bt
open Go.RowKit
theorem run_bits (b : Nat) (w : World) : (callFunc 88 #[.float .f64 b]).run Try.prog w = .ok (.value (.int .u64 (b : Int))) w := by
  rw [run_callFunc_extern (P := Try.prog) (e := Extern.MathFloatBits.float64bits) Try.func88 (by kernel_rfl) (by kernel_rfl) (by kernel_rfl) (by kernel_rfl)]
  rfl
/-- is it none? -/
def isNo (f : Nat) : Bool := FloatKind.f64.format.order f f != some Ordering.eq
/-- a real number's bits, one for all that are none -/
def codeN (f : Nat) : Nat := if isNo f then 9221120237041090561 else f
theorem isnan_any (f : Nat) (w : World) :
    Calls Try.prog 108 #[.float .f64 f] w fun r w' => r = .returned (.bool (isNo f)) ∧ w = w' := by
  go_enter Try.func108, Try.ntmps108
  go_wp2
  go_ret
  exact ⟨rfl, rfl⟩
theorem code_any (f : Nat) (w : World) :
    Calls Try.prog 107 #[.float .f64 f] w fun r w' => r = .returned (.int .u64 (codeN f)) ∧ w = w' := by
  have hb := run_bits f
  by_cases h : isNo f
  · go_enter Try.func107, Try.ntmps107
    go_wp2_with fail
    refine (isnan_any f _).mono ?_
    rintro e w1 ⟨rfl, rfl⟩
    go_wp2_with fail
    go_ret
    exact ⟨ret_u64 (by unfold codeN; rw [if_pos h]; rfl), rfl⟩
  · have h' : isNo f = false := by simpa using h
    go_enter Try.func107, Try.ntmps107
    go_wp2_with fail
    refine (isnan_any f _).mono ?_
    rintro e w1 ⟨rfl, rfl⟩
    go_wp2_with fail
    go_ret
    exact ⟨ret_u64 (by unfold codeN; rw [if_neg h]), rfl⟩
theorem rbits_any (f : Nat) (w : World) :
    Calls Try.prog 94 #[.float .f64 f] w fun r w' => r = .returned (.int .u64 (codeN f)) ∧ w = w' := by
  have hb := run_bits f
  by_cases h : isNo f
  · have h' : (FloatKind.f64.format.order f f != some Ordering.eq) = true := h
    go_enter Try.func94, Try.ntmps94
    go_wp2_with fail
    go_ret
    exact ⟨ret_u64 (by unfold codeN; rw [if_pos h]; rfl), rfl⟩
  · have h' : (FloatKind.f64.format.order f f != some Ordering.eq) = false := by simpa [isNo] using h
    go_enter Try.func94, Try.ntmps94
    go_wp2_with fail
    go_ret
    exact ⟨ret_u64 (by unfold codeN; rw [if_neg h]), rfl⟩

theorem codeN_lt {f : Nat} (h : f < 18446744073709551616) : codeN f < 18446744073709551616 := by
  unfold codeN; split
  · decide
  · exact h
/-- a real number's bytes -/
def realS (f : Nat) : ByteArray := strOfNums (be 8 (codeN f))
theorem ret_strs {a b : List Int} {e : Ending} (h : a = b) (he : e = .returned (.string (strOfNums a))) : e = .returned (.string (strOfNums b)) := by rw [he, h]
set_option maxRecDepth 100000 in
set_option maxHeartbeats 1000000 in
theorem real_core (f : Nat) (c c1 c2 c3 c4 c5 c6 c7 c8 : Int) (h0 : 0 ≤ c) (h1 : c < 18446744073709551616) (hcode : Hid (∀ w, Calls Try.prog 107 #[.float .f64 f] w fun r w' => r = .returned (.int .u64 c) ∧ w = w'))
    (hc : laid c = #[.int .u8 0, .int .u8 c1, .int .u8 c2, .int .u8 c3, .int .u8 c4, .int .u8 c5, .int .u8 c6, .int .u8 c7, .int .u8 c8]) (w : World) :
    Calls Try.prog 105 #[.float .f64 f] w fun r w' => r = .returned (.string (strOfNums [c1, c2, c3, c4, c5, c6, c7, c8])) ∧ Below w.heap.size w w' := by
  have Hc := Lib.hid hc
  clear hc
  have hconv := fun W : World => conv_new W [.int .u8 0, .int .u8 c1, .int .u8 c2, .int .u8 c3, .int .u8 c4, .int .u8 c5, .int .u8 c6, .int .u8 c7, .int .u8 c8] [c1, c2, c3, c4, c5, c6, c7, c8] 1 rfl 8 rfl 154 8
  go_enter Try.func105, Try.ntmps105
  go_wp2_with fail
  refine (hcode.out _).mono ?_
  rintro e w1 ⟨rfl, rfl⟩
  go_wp2_with fail
  refine (lay_cells _ _ (by omega) (by omega) Hc.out _).mono ?_
  rintro e w1 ⟨rfl, hb⟩
  go_wp2_with fail
  go_ret
  exact ⟨rfl, hb.alloc hb.size _⟩
theorem real_any (f : Nat) (hf : f < 18446744073709551616) (w : World) :
    Calls Try.prog 105 #[.float .f64 f] w fun r w' => r = .returned (.string (realS f)) ∧ Below w.heap.size w w' := by
  have hlt := codeN_lt hf
  refine (real_core f (codeN f) _ _ _ _ _ _ _ _ (by omega) (by omega) (fun w => code_any f w) rfl w).mono fun r w' ⟨hr, hb⟩ => ⟨ret_strs ?_ hr, hb⟩
  simp only [be, List.nil_append, List.cons_append, List.cons.injEq, and_true]; omega
set_option maxRecDepth 100000 in
set_option maxHeartbeats 1000000 in
theorem rreal_core (f : Nat) (c : Int) (h0 : 0 ≤ c) (h1 : c < 18446744073709551616) (hcode : Hid (∀ w, Calls Try.prog 94 #[.float .f64 f] w fun r w' => r = .returned (.int .u64 c) ∧ w = w')) (w : World) :
    Calls Try.prog 103 #[.float .f64 f] w fun r w' => r = .returned (.string (strOfNums [c / 72057594037927936, c / 281474976710656 % 256, c / 1099511627776 % 256, c / 4294967296 % 256, c / 16777216 % 256, c / 65536 % 256, c / 256 % 256, c % 256])) ∧ Below w.heap.size w w' := by
  have o0 : Bytes w w.heap.size (.slice none 0 0) [] := World.ownsRow_nil _ _ _ _
  go_enter Try.func103, Try.ntmps103
  go_wp2_with fail
  refine wp_loop_rounds 10 ?_
  rw [rounds_succ]
  go_wp2_with fail
  refine (hcode.out _).mono ?_
  rintro e u1 ⟨rfl, rfl⟩
  go_wp2_with (at_builtin; refine append_byte _ rfl _ _ rfl w.heap.size _ _ rfl o0 _ rfl (by simp) (by omega) ?_; intro v1 w1 o1 b1)
  have z1 := b1.size
  rw [rounds_succ]
  go_wp2_with fail
  refine (hcode.out _).mono ?_
  rintro e u2 ⟨rfl, rfl⟩
  go_wp2_with (at_builtin; refine append_byte _ rfl _ _ rfl w.heap.size _ _ rfl o1 _ rfl (by simp) (by omega) ?_; intro v2 w2 o2 b2)
  have z2 := b2.size
  rw [rounds_succ]
  go_wp2_with fail
  refine (hcode.out _).mono ?_
  rintro e u3 ⟨rfl, rfl⟩
  go_wp2_with (at_builtin; refine append_byte _ rfl _ _ rfl w.heap.size _ _ rfl o2 _ rfl (by simp) (by omega) ?_; intro v3 w3 o3 b3)
  have z3 := b3.size
  rw [rounds_succ]
  go_wp2_with fail
  refine (hcode.out _).mono ?_
  rintro e u4 ⟨rfl, rfl⟩
  go_wp2_with (at_builtin; refine append_byte _ rfl _ _ rfl w.heap.size _ _ rfl o3 _ rfl (by simp) (by omega) ?_; intro v4 w4 o4 b4)
  have z4 := b4.size
  rw [rounds_succ]
  go_wp2_with fail
  refine (hcode.out _).mono ?_
  rintro e u5 ⟨rfl, rfl⟩
  go_wp2_with (at_builtin; refine append_byte _ rfl _ _ rfl w.heap.size _ _ rfl o4 _ rfl (by simp) (by omega) ?_; intro v5 w5 o5 b5)
  have z5 := b5.size
  rw [rounds_succ]
  go_wp2_with fail
  refine (hcode.out _).mono ?_
  rintro e u6 ⟨rfl, rfl⟩
  go_wp2_with (at_builtin; refine append_byte _ rfl _ _ rfl w.heap.size _ _ rfl o5 _ rfl (by simp) (by omega) ?_; intro v6 w6 o6 b6)
  have z6 := b6.size
  rw [rounds_succ]
  go_wp2_with fail
  refine (hcode.out _).mono ?_
  rintro e u7 ⟨rfl, rfl⟩
  go_wp2_with (at_builtin; refine append_byte _ rfl _ _ rfl w.heap.size _ _ rfl o6 _ rfl (by simp) (by omega) ?_; intro v7 w7 o7 b7)
  have z7 := b7.size
  rw [rounds_succ]
  go_wp2_with fail
  refine (hcode.out _).mono ?_
  rintro e u8 ⟨rfl, rfl⟩
  go_wp2_with (at_builtin; refine append_byte _ rfl _ _ rfl w.heap.size _ _ rfl o7 _ rfl (by simp) (by omega) ?_; intro v8 w8 o8 b8)
  have z8 := b8.size
  have hcv := conv_own o8
  rw [rounds_succ]
  go_wp2_with fail
  go_ret
  exact ⟨rfl, (((((((b1.trans b2).trans b3).trans b4).trans b5).trans b6).trans b7).trans b8)⟩
theorem rreal_any (f : Nat) (hf : f < 18446744073709551616) (w : World) :
    Calls Try.prog 103 #[.float .f64 f] w fun r w' => r = .returned (.string (realS f)) ∧ Below w.heap.size w w' := by
  have hlt := codeN_lt hf
  refine (rreal_core f (codeN f) (by omega) (by omega) (fun w => rbits_any f w) w).mono fun r w' ⟨hr, hb⟩ => ⟨ret_strs ?_ hr, hb⟩
  simp only [be, List.nil_append, List.cons_append, List.cons.injEq, and_true]; omega
end Go.Proofs.Ytbghjcfepjbppaa.Bt
