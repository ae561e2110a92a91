/-
  THE WALKS OF bits.take at its five instances: a call that reads at the tape's place, goes behind it, or notes an error and stays.
-/
import Derived.Test.YtkdaifcnlobhkaaBTape
namespace Go.Proofs.Ytkdaifcnlobhkaa.Bt
open Go.RowKit


set_option maxHeartbeats 400000 in
theorem takeNum_ok {w : World} {b : Nat} {s : ByteArray} (n : Nat) (k : Nat) (h : TapeAt w b s 0) (hk : k ≤ s.size)
    (hhow : Hid (Calls Try.prog 79 #[.string s] w fun e w' => e = .returned (.tuple #[.int .u64 (n : Int), .int .i64 (k : Int), .int .i64 0]) ∧ Below w.heap.size w w')) :
    Calls Try.prog 78 #[.pointer (some ⟨b, 0, none⟩), .func (.func 79) #[] #[]] w fun r w' => r = .returned (.int .u64 (n : Int)) ∧ w.grownBy w' (some b) ∧ TapeAt w' b (s.extract k s.size) 0 := by
  have g0 := h.c0
  go_enter Try.func78, Try.ntmps78
  go_wp2_with fail
  refine (err_any h).mono ?_
  rintro r w1 ⟨rfl, rfl⟩
  go_wp2_with fail
  refine hhow.out.mono ?_
  rintro r w1 ⟨rfl, hb⟩
  have h' := h.next hb
  have g0' := h'.c0
  have gf := h'.f 0
  go_wp2_with fail
  go_ret
  exact ⟨rfl, grownBy_set hb _ _ _, h'.set0⟩
set_option maxHeartbeats 400000 in
theorem takeNum_bad {w : World} {b : Nat} {s : ByteArray} (n : Nat) (k e : Int) (h : TapeAt w b s 0) (he : e ≠ 0)
    (hhow : Hid (Calls Try.prog 79 #[.string s] w fun r w' => r = .returned (.tuple #[.int .u64 (n : Int), .int .i64 k, .int .i64 e]) ∧ Below w.heap.size w w')) :
    Calls Try.prog 78 #[.pointer (some ⟨b, 0, none⟩), .func (.func 79) #[] #[]] w fun r w' => r = .returned (.int .u64 0) ∧ w.grownBy w' (some b) ∧ TapeAt w' b s e := by
  have g0 := h.c0
  have hEb : (e != 0) = true := by simp [he]
  go_enter Try.func78, Try.ntmps78
  go_wp2_with fail
  refine (err_any h).mono ?_
  rintro r w1 ⟨rfl, rfl⟩
  go_wp2_with fail
  refine hhow.out.mono ?_
  rintro r w1 ⟨rfl, hb⟩
  have h' := h.next hb
  have g1' := h'.c1
  have gf := h'.f 1
  go_wp2_with fail
  go_ret
  exact ⟨rfl, grownBy_set hb _ _ _, h'.set1⟩
set_option maxHeartbeats 400000 in
theorem takeNum_stays {w : World} {b : Nat} {s : ByteArray} {e : Int} (fv : Value) (h : TapeAt w b s e) (he : e ≠ 0) :
    Calls Try.prog 78 #[.pointer (some ⟨b, 0, none⟩), fv] w fun r w' => r = .returned (.int .u64 0) ∧ w = w' := by
  have hEb : (e != 0) = true := by simp [he]
  go_enter Try.func78, Try.ntmps78
  go_wp2_with fail
  refine (err_any h).mono ?_
  rintro r w1 ⟨rfl, rfl⟩
  go_wp2_with fail
  go_ret
  exact ⟨rfl, rfl⟩
set_option maxHeartbeats 400000 in
theorem takeNum_nil (w : World) (fv : Value) :
    Calls Try.prog 78 #[.pointer none, fv] w fun r w' => r = .returned (.int .u64 0) ∧ w = w' := by
  go_enter Try.func78, Try.ntmps78
  go_wp2_with fail
  refine (err_nil _).mono ?_
  rintro r w1 ⟨rfl, rfl⟩
  go_wp2_with fail
  go_ret
  exact ⟨rfl, rfl⟩


set_option maxHeartbeats 400000 in
theorem takeText_ok {w : World} {b : Nat} {s : ByteArray} {m : Addr} (n : ByteArray) (k : Nat) (h : TapeAt w b s 0) (hk : k ≤ s.size)
    (hhow : Hid (Calls Try.prog 83 #[.string s, .pointer (some m)] w fun e w' => e = .returned (.tuple #[.string n, .int .i64 (k : Int), .int .i64 0]) ∧ Below w.heap.size w w')) :
    Calls Try.prog 82 #[.pointer (some ⟨b, 0, none⟩), .func (.func 83) #[] #[.pointer (some m)]] w fun r w' => r = .returned (.string n) ∧ w.grownBy w' (some b) ∧ TapeAt w' b (s.extract k s.size) 0 := by
  have g0 := h.c0
  go_enter Try.func82, Try.ntmps82
  go_wp2_with fail
  refine (err_any h).mono ?_
  rintro r w1 ⟨rfl, rfl⟩
  go_wp2_with fail
  refine hhow.out.mono ?_
  rintro r w1 ⟨rfl, hb⟩
  have h' := h.next hb
  have g0' := h'.c0
  have gf := h'.f 0
  go_wp2_with fail
  go_ret
  exact ⟨rfl, grownBy_set hb _ _ _, h'.set0⟩
set_option maxHeartbeats 400000 in
theorem takeText_bad {w : World} {b : Nat} {s : ByteArray} {m : Addr} (n : ByteArray) (k e : Int) (h : TapeAt w b s 0) (he : e ≠ 0)
    (hhow : Hid (Calls Try.prog 83 #[.string s, .pointer (some m)] w fun r w' => r = .returned (.tuple #[.string n, .int .i64 k, .int .i64 e]) ∧ Below w.heap.size w w')) :
    Calls Try.prog 82 #[.pointer (some ⟨b, 0, none⟩), .func (.func 83) #[] #[.pointer (some m)]] w fun r w' => r = .returned (.string ⟨#[]⟩) ∧ w.grownBy w' (some b) ∧ TapeAt w' b s e := by
  have g0 := h.c0
  have hEb : (e != 0) = true := by simp [he]
  go_enter Try.func82, Try.ntmps82
  go_wp2_with fail
  refine (err_any h).mono ?_
  rintro r w1 ⟨rfl, rfl⟩
  go_wp2_with fail
  refine hhow.out.mono ?_
  rintro r w1 ⟨rfl, hb⟩
  have h' := h.next hb
  have g1' := h'.c1
  have gf := h'.f 1
  go_wp2_with fail
  go_ret
  exact ⟨rfl, grownBy_set hb _ _ _, h'.set1⟩
set_option maxHeartbeats 400000 in
theorem takeText_stays {w : World} {b : Nat} {s : ByteArray} {e : Int} (fv : Value) (h : TapeAt w b s e) (he : e ≠ 0) :
    Calls Try.prog 82 #[.pointer (some ⟨b, 0, none⟩), fv] w fun r w' => r = .returned (.string ⟨#[]⟩) ∧ w = w' := by
  have hEb : (e != 0) = true := by simp [he]
  go_enter Try.func82, Try.ntmps82
  go_wp2_with fail
  refine (err_any h).mono ?_
  rintro r w1 ⟨rfl, rfl⟩
  go_wp2_with fail
  go_ret
  exact ⟨rfl, rfl⟩
set_option maxHeartbeats 400000 in
theorem takeText_nil (w : World) (fv : Value) :
    Calls Try.prog 82 #[.pointer none, fv] w fun r w' => r = .returned (.string ⟨#[]⟩) ∧ w = w' := by
  go_enter Try.func82, Try.ntmps82
  go_wp2_with fail
  refine (err_nil _).mono ?_
  rintro r w1 ⟨rfl, rfl⟩
  go_wp2_with fail
  go_ret
  exact ⟨rfl, rfl⟩


end Go.Proofs.Ytkdaifcnlobhkaa.Bt
