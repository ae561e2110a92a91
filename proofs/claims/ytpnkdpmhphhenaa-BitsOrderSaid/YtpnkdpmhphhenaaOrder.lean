/-
  THE LAW BitsOrder AS A WALK.
-/
import Derived.Test.YtpnkdpmhphhenaaLex
namespace Go.Proofs.Ytpnkdpmhphhenaa
open Go.RowKit
theorem order_lt (a b : ByteArray) (h : Lex a.data.toList b.data.toList) (w : World) :
    Calls Try.prog 35 #[.string a, .string b] w fun e w' => e = .returned (.int .i64 (-1)) ∧ w = w' := by
  have h1 := h.less
  rw [← Lib.toList_data, ← Lib.toList_data] at h1
  go_enter Try.func35, Try.ntmps35
  go_wp2_with fail
  go_ret
  exact ⟨rfl, rfl⟩
theorem order_gt (a b : ByteArray) (h : Lex b.data.toList a.data.toList) (w : World) :
    Calls Try.prog 35 #[.string a, .string b] w fun e w' => e = .returned (.int .i64 1) ∧ w = w' := by
  have h1 := h.not
  have h2 : (a.data.toList == b.data.toList) = false := beq_eq_false_iff_ne.2 h.ne
  rw [← Lib.toList_data, ← Lib.toList_data] at h1 h2
  have h3 : (!(a.toList == b.toList)) = true := by rw [h2]; rfl
  clear h2
  go_enter Try.func35, Try.ntmps35
  go_wp2_with fail
  go_ret
  exact ⟨rfl, rfl⟩
theorem order_eq (a : ByteArray) (w : World) :
    Calls Try.prog 35 #[.string a, .string a] w fun e w' => e = .returned (.int .i64 0) ∧ w = w' := by
  have h1 := less_self a.toList
  go_enter Try.func35, Try.ntmps35
  go_wp2_with fail
  go_ret
  exact ⟨rfl, rfl⟩
theorem Lex.str {a b : ByteArray} (h : Lex a.data.toList b.data.toList) (x y : ByteArray) : Lex (a ++ x).data.toList (b ++ y).data.toList := by
  have e : ∀ p q : ByteArray, (p ++ q).data.toList = p.data.toList ++ q.data.toList := fun p q => by simp
  rw [e, e]; exact h.app _ _
theorem b_le {a b c : World} (h : Below a.heap.size a b) (k : Below b.heap.size b c) : Below a.heap.size a c := h.trans (k.mono h.size)
set_option maxHeartbeats 1000000 in
theorem order_below (a b : Int) (x y s t : ByteArray) (hlt : a < b) (sa : s.size ≤ 9) (sb : t.size ≤ 9) (hlex : Lex s.data.toList t.data.toList) (hx : x.size ≤ 140737488355328) (hy : y.size ≤ 140737488355328)
    (hn : Hid (∀ W, Calls Try.prog 12 #[.int .u64 a] W fun e w' => e = .returned (.string s) ∧ Below W.heap.size W w'))
    (hm : Hid (∀ W, Calls Try.prog 12 #[.int .u64 b] W fun e w' => e = .returned (.string t) ∧ Below W.heap.size W w')) (w : World) :
    Calls Try.prog 9 #[.int .u64 a, .int .u64 b, .agg #[.string x, .string y]] w fun r w' => r = .returned (.bool true) ∧ Below w.heap.size w w' := by
  have b0 : Below w.heap.size w (w.alloc (.cells #[.string x, .string y] 54)) := (Below.refl _ _).alloc (Nat.le_refl _) _
  have c0 : (w.alloc (.cells #[.string x, .string y] 54)).cell? ⟨w.heap.size, 0, none⟩ = some (.string x) := by rw [World.cell?_alloc_new]; rfl
  have c1 : (w.alloc (.cells #[.string x, .string y] 54)).cell? ⟨w.heap.size, 1, none⟩ = some (.string y) := by rw [World.cell?_alloc_new]; rfl
  have hz0 : w.heap.size < (w.alloc (.cells #[.string x, .string y] 54)).heap.size := by simp
  have n1 : s.size + x.size ≤ 9223372036854775807 := by omega
  have n2 : t.size + y.size ≤ 9223372036854775807 := by omega
  go_enter Try.func9, Try.ntmps9
  go_wp2_with fail
  generalize w.alloc (.cells #[.string x, .string y] 54) = w0 at *
  refine (hn.out _).mono ?_
  rintro r w1 ⟨rfl, b1⟩
  go_wp2_with fail
  refine (hm.out _).mono ?_
  rintro r w2 ⟨rfl, b2⟩
  go_wp2_with fail
  refine (awake_any _).mono ?_
  rintro r w3 ⟨rfl, b3⟩
  go_wp2_with fail
  refine (order_lt _ _ hlex _).mono ?_
  rintro r w4 ⟨rfl, rfl⟩
  have b4 := b_le (b_le b1 b2) b3
  have d0 : w3.cell? ⟨w.heap.size, 0, none⟩ = some (.string x) := by rw [b4.cell (p := ⟨w.heap.size, 0, none⟩) hz0]; exact c0
  have d1 : w3.cell? ⟨w.heap.size, 1, none⟩ = some (.string y) := by rw [b4.cell (p := ⟨w.heap.size, 1, none⟩) hz0]; exact c1
  go_wp2_with fail
  refine (order_lt _ _ (hlex.str x y) _).mono ?_
  rintro r w5 ⟨rfl, rfl⟩
  go_wp2_with fail
  go_ret
  exact ⟨rfl, b0.trans (b4.mono b0.size)⟩
set_option maxHeartbeats 1000000 in
theorem order_above (a b : Int) (x y s t : ByteArray) (hlt : b < a) (sa : s.size ≤ 9) (sb : t.size ≤ 9) (hlex : Lex t.data.toList s.data.toList) (hx : x.size ≤ 140737488355328) (hy : y.size ≤ 140737488355328)
    (hn : Hid (∀ W, Calls Try.prog 12 #[.int .u64 a] W fun e w' => e = .returned (.string s) ∧ Below W.heap.size W w'))
    (hm : Hid (∀ W, Calls Try.prog 12 #[.int .u64 b] W fun e w' => e = .returned (.string t) ∧ Below W.heap.size W w')) (w : World) :
    Calls Try.prog 9 #[.int .u64 a, .int .u64 b, .agg #[.string x, .string y]] w fun r w' => r = .returned (.bool true) ∧ Below w.heap.size w w' := by
  have b0 : Below w.heap.size w (w.alloc (.cells #[.string x, .string y] 54)) := (Below.refl _ _).alloc (Nat.le_refl _) _
  have c0 : (w.alloc (.cells #[.string x, .string y] 54)).cell? ⟨w.heap.size, 0, none⟩ = some (.string x) := by rw [World.cell?_alloc_new]; rfl
  have c1 : (w.alloc (.cells #[.string x, .string y] 54)).cell? ⟨w.heap.size, 1, none⟩ = some (.string y) := by rw [World.cell?_alloc_new]; rfl
  have hz0 : w.heap.size < (w.alloc (.cells #[.string x, .string y] 54)).heap.size := by simp
  have n1 : s.size + x.size ≤ 9223372036854775807 := by omega
  have n2 : t.size + y.size ≤ 9223372036854775807 := by omega
  go_enter Try.func9, Try.ntmps9
  go_wp2_with fail
  generalize w.alloc (.cells #[.string x, .string y] 54) = w0 at *
  refine (hn.out _).mono ?_
  rintro r w1 ⟨rfl, b1⟩
  go_wp2_with fail
  refine (hm.out _).mono ?_
  rintro r w2 ⟨rfl, b2⟩
  go_wp2_with fail
  refine (awake_any _).mono ?_
  rintro r w3 ⟨rfl, b3⟩
  go_wp2_with fail
  refine (order_gt _ _ hlex _).mono ?_
  rintro r w4 ⟨rfl, rfl⟩
  have b4 := b_le (b_le b1 b2) b3
  have d0 : w3.cell? ⟨w.heap.size, 0, none⟩ = some (.string x) := by rw [b4.cell (p := ⟨w.heap.size, 0, none⟩) hz0]; exact c0
  have d1 : w3.cell? ⟨w.heap.size, 1, none⟩ = some (.string y) := by rw [b4.cell (p := ⟨w.heap.size, 1, none⟩) hz0]; exact c1
  go_wp2_with fail
  refine (order_gt _ _ (hlex.str y x) _).mono ?_
  rintro r w5 ⟨rfl, rfl⟩
  go_wp2_with fail
  go_ret
  exact ⟨rfl, b0.trans (b4.mono b0.size)⟩
set_option maxHeartbeats 1000000 in
theorem order_like (a : Int) (x y : ByteArray) (h0 : 0 ≤ a) (h1 : a < 18446744073709551616) (w : World) :
    Calls Try.prog 9 #[.int .u64 a, .int .u64 a, .agg #[.string x, .string y]] w fun r w' => r = .returned (.bool true) ∧ Below w.heap.size w w' := by
  have hn := Lib.hid (fun W => num_any a h0 h1 W)
  have b0 : Below w.heap.size w (w.alloc (.cells #[.string x, .string y] 54)) := (Below.refl _ _).alloc (Nat.le_refl _) _
  generalize numS a = s at *
  go_enter Try.func9, Try.ntmps9
  go_wp2_with fail
  refine (hn.out _).mono ?_
  rintro r w1 ⟨rfl, b1⟩
  go_wp2_with fail
  refine (hn.out _).mono ?_
  rintro r w2 ⟨rfl, b2⟩
  go_wp2_with fail
  refine (awake_any _).mono ?_
  rintro r w3 ⟨rfl, b3⟩
  go_wp2_with fail
  refine (order_eq _ _).mono ?_
  rintro r w4 ⟨rfl, rfl⟩
  go_wp2_with fail
  go_ret
  exact ⟨rfl, b_le b0 (b_le (b_le b1 b2) b3)⟩
theorem order_law (a b : Int) (x y : ByteArray) (h0 : 0 ≤ a) (h1 : a < 18446744073709551616) (h2 : 0 ≤ b) (h3 : b < 18446744073709551616) (hx : x.size ≤ 140737488355328) (hy : y.size ≤ 140737488355328) (w : World) :
    Calls Try.prog 9 #[.int .u64 a, .int .u64 b, .agg #[.string x, .string y]] w fun r w' => r = .returned (.bool true) ∧ Below w.heap.size w w' := by
  rcases Int.lt_trichotomy a b with h | h | h
  · exact order_below a b x y _ _ h (numS_size a) (numS_size b) (numS_lex h0 h h3) hx hy (fun W => num_any a h0 h1 W) (fun W => num_any b h2 h3 W) w
  · subst h; exact order_like a x y h0 h1 w
  · exact order_above a b x y _ _ h (numS_size a) (numS_size b) (numS_lex h2 h h1) hx hy (fun W => num_any a h0 h1 W) (fun W => num_any b h2 h3 W) w
end Go.Proofs.Ytpnkdpmhphhenaa
