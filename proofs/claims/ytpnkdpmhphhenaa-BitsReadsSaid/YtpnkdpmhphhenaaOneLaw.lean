/-
  THE WALKS OF written AND OF THE LAW BitsOne.
-/
import Derived.Test.YtpnkdpmhphhenaaOne
namespace Go.Proofs.Ytpnkdpmhphhenaa
open Go.RowKit
@[go_sem] theorem run_store_float {P : Program} {w : World} {a : Addr} {m : Mode} (k : FloatKind) (b : Nat) : (store a (.float k b) m).run P w = stored P w a (.float k b) m := run_store P w a _ m rfl
theorem b_le {a b c : World} (h : Below a.heap.size a b) (k : Below b.heap.size b c) : Below a.heap.size a c := h.trans (k.mono h.size)
theorem written_num (k n m : Int) (f : Nat) (s : ByteArray) (b : Bool) (hk : k % 5 = 0) (h0 : 0 ≤ k) (h1 : k < 256) (n0 : 0 ≤ n) (n1 : n < 18446744073709551616) (w : World) :
    Calls Try.prog 27 #[.agg #[.int .u8 k, .int .u64 n, .int .i64 m, .float .f64 f, .string s, .bool b]] w fun r w' => r = .returned (.string (numS n)) ∧ Below w.heap.size w w' := by
  go_enter Try.func27, Try.ntmps27
  go_wp2_with fail
  refine (num_any (n : Int) n0 n1 _).mono ?_
  rintro r w1 ⟨rfl, b1⟩
  go_wp2_with fail
  go_ret
  exact ⟨rfl, ((Below.refl _ _).alloc (Nat.le_refl _) _).trans (b1.mono (by simp))⟩
theorem written_int (k n m : Int) (f : Nat) (s : ByteArray) (b : Bool) (hk : k % 5 = 1) (h0 : 0 ≤ k) (h1 : k < 256) (m0 : -9223372036854775808 ≤ m) (m1 : m ≤ 9223372036854775807) (w : World) :
    Calls Try.prog 27 #[.agg #[.int .u8 k, .int .u64 n, .int .i64 m, .float .f64 f, .string s, .bool b]] w fun r w' => r = .returned (.string (intS m)) ∧ Below w.heap.size w w' := by
  go_enter Try.func27, Try.ntmps27
  go_wp2_with fail
  refine (int_any m m0 m1 _).mono ?_
  rintro r w1 ⟨rfl, b1⟩
  go_wp2_with fail
  go_ret
  exact ⟨rfl, ((Below.refl _ _).alloc (Nat.le_refl _) _).trans (b1.mono (by simp))⟩
theorem written_real (k n m : Int) (f : Nat) (s : ByteArray) (b : Bool) (hk : k % 5 = 2) (h0 : 0 ≤ k) (h1 : k < 256) (f0 : f < 18446744073709551616) (w : World) :
    Calls Try.prog 27 #[.agg #[.int .u8 k, .int .u64 n, .int .i64 m, .float .f64 f, .string s, .bool b]] w fun r w' => r = .returned (.string (realS f)) ∧ Below w.heap.size w w' := by
  go_enter Try.func27, Try.ntmps27
  go_wp2_with fail
  refine (real_any f f0 _).mono ?_
  rintro r w1 ⟨rfl, b1⟩
  go_wp2_with fail
  go_ret
  exact ⟨rfl, ((Below.refl _ _).alloc (Nat.le_refl _) _).trans (b1.mono (by simp))⟩
theorem written_text (k n m : Int) (f : Nat) (s : ByteArray) (b : Bool) (hk : k % 5 = 3) (h0 : 0 ≤ k) (h1 : k < 256) (s0 : s.size ≤ 9223372036854775798) (w : World) :
    Calls Try.prog 27 #[.agg #[.int .u8 k, .int .u64 n, .int .i64 m, .float .f64 f, .string s, .bool b]] w fun r w' => r = .returned (.string (textS s)) ∧ Below w.heap.size w w' := by
  go_enter Try.func27, Try.ntmps27
  go_wp2_with fail
  refine (text_any s s0 _).mono ?_
  rintro r w1 ⟨rfl, b1⟩
  go_wp2_with fail
  go_ret
  exact ⟨rfl, ((Below.refl _ _).alloc (Nat.le_refl _) _).trans (b1.mono (by simp))⟩
theorem written_flag (k n m : Int) (f : Nat) (s : ByteArray) (b : Bool) (hk : k % 5 = 4) (h0 : 0 ≤ k) (h1 : k < 256) (w : World) :
    Calls Try.prog 27 #[.agg #[.int .u8 k, .int .u64 n, .int .i64 m, .float .f64 f, .string s, .bool b]] w fun r w' => r = .returned (.string (flagS b)) ∧ Below w.heap.size w w' := by
  go_enter Try.func27, Try.ntmps27
  go_wp2_with fail
  refine (flag_any b _).mono ?_
  rintro r w1 ⟨rfl, rfl⟩
  go_wp2_with fail
  go_ret
  exact ⟨rfl, (Below.refl _ _).alloc (Nat.le_refl _) _⟩
/-- a thing in memory: its kind and its five fields -/
def ThingAt (w : World) (X : Nat) (k n m : Int) (f : Nat) (s : ByteArray) (b : Bool) : Prop := w.heap[X]? = some (.cells #[.int .u8 k, .int .u64 n, .int .i64 m, .float .f64 f, .string s, .bool b] 48 (0, 0))
section
variable {w w' : World} {X b : Nat} {k n m : Int} {f : Nat} {s : ByteArray} {c : Bool}
theorem ThingAt.lt (h : ThingAt w X k n m f s c) : X < w.heap.size := by
  unfold ThingAt at h
  rcases Nat.lt_or_ge X w.heap.size with h' | h'
  · exact h'
  · rw [Array.getElem?_eq_none h'] at h; simp at h
theorem ThingAt.c0 (h : ThingAt w X k n m f s c) : w.cell? ⟨X, 0, none⟩ = some (.int .u8 k) := by unfold ThingAt at h; simp [World.cell?, h]
theorem ThingAt.c1 (h : ThingAt w X k n m f s c) : w.cell? ⟨X, 1, none⟩ = some (.int .u64 n) := by unfold ThingAt at h; simp [World.cell?, h]
theorem ThingAt.c2 (h : ThingAt w X k n m f s c) : w.cell? ⟨X, 2, none⟩ = some (.int .i64 m) := by unfold ThingAt at h; simp [World.cell?, h]
theorem ThingAt.c3 (h : ThingAt w X k n m f s c) : w.cell? ⟨X, 3, none⟩ = some (.float .f64 f) := by unfold ThingAt at h; simp [World.cell?, h]
theorem ThingAt.c4 (h : ThingAt w X k n m f s c) : w.cell? ⟨X, 4, none⟩ = some (.string s) := by unfold ThingAt at h; simp [World.cell?, h]
theorem ThingAt.c5 (h : ThingAt w X k n m f s c) : w.cell? ⟨X, 5, none⟩ = some (.bool c) := by unfold ThingAt at h; simp [World.cell?, h]
theorem ThingAt.fz (h : ThingAt w X k n m f s c) (o : Nat) : w.frozen? ⟨X, o, none⟩ = false := by unfold ThingAt at h; simp [World.frozen?, h]
theorem ThingAt.next (h : ThingAt w X k n m f s c) (hb : Below w.heap.size w w') : ThingAt w' X k n m f s c := by
  have hl := h.lt
  unfold ThingAt at *; rw [hb.block X hl]; exact h
theorem ThingAt.grown (h : ThingAt w X k n m f s c) (hg : w.grownBy w' (some b)) (hX : X ≠ b) : ThingAt w' X k n m f s c := by
  have hl := h.lt
  unfold ThingAt at *; rw [hg.block X hl (fun e => hX (by simpa using e))]; exact h
theorem ThingAt.set1 (h : ThingAt w X k n m f s c) (x : Int) : ThingAt (w.setCell ⟨X, 1, none⟩ (.int .u64 x)) X k x m f s c := by
  unfold ThingAt at *; simp [World.setCell, Array.getElem?_modify, h]
theorem ThingAt.set2 (h : ThingAt w X k n m f s c) (x : Int) : ThingAt (w.setCell ⟨X, 2, none⟩ (.int .i64 x)) X k n x f s c := by
  unfold ThingAt at *; simp [World.setCell, Array.getElem?_modify, h]
theorem ThingAt.set3 (h : ThingAt w X k n m f s c) (x : Nat) : ThingAt (w.setCell ⟨X, 3, none⟩ (.float .f64 x)) X k n m x s c := by
  unfold ThingAt at *; simp [World.setCell, Array.getElem?_modify, h]
theorem ThingAt.set4 (h : ThingAt w X k n m f s c) (x : ByteArray) : ThingAt (w.setCell ⟨X, 4, none⟩ (.string x)) X k n m f x c := by
  unfold ThingAt at *; simp [World.setCell, Array.getElem?_modify, h]
theorem ThingAt.set5 (h : ThingAt w X k n m f s c) (x : Bool) : ThingAt (w.setCell ⟨X, 5, none⟩ (.bool x)) X k n m f s x := by
  unfold ThingAt at *; simp [World.setCell, Array.getElem?_modify, h]
theorem TapeAt.other {r : ByteArray} {e : Int} (h : TapeAt w b r e) (hX : X ≠ b) (o : Nat) (v : Value) : TapeAt (w.setCell ⟨X, o, none⟩ v) b r e := by
  unfold TapeAt at *; rw [Below.heap_setCell _ _ _ _ (fun e => hX e.symm)]; exact h
end
/-- what a tape's call over s says: an error, and nothing has turned; or what is read, written again, and what is left are s -/
theorem tk_cases {α : Type} {z : α} {s : ByteArray} {r : α × Nat × Int} {v : α} {rest : ByteArray} {e : Int} (W : α → ByteArray) (h : tk z s 0 r = (v, rest, e)) (hback : r.2.2 = 0 → W r.1 ++ s.extract r.2.1 s.size = s) :
    (e ≠ 0 ∧ v = z ∧ rest = s) ∨ (e = 0 ∧ v = r.1 ∧ r.2.2 = 0 ∧ W v ++ rest = s) := by
  obtain ⟨v0, k0, e0⟩ := r
  by_cases he : e0 = 0
  · subst he
    rw [tk_ok] at h
    simp only [Prod.mk.injEq] at h
    obtain ⟨rfl, rfl, rfl⟩ := h
    exact Or.inr ⟨rfl, rfl, rfl, hback rfl⟩
  · rw [tk_bad _ _ _ _ he] at h
    simp only [Prod.mk.injEq] at h
    obtain ⟨rfl, rfl, rfl⟩ := h
    exact Or.inl ⟨he, rfl, rfl⟩
theorem str_size_le {a b s : ByteArray} (h : a ++ b = s) : a.size + b.size = s.size := by rw [← h, ByteArray.size_append]
theorem unz_bd {n : Nat} (h : n < 18446744073709551616) : -9223372036854775808 ≤ unz n ∧ unz n ≤ 9223372036854775807 := by
  unfold unz; split <;> omega
theorem rdReal_lt (l : List UInt8) : (rdReal l).1 < 18446744073709551616 := by
  unfold rdReal
  split
  · decide
  · split
    · decide
    · exact joinN_u64 _ (by rw [List.length_take]; omega)
set_option maxRecDepth 100000 in
set_option maxHeartbeats 2000000 in
theorem one_num (s : ByteArray) (k : Int) (hk : k % 5 = 0) (h0 : 0 ≤ k) (h1 : k < 256) (hs : s.size ≤ 140737488355328) (w : World) :
    Calls Try.prog 8 #[.string s, .int .u8 k] w fun r w' => r = .returned (.bool true) ∧ Below w.heap.size w w' := by
  go_enter Try.func8, Try.ntmps8
  go_wp2_with fail
  refine (at_any _ _ (by omega)).mono ?_
  rintro r w1 ⟨b, rfl, hb, ht, b1⟩
  go_wp2_with fail
  refine (awake_any _).mono ?_
  rintro r w2 ⟨rfl, b2⟩
  have t2 := ht.next b2
  have hX : w2.heap.size ≠ b := by have := t2.lt; omega
  have c2 := b_le b1 b2
  have hX2 := c2.size
  have al : Below w2.heap.size w2 (w2.alloc (.cells #[.int .u8 k, .int .u64 0, .int .i64 0, .float .f64 0, .string ⟨#[]⟩, .bool false] 48)) := (Below.refl _ _).alloc (Nat.le_refl _) _
  have tt := t2.next al
  have th : ThingAt (w2.alloc (.cells #[.int .u8 k, .int .u64 0, .int .i64 0, .float .f64 0, .string ⟨#[]⟩, .bool false] 48)) w2.heap.size k 0 0 0 ⟨#[]⟩ false := heap_alloc_new _ _
  have c3 := b_le c2 al
  clear ht b1 b2 t2 c2 al
  go_wp2_with fail
  generalize w2.alloc (.cells #[.int .u8 k, .int .u64 0, .int .i64 0, .float .f64 0, .string ⟨#[]⟩, .bool false] 48) = wa at *
  generalize w2.heap.size = X at *
  refine (tapeNum_any tt (by omega)).mono ?_
  rintro r w3 ⟨rfl, hg, t3⟩
  have th3 := th.grown hg hX
  have c4 : Below w.heap.size w w3 := c3.grown hg c3.size (fun q hq => by cases hq; exact hb)
  rcases hT : tNum s 0 with ⟨v, rest, e⟩
  rw [hT] at t3
  have hcs := tk_cases (fun x : Nat => numS (x : Int)) (show tk 0 s 0 (rdNum s.data.toList) = (v, rest, e) from hT) (num_back s)
  clear hT tt th hg c3
  unfold vNum
  have f1 := th3.c1
  have f2 := th3.fz 1
  rcases hcs with ⟨he, rfl, rfl⟩ | ⟨rfl, hv, _, hcat⟩
  · have hEb : (e != 0) = true := by simp [he]
    have t4 := t3.other hX 1 (.int .u64 0)
    have th4 := th3.set1 0
    have c5 := c4.setCell (p := ⟨X, 1, none⟩) (by simpa using hX2) (.int .u64 0)
    go_wp2_with fail
    clear f1 f2
    generalize w3.setCell ⟨X, 1, none⟩ (.int .u64 0) = w4 at *
    refine (err_any t4).mono ?_
    rintro r w5 ⟨rfl, rfl⟩
    go_wp2_with fail
    refine (rest_any t4 (by omega)).mono ?_
    rintro r w6 ⟨rfl, b6⟩
    have th6 := th4.next b6
    have d1 := th6.c1
    have d2 := th6.c2
    have d3 := th6.c3
    have d4 := th6.c4
    have d5 := th6.c5
    go_wp2_with fail
    go_ret
    exact ⟨rfl, c5.trans (b6.mono c5.size)⟩
  · have hv64 : v < 18446744073709551616 := by rw [hv]; exact (rdNum_facts _).1
    have hsz := str_size_le hcat
    have t4 := t3.other hX 1 (.int .u64 (v : Int))
    have th4 := th3.set1 (v : Int)
    have c5 := c4.setCell (p := ⟨X, 1, none⟩) (by simpa using hX2) (.int .u64 (v : Int))
    have HC := Lib.hid hcat
    clear hcat hv
    go_wp2_with fail
    clear f1 f2
    generalize w3.setCell ⟨X, 1, none⟩ (.int .u64 (v : Int)) = w4 at *
    refine (err_any t4).mono ?_
    rintro r w5 ⟨rfl, rfl⟩
    have d0 := th4.c0
    have d1 := th4.c1
    have d2 := th4.c2
    have d3 := th4.c3
    have d4 := th4.c4
    have d5 := th4.c5
    go_wp2_with fail
    refine (written_num k (v : Int) 0 0 ⟨#[]⟩ false hk h0 h1 (Int.natCast_nonneg _) (by omega) _).mono ?_
    rintro r w6 ⟨rfl, b6⟩
    have t6 := t4.next b6
    have c6 := c5.trans (b6.mono c5.size)
    clear d0 d1 d2 d3 d4 d5
    go_wp2_with fail
    refine (rest_any t6 (by omega)).mono ?_
    rintro r w7 ⟨rfl, b7⟩
    have c7 := c6.trans (b7.mono c6.size)
    have hsum : (numS (v : Int)).size + rest.size ≤ 9223372036854775807 := by omega
    have heq : ((numS (v : Int) ++ rest).toList == s.toList) = true := by rw [show numS (v : Int) ++ rest = s from HC.out]; simp
    go_wp2_with fail
    go_ret
    exact ⟨rfl, c7⟩
set_option maxRecDepth 100000 in
set_option maxHeartbeats 2000000 in
theorem one_int (s : ByteArray) (k : Int) (hk : k % 5 = 1) (h0 : 0 ≤ k) (h1 : k < 256) (hs : s.size ≤ 140737488355328) (w : World) :
    Calls Try.prog 8 #[.string s, .int .u8 k] w fun r w' => r = .returned (.bool true) ∧ Below w.heap.size w w' := by
  go_enter Try.func8, Try.ntmps8
  go_wp2_with fail
  refine (at_any _ _ (by omega)).mono ?_
  rintro r w1 ⟨b, rfl, hb, ht, b1⟩
  go_wp2_with fail
  refine (awake_any _).mono ?_
  rintro r w2 ⟨rfl, b2⟩
  have t2 := ht.next b2
  have hX : w2.heap.size ≠ b := by have := t2.lt; omega
  have c2 := b_le b1 b2
  have hX2 := c2.size
  have al : Below w2.heap.size w2 (w2.alloc (.cells #[.int .u8 k, .int .u64 0, .int .i64 0, .float .f64 0, .string ⟨#[]⟩, .bool false] 48)) := (Below.refl _ _).alloc (Nat.le_refl _) _
  have tt := t2.next al
  have th : ThingAt (w2.alloc (.cells #[.int .u8 k, .int .u64 0, .int .i64 0, .float .f64 0, .string ⟨#[]⟩, .bool false] 48)) w2.heap.size k 0 0 0 ⟨#[]⟩ false := heap_alloc_new _ _
  have c3 := b_le c2 al
  clear ht b1 b2 t2 c2 al
  go_wp2_with fail
  generalize w2.alloc (.cells #[.int .u8 k, .int .u64 0, .int .i64 0, .float .f64 0, .string ⟨#[]⟩, .bool false] 48) = wa at *
  generalize w2.heap.size = X at *
  refine (tapeInt_any tt (by omega)).mono ?_
  rintro r w3 ⟨rfl, hg, t3⟩
  have th3 := th.grown hg hX
  have c4 : Below w.heap.size w w3 := c3.grown hg c3.size (fun q hq => by cases hq; exact hb)
  rcases hT : tInt s 0 with ⟨v, rest, e⟩
  rw [hT] at t3
  have hcs := tk_cases (fun x : Int => intS x) (show tk 0 s 0 (rdInt s.data.toList) = (v, rest, e) from hT) (int_back s)
  clear hT tt th hg c3
  unfold vInt
  have f1 := th3.c2
  have f2 := th3.fz 2
  rcases hcs with ⟨he, rfl, rfl⟩ | ⟨rfl, hv, _, hcat⟩
  · have hEb : (e != 0) = true := by simp [he]
    have t4 := t3.other hX 2 (.int .i64 0)
    have th4 := th3.set2 0
    have c5 := c4.setCell (p := ⟨X, 2, none⟩) (by simpa using hX2) (.int .i64 0)
    go_wp2_with fail
    clear f1 f2
    generalize w3.setCell ⟨X, 2, none⟩ (.int .i64 0) = w4 at *
    refine (err_any t4).mono ?_
    rintro r w5 ⟨rfl, rfl⟩
    go_wp2_with fail
    refine (rest_any t4 (by omega)).mono ?_
    rintro r w6 ⟨rfl, b6⟩
    have th6 := th4.next b6
    have d1 := th6.c1
    have d2 := th6.c2
    have d3 := th6.c3
    have d4 := th6.c4
    have d5 := th6.c5
    go_wp2_with fail
    go_ret
    exact ⟨rfl, c5.trans (b6.mono c5.size)⟩
  · have hv64 : -9223372036854775808 ≤ v ∧ v ≤ 9223372036854775807 := by rw [hv]; exact unz_bd (rdNum_facts _).1
    have hsz := str_size_le hcat
    have t4 := t3.other hX 2 (.int .i64 v)
    have th4 := th3.set2 v
    have c5 := c4.setCell (p := ⟨X, 2, none⟩) (by simpa using hX2) (.int .i64 v)
    have HC := Lib.hid hcat
    clear hcat hv
    go_wp2_with fail
    clear f1 f2
    generalize w3.setCell ⟨X, 2, none⟩ (.int .i64 v) = w4 at *
    refine (err_any t4).mono ?_
    rintro r w5 ⟨rfl, rfl⟩
    have d0 := th4.c0
    have d1 := th4.c1
    have d2 := th4.c2
    have d3 := th4.c3
    have d4 := th4.c4
    have d5 := th4.c5
    go_wp2_with fail
    refine (written_int k 0 v 0 ⟨#[]⟩ false hk h0 h1 hv64.1 hv64.2 _).mono ?_
    rintro r w6 ⟨rfl, b6⟩
    have t6 := t4.next b6
    have c6 := c5.trans (b6.mono c5.size)
    clear d0 d1 d2 d3 d4 d5
    go_wp2_with fail
    refine (rest_any t6 (by omega)).mono ?_
    rintro r w7 ⟨rfl, b7⟩
    have c7 := c6.trans (b7.mono c6.size)
    have hsum : (intS v).size + rest.size ≤ 9223372036854775807 := by omega
    have heq : ((intS v ++ rest).toList == s.toList) = true := by rw [show intS v ++ rest = s from HC.out]; simp
    go_wp2_with fail
    go_ret
    exact ⟨rfl, c7⟩
set_option maxRecDepth 100000 in
set_option maxHeartbeats 2000000 in
theorem one_real (s : ByteArray) (k : Int) (hk : k % 5 = 2) (h0 : 0 ≤ k) (h1 : k < 256) (hs : s.size ≤ 140737488355328) (w : World) :
    Calls Try.prog 8 #[.string s, .int .u8 k] w fun r w' => r = .returned (.bool true) ∧ Below w.heap.size w w' := by
  go_enter Try.func8, Try.ntmps8
  go_wp2_with fail
  refine (at_any _ _ (by omega)).mono ?_
  rintro r w1 ⟨b, rfl, hb, ht, b1⟩
  go_wp2_with fail
  refine (awake_any _).mono ?_
  rintro r w2 ⟨rfl, b2⟩
  have t2 := ht.next b2
  have hX : w2.heap.size ≠ b := by have := t2.lt; omega
  have c2 := b_le b1 b2
  have hX2 := c2.size
  have al : Below w2.heap.size w2 (w2.alloc (.cells #[.int .u8 k, .int .u64 0, .int .i64 0, .float .f64 0, .string ⟨#[]⟩, .bool false] 48)) := (Below.refl _ _).alloc (Nat.le_refl _) _
  have tt := t2.next al
  have th : ThingAt (w2.alloc (.cells #[.int .u8 k, .int .u64 0, .int .i64 0, .float .f64 0, .string ⟨#[]⟩, .bool false] 48)) w2.heap.size k 0 0 0 ⟨#[]⟩ false := heap_alloc_new _ _
  have c3 := b_le c2 al
  clear ht b1 b2 t2 c2 al
  go_wp2_with fail
  generalize w2.alloc (.cells #[.int .u8 k, .int .u64 0, .int .i64 0, .float .f64 0, .string ⟨#[]⟩, .bool false] 48) = wa at *
  generalize w2.heap.size = X at *
  refine (tapeReal_any tt (by omega)).mono ?_
  rintro r w3 ⟨rfl, hg, t3⟩
  have th3 := th.grown hg hX
  have c4 : Below w.heap.size w w3 := c3.grown hg c3.size (fun q hq => by cases hq; exact hb)
  rcases hT : tReal s 0 with ⟨v, rest, e⟩
  rw [hT] at t3
  have hcs := tk_cases (fun x : Nat => realS x) (show tk 0 s 0 (rdReal s.data.toList) = (v, rest, e) from hT) (real_back s)
  clear hT tt th hg c3
  unfold vReal
  have f1 := th3.c3
  have f2 := th3.fz 3
  rcases hcs with ⟨he, rfl, rfl⟩ | ⟨rfl, hv, _, hcat⟩
  · have hEb : (e != 0) = true := by simp [he]
    have t4 := t3.other hX 3 (.float .f64 0)
    have th4 := th3.set3 0
    have c5 := c4.setCell (p := ⟨X, 3, none⟩) (by simpa using hX2) (.float .f64 0)
    go_wp2_with fail
    clear f1 f2
    generalize w3.setCell ⟨X, 3, none⟩ (.float .f64 0) = w4 at *
    refine (err_any t4).mono ?_
    rintro r w5 ⟨rfl, rfl⟩
    go_wp2_with fail
    refine (rest_any t4 (by omega)).mono ?_
    rintro r w6 ⟨rfl, b6⟩
    have th6 := th4.next b6
    have d1 := th6.c1
    have d2 := th6.c2
    have d3 := th6.c3
    have d4 := th6.c4
    have d5 := th6.c5
    go_wp2_with fail
    go_ret
    exact ⟨rfl, c5.trans (b6.mono c5.size)⟩
  · have hv64 : v < 18446744073709551616 := by rw [hv]; exact rdReal_lt _
    have hsz := str_size_le hcat
    have t4 := t3.other hX 3 (.float .f64 v)
    have th4 := th3.set3 v
    have c5 := c4.setCell (p := ⟨X, 3, none⟩) (by simpa using hX2) (.float .f64 v)
    have HC := Lib.hid hcat
    clear hcat hv
    go_wp2_with fail
    clear f1 f2
    generalize w3.setCell ⟨X, 3, none⟩ (.float .f64 v) = w4 at *
    refine (err_any t4).mono ?_
    rintro r w5 ⟨rfl, rfl⟩
    have d0 := th4.c0
    have d1 := th4.c1
    have d2 := th4.c2
    have d3 := th4.c3
    have d4 := th4.c4
    have d5 := th4.c5
    go_wp2_with fail
    refine (written_real k 0 0 v ⟨#[]⟩ false hk h0 h1 hv64 _).mono ?_
    rintro r w6 ⟨rfl, b6⟩
    have t6 := t4.next b6
    have c6 := c5.trans (b6.mono c5.size)
    clear d0 d1 d2 d3 d4 d5
    go_wp2_with fail
    refine (rest_any t6 (by omega)).mono ?_
    rintro r w7 ⟨rfl, b7⟩
    have c7 := c6.trans (b7.mono c6.size)
    have hsum : (realS v).size + rest.size ≤ 9223372036854775807 := by omega
    have heq : ((realS v ++ rest).toList == s.toList) = true := by rw [show realS v ++ rest = s from HC.out]; simp
    go_wp2_with fail
    go_ret
    exact ⟨rfl, c7⟩
set_option maxRecDepth 100000 in
set_option maxHeartbeats 2000000 in
theorem one_text (s : ByteArray) (k : Int) (hk : k % 5 = 3) (h0 : 0 ≤ k) (h1 : k < 256) (hs : s.size ≤ 140737488355328) (w : World) :
    Calls Try.prog 8 #[.string s, .int .u8 k] w fun r w' => r = .returned (.bool true) ∧ Below w.heap.size w w' := by
  go_enter Try.func8, Try.ntmps8
  go_wp2_with fail
  refine (at_any _ _ (by omega)).mono ?_
  rintro r w1 ⟨b, rfl, hb, ht, b1⟩
  go_wp2_with fail
  refine (awake_any _).mono ?_
  rintro r w2 ⟨rfl, b2⟩
  have t2 := ht.next b2
  have hX : w2.heap.size ≠ b := by have := t2.lt; omega
  have c2 := b_le b1 b2
  have hX2 := c2.size
  have al : Below w2.heap.size w2 (w2.alloc (.cells #[.int .u8 k, .int .u64 0, .int .i64 0, .float .f64 0, .string ⟨#[]⟩, .bool false] 48)) := (Below.refl _ _).alloc (Nat.le_refl _) _
  have tt := t2.next al
  have th : ThingAt (w2.alloc (.cells #[.int .u8 k, .int .u64 0, .int .i64 0, .float .f64 0, .string ⟨#[]⟩, .bool false] 48)) w2.heap.size k 0 0 0 ⟨#[]⟩ false := heap_alloc_new _ _
  have c3 := b_le c2 al
  clear ht b1 b2 t2 c2 al
  go_wp2_with fail
  generalize w2.alloc (.cells #[.int .u8 k, .int .u64 0, .int .i64 0, .float .f64 0, .string ⟨#[]⟩, .bool false] 48) = wa at *
  generalize w2.heap.size = X at *
  refine (tapeText_any tt (most := (s.size : Int)) (by omega) (by omega) (by omega)).mono ?_
  rintro r w3 ⟨rfl, hg, t3⟩
  have th3 := th.grown hg hX
  have c4 : Below w.heap.size w w3 := c3.grown hg c3.size (fun q hq => by cases hq; exact hb)
  rcases hT : tText s 0 (s.size : Int) with ⟨v, rest, e⟩
  rw [hT] at t3
  have hcs := tk_cases (fun x : ByteArray => textS x) (show tk ⟨#[]⟩ s 0 (rdText s (s.size : Int)) = (v, rest, e) from hT) (text_back s (s.size : Int))
  clear hT tt th hg c3
  unfold vText
  have f1 := th3.c4
  have f2 := th3.fz 4
  rcases hcs with ⟨he, rfl, rfl⟩ | ⟨rfl, hv, _, hcat⟩
  · have hEb : (e != 0) = true := by simp [he]
    have t4 := t3.other hX 4 (.string ⟨#[]⟩)
    have th4 := th3.set4 ⟨#[]⟩
    have c5 := c4.setCell (p := ⟨X, 4, none⟩) (by simpa using hX2) (.string ⟨#[]⟩)
    go_wp2_with fail
    clear f1 f2
    generalize w3.setCell ⟨X, 4, none⟩ (.string ⟨#[]⟩) = w4 at *
    refine (err_any t4).mono ?_
    rintro r w5 ⟨rfl, rfl⟩
    go_wp2_with fail
    refine (rest_any t4 (by omega)).mono ?_
    rintro r w6 ⟨rfl, b6⟩
    have th6 := th4.next b6
    have d1 := th6.c1
    have d2 := th6.c2
    have d3 := th6.c3
    have d4 := th6.c4
    have d5 := th6.c5
    go_wp2_with fail
    go_ret
    exact ⟨rfl, c5.trans (b6.mono c5.size)⟩
  · have hv64 : v.size ≤ 9223372036854775798 := by have := str_size_le hcat; simp only [textS, ByteArray.size_append] at this; omega
    have hsz := str_size_le hcat
    have t4 := t3.other hX 4 (.string v)
    have th4 := th3.set4 v
    have c5 := c4.setCell (p := ⟨X, 4, none⟩) (by simpa using hX2) (.string v)
    have HC := Lib.hid hcat
    clear hcat hv
    go_wp2_with fail
    clear f1 f2
    generalize w3.setCell ⟨X, 4, none⟩ (.string v) = w4 at *
    refine (err_any t4).mono ?_
    rintro r w5 ⟨rfl, rfl⟩
    have d0 := th4.c0
    have d1 := th4.c1
    have d2 := th4.c2
    have d3 := th4.c3
    have d4 := th4.c4
    have d5 := th4.c5
    go_wp2_with fail
    refine (written_text k 0 0 0 v false hk h0 h1 hv64 _).mono ?_
    rintro r w6 ⟨rfl, b6⟩
    have t6 := t4.next b6
    have c6 := c5.trans (b6.mono c5.size)
    clear d0 d1 d2 d3 d4 d5
    go_wp2_with fail
    refine (rest_any t6 (by omega)).mono ?_
    rintro r w7 ⟨rfl, b7⟩
    have c7 := c6.trans (b7.mono c6.size)
    have hsum : (textS v).size + rest.size ≤ 9223372036854775807 := by omega
    have heq : ((textS v ++ rest).toList == s.toList) = true := by rw [show textS v ++ rest = s from HC.out]; simp
    go_wp2_with fail
    go_ret
    exact ⟨rfl, c7⟩
set_option maxRecDepth 100000 in
set_option maxHeartbeats 2000000 in
theorem one_flag (s : ByteArray) (k : Int) (hk : k % 5 = 4) (h0 : 0 ≤ k) (h1 : k < 256) (hs : s.size ≤ 140737488355328) (w : World) :
    Calls Try.prog 8 #[.string s, .int .u8 k] w fun r w' => r = .returned (.bool true) ∧ Below w.heap.size w w' := by
  go_enter Try.func8, Try.ntmps8
  go_wp2_with fail
  refine (at_any _ _ (by omega)).mono ?_
  rintro r w1 ⟨b, rfl, hb, ht, b1⟩
  go_wp2_with fail
  refine (awake_any _).mono ?_
  rintro r w2 ⟨rfl, b2⟩
  have t2 := ht.next b2
  have hX : w2.heap.size ≠ b := by have := t2.lt; omega
  have c2 := b_le b1 b2
  have hX2 := c2.size
  have al : Below w2.heap.size w2 (w2.alloc (.cells #[.int .u8 k, .int .u64 0, .int .i64 0, .float .f64 0, .string ⟨#[]⟩, .bool false] 48)) := (Below.refl _ _).alloc (Nat.le_refl _) _
  have tt := t2.next al
  have th : ThingAt (w2.alloc (.cells #[.int .u8 k, .int .u64 0, .int .i64 0, .float .f64 0, .string ⟨#[]⟩, .bool false] 48)) w2.heap.size k 0 0 0 ⟨#[]⟩ false := heap_alloc_new _ _
  have c3 := b_le c2 al
  clear ht b1 b2 t2 c2 al
  go_wp2_with fail
  generalize w2.alloc (.cells #[.int .u8 k, .int .u64 0, .int .i64 0, .float .f64 0, .string ⟨#[]⟩, .bool false] 48) = wa at *
  generalize w2.heap.size = X at *
  refine (tapeFlag_any tt (by omega)).mono ?_
  rintro r w3 ⟨rfl, hg, t3⟩
  have th3 := th.grown hg hX
  have c4 : Below w.heap.size w w3 := c3.grown hg c3.size (fun q hq => by cases hq; exact hb)
  rcases hT : tFlag s 0 with ⟨v, rest, e⟩
  rw [hT] at t3
  have hcs := tk_cases (fun x : Bool => flagS x) (show tk false s 0 (rdFlag s.data.toList) = (v, rest, e) from hT) (flag_back s)
  clear hT tt th hg c3
  unfold vFlag
  have f1 := th3.c5
  have f2 := th3.fz 5
  rcases hcs with ⟨he, rfl, rfl⟩ | ⟨rfl, hv, _, hcat⟩
  · have hEb : (e != 0) = true := by simp [he]
    have t4 := t3.other hX 5 (.bool false)
    have th4 := th3.set5 false
    have c5 := c4.setCell (p := ⟨X, 5, none⟩) (by simpa using hX2) (.bool false)
    go_wp2_with fail
    clear f1 f2
    generalize w3.setCell ⟨X, 5, none⟩ (.bool false) = w4 at *
    refine (err_any t4).mono ?_
    rintro r w5 ⟨rfl, rfl⟩
    go_wp2_with fail
    refine (rest_any t4 (by omega)).mono ?_
    rintro r w6 ⟨rfl, b6⟩
    have th6 := th4.next b6
    have d1 := th6.c1
    have d2 := th6.c2
    have d3 := th6.c3
    have d4 := th6.c4
    have d5 := th6.c5
    go_wp2_with fail
    go_ret
    exact ⟨rfl, c5.trans (b6.mono c5.size)⟩
  · have hsz := str_size_le hcat
    have t4 := t3.other hX 5 (.bool v)
    have th4 := th3.set5 v
    have c5 := c4.setCell (p := ⟨X, 5, none⟩) (by simpa using hX2) (.bool v)
    have HC := Lib.hid hcat
    clear hcat hv
    go_wp2_with fail
    clear f1 f2
    generalize w3.setCell ⟨X, 5, none⟩ (.bool v) = w4 at *
    refine (err_any t4).mono ?_
    rintro r w5 ⟨rfl, rfl⟩
    have d0 := th4.c0
    have d1 := th4.c1
    have d2 := th4.c2
    have d3 := th4.c3
    have d4 := th4.c4
    have d5 := th4.c5
    go_wp2_with fail
    refine (written_flag k 0 0 0 ⟨#[]⟩ v hk h0 h1 _).mono ?_
    rintro r w6 ⟨rfl, b6⟩
    have t6 := t4.next b6
    have c6 := c5.trans (b6.mono c5.size)
    clear d0 d1 d2 d3 d4 d5
    go_wp2_with fail
    refine (rest_any t6 (by omega)).mono ?_
    rintro r w7 ⟨rfl, b7⟩
    have c7 := c6.trans (b7.mono c6.size)
    have hsum : (flagS v).size + rest.size ≤ 9223372036854775807 := by omega
    have heq : ((flagS v ++ rest).toList == s.toList) = true := by rw [show flagS v ++ rest = s from HC.out]; simp
    go_wp2_with fail
    go_ret
    exact ⟨rfl, c7⟩
theorem one_law (s : ByteArray) (k : Int) (h0 : 0 ≤ k) (h1 : k < 256) (hs : s.size ≤ 140737488355328) (w : World) :
    Calls Try.prog 8 #[.string s, .int .u8 k] w fun r w' => r = .returned (.bool true) ∧ Below w.heap.size w w' := by
  have hk : k % 5 = 0 ∨ k % 5 = 1 ∨ k % 5 = 2 ∨ k % 5 = 3 ∨ k % 5 = 4 := by omega
  rcases hk with hk | hk | hk | hk | hk
  · exact one_num s k hk h0 h1 hs w
  · exact one_int s k hk h0 h1 hs w
  · exact one_real s k hk h0 h1 hs w
  · exact one_text s k hk h0 h1 hs w
  · exact one_flag s k hk h0 h1 hs w
end Go.Proofs.Ytpnkdpmhphhenaa
