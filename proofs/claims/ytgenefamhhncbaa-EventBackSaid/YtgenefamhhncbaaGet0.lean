/-
  SameValue, Bits, strings.Clone; the document's own Get.
-/
import Derived.Test.YtgenefamhhncbaaEvm
import Derived.Lib.Strings
import Derived.Lib.UnsafeStr
import Derived.Laws.MakeOwn
namespace Go.Proofs.Ytgenefamhhncbaa
open Go.RowKit
/-- the first field of a name -/
def findF : List Fld → ByteArray → Option Val
  | [], _ => none
  | x :: r, s => if x.nm = s then some x.v else findF r s
theorem findF_take {L : List Fld} {s : ByteArray} {k : Nat} (hk : k < L.length) (h : findF (L.take k) s = none) : findF (L.take (k + 1)) s = if L[k].nm = s then some L[k].v else none := by
  induction L generalizing k with
  | nil => simp at hk
  | cons x r ih =>
    cases k with
    | zero => simp [findF]
    | succ k =>
      simp only [List.take_succ_cons, findF] at h ⊢
      by_cases hx : x.nm = s
      · rw [if_pos hx] at h; cases h
      · rw [if_neg hx] at h ⊢
        exact ih (by simpa using hk) h
theorem findF_at {L : List Fld} {s : ByteArray} {k : Nat} (hk : k < L.length) (h : findF (L.take k) s = none) (he : L[k].nm = s) : findF L s = some L[k].v := by
  induction L generalizing k with
  | nil => simp at hk
  | cons x r ih =>
    cases k with
    | zero => simp only [List.getElem_cons_zero] at he; simp [findF, he]
    | succ k =>
      simp only [List.take_succ_cons, findF] at h ⊢
      by_cases hx : x.nm = s
      · rw [if_pos hx] at h; cases h
      · rw [if_neg hx] at h ⊢
        exact ih (by simpa using hk) h (by simpa using he)
theorem str_eq (a b : ByteArray) : (a.toList == b.toList) = decide (a = b) := by
  apply Bool.eq_iff_iff.2
  simp only [beq_iff_eq, decide_eq_true_eq, ByteArray.toList_eq]
  constructor
  · intro h
    cases a; cases b
    simp only [ByteArray.mk.injEq]
    exact Array.toList_inj.1 h
  · intro h; rw [h]
def v0 : Val := ⟨0, 0, 0, ⟨#[]⟩⟩
theorem bits_c (f : Nat) : ∃ c : Nat, ∀ w, Calls Try.prog 52 #[.float .f64 f] w fun e w' => e = .returned (.int .u64 c) ∧ w = w' := by
  have hb := run_bits f
  cases h : (FloatKind.f64.format.order f f != some .eq)
  · refine ⟨f, fun w => ?_⟩
    go_enter Try.func52, Try.ntmps52
    go_wp2_with fail
    go_ret
    exact ⟨rfl, rfl⟩
  · refine ⟨9221120237041090561, fun w => ?_⟩
    go_enter Try.func52, Try.ntmps52
    go_wp2_with fail
    go_ret
    exact ⟨rfl, rfl⟩
set_option maxHeartbeats 1000000 in
theorem same_refl (v : Val) (w : World) : Calls Try.prog 23 #[v.val, v.val] w fun e w' => e = .returned (.bool true) ∧ Below w.heap.size w w' := by
  obtain ⟨c, hc⟩ := bits_c v.f
  obtain ⟨w2, hw2, B2, A2, D2⟩ := boxed w v v 50 50
  have W2 := Lib.hid hw2
  have B2h := Lib.hid B2
  obtain ⟨a0, a1, a2, a3, la⟩ := A2
  obtain ⟨b0, b1, b2, b3, lb⟩ := D2
  unfold Val.val
  obtain ⟨k, n, f, s⟩ := v
  simp only at *
  clear hw2 B2
  generalize hy : w.heap.size = Y at *
  have a0 := fun d os => cell_regrown a0 d os
  have a1 := fun d os => cell_regrown a1 d os
  have a2 := fun d os => cell_regrown a2 d os
  have a3 := fun d os => cell_regrown a3 d os
  have b0 := fun d os => cell_regrown b0 d os
  have b1 := fun d os => cell_regrown b1 d os
  have b2 := fun d os => cell_regrown b2 d os
  have b3 := fun d os => cell_regrown b3 d os
  have C1 := Lib.hid (fun d os => Calls.regrown_of (d := d) (os := os) (same_below (hc (Go.Sort.grow (redrawn w2 d) os))))
  clear hc
  go_enter Try.func23, Try.ntmps23
  go_wp2_with fail
  rw [← W2.out]
  refine wp_region_quiet_below mixed (by kernel_rfl) ?_
  repeat (quiet_step (exact C1.out _ _))
  refine wpQuiet_nil ?_
  intro _ hw'
  obtain ⟨⟨dq, osq⟩, hw''⟩ := hw'
  subst hw''
  go_wp2_with fail
  go_ret
  exact ⟨ret_bool (by simp), B2h.out.trans ((below_regrown w2 dq osq).mono (by have := B2h.out.size; omega))⟩
def optV (o : Option Val) : Val := o.getD v0
/-- a value's cells stored -/
theorem val_stored {w W : World} {Y g : Nat} {t : TypeId} (hY : Y ≤ g) (v : Val) {cs : Array Value} (h : Blk W g t cs) (hs : cs.size = 4) (hb : Below Y w W) :
    ∃ W5, W5 = (((W.setCell ⟨g, 0, none⟩ (.int .i64 v.k)).setCell ⟨g, 1, none⟩ (.int .i64 v.n)).setCell ⟨g, 2, none⟩ (.float .f64 v.f)).setCell ⟨g, 3, none⟩ (.string v.s) ∧ Blk W5 g t #[.int .i64 v.k, .int .i64 v.n, .float .f64 v.f, .string v.s] ∧ Below Y w W5 := by
  have st : ∀ {W : World} {cs : Array Value} (i : Nat) (x : Value), Blk W g t cs → Blk (W.setCell ⟨g, i, none⟩ x) g t (cs.setIfInBounds i x) := fun i x hb => heap_setCell_same _ _ i _ t x hb
  have sb : ∀ {W : World} (i : Nat) (x : Value), Below Y w W → Below Y w (W.setCell ⟨g, i, none⟩ x) := fun i x hb => hb.setCell (p := ⟨g, i, none⟩) hY _
  obtain ⟨l⟩ := cs
  match l, hs with
  | [x0, x1, x2, x3], _ => exact ⟨_, rfl, st 3 _ (st 2 _ (st 1 _ (st 0 _ h))), sb 3 _ (sb 2 _ (sb 1 _ (sb 0 _ hb)))⟩
set_option maxHeartbeats 1000000 in
set_option maxRecDepth 100000 in
theorem rget_any (a b c : Int) (k s : ByteArray) (p : Option Addr) (cp : Nat) (L : List Fld) (w : World) (hl : L.length ≤ 100) (hx : Flds w p L) :
    Calls Try.prog 22 #[evV a b c k (.slice p L.length cp), .string s] w fun e w' => e = .returned (.tuple #[(optV (findF L s)).val, .bool (findF L s).isSome]) ∧ Below w.heap.size w w' := by
  obtain ⟨w2, hw2, K0, K1, B2, hs2⟩ : ∃ w2, w2 = (w.alloc (.cells #[.int .i64 a, .int .i64 b, .int .i64 c, .string k, .slice p L.length cp] 32)).alloc (.cells #[.int .i64 0, .int .i64 0, .float .f64 0, .string ⟨#[]⟩] 50) ∧
      Blk w2 w.heap.size 32 #[.int .i64 a, .int .i64 b, .int .i64 c, .string k, .slice p L.length cp] ∧ Blk w2 (w.heap.size + 1) 50 #[.int .i64 0, .int .i64 0, .float .f64 0, .string ⟨#[]⟩] ∧ Below w.heap.size w w2 ∧ w2.heap.size = w.heap.size + 2 := by
    have B1 := (Below.refl w.heap.size w).alloc (Nat.le_refl _) (.cells #[.int .i64 a, .int .i64 b, .int .i64 c, .string k, .slice p L.length cp] 32)
    have e1 : Blk (w.alloc (.cells #[.int .i64 a, .int .i64 b, .int .i64 c, .string k, .slice p L.length cp] 32)) w.heap.size 32 #[.int .i64 a, .int .i64 b, .int .i64 c, .string k, .slice p L.length cp] := heap_alloc_new w _
    have h1 : (w.alloc (.cells #[.int .i64 a, .int .i64 b, .int .i64 c, .string k, .slice p L.length cp] 32)).heap.size = w.heap.size + 1 := by simp
    generalize w.alloc (.cells #[.int .i64 a, .int .i64 b, .int .i64 c, .string k, .slice p L.length cp] 32) = w1 at *
    have b2 := (Below.refl w1.heap.size w1).alloc (Nat.le_refl _) (.cells #[.int .i64 0, .int .i64 0, .float .f64 0, .string ⟨#[]⟩] 50)
    have e2 : Blk (w1.alloc (.cells #[.int .i64 0, .int .i64 0, .float .f64 0, .string ⟨#[]⟩] 50)) w1.heap.size 50 #[.int .i64 0, .int .i64 0, .float .f64 0, .string ⟨#[]⟩] := heap_alloc_new w1 _
    rw [h1] at e2
    exact ⟨_, rfl, e1.below b2, e2, B1.trans (b2.mono (by omega)), by simp; omega⟩
  have X2 := hx.below B2
  generalize hn : L.length = n at *
  have HN := Lib.hid hn
  have W2 := Lib.hid hw2
  have X2h := Lib.hid X2
  have B2h := Lib.hid B2
  have K1h := Lib.hid K1
  have e4 : w2.cell? ⟨w.heap.size, 4, none⟩ = some (.slice p n cp) := K0.cell 4
  have z0 : w2.cell? ⟨w.heap.size + 1, 0, none⟩ = some (.int .i64 0) := K1.cell 0
  have z1 : w2.cell? ⟨w.heap.size + 1, 1, none⟩ = some (.int .i64 0) := K1.cell 1
  have z2 : w2.cell? ⟨w.heap.size + 1, 2, none⟩ = some (.float .f64 0) := K1.cell 2
  have z3 : w2.cell? ⟨w.heap.size + 1, 3, none⟩ = some (.string ⟨#[]⟩) := K1.cell 3
  have f0 := K1.free 0
  have f1 := K1.free 1
  have f2 := K1.free 2
  have f3 := K1.free 3
  clear hn hw2 X2 B2 K0 K1 hx
  generalize hy : w.heap.size = Y at *
  unfold evV
  go_enter Try.func22, Try.ntmps22
  go_wp2_with fail
  rw [← W2.out]
  go_loop [6] (fun i => ∃ j : Nat, i = .int .i64 j ∧ j ≤ n ∧ Hid (findF (L.take j) s = none)) (fun i => n - (intOf i).toNat)
  case atStart => exact ⟨0, rfl, Nat.zero_le _, Lib.hid rfl⟩
  case round =>
    obtain ⟨j, rfl, hj, hf⟩ := hrel
    by_cases hjn : j < n
    · have hjL : j < L.length := by rw [HN.out]; exact hjn
      obtain ⟨g0, o, rfl, hg0, c0, c1, c2, c3, c4⟩ := X2h.out j hjL
      have FT := Lib.hid (findF_take hjL hf.out)
      have FA := Lib.hid (findF_at hjL hf.out)
      generalize L[j] = x at *
      obtain ⟨xn, xk, xm, xf, xs⟩ := x
      simp only at c0 c1 c2 c3 c4 FT FA
      by_cases he : xn = s
      · have E1 : (xn.toList == s.toList) = true := by rw [str_eq]; exact decide_eq_true he
        have F5 := Lib.hid (FA.out he)
        obtain ⟨W5, hW5, R5, B5⟩ := val_stored (w := w) (Nat.le_succ Y) ⟨xk, xm, xf, xs⟩ K1h.out rfl B2h.out
        have W5h := Lib.hid hW5
        have R5h := Lib.hid R5
        have B5h := Lib.hid B5
        clear he hW5 R5 B5 FT FA
        go_wp2_with fail
        rw [← W5h.out]
        have q0 : W5.cell? ⟨Y + 1, 0, none⟩ = some (.int .i64 xk) := R5h.out.cell 0
        have q1 : W5.cell? ⟨Y + 1, 1, none⟩ = some (.int .i64 xm) := R5h.out.cell 1
        have q2 : W5.cell? ⟨Y + 1, 2, none⟩ = some (.float .f64 xf) := R5h.out.cell 2
        have q3 : W5.cell? ⟨Y + 1, 3, none⟩ = some (.string xs) := R5h.out.cell 3
        refine bodyPost_ret (by simp [results, Try.results22, go_sem, q0, q1, q2, q3]; try rfl) rfl ?_
        exact ⟨by rw [F5.out]; rfl, hy ▸ B5h.out⟩
      · have E1 : (xn.toList == s.toList) = false := by rw [str_eq]; exact decide_eq_false he
        have F5 := Lib.hid (FT.out.trans (if_neg he))
        clear he FT FA
        go_wp2_with fail
        go_round
        case rel => exact ⟨j + 1, by go_num, by omega, F5⟩
        case measure => simp [intOf]; omega
    · obtain rfl : j = n := by omega
      have F5 : Hid (findF L s = none) := Lib.hid (by
        have := hf.out
        rw [← HN.out, List.take_of_length_le (Nat.le_refl _)] at this
        exact this)
      obtain ⟨W5, hW5, R5, B5⟩ := val_stored (w := w) (Nat.le_succ Y) v0 K1h.out rfl B2h.out
      unfold v0 at hW5 R5
      simp only at hW5 R5
      have W5h := Lib.hid hW5
      have R5h := Lib.hid R5
      have B5h := Lib.hid B5
      clear hW5 R5 B5 hf
      go_wp2_with fail
      rw [← W5h.out]
      have q0 : W5.cell? ⟨Y + 1, 0, none⟩ = some (.int .i64 0) := R5h.out.cell 0
      have q1 : W5.cell? ⟨Y + 1, 1, none⟩ = some (.int .i64 0) := R5h.out.cell 1
      have q2 : W5.cell? ⟨Y + 1, 2, none⟩ = some (.float .f64 0) := R5h.out.cell 2
      have q3 : W5.cell? ⟨Y + 1, 3, none⟩ = some (.string ⟨#[]⟩) := R5h.out.cell 3
      refine bodyPost_ret (by simp [results, Try.results22, go_sem, q0, q1, q2, q3]; try rfl) rfl ?_
      exact ⟨by rw [F5.out]; rfl, hy ▸ B5h.out⟩
end Go.Proofs.Ytgenefamhhncbaa
