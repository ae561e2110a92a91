/-
  FOR AgendaPlays: an act on both: the first one.
-/
import Derived.Test.YtiklaaganiafjabDoes
import Derived.Test.YtiklaaganiafjabRfirst
namespace Go.Proofs.Ytiklaaganiafjab
open Go.RowKit
theorem fst_form (R : List It) : ∃ (y : It) (b : Bool), fstV R = .tuple #[.agg #[.int .i64 y.t, .int .i64 y.i, .int .i64 y.x], .bool b] := by
  cases R with
  | nil => exact ⟨⟨0, 0, 0⟩, false, rfl⟩
  | cons x R => exact ⟨x, true, rfl⟩
theorem blk3_new (w : World) (t : TypeId) (u v x : Value) : Blk3 (w.alloc (Obj.cells #[u, v, x] t)) w.heap.size t u v x := heap_alloc_new _ _
set_option maxHeartbeats 4000000 in
set_option maxRecDepth 100000 in
theorem does_first (a : Option Addr) (c : Nat) (B A : Nat) (Z p q : Int) (r : Option Nat) (R : List It) (w : World) (h : DA w B A Z r R a c) (hZ : 0 ≤ Z) :
    Calls Try.prog 11 #[.pointer (some ⟨A, 0, none⟩), .agg #[.slice a R.length c, .int .i64 Z], .agg #[.int .i64 2, .int .i64 p, .int .i64 q]] w (Doed w B A Z r R) := by
  have H := Lib.hid h
  obtain ⟨w1, hw1, k4, k5, k6, b1, hs⟩ := wD_ok w a R.length c Z 2 p q
  have W1 := Lib.hid hw1
  have K4 := Lib.hid k4
  have K6 := Lib.hid k6
  have B1 := Lib.hid b1
  have hsz : w.heap.size + 1 + 1 < w1.heap.size := by omega
  have F1 := rfirst_any a c Z R w1 (h.below b1).i
  have F2 := fun w' hb => first_any w' B A Z r R (h.below (w' := w') hb).g
  obtain ⟨y, b, hy⟩ := fst_form R
  obtain ⟨yt, yi, yx⟩ := y
  simp only at hy
  rw [hy] at F1 F2
  have F1 := Lib.hid F1
  have F2 := Lib.hid F2
  have y0 := k4.c0
  have y1 := k4.c1
  have z0 := k5.c0
  clear hs h hw1 b1 k4 k5 k6 hy
  go_enter Try.func11, Try.ntmps11
  go_wp2_with fail
  rw [← W1.out]
  clear W1
  refine F1.out.mono ?_
  rintro e w2 ⟨rfl, b2⟩
  obtain ⟨w3, hw3, b3, l3⟩ : ∃ w3, w3 = w2.alloc (Obj.cells #[.int .i64 yt, .int .i64 yi, .int .i64 yx] 60) ∧ Below w2.heap.size w2 w3 ∧ Blk3 w3 w2.heap.size 60 (.int .i64 yt) (.int .i64 yi) (.int .i64 yx) := ⟨_, rfl, (Below.refl _ _).alloc (Nat.le_refl _) _, blk3_new _ _ _ _ _⟩
  have BB := Lib.hid (b2.trans (b3.mono b2.size))
  have W3 := Lib.hid hw3
  have L3 := Lib.hid l3
  have hs2 := b2.size
  have hlt3 := l3.lt
  clear F1 y0 y1 hw3 b2 b3 l3 z0
  go_wp2_with fail
  rw [← W3.out]
  clear W3
  refine (F2.out w3 (B1.out.trans (BB.out.mono B1.out.size))).mono ?_
  rintro e w4 ⟨rfl, b4⟩
  obtain ⟨w5, hw5, b5, l5⟩ : ∃ w5, w5 = w4.alloc (Obj.cells #[.int .i64 yt, .int .i64 yi, .int .i64 yx] 46) ∧ Below w4.heap.size w4 w5 ∧ Blk3 w5 w4.heap.size 46 (.int .i64 yt) (.int .i64 yi) (.int .i64 yx) := ⟨_, rfl, (Below.refl _ _).alloc (Nat.le_refl _) _, blk3_new _ _ _ _ _⟩
  have b35 := b4.trans (b5.mono b4.size)
  have L3' := L3.out.below b35 hlt3
  have b15 := BB.out.trans (b35.mono BB.out.size)
  have K4' := K4.out.below b15 (by omega)
  have K6' := K6.out.below b15 (by omega)
  have FIN : Hid (∀ w6, Below w.heap.size w5 w6 → Doed w B A Z r R (.returned (.tuple #[.agg #[.slice a R.length c, .int .i64 Z], .bool true])) w6) := Lib.hid (fun w6 h6 => by
    have hb := (B1.out.trans (b15.mono B1.out.size)).trans h6
    exact ⟨a, c, Z, r, R, rfl, H.out.below hb, by omega, hZ, by omega, Tch.of_below hb⟩)
  have W5 := Lib.hid hw5
  have K6h := Lib.hid K6'
  have y0 := K4'.c0
  have y1 := K4'.c1
  have x0 := K6'.c0
  have x1 := K6'.c1
  have f0 := K6'.f 0
  have f1 := K6'.f 1
  have p0 := L3'.c0
  have p1 := L3'.c1
  have p2 := L3'.c2
  have q0 := l5.c0
  have q1 := l5.c1
  have q2 := l5.c2
  generalize R.length = n at *
  clear BB B1 F2 b35 L3' b15 K4' K6' hw5 b4 b5 l5 L3 K4 H
  go_wp2_with fail
  rw [← W5.out]
  clear W5
  go_region
  obtain ⟨W6, hW6, z0, z1, B6⟩ : ∃ W6 : World, W6 = ((w5.setCell ⟨w.heap.size + 1 + 1, 0, none⟩ (.slice a n c)).setCell ⟨w.heap.size + 1 + 1, 1, none⟩ (.int .i64 Z)).drew ∧ W6.cell? ⟨w.heap.size + 1 + 1, 0, none⟩ = some (.slice a n c) ∧ W6.cell? ⟨w.heap.size + 1 + 1, 1, none⟩ = some (.int .i64 Z) ∧ Below w.heap.size w5 W6 :=
    ⟨_, rfl, (K6h.out.set _ _).c0, (K6h.out.set _ _).c1, (below_set2 (Below.refl _ _) (by omega) _ _).drew⟩
  rw [← hW6]
  clear hW6 y0 y1 x0 x1 f0 f1 p0 p1 p2 q0 q1 q2
  go_wp2_with fail
  refine bodyPost_ret (by simp [results, Try.results11, go_sem, z0, z1]; try rfl) rfl ?_
  exact FIN.out _ B6
end Go.Proofs.Ytiklaaganiafjab
