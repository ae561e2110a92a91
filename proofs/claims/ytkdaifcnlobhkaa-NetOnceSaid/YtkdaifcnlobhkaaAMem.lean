/-
  ITEMS IN MEMORY: three cells each; a row of the program's own reads and is written item by item.
-/
import Derived.Test.YtkdaifcnlobhkaaRows
import Derived.Test.YtkdaifcnlobhkaaAPlain
import Derived.WalkKit
import Derived.Lib.Hide
import Derived.WalkLawsBesides
import Derived.Handy
import Derived.RegionTactic
import Derived.LoopTactic
import Derived.Laws.OwnMore
import Derived.BigRegion
import Derived.ChangeAlike
import Derived.StillTailTactics
import Derived.Lib.QuietBelow
import Derived.BigQuiet
namespace Go.Proofs.Ytkdaifcnlobhkaa.Ag
open Go.RowKit
def enc (x : It) : List Value := [.int .i64 x.t, .int .i64 x.i, .int .i64 x.x]
def agg (x : It) : Value := .agg #[.int .i64 x.t, .int .i64 x.i, .int .i64 x.x]
def cells (l : List It) : List Value := l.flatMap enc
theorem cells_cons (x : It) (l : List It) : cells (x :: l) = enc x ++ cells l := rfl
theorem cells_append (l r : List It) : cells (l ++ r) = cells l ++ cells r := by unfold cells; rw [List.flatMap_append]
theorem cells_len (l : List It) : (cells l).length = l.length * 3 := by
  induction l with
  | nil => rfl
  | cons x l ih => rw [cells_cons, List.length_append, ih, List.length_cons]; show 3 + _ = _; omega
theorem cells_get : ∀ {l : List It} {k : Nat} (h : k < l.length), (cells l)[k * 3]? = some (.int .i64 l[k].t) ∧ (cells l)[k * 3 + 1]? = some (.int .i64 l[k].i) ∧ (cells l)[k * 3 + 2]? = some (.int .i64 l[k].x)
  | x :: l, 0, _ => ⟨rfl, rfl, rfl⟩
  | x :: l, k + 1, h => by
    have ih := cells_get (l := l) (k := k) (by simpa using h)
    rw [cells_cons]
    have e : (enc x).length = 3 := rfl
    rw [List.getElem?_append_right (by omega), List.getElem?_append_right (by omega), List.getElem?_append_right (by omega), e, show (k + 1) * 3 - 3 = k * 3 by omega, show (k + 1) * 3 + 1 - 3 = k * 3 + 1 by omega, show (k + 1) * 3 + 2 - 3 = k * 3 + 2 by omega]
    exact ih
theorem cells_set : ∀ (l : List It) (k : Nat) (x : It), (((cells l).set (k * 3) (.int .i64 x.t)).set (k * 3 + 1) (.int .i64 x.i)).set (k * 3 + 2) (.int .i64 x.x) = cells (l.set k x)
  | [], k, x => by simp [cells]
  | y :: l, 0, x => rfl
  | y :: l, k + 1, x => by
    have ih := cells_set l k x
    rw [cells_cons, List.set_cons_succ, cells_cons, ← ih]
    have e : (enc y).length = 3 := rfl
    rw [List.set_append_right _ _ (by omega), List.set_append_right _ _ (by omega), List.set_append_right _ _ (by omega), e, show (k + 1) * 3 - 3 = k * 3 by omega, show (k + 1) * 3 + 1 - 3 = k * 3 + 1 by omega, show (k + 1) * 3 + 2 - 3 = k * 3 + 2 by omega]
/-- a row of items of the program's own: block g, behind B -/
def RowG (w : World) (B g cap : Nat) (l : List It) : Prop := w.ownsRow B 87 3 (.slice (some ⟨g, 0, none⟩) l.length cap) l.length (cells l)
theorem RowG.cell {w : World} {B g cap : Nat} {l : List It} (h : RowG w B g cap l) {k : Nat} (hk : k < l.length) :
    w.cell? ⟨g, k * 3, none⟩ = some (.int .i64 l[k].t) ∧ w.cell? ⟨g, k * 3 + 1, none⟩ = some (.int .i64 l[k].i) ∧ w.cell? ⟨g, k * 3 + 2, none⟩ = some (.int .i64 l[k].x) := by
  obtain ⟨c1, c2, c3⟩ := cells_get hk
  unfold RowG at h
  exact ⟨by rw [h.cellAt _ (by omega), c1], by rw [h.cellAt _ (by omega), c2], by rw [h.cellAt _ (by omega), c3]⟩
theorem RowG.free {w : World} {B g cap : Nat} {l : List It} (h : RowG w B g cap l) (j : Nat) : w.frozen? ⟨g, j, none⟩ = false := World.ownsRow.frozenAt h j
theorem RowG.put {w : World} {B g cap : Nat} {l : List It} (h : RowG w B g cap l) (k : Nat) (x : It) :
    RowG (((w.setCell ⟨g, k * 3, none⟩ (.int .i64 x.t)).setCell ⟨g, k * 3 + 1, none⟩ (.int .i64 x.i)).setCell ⟨g, k * 3 + 2, none⟩ (.int .i64 x.x)) B g cap (l.set k x) := by
  unfold RowG at *
  rw [← cells_set, List.length_set]
  exact (World.ownsRow.stored (World.ownsRow.stored (World.ownsRow.stored h _ _).1 _ _).1 _ _).1
theorem grown_put (w : World) (g j : Nat) (u : Value) : w.grownBy (w.setCell ⟨g, j, none⟩ u) (some g) :=
  have b := (Below.refl g w).setCell (p := ⟨g, j, none⟩) (Nat.le_refl _) u
  ⟨b.os, b.tape, b.output, b.size, fun k _ hne => Below.heap_setCell w ⟨g, j, none⟩ u k (by rintro rfl; exact hne rfl)⟩
theorem World.grownBy.trans' {a b c : World} {row : Option Nat} (h : a.grownBy b row) (k : b.grownBy c row) : a.grownBy c row :=
  ⟨k.os.trans h.os, k.tape.trans h.tape, k.output.trans h.output, Nat.le_trans h.size k.size, fun i hi hne => (k.block i (Nat.lt_of_lt_of_le hi h.size) hne).trans (h.block i hi hne)⟩
theorem grown_drewN (w : World) (n : Nat) (row : Option Nat) : w.grownBy (w.drewN n) row := ⟨rfl, rfl, rfl, Nat.le_refl _, fun _ _ _ => rfl⟩
theorem swap_any (B g cap : Nat) (l : List It) (i j : Nat) (hi : i < l.length) (hj : j < l.length) (_hl : l.length ≤ 9223372036854775807) (w : World) (h : RowG w B g cap l) :
    Calls Try.prog 105 #[.slice (some ⟨g, 0, none⟩) l.length cap, .int .i64 i, .int .i64 j] w fun e w' => e = .returned (.tuple #[]) ∧ RowG w' B g cap (swp l i j) ∧ w.grownBy w' (some g) := by
  obtain ⟨a1, a2, a3⟩ := h.cell hi
  obtain ⟨b1, b2, b3⟩ := h.cell hj
  have f := h.free
  obtain ⟨v1, d1⟩ := cell?_setCell_some (w := w) (p := ⟨g, i * 3, none⟩) (x := .int .i64 l[j].t) b1
  obtain ⟨v2, d2⟩ := cell?_setCell_some (w := w) (p := ⟨g, i * 3, none⟩) (x := .int .i64 l[j].t) b2
  obtain ⟨v2, d2⟩ := cell?_setCell_some (w := w.setCell ⟨g, i * 3, none⟩ (.int .i64 l[j].t)) (p := ⟨g, i * 3 + 1, none⟩) (x := .int .i64 l[j].i) d2
  obtain ⟨v3, d3⟩ := cell?_setCell_some (w := w) (p := ⟨g, i * 3, none⟩) (x := .int .i64 l[j].t) b3
  obtain ⟨v3, d3⟩ := cell?_setCell_some (w := w.setCell ⟨g, i * 3, none⟩ (.int .i64 l[j].t)) (p := ⟨g, i * 3 + 1, none⟩) (x := .int .i64 l[j].i) d3
  obtain ⟨v3, d3⟩ := cell?_setCell_some (w := (w.setCell ⟨g, i * 3, none⟩ (.int .i64 l[j].t)).setCell ⟨g, i * 3 + 1, none⟩ (.int .i64 l[j].i)) (p := ⟨g, i * 3 + 2, none⟩) (x := .int .i64 l[j].x) d3
  go_enter Try.func105, Try.ntmps105
  go_region
  all_goals go_end0
  all_goals
    refine ⟨rfl, ?_, ?_⟩
    · have := (h.put i l[j]).put j l[i]
      unfold swp
      rw [at_get hi, at_get hj]
      exact World.ownsRow.kept this (grown_drewN _ 1 none) (.inr (by simp [Value.ownBlock]))
    · exact World.grownBy.trans' (World.grownBy.trans' (World.grownBy.trans' (World.grownBy.trans' (World.grownBy.trans' (World.grownBy.trans' (grown_put w g (i * 3) _) (grown_put _ g _ _)) (grown_put _ g _ _)) (grown_put _ g _ _)) (grown_put _ g _ _)) (grown_put _ g _ _)) (grown_drewN _ 1 _)
theorem len_row (v : Value) (a : Option Addr) (n c : Nat) (hv : v = .slice a n c) (w : World) : Calls Try.prog 103 #[v] w fun e w' => e = .returned (.int .i64 n) ∧ w = w' := by
  subst hv
  go_enter Try.func103, Try.ntmps103
  go_wp2_with fail
  go_ret
  exact ⟨rfl, rfl⟩
/-- how two numbers stand -/
def cmpI (a b : Int) : Int := if a < b then -1 else if b < a then 1 else 0
theorem isNaN_any (a : Int) (w : World) : Calls Try.prog 109 #[.int .i64 a] w fun e w' => e = .returned (.bool false) ∧ w = w' := by
  go_enter Try.func109, Try.ntmps109
  go_wp2_with fail
  go_ret
  exact ⟨by simp, rfl⟩
theorem compare_any (a b : Int) (w : World) : Calls Try.prog 108 #[.int .i64 a, .int .i64 b] w fun e w' => e = .returned (.int .i64 (cmpI a b)) ∧ w = w' := by
  unfold cmpI
  by_cases h1 : a < b
  · rw [if_pos h1]
    go_enter Try.func108, Try.ntmps108
    go_wp2_with (go_at_call 109; refine (isNaN_any _ _).mono ?_; rintro r w1 ⟨rfl, rfl⟩)
    go_ret
    exact ⟨rfl, rfl⟩
  · rw [if_neg h1]
    by_cases h2 : b < a
    · rw [if_pos h2]
      go_enter Try.func108, Try.ntmps108
      go_wp2_with (go_at_call 109; refine (isNaN_any _ _).mono ?_; rintro r w1 ⟨rfl, rfl⟩)
      go_ret
      exact ⟨rfl, rfl⟩
    · rw [if_neg h2]
      go_enter Try.func108, Try.ntmps108
      go_wp2_with (go_at_call 109; refine (isNaN_any _ _).mono ?_; rintro r w1 ⟨rfl, rfl⟩)
      go_ret
      exact ⟨rfl, rfl⟩
/-- the first that is not 0 -/
theorem or_any (a b : Int) (g : Nat) (w : World) (h1 : w.cell? ⟨g, 0, none⟩ = some (.int .i64 a)) (h2 : w.cell? ⟨g, 1, none⟩ = some (.int .i64 b)) :
    Calls Try.prog 107 #[.slice (some ⟨g, 0, none⟩) 2 2] w fun e w' => e = .returned (.int .i64 (if a = 0 then b else a)) ∧ w = w' := by
  by_cases ha : a = 0
  · rw [if_pos ha]
    subst ha
    by_cases hb : b = 0
    · subst hb
      go_enter Try.func107, Try.ntmps107
      go_wp2_with fail
      go_rounds 3
      go_ret
      exact ⟨rfl, rfl⟩
    · have hb' : (b != 0) = true := by simpa using hb
      have hb'' : (b == 0) = false := by simpa using hb
      go_enter Try.func107, Try.ntmps107
      go_wp2_with fail
      go_rounds 3
      go_ret
      exact ⟨rfl, rfl⟩
  · rw [if_neg ha]
    have hb' : (a != 0) = true := by simpa using ha
    have hb'' : (a == 0) = false := by simpa using ha
    clear ha
    go_enter Try.func107, Try.ntmps107
    go_wp2_with fail
    go_rounds 2
    go_ret
    exact ⟨rfl, rfl⟩
def cfI (x y : It) : Int := if cmpI x.t y.t = 0 then cmpI x.i y.i else cmpI x.t y.t
set_option maxRecDepth 100000 in
theorem order_any (x y : It) (w : World) : Calls Try.prog 106 #[agg x, agg y] w fun e w' => e = .returned (.int .i64 (cfI x y)) ∧ Below w.heap.size w w' := by
  unfold agg cfI
  have A := fun w => (compare_any x.t y.t w).mono (fun _ _ h => ⟨h.1, h.2.symm⟩ : ∀ e w', _ → (e = .returned (.int .i64 (cmpI x.t y.t)) ∧ w' = w))
  have B := fun w => (compare_any x.i y.i w).mono (fun _ _ h => ⟨h.1, h.2.symm⟩ : ∀ e w', _ → (e = .returned (.int .i64 (cmpI x.i y.i)) ∧ w' = w))
  generalize cmpI x.t y.t = p at *
  generalize cmpI x.i y.i = q at *
  go_enter Try.func106, Try.ntmps106
  go_wp2_with fail
  obtain ⟨w2, hw2⟩ : ∃ w2 : World, w2 = (w.alloc (Obj.cells #[Value.int IntKind.i64 x.t, Value.int IntKind.i64 x.i, Value.int IntKind.i64 x.x] 87)).alloc (Obj.cells #[Value.int IntKind.i64 y.t, Value.int IntKind.i64 y.i, Value.int IntKind.i64 y.x] 87) := ⟨_, rfl⟩
  rw [← hw2]
  have x0 : w2.cell? ⟨w.heap.size, 0, none⟩ = some (.int .i64 x.t) := by rw [hw2]; go_simp
  have x1 : w2.cell? ⟨w.heap.size, 1, none⟩ = some (.int .i64 x.i) := by rw [hw2]; go_simp
  have y0 : w2.cell? ⟨w.heap.size + 1, 0, none⟩ = some (.int .i64 y.t) := by rw [hw2]; go_simp
  have y1 : w2.cell? ⟨w.heap.size + 1, 1, none⟩ = some (.int .i64 y.i) := by rw [hw2]; go_simp
  have b2 : Below w.heap.size w w2 := by rw [hw2]; exact ((Below.refl _ _).alloc (Nat.le_refl _) _).alloc (by simp) _
  clear hw2
  refine wp_region_still_tail 10 (by kernel_rfl) (by kernel_rfl) ?_
  simp only [List.take_succ_cons, List.take_zero, List.drop_succ_cons, List.drop_zero]
  still_step
  still_step
  still_step
  still_step
  still_call (A _)
  still_step
  still_step
  still_step
  still_step
  still_call (B _)
  refine wpStill_nil ?_
  change wpList _ _ _ _ _ w2.drew
  have b3 := b2.drew
  generalize w2.drew = w3 at *
  go_wp2_with (go_at_call 107; refine (or_any p q _ _ (by go_simp) (by go_simp)).mono ?_; rintro r w1 ⟨rfl, rfl⟩)
  all_goals go_ret
  all_goals exact ⟨rfl, b3.alloc b3.size _⟩
theorem lt_cf (x y : It) : decide (cfI x y < 0) = decide (x.lt y) := by
  apply Bool.eq_iff_iff.2
  simp only [decide_eq_true_eq]
  unfold cfI cmpI It.lt
  by_cases h1 : x.t < y.t
  · simp [h1]
  · by_cases h2 : y.t < x.t
    · have : ¬ x.t = y.t := by omega
      simp [h1, h2, this]
    · have : x.t = y.t := by omega
      by_cases h3 : x.i < y.i
      · simp [this, h3]
      · by_cases h4 : y.i < x.i <;> simp [this, h3, h4]
theorem mixed : Try.prog.follows .mixedOrders = true := by kernel_rfl
theorem less_any (B g cap : Nat) (l : List It) (i j : Nat) (hi : i < l.length) (hj : j < l.length) (_hl : l.length ≤ 9223372036854775807) (w : World) (h : RowG w B g cap l) :
    Calls Try.prog 104 #[.slice (some ⟨g, 0, none⟩) l.length cap, .int .i64 i, .int .i64 j] w fun e w' => e = .returned (.bool (decide ((at_ l i).lt (at_ l j)))) ∧ Below w.heap.size w w' := by
  have c1 := h.cell hi
  have c2 := h.cell hj
  rw [at_get hi, at_get hj]
  have a1 := fun d os => cell_regrown c1.1 d os
  have a2 := fun d os => cell_regrown c1.2.1 d os
  have a3 := fun d os => cell_regrown c1.2.2 d os
  have b1 := fun d os => cell_regrown c2.1 d os
  have b2 := fun d os => cell_regrown c2.2.1 d os
  have b3 := fun d os => cell_regrown c2.2.2 d os
  have R := Lib.hid (lt_cf l[i] l[j])
  have CF := Lib.hid (fun d os => Calls.regrown_of (d := d) (os := os) (order_any l[i] l[j] (Go.Sort.grow (redrawn w d) os)))
  unfold agg at CF
  generalize l[i] = x at *
  generalize l[j] = y at *
  clear c1 c2 h
  go_enter Try.func104, Try.ntmps104
  go_wp2_with fail
  refine wp_region_quiet_below mixed (by kernel_rfl) ?_
  repeat (quiet_step (exact CF.out _ _))
  refine wpQuiet_nil ?_
  intro _ hw'
  obtain ⟨⟨dq, osq⟩, hw''⟩ := hw'
  subst hw''
  go_wp2_with fail
  go_ret
  exact ⟨by rw [R.out]; rfl, below_regrown w dq osq⟩
end Go.Proofs.Ytkdaifcnlobhkaa.Ag
