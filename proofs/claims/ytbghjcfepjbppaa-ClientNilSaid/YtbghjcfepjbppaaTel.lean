/-
  A TELLER IN MEMORY: many, NewTeller, Left, open, next, turn, Late, Session, came (where a session is opened).
-/
import Derived.Test.YtbghjcfepjbppaaEvm
import Derived.Test.YtbghjcfepjbppaaCln
import Derived.BigQuiet
import Derived.Handy
import Derived.Lib.QuietBelow
import Derived.Deep.QuietTactic
import Derived.Lib.Hide
namespace Go.Proofs.Ytbghjcfepjbppaa
open Go.RowKit
/-- a teller's cells -/
def tel (nodes to id sq : Int) (wv rv : Value) : Array Value := #[.int .i64 nodes, .int .i64 to, .int .i64 id, .int .i64 sq, wv, rv]
theorem Blk.set {w : World} {g : Nat} {t : TypeId} {cs : Array Value} (h : Blk w g t cs) (i : Nat) (u : Value) : Blk (w.setCell ⟨g, i, none⟩ u) g t (cs.setIfInBounds i u) := by
  unfold Blk at h ⊢
  simp [World.setCell, Array.getElem?_modify, h]
theorem Blk.new (w : World) (t : TypeId) (cs : Array Value) : Blk (w.alloc (.cells cs t)) w.heap.size t cs := heap_alloc_new w _
theorem Blk.at_ {w w' : World} {g B : Nat} {t : TypeId} {cs : Array Value} (h : Blk w g t cs) (hb : Below B w w') (hg : g < B) : Blk w' g t cs := (hb.block g hg).trans h
theorem drewB {B : Nat} {a w : World} (h : Below B a w) (n : Nat) : Below B a (w.drewN n) := ⟨h.os, h.tape, h.output, h.size, h.block⟩
def manyB (n : Int) : Bool := decide (1 ≤ n) && decide (n ≤ 7)
theorem many_any (n : Int) (w : World) : Calls Try.prog 38 #[.int .i64 n] w fun e w' => e = .returned (.bool (manyB n)) ∧ w = w' := by
  unfold manyB
  by_cases h1 : 1 ≤ n
  · by_cases h2 : n ≤ 7
    · rw [decide_eq_true h1, decide_eq_true h2]
      go_enter Try.func38, Try.ntmps38
      go_wp2_with fail
      go_ret
      exact ⟨ret_bool (by simp), rfl⟩
    · rw [decide_eq_true h1, decide_eq_false h2]
      have h3 : 7 < n := by omega
      go_enter Try.func38, Try.ntmps38
      go_wp2_with fail
      go_ret
      exact ⟨ret_bool (by simp), rfl⟩
  · rw [decide_eq_false h1]
    have h3 : n < 1 := by omega
    go_enter Try.func38, Try.ntmps38
    go_wp2_with fail
    go_ret
    exact ⟨rfl, rfl⟩
theorem tel_new (n : Int) (h : manyB n = true) (w : World) : Calls Try.prog 7 #[.int .i64 n] w fun e w' => e = .returned (.pointer (some ⟨w.heap.size, 0, none⟩)) ∧ Blk w' w.heap.size 98 (tel n 0 0 0 (.slice none 0 0) (.slice none 0 0)) ∧ Below w.heap.size w w' := by
  have M := many_any n
  rw [h] at M
  have FIN := Lib.hid (show Blk (w.alloc (.cells (tel n 0 0 0 (.slice none 0 0) (.slice none 0 0)) 98)) w.heap.size 98 (tel n 0 0 0 (.slice none 0 0) (.slice none 0 0)) ∧ Below w.heap.size w (w.alloc (.cells (tel n 0 0 0 (.slice none 0 0) (.slice none 0 0)) 98)) from ⟨Blk.new _ _ _, (Below.refl _ w).alloc (Nat.le_refl _) _⟩)
  go_enter Try.func7, Try.ntmps7
  go_wp2_with fail
  refine (M _).mono ?_
  rintro e w1 ⟨rfl, rfl⟩
  go_wp2_with fail
  go_ret
  exact ⟨rfl, FIN.out⟩
theorem tel_newN (n : Int) (h : manyB n = false) (w : World) : Calls Try.prog 7 #[.int .i64 n] w fun e w' => e = .returned (.pointer none) ∧ w = w' := by
  have M := many_any n
  rw [h] at M
  go_enter Try.func7, Try.ntmps7
  go_wp2_with fail
  refine (M _).mono ?_
  rintro e w1 ⟨rfl, rfl⟩
  go_wp2_with fail
  go_ret
  exact ⟨rfl, rfl⟩
section
variable {w : World} {t : Nat} {nodes to id sq : Int} {wv rv : Value}
theorem left_any {a : Option Addr} {n c : Nat} (T : Blk w t 98 (tel nodes to id sq (.slice a n c) rv)) : Calls Try.prog 36 #[.pointer (some ⟨t, 0, none⟩)] w fun e w' => e = .returned (.int .i64 (n : Int)) ∧ w = w' := by
  have c4 : w.cell? ⟨t, 4, none⟩ = some (.slice a n c) := T.cell 4
  clear T
  go_enter Try.func36, Try.ntmps36
  go_wp2_with fail
  go_ret
  exact ⟨rfl, rfl⟩
theorem left_nil (w : World) : Calls Try.prog 36 #[.pointer none] w fun e w' => e = .returned (.int .i64 0) ∧ w = w' := by
  go_enter Try.func36, Try.ntmps36
  go_wp2_with fail
  go_ret
  exact ⟨rfl, rfl⟩
theorem open_any (T : Blk w t 98 (tel nodes to id sq wv rv)) : Calls Try.prog 45 #[.pointer (some ⟨t, 0, none⟩)] w fun e w' => e = .returned (.bool (id != 0)) ∧ w = w' := by
  have c2 : w.cell? ⟨t, 2, none⟩ = some (.int .i64 id) := T.cell 2
  clear T
  go_enter Try.func45, Try.ntmps45
  go_wp2_with fail
  go_ret
  exact ⟨rfl, rfl⟩
theorem sess_any (T : Blk w t 98 (tel nodes to id sq wv rv)) : Calls Try.prog 35 #[.pointer (some ⟨t, 0, none⟩)] w fun e w' => e = .returned (.tuple #[.int .i64 id, .int .i64 sq]) ∧ Below w.heap.size w w' := by
  have c2 : w.cell? ⟨t, 2, none⟩ = some (.int .i64 id) := T.cell 2
  have c3 : w.cell? ⟨t, 3, none⟩ = some (.int .i64 sq) := T.cell 3
  have FIN := Lib.hid (fun n => drewB (Below.refl w.heap.size w) n)
  clear T
  go_enter Try.func35, Try.ntmps35
  go_wp2_with fail
  go_quiet (fail)
  go_wp2_with fail
  go_ret2
  all_goals exact ⟨rfl, FIN.out _⟩
theorem sess_nil (w : World) : Calls Try.prog 35 #[.pointer none] w fun e w' => e = .returned (.tuple #[.int .i64 0, .int .i64 0]) ∧ w = w' := by
  go_enter Try.func35, Try.ntmps35
  go_wp2_with fail
  go_ret2
  exact ⟨rfl, rfl⟩
end
/-- the next node -/
def nextN (to nodes : Int) : Int := if to + 1 < nodes then to + 1 else 0
end Go.Proofs.Ytbghjcfepjbppaa
