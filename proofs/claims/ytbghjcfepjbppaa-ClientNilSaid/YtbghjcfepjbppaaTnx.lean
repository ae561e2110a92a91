/-
  WHOM A CLIENT ASKS: next, turn; Late; a session is opened.
-/
import Derived.Test.YtbghjcfepjbppaaTad
namespace Go.Proofs.Ytbghjcfepjbppaa
open Go.RowKit
/-- the next node is asked -/
def NextR (w : World) (t : Nat) (ty : TypeId) (cs : Array Value) (nodes to : Int) (e : Ending) (w' : World) : Prop :=
  e = .returned (.tuple #[]) ∧ Blk w' t ty (cs.setIfInBounds 1 (.int .i64 (nextN to nodes))) ∧ Fr w w' (fun q => q = t)
theorem next_end0 {w : World} {t : Nat} {ty : TypeId} {cs : Array Value} {nodes to : Int} (T : Blk w t ty cs) (h : nextN to nodes = to + 1) (n : Nat) :
    NextR w t ty cs nodes to (.returned (.tuple #[])) ((w.setCell ⟨t, 1, none⟩ (.int .i64 (to + 1))).drewN n) := by
  refine ⟨rfl, ?_, (fr_set w t 1 _).on ⟨rfl, rfl, rfl, Nat.le_refl _, fun _ _ _ => rfl⟩⟩
  rw [h]
  exact T.set 1 _
theorem next_end1 {w : World} {t : Nat} {ty : TypeId} {cs : Array Value} {nodes to : Int} {x : Value} (T : Blk w t ty cs) (h : nextN to nodes = 0) (n : Nat) :
    NextR w t ty cs nodes to (.returned (.tuple #[])) (((w.setCell ⟨t, 1, none⟩ x).drewN n).setCell ⟨t, 1, none⟩ (.int .i64 0)) := by
  refine ⟨rfl, ?_, ((fr_set w t 1 _).on (w2 := (w.setCell ⟨t, 1, none⟩ x).drewN n) ⟨rfl, rfl, rfl, Nat.le_refl _, fun _ _ _ => rfl⟩).set t 1 _ (.inl rfl)⟩
  have h1 : Blk ((w.setCell ⟨t, 1, none⟩ x).drewN n) t ty (cs.setIfInBounds 1 x) := T.set 1 x
  have h2 := h1.set 1 (.int .i64 0)
  rw [h]
  rw [show (cs.setIfInBounds 1 x).setIfInBounds 1 (.int .i64 0) = cs.setIfInBounds 1 (.int .i64 0) by simp] at h2
  exact h2
set_option maxHeartbeats 1000000 in
theorem next_any {w : World} {t : Nat} {ty : TypeId} {cs : Array Value} {nodes to : Int} (T : Blk w t ty cs) (h0 : cs[0]? = some (.int .i64 nodes)) (h1 : cs[1]? = some (.int .i64 to)) (ht : 0 ≤ to ∧ to ≤ 100) (hn : nodes ≤ 100) :
    Calls Try.prog 49 #[.pointer (some ⟨t, 0, none⟩)] w (NextR w t ty cs nodes to) := by
  have c0 : w.cell? ⟨t, 0, none⟩ = some (.int .i64 nodes) := (T.cell 0).trans h0
  have c1 : w.cell? ⟨t, 1, none⟩ = some (.int .i64 to) := (T.cell 1).trans h1
  have fz : ∀ i, w.frozen? ⟨t, i, none⟩ = false := T.free
  by_cases hb : to + 1 < nodes
  · have FIN := Lib.hid (fun n => next_end0 T (show nextN to nodes = to + 1 by unfold nextN; rw [if_pos hb]) n)
    have hd : decide (nodes ≤ to + 1) = false := by simp; omega
    generalize NextR w t ty cs nodes to = Q at *
    have hw : wrap64 (to + 1) = to + 1 := by unfold wrap64; omega
    clear T h0 h1
    go_enter Try.func49, Try.ntmps49
    go_wp2_with fail
    go_quiet (fail)
    go_wp2_with fail
    all_goals ((try go_end0); exact FIN.out _)
  · have FIN := Lib.hid (fun n x => next_end1 (x := x) T (show nextN to nodes = 0 by unfold nextN; rw [if_neg hb]) n)
    have hd : decide (nodes ≤ to + 1) = true := by simp; omega
    generalize NextR w t ty cs nodes to = Q at *
    have hw : wrap64 (to + 1) = to + 1 := by unfold wrap64; omega
    clear T h0 h1
    go_enter Try.func49, Try.ntmps49
    go_wp2_with fail
    go_quiet (fail)
    go_wp2_with fail
    all_goals ((try go_end0); exact FIN.out _ _)
theorem late_any {w : World} {t : Nat} {nodes to id sq : Int} {wv rv : Value} (T : Blk w t 98 (tel nodes to id sq wv rv)) (ht : 0 ≤ to ∧ to ≤ 100) (hn : nodes ≤ 100) :
    Calls Try.prog 15 #[.pointer (some ⟨t, 0, none⟩)] w fun e w' => e = .returned (.tuple #[]) ∧ Blk w' t 98 (tel nodes (nextN to nodes) id sq wv rv) ∧ Fr w w' (fun q => q = t) := by
  have NX := Lib.hid (next_any T rfl rfl ht hn)
  clear T
  go_enter Try.func15, Try.ntmps15
  go_wp2_with fail
  refine NX.out.mono ?_
  rintro e w1 ⟨rfl, T1, f1⟩
  have T1 := Lib.hid T1
  have f1 := Lib.hid f1
  go_wp2_with fail
  go_end0
  exact ⟨rfl, T1.out, f1.out⟩
theorem late_nil (w : World) : Calls Try.prog 15 #[.pointer none] w fun e w' => e = .returned (.tuple #[]) ∧ w = w' := by
  go_enter Try.func15, Try.ntmps15
  go_wp2_with fail
  go_end0
  exact ⟨rfl, rfl⟩
end Go.Proofs.Ytbghjcfepjbppaa
