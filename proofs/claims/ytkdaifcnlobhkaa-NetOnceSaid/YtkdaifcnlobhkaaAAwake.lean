/-
  awake, AND THE LAW AgendaNil AS WALKS.
-/
import Derived.Test.YtkdaifcnlobhkaaADue
namespace Go.Proofs.Ytkdaifcnlobhkaa.Ag
open Go.RowKit
theorem due_split {R X R' : List It} {now : Int} (h : R = X ++ R') (h1 : ∀ x ∈ X, x.t ≤ now) (h2 : ∀ x ∈ R', now < x.t) : X = R.filter (fun x => decide (x.t ≤ now)) ∧ R' = R.filter (fun x => !decide (x.t ≤ now)) := by
  subst h
  rw [List.filter_append, List.filter_append]
  have a1 : X.filter (fun x => decide (x.t ≤ now)) = X := List.filter_eq_self.2 (fun x hx => by simp; exact h1 x hx)
  have a2 : R'.filter (fun x => decide (x.t ≤ now)) = [] := List.filter_eq_nil_iff.2 (fun x hx => by simp; exact h2 x hx)
  have a3 : X.filter (fun x => !decide (x.t ≤ now)) = [] := List.filter_eq_nil_iff.2 (fun x hx => by simp; exact h1 x hx)
  have a4 : R'.filter (fun x => !decide (x.t ≤ now)) = R' := List.filter_eq_self.2 (fun x hx => by simp; exact h2 x hx)
  rw [a1, a2, a3, a4]
  simp
theorem tch_below {w w1 w2 : World} {r' : Option Nat} (hb : Below w.heap.size w w1) (t : Tch w1 w2 w.heap.size none r') : Below w.heap.size w w2 :=
  ⟨t.os.trans hb.os, t.tape.trans hb.tape, t.output.trans hb.output, Nat.le_trans hb.size t.size, fun k hk => (t.block k (Nat.lt_of_lt_of_le hk hb.size) (by omega) (by simp)).trans (hb.block k hk)⟩
theorem own_cell {w : World} {B : Nat} {v : Value} {X : List It} (h : w.ownsRow B 87 3 v X.length (cells X)) (hl : 0 < X.length) :
    ∃ g cap, v = .slice (some ⟨g, 0, none⟩) X.length cap ∧ g < w.heap.size ∧ RowG w B g cap X := by
  obtain ⟨g, cap, rfl, _, hlt⟩ := h.form hl
  exact ⟨g, cap, rfl, hlt, h⟩
end Go.Proofs.Ytkdaifcnlobhkaa.Ag
