/-
  awake, AND THE LAW AgendaNil AS WALKS.
-/
import Derived.Test.YtiklaaganiafjabDue
namespace Go.Proofs.Ytiklaaganiafjab
open Go.RowKit
theorem due_split {R X R' : List It} {now : Int} (h : R = X ++ R') (h1 : ∀ x ∈ X, x.t ≤ now) (h2 : ∀ x ∈ R', now < x.t) : X = R.filter (fun x => decide (x.t ≤ now)) ∧ R' = R.filter (fun x => !decide (x.t ≤ now)) := by
  subst h
  rw [List.filter_append, List.filter_append]
  have a1 : X.filter (fun x => decide (x.t ≤ now)) = X := List.filter_eq_self.2 (fun x hx => by simp; exact h1 x hx)
  have a2 : R'.filter (fun x => decide (x.t ≤ now)) = [] := List.filter_eq_nil_iff.2 (fun x hx => by simp; exact h2 x hx)
  have a3 : X.filter (fun x => !decide (x.t ≤ now)) = [] := List.filter_eq_nil_iff.2 (fun x hx => by simp; exact h1 x hx)
  have a4 : R'.filter (fun x => !decide (x.t ≤ now)) = R' := List.filter_eq_self.2 (fun x hx => by simp; exact h2 x hx)
  rw [a1, a2, a3, a4]
  simp
theorem tch_below {w w1 w2 : World} {r' : Option Nat} (hb : Below w.heap.size w w1) (t : Tch w1 w2 w.heap.size none r') : Below w.heap.size w w2 :=
  ⟨t.os.trans hb.os, t.tape.trans hb.tape, t.output.trans hb.output, Nat.le_trans hb.size t.size, fun k hk => (t.block k (Nat.lt_of_lt_of_le hk hb.size) (by omega) (by simp)).trans (hb.block k hk)⟩
theorem own_cell {w : World} {B : Nat} {v : Value} {X : List It} (h : w.ownsRow B 46 3 v X.length (cells X)) (hl : 0 < X.length) :
    ∃ g cap, v = .slice (some ⟨g, 0, none⟩) X.length cap ∧ g < w.heap.size ∧ RowG w B g cap X := by
  obtain ⟨g, cap, rfl, _, hlt⟩ := h.form hl
  exact ⟨g, cap, rfl, hlt, h⟩
set_option maxHeartbeats 2000000 in
set_option maxRecDepth 100000 in
theorem awake_any (w : World) : Calls Try.prog 10 #[] w fun e w' => e = .returned (.bool true) ∧ Below w.heap.size w w' := by
  have hB0 : Hid (w.heap.size ≤ w.heap.size) := Lib.hid (Nat.le_refl _)
  go_enter Try.func10, Try.ntmps10
  go_wp2_with fail
  refine (new_any w w.heap.size).mono ?_
  rintro e w1 ⟨rfl, b1, s1, g1⟩
  have S1 : Hid (w.heap.size ≤ w1.heap.size) := Lib.hid b1.size
  have HB1 := Lib.hid b1
  have G1 := Lib.hid g1
  clear b1 s1 g1
  go_wp2_with fail
  refine (add_any w1 w.heap.size w.heap.size 0 none [] 5 7 G1.out (by decide) (by decide) (by decide) S1.out).mono ?_
  rintro e w2 ⟨r2, rfl, g2, t2⟩
  have S2 : Hid (w.heap.size ≤ w2.heap.size) := Lib.hid (Nat.le_trans S1.out t2.size)
  have T2 := Lib.hid t2
  have G2 : Hid (Agd w2 w.heap.size w.heap.size 1 r2 [⟨5, 1, 7⟩]) := Lib.hid g2
  clear g2 t2 G1
  go_wp2_with fail
  refine (add_any w2 w.heap.size w.heap.size 1 r2 _ 3 8 G2.out (by decide) (by decide) (by decide) S2.out).mono ?_
  rintro e w3 ⟨r3, rfl, g3, t3⟩
  have S3 : Hid (w.heap.size ≤ w3.heap.size) := Lib.hid (Nat.le_trans S2.out t3.size)
  have T3 := Lib.hid (T2.out.trans t3)
  have G3 : Hid (Agd w3 w.heap.size w.heap.size 2 r3 [⟨3, 2, 8⟩, ⟨5, 1, 7⟩]) := Lib.hid g3
  clear g3 t3 G2 T2
  go_wp2_with fail
  refine (add_any w3 w.heap.size w.heap.size 2 r3 _ 3 9 G3.out (by decide) (by decide) (by decide) S3.out).mono ?_
  rintro e w4 ⟨r4, rfl, g4, t4⟩
  have T4 := Lib.hid (T3.out.trans t4)
  have G4 : Hid (Agd w4 w.heap.size w.heap.size 3 r4 [⟨3, 2, 8⟩, ⟨3, 3, 9⟩, ⟨5, 1, 7⟩]) := Lib.hid g4
  clear g4 t4 G3 T3
  go_wp2_with fail
  refine (due_any w4 w.heap.size w.heap.size 3 r4 _ 3 G4.out (by decide)).mono ?_
  rintro e w5 ⟨v, X, R', r5, rfl, hR, hX, hR', g5, t5, o5, n5⟩
  obtain ⟨eX, eR⟩ := due_split hR hX hR'
  have eX : X = [⟨3, 2, 8⟩, ⟨3, 3, 9⟩] := eX
  have eR : R' = [⟨5, 1, 7⟩] := eR
  subst eX
  subst eR
  obtain ⟨g, cap, hv, hg, hrow⟩ := own_cell o5 (by decide)
  have hv : v = .slice (some ⟨g, 0, none⟩) 2 cap := hv
  subst hv
  have T5 := Lib.hid (T4.out.trans t5)
  have G5 := Lib.hid g5
  have HR := Lib.hid hrow
  clear hR hX hR' g5 t5 o5 n5 G4 T4 hrow
  go_wp2_with fail
  refine (first_some w5 w.heap.size w.heap.size 3 r5 _ _ G5.out).mono ?_
  rintro e w6 ⟨rfl, b6⟩
  have c1 := (HR.out.cell (k := 0) (by decide)).2.2
  have c2 := (HR.out.cell (k := 1) (by decide)).2.1
  have d1 : w6.cell? ⟨g, 2, none⟩ = some (.int .i64 8) := by rw [b6.cell hg]; exact c1
  have d2 : w6.cell? ⟨g, 4, none⟩ = some (.int .i64 3) := by rw [b6.cell hg]; exact c2
  have hg6 : g < w6.heap.size := Nat.lt_of_lt_of_le hg b6.size
  have T6 := Lib.hid (T5.out.trans (Tch.of_below b6))
  clear c1 c2 b6 hg HR G5 T5
  go_wp2_with fail
  go_ret
  have b := tch_below HB1.out T6.out
  exact ⟨by simp, b.alloc b.size _⟩
theorem drop_nil (id : Int) (w : World) : Calls Try.prog 18 #[.pointer none, .int .i64 id] w fun e w' => e = .returned (.bool false) ∧ Below w.heap.size w w' := by
  go_enter Try.func18, Try.ntmps18
  go_wp2_with fail
  go_ret
  exact ⟨rfl, (Below.refl _ _).alloc (Nat.le_refl _) _⟩
theorem all_nil (w : World) : Calls Try.prog 15 #[.pointer none] w fun e w' => e = .returned (.slice none 0 0) ∧ w = w' := by
  go_enter Try.func15, Try.ntmps15
  go_wp2_with fail
  go_ret
  exact ⟨rfl, rfl⟩
set_option maxHeartbeats 2000000 in
theorem nil_law (x : Int) (w : World) : Calls Try.prog 7 #[.int .i64 x] w fun e w' => e = .returned (.bool true) ∧ Below w.heap.size w w' := by
  have F := fun w => first_nil w
  unfold fstV agg at F
  go_enter Try.func7, Try.ntmps7
  go_wp2_with fail
  refine (add_nil x x _).mono ?_
  rintro e w1 ⟨rfl, rfl⟩
  go_wp2_with fail
  refine (F _).mono ?_
  rintro e w1 ⟨rfl, b1⟩
  have b2 := b1.alloc b1.size (Obj.cells #[Value.int IntKind.i64 0, Value.int IntKind.i64 0, Value.int IntKind.i64 0] 46)
  go_wp2_with fail
  refine (awake_any _).mono ?_
  rintro e w3 ⟨rfl, b3⟩
  have B3 := b2.trans (b3.mono b2.size)
  clear b1 b2 b3
  go_wp2_with fail
  refine (drop_nil x _).mono ?_
  rintro e w4 ⟨rfl, b4⟩
  have B4 := B3.trans (b4.mono B3.size)
  clear B3 b4
  go_wp2_with fail
  refine (due_nil x _).mono ?_
  rintro e w5 ⟨rfl, b5⟩
  have B5 := B4.trans (b5.mono B4.size)
  clear B4 b5
  go_wp2_with fail
  refine (all_nil _).mono ?_
  rintro e w6 ⟨rfl, rfl⟩
  go_wp2_with fail
  refine (len_nil _).mono ?_
  rintro e w6 ⟨rfl, rfl⟩
  go_wp2_with fail
  go_ret
  exact ⟨rfl, B5⟩
end Go.Proofs.Ytiklaaganiafjab
