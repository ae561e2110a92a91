/-
  A READER IN MEMORY: NewReader, ahead, At, Gone, Ask, Late.
-/
import Derived.Test.YtbghjcfepjbppaaAwk
namespace Go.Proofs.Ytbghjcfepjbppaa
open Go.RowKit
section
variable {A B C : World}
theorem bel_on (h : Below A.heap.size A B) (k : Below B.heap.size B C) : Below A.heap.size A C := h.trans (k.mono h.size)
theorem bel_al (h : Below A.heap.size A B) (o : Obj) : Below A.heap.size A (B.alloc o) := h.alloc h.size o
theorem bel_dr (h : Below A.heap.size A B) : Below A.heap.size A B.drew := h.drew
theorem bel_set (h : Below A.heap.size A B) {X : Nat} (hX : A.heap.size ≤ X) (i : Nat) (u : Value) : Below A.heap.size A (B.setCell ⟨X, i, none⟩ u) := h.setCell (p := ⟨X, i, none⟩) hX u
end
/-- a reader's cells -/
def rdr (nodes to : Int) (nm : ByteArray) (most at_ gone : Int) (gv : Value) : Array Value := #[.int .i64 nodes, .int .i64 to, .string nm, .int .i64 most, .int .i64 at_, .int .i64 gone, gv]
def mayR (nodes : Int) (nm : ByteArray) (most : Int) : Bool := manyB nodes && (wordB nm && decide (1 ≤ most))
set_option maxHeartbeats 1000000 in
set_option maxRecDepth 100000 in
theorem rdr_newN (nodes : Int) (nm : ByteArray) (most : Int) (hk : nm.size ≤ 9223372036854775807) (h : mayR nodes nm most = false) (w : World) : Calls Try.prog 17 #[.int .i64 nodes, .string nm, .int .i64 most] w fun e w' => e = .returned (.pointer none) ∧ w = w' := by
  have M := many_any nodes
  have W := word_any nm hk
  unfold mayR at h
  generalize manyB nodes = b1 at *
  generalize wordB nm = b2 at *
  cases b1
  · go_enter Try.func17, Try.ntmps17
    go_wp2_with fail
    refine (M _).mono ?_
    rintro e w1 ⟨rfl, rfl⟩
    go_wp2_with fail
    go_ret
    exact ⟨rfl, rfl⟩
  · cases b2
    · go_enter Try.func17, Try.ntmps17
      go_wp2_with fail
      refine (M _).mono ?_
      rintro e w1 ⟨rfl, rfl⟩
      go_wp2_with fail
      refine (W _).mono ?_
      rintro e w1 ⟨rfl, rfl⟩
      go_wp2_with fail
      go_ret
      exact ⟨rfl, rfl⟩
    · have hm : most < 1 := by
        simp only [Bool.true_and, decide_eq_false_iff_not] at h
        omega
      clear h
      go_enter Try.func17, Try.ntmps17
      go_wp2_with fail
      refine (M _).mono ?_
      rintro e w1 ⟨rfl, rfl⟩
      go_wp2_with fail
      refine (W _).mono ?_
      rintro e w1 ⟨rfl, rfl⟩
      go_wp2_with fail
      go_ret
      exact ⟨rfl, rfl⟩
set_option maxHeartbeats 1000000 in
set_option maxRecDepth 100000 in
theorem rdr_new (nodes : Int) (nm : ByteArray) (most : Int) (h : mayR nodes nm most = true) (w : World) : Calls Try.prog 17 #[.int .i64 nodes, .string nm, .int .i64 most] w fun e w' => ∃ t, e = .returned (.pointer (some ⟨t, 0, none⟩)) ∧ w.heap.size ≤ t ∧ Blk w' t 119 (rdr nodes 0 nm most 0 0 (.slice none 0 0)) ∧ Below w.heap.size w w' := by
  have M := many_any nodes
  unfold mayR at h
  simp only [Bool.and_eq_true, decide_eq_true_eq] at h
  obtain ⟨h1, h2, h3⟩ := h
  have hs := wordB_size h2
  have W := word_any nm (by omega)
  rw [h1] at M
  rw [h2] at W
  have SC := Lib.hid (fun W => str_clone nm W (by omega))
  have hm : ¬ most < 1 := by omega
  have FIN := Lib.hid (fun (w1 : World) (b : Below w.heap.size w w1) => show Blk (w1.alloc (.cells (rdr nodes 0 nm most 0 0 (.slice none 0 0)) 119)) w1.heap.size 119 (rdr nodes 0 nm most 0 0 (.slice none 0 0)) ∧ Below w.heap.size w (w1.alloc (.cells (rdr nodes 0 nm most 0 0 (.slice none 0 0)) 119)) from ⟨Blk.new _ _ _, b.alloc b.size _⟩)
  clear h1 h2 hs
  go_enter Try.func17, Try.ntmps17
  go_wp2_with fail
  refine (M _).mono ?_
  rintro e w1 ⟨rfl, rfl⟩
  go_wp2_with fail
  refine (W _).mono ?_
  rintro e w1 ⟨rfl, rfl⟩
  go_wp2_with fail
  refine (SC.out _).mono ?_
  rintro e w2 ⟨rfl, b2⟩
  have B2 := Lib.hid b2
  clear b2
  go_wp2_with fail
  go_ret
  exact ⟨_, rfl, B2.out.size, FIN.out _ B2.out⟩
section
variable {w : World} {t : Nat} {nodes to most at_ gone : Int} {nm : ByteArray} {gv : Value}
theorem rat_any (T : Blk w t 119 (rdr nodes to nm most at_ gone gv)) : Calls Try.prog 24 #[.pointer (some ⟨t, 0, none⟩)] w fun e w' => e = .returned (.int .i64 at_) ∧ w = w' := by
  have c4 : w.cell? ⟨t, 4, none⟩ = some (.int .i64 at_) := T.cell 4
  clear T
  go_enter Try.func24, Try.ntmps24
  go_wp2_with fail
  go_ret
  exact ⟨rfl, rfl⟩
theorem rgone_any (T : Blk w t 119 (rdr nodes to nm most at_ gone gv)) : Calls Try.prog 25 #[.pointer (some ⟨t, 0, none⟩)] w fun e w' => e = .returned (.int .i64 gone) ∧ w = w' := by
  have c5 : w.cell? ⟨t, 5, none⟩ = some (.int .i64 gone) := T.cell 5
  clear T
  go_enter Try.func25, Try.ntmps25
  go_wp2_with fail
  go_ret
  exact ⟨rfl, rfl⟩
def aheadN (at_ n : Int) : Int := if n < at_ then -1 else n - at_
theorem ahead_any (T : Blk w t 119 (rdr nodes to nm most at_ gone gv)) (n : Int) (ha : 0 ≤ at_) (hn : n ≤ 9223372036854775807) : Calls Try.prog 54 #[.pointer (some ⟨t, 0, none⟩), .int .i64 n] w fun e w' => e = .returned (.int .i64 (aheadN at_ n)) ∧ w = w' := by
  have c4 : w.cell? ⟨t, 4, none⟩ = some (.int .i64 at_) := T.cell 4
  unfold aheadN
  clear T
  by_cases h : n < at_
  · rw [if_pos h]
    go_enter Try.func54, Try.ntmps54
    go_wp2_with fail
    go_ret
    exact ⟨rfl, rfl⟩
  · rw [if_neg h]
    have hd : decide (n < at_) = false := by simp; omega
    have hw : wrap64 (n - at_) = n - at_ := by unfold wrap64; omega
    go_enter Try.func54, Try.ntmps54
    go_wp2_with fail
    go_ret
    exact ⟨rfl, rfl⟩
theorem rlate_any (T : Blk w t 119 (rdr nodes to nm most at_ gone gv)) (ht : 0 ≤ to ∧ to ≤ 100) (hn : nodes ≤ 100) :
    Calls Try.prog 22 #[.pointer (some ⟨t, 0, none⟩)] w fun e w' => e = .returned (.tuple #[]) ∧ Blk w' t 119 (rdr nodes (nextN to nodes) nm most at_ gone gv) ∧ Fr w w' (fun q => q = t) := by
  have NX := Lib.hid (next_any T rfl rfl ht hn)
  clear T
  go_enter Try.func22, Try.ntmps22
  go_wp2_with fail
  refine NX.out.mono ?_
  rintro e w1 ⟨rfl, T1, f1⟩
  have T1 := Lib.hid T1
  have f1 := Lib.hid f1
  go_wp2_with fail
  go_end0
  exact ⟨rfl, T1.out, f1.out⟩
set_option maxHeartbeats 4000000 in
set_option maxRecDepth 100000 in
theorem rask_any (T : Blk w t 119 (rdr nodes to nm most at_ gone gv)) (hs : nm.size ≤ 281474976710656) : Calls Try.prog 23 #[.pointer (some ⟨t, 0, none⟩)] w fun e w' => e = .returned (.tuple #[askV to ⟨#[]⟩ nm at_ most, .bool true]) ∧ Below w.heap.size w w' := by
  obtain ⟨w1, hw1, K1, B1, hs1⟩ : ∃ w1, w1 = w.alloc (.cells #[.int .i64 0, .string ⟨#[]⟩, .string ⟨#[]⟩, .int .i64 0, .int .i64 0] 63) ∧ Blk w1 w.heap.size 63 #[.int .i64 0, .string ⟨#[]⟩, .string ⟨#[]⟩, .int .i64 0, .int .i64 0] ∧ Below w.heap.size w w1 ∧ w1.heap.size = w.heap.size + 1 :=
    ⟨_, rfl, heap_alloc_new w _, (Below.refl w.heap.size w).alloc (Nat.le_refl _) _, by simp⟩
  have W1 := Lib.hid hw1
  have SO : Hid (∀ v, Below w.heap.size w v → v.cell? ⟨t, 1, none⟩ = some (.int .i64 to) ∧ v.cell? ⟨t, 2, none⟩ = some (.string nm) ∧ v.cell? ⟨t, 3, none⟩ = some (.int .i64 most) ∧ v.cell? ⟨t, 4, none⟩ = some (.int .i64 at_) ∧ Below w.heap.size w v) := Lib.hid fun v b => ⟨(T.below b).cell 1, (T.below b).cell 2, (T.below b).cell 3, (T.below b).cell 4, b⟩
  have K1h := Lib.hid (show Blk w1.drew w.heap.size 63 #[.int .i64 0, .string ⟨#[]⟩, .string ⟨#[]⟩, .int .i64 0, .int .i64 0] from K1)
  have BD := bel_dr B1
  have S1 := SO.out _ BD
  have z0 : w1.drew.cell? ⟨w.heap.size, 0, none⟩ = some (.int .i64 0) := K1.cell 0
  have z1 : w1.drew.cell? ⟨w.heap.size, 1, none⟩ = some (.string ⟨#[]⟩) := K1.cell 1
  have z2 : w1.drew.cell? ⟨w.heap.size, 2, none⟩ = some (.string ⟨#[]⟩) := K1.cell 2
  have z3 : w1.drew.cell? ⟨w.heap.size, 3, none⟩ = some (.int .i64 0) := K1.cell 3
  have z4 : w1.drew.cell? ⟨w.heap.size, 4, none⟩ = some (.int .i64 0) := K1.cell 4
  have hz1 : w.heap.size < w1.drew.heap.size := by show w.heap.size < w1.heap.size; omega
  have SC := Lib.hid (fun W => str_clone nm W hs)
  clear T K1 B1 hw1 hs1
  unfold askV
  go_enter Try.func23, Try.ntmps23
  go_wp2_with fail
  rw [← W1.out]
  go_region_held3 (fun w' => w'.cell? ⟨t, 1, none⟩ = some (.int .i64 to) ∧ w'.cell? ⟨t, 2, none⟩ = some (.string nm) ∧ w'.cell? ⟨t, 3, none⟩ = some (.int .i64 most) ∧ w'.cell? ⟨t, 4, none⟩ = some (.int .i64 at_) ∧ Below w.heap.size w w')
    (first | (with_reducible exact S1) | (refine SO.out _ ?_; (repeat (with_reducible first | assumption | exact Below.refl _ _ | refine bel_dr ?_ | refine bel_al ?_ _ | refine bel_set ?_ (Nat.le_refl _) _ _)); done))
    ((go_at_call 53; (with_reducible refine (SC.out _).mono ?_); rintro r w2 ⟨rfl, b2⟩; have f2 : Below w.heap.size w w2 := bel_on (by (repeat (with_reducible first | assumption | exact Below.refl _ _ | refine bel_dr ?_ | refine bel_al ?_ _))) b2; have KV := K1h.out.below b2; have z0 : w2.cell? ⟨w.heap.size, 0, none⟩ = some (.int .i64 0) := KV.cell 0; have z1 : w2.cell? ⟨w.heap.size, 1, none⟩ = some (.string ⟨#[]⟩) := KV.cell 1; have z2 : w2.cell? ⟨w.heap.size, 2, none⟩ = some (.string ⟨#[]⟩) := KV.cell 2; have z3 : w2.cell? ⟨w.heap.size, 3, none⟩ = some (.int .i64 0) := KV.cell 3; have z4 : w2.cell? ⟨w.heap.size, 4, none⟩ = some (.int .i64 0) := KV.cell 4; have fz : ∀ i, w2.frozen? ⟨w.heap.size, i, none⟩ = false := KV.free))
  all_goals (
    go_wp2_with fail
    refine bodyPost_ret (by simp [results, Try.results23, go_sem, z0, z1, z2, z3, z4]; try rfl) rfl ?_
    exact ⟨rfl, below5 f2 (Nat.le_refl _) _ _ _ _ _⟩)
end
end Go.Proofs.Ytbghjcfepjbppaa
