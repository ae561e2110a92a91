/-
  WHAT THE ROWS REST ON, part 7: Lgn CRun.
-/
import Derived.IntWalk
import Derived.Deep.QuietTactic
import Derived.BigQuiet
import Derived.Test.YthnnenhpcceckaaGreatPart6
/-
  A VOTE AND A SNAPSHOT LOADED, whatever the file says.
-/
namespace Go.Proofs.YthnnenhpcceckaaGreat
open Go.RowKit
set_option maxHeartbeats 4000000 in
theorem load_bad {p : Option Addr} {nm x b : ByteArray} {t f : Int} {w : World} (hR : ∀ W, Below w.heap.size w W → Calls Tryz.prog 22 #[.pointer p, .string nm] W fun e w' => e = .returned (.tuple #[.string x, .int .i64 0]) ∧ W = w') (hx : x.size ≤ 281474976710656) (hb : b.size ≤ 281474976710656) (hu : Ct.unp x = (b, ⟨#[]⟩, 0)) (hr : rdV b = (t, f, 3)) :
    Calls Tryz.prog 23 #[.pointer p, .string nm, .func (.func 24) #[] #[]] w fun e w' => e = .returned (.tuple #[voteV t f, .bool false, .int .i64 3]) ∧ Below w.heap.size w w' := by
  have RD := Lib.hid hR
  have UN := Lib.hid (fun W => Ct.unpack_any x hx W)
  have RV := Lib.hid (fun W => readVote_any b hb W)
  rw [hu] at UN
  rw [hr] at RV
  simp only [Ct.unpV] at UN RV
  clear hR hu hr
  unfold voteV at *
  have K0 := Lib.hid (Blk.new w 33 #[.int .i64 0, .int .i64 0])
  have bA := Lib.hid ((Below.refl _ w).alloc (Nat.le_refl _) (.cells #[.int .i64 0, .int .i64 0] 33))
  have RE := Lib.hid (RD.out _ bA.out)
  clear RD
  generalize hy : w.heap.size = Y at *
  go_enter Tryz.func23, Tryz.ntmps23
  go_wp2_with fail
  refine RE.out.mono ?_
  rintro e w1 ⟨rfl, rfl⟩
  go_wp2_with fail
  refine (UN.out _).mono ?_
  rintro e w2 ⟨rfl, b2⟩
  have K2 := Lib.hid (K0.out.below b2 (by simp [hy]))
  have B2 := Lib.hid (bA.out.trans (b2.mono (by simp [hy])))
  clear b2 K0 bA RE UN
  go_wp2_with fail
  refine (RV.out _).mono ?_
  rintro e w3 ⟨rfl, b3⟩
  have KK := Lib.hid (K2.out.below b3 K2.out.lt)
  have B3 := Lib.hid (B2.out.trans (b3.mono (by have := B2.out.size; omega)))
  clear b3 K2 B2 RV
  have c0 : w3.cell? ⟨Y, 0, none⟩ = some (.int .i64 0) := KK.out.cell 0
  have c1 : w3.cell? ⟨Y, 1, none⟩ = some (.int .i64 0) := KK.out.cell 1
  have f0 : w3.frozen? ⟨Y, 0, none⟩ = false := KK.out.free 0
  have f1 : w3.frozen? ⟨Y, 1, none⟩ = false := KK.out.free 1
  go_wp2_with fail
  obtain ⟨_, _, B5, K5⟩ := end_cells (.int .i64 t) (.int .i64 f) KK.out B3.out
  clear c0 c1 f0 f1 KK B3
  generalize (World.setCell (World.setCell w3 ⟨Y, 0, none⟩ (.int .i64 t)) ⟨Y, 1, none⟩ (.int .i64 f)) = w8 at *
  obtain ⟨z0, z1, B6, _⟩ := end_cells (.int .i64 t) (.int .i64 f) K5 B5
  clear B5 K5
  generalize (World.setCell (World.setCell w8 ⟨Y, 0, none⟩ (.int .i64 t)) ⟨Y, 1, none⟩ (.int .i64 f)) = w9 at *
  refine bodyPost_ret (by simp [results, Tryz.results23, go_sem, z0, z1]; try rfl) rfl ?_
  exact ⟨rfl, B6⟩
set_option maxHeartbeats 4000000 in
theorem load_form {p : Option Addr} {nm x b r : ByteArray} {n : Int} {w : World} (hR : ∀ W, Below w.heap.size w W → Calls Tryz.prog 22 #[.pointer p, .string nm] W fun e w' => e = .returned (.tuple #[.string x, .int .i64 0]) ∧ W = w') (hx : x.size ≤ 281474976710656) (hu : Ct.unp x = (b, r, n)) (hn : n ≠ 0 ∨ r ≠ ⟨#[]⟩) :
    Calls Tryz.prog 23 #[.pointer p, .string nm, .func (.func 24) #[] #[]] w fun e w' => e = .returned (.tuple #[voteV 0 0, .bool false, .int .i64 3]) ∧ Below w.heap.size w w' := by
  have RD := Lib.hid hR
  have UN := Lib.hid (fun W => Ct.unpack_any x hx W)
  rw [hu] at UN
  simp only [Ct.unpV] at UN
  clear hR hu
  unfold voteV at *
  have K0 := Lib.hid (Blk.new w 33 #[.int .i64 0, .int .i64 0])
  have bA := Lib.hid ((Below.refl _ w).alloc (Nat.le_refl _) (.cells #[.int .i64 0, .int .i64 0] 33))
  have RE := Lib.hid (RD.out _ bA.out)
  clear RD
  generalize hy : w.heap.size = Y at *
  by_cases h0 : n = 0
  · subst h0
    have hr : r ≠ ⟨#[]⟩ := by rcases hn with h | h; exact absurd rfl h; exact h
    have r1 : r.toList ≠ [] := fun h => hr (ByteArray.ext (Array.toList_inj.1 (by rw [← ByteArray.toList_eq, h])))
    have r2 : (r.toList == []) = false := by simpa using r1
    have r3 : r.toList.isEmpty = false := by simpa using r1
    have r4 : (r.toList != []) = true := by simpa using r1
    have r5 : (!r.toList.isEmpty) = true := by rw [r3]; rfl
    have r6 : (!(r.toList == [])) = true := by rw [r2]; rfl
    clear hn r1 hr
    go_enter Tryz.func23, Tryz.ntmps23
    go_wp2_with fail
    refine RE.out.mono ?_
    rintro e w1 ⟨rfl, rfl⟩
    go_wp2_with fail
    refine (UN.out _).mono ?_
    rintro e w2 ⟨rfl, b2⟩
    have K2 := Lib.hid (K0.out.below b2 (by simp [hy]))
    have B2 := Lib.hid (bA.out.trans (b2.mono (by simp [hy])))
    clear b2 K0 bA RE UN
    have c0 : w2.cell? ⟨Y, 0, none⟩ = some (.int .i64 0) := K2.out.cell 0
    have f0 : w2.frozen? ⟨Y, 0, none⟩ = false := K2.out.free 0
    have c1 : w2.cell? ⟨Y, 1, none⟩ = some (.int .i64 0) := K2.out.cell 1
    have f1 : w2.frozen? ⟨Y, 1, none⟩ = false := K2.out.free 1
    go_wp2_with fail
    obtain ⟨z0, z1, B5, _⟩ := end_cells (.int .i64 0) (.int .i64 0) K2.out B2.out
    clear c0 c1 f0 f1
    generalize (World.setCell (World.setCell w2 ⟨Y, 0, none⟩ (.int .i64 0)) ⟨Y, 1, none⟩ (.int .i64 0)) = w9 at *
    refine bodyPost_ret (by simp [results, Tryz.results23, go_sem, z0, z1]; try rfl) rfl ?_
    exact ⟨rfl, B5⟩
  · have n1 : (n != 0) = true := by simpa using h0
    clear hn h0
    go_enter Tryz.func23, Tryz.ntmps23
    go_wp2_with fail
    refine RE.out.mono ?_
    rintro e w1 ⟨rfl, rfl⟩
    go_wp2_with fail
    refine (UN.out _).mono ?_
    rintro e w2 ⟨rfl, b2⟩
    have K2 := Lib.hid (K0.out.below b2 (by simp [hy]))
    have B2 := Lib.hid (bA.out.trans (b2.mono (by simp [hy])))
    clear b2 K0 bA RE UN
    have c0 : w2.cell? ⟨Y, 0, none⟩ = some (.int .i64 0) := K2.out.cell 0
    have f0 : w2.frozen? ⟨Y, 0, none⟩ = false := K2.out.free 0
    have c1 : w2.cell? ⟨Y, 1, none⟩ = some (.int .i64 0) := K2.out.cell 1
    have f1 : w2.frozen? ⟨Y, 1, none⟩ = false := K2.out.free 1
    go_wp2_with fail
    obtain ⟨z0, z1, B5, _⟩ := end_cells (.int .i64 0) (.int .i64 0) K2.out B2.out
    clear c0 c1 f0 f1
    generalize (World.setCell (World.setCell w2 ⟨Y, 0, none⟩ (.int .i64 0)) ⟨Y, 1, none⟩ (.int .i64 0)) = w9 at *
    refine bodyPost_ret (by simp [results, Tryz.results23, go_sem, z0, z1]; try rfl) rfl ?_
    exact ⟨rfl, B5⟩
set_option maxHeartbeats 4000000 in
/-- where a file says a snapshot -/
theorem loadS_ok {p : Option Addr} {nm x b s : ByteArray} {i t m : Int} {w : World} (hR : ∀ W, Below w.heap.size w W → Calls Tryz.prog 22 #[.pointer p, .string nm] W fun e w' => e = .returned (.tuple #[.string x, .int .i64 0]) ∧ W = w') (hx : x.size ≤ 281474976710656) (hb : b.size ≤ 281474976710656) (hu : Ct.unp x = (b, ⟨#[]⟩, 0)) (hr : rsV b = (i, t, m, s, 0)) :
    Calls Tryz.prog 28 #[.pointer p, .string nm, .func (.func 29) #[] #[]] w fun e w' => e = .returned (.tuple #[snapV i t m s, .bool true, .int .i64 0]) ∧ Below w.heap.size w w' := by
  have RD := Lib.hid hR
  have UN := Lib.hid (fun W => Ct.unpack_any x hx W)
  have RV := Lib.hid (fun W => readSnap_any b hb W)
  rw [hu] at UN
  rw [hr] at RV
  simp only [Ct.unpV] at UN RV
  clear hR hu hr
  unfold snapV at *
  have K0 := Lib.hid (Blk.new w 40 #[.int .i64 0, .int .i64 0, .int .i64 0, .string ⟨#[]⟩])
  have bA := Lib.hid ((Below.refl _ w).alloc (Nat.le_refl _) (.cells #[.int .i64 0, .int .i64 0, .int .i64 0, .string ⟨#[]⟩] 40))
  have RE := Lib.hid (RD.out _ bA.out)
  clear RD
  generalize hy : w.heap.size = Y at *
  go_enter Tryz.func28, Tryz.ntmps28
  go_wp2_with fail
  refine RE.out.mono ?_
  rintro e w1 ⟨rfl, rfl⟩
  go_wp2_with fail
  refine (UN.out _).mono ?_
  rintro e w2 ⟨rfl, b2⟩
  have K2 := Lib.hid (K0.out.below b2 (by simp [hy]))
  have B2 := Lib.hid (bA.out.trans (b2.mono (by simp [hy])))
  clear b2 K0 bA RE UN
  go_wp2_with fail
  refine (RV.out _).mono ?_
  rintro e w3 ⟨rfl, b3⟩
  have KK := Lib.hid (K2.out.below b3 K2.out.lt)
  have B3 := Lib.hid (B2.out.trans (b3.mono (by have := B2.out.size; omega)))
  clear b3 K2 B2 RV
  have c0 : w3.cell? ⟨Y, 0, none⟩ = some (.int .i64 0) := KK.out.cell 0
  have c1 : w3.cell? ⟨Y, 1, none⟩ = some (.int .i64 0) := KK.out.cell 1
  have c2 : w3.cell? ⟨Y, 2, none⟩ = some (.int .i64 0) := KK.out.cell 2
  have c3 : w3.cell? ⟨Y, 3, none⟩ = some (.string ⟨#[]⟩) := KK.out.cell 3
  have f0 : w3.frozen? ⟨Y, 0, none⟩ = false := KK.out.free 0
  have f1 : w3.frozen? ⟨Y, 1, none⟩ = false := KK.out.free 1
  have f2 : w3.frozen? ⟨Y, 2, none⟩ = false := KK.out.free 2
  have f3 : w3.frozen? ⟨Y, 3, none⟩ = false := KK.out.free 3
  go_wp2_with fail
  have K5 := (set4_all (.int .i64 i) (.int .i64 t) (.int .i64 m) (.string s) KK.out).1
  have B5 := set4_below (.int .i64 i) (.int .i64 t) (.int .i64 m) (.string s) KK.out B3.out
  have K6 := (set4_all (.int .i64 i) (.int .i64 t) (.int .i64 m) (.string s) K5).1
  have B6 := set4_below (.int .i64 i) (.int .i64 t) (.int .i64 m) (.string s) K5 B5
  unfold set4 at K6 B6
  clear c0 c1 c2 c3 f0 f1 f2 f3 KK B3 K5 B5
  generalize (World.setCell (World.setCell (World.setCell (World.setCell (World.setCell (World.setCell (World.setCell (World.setCell w3 ⟨Y, 0, none⟩ (.int .i64 i)) ⟨Y, 1, none⟩ (.int .i64 t)) ⟨Y, 2, none⟩ (.int .i64 m)) ⟨Y, 3, none⟩ (.string s)) ⟨Y, 0, none⟩ (.int .i64 i)) ⟨Y, 1, none⟩ (.int .i64 t)) ⟨Y, 2, none⟩ (.int .i64 m)) ⟨Y, 3, none⟩ (.string s)) = w9 at *
  have z0 : w9.cell? ⟨Y, 0, none⟩ = some (.int .i64 i) := K6.cell 0
  have z1 : w9.cell? ⟨Y, 1, none⟩ = some (.int .i64 t) := K6.cell 1
  have z2 : w9.cell? ⟨Y, 2, none⟩ = some (.int .i64 m) := K6.cell 2
  have z3 : w9.cell? ⟨Y, 3, none⟩ = some (.string s) := K6.cell 3
  refine bodyPost_ret (by simp [results, Tryz.results28, go_sem, z0, z1, z2, z3]; try rfl) rfl ?_
  exact ⟨rfl, B6⟩
set_option maxHeartbeats 4000000 in
/-- where a file says a snapshot -/
theorem loadS_bad {p : Option Addr} {nm x b s : ByteArray} {i t m : Int} {w : World} (hR : ∀ W, Below w.heap.size w W → Calls Tryz.prog 22 #[.pointer p, .string nm] W fun e w' => e = .returned (.tuple #[.string x, .int .i64 0]) ∧ W = w') (hx : x.size ≤ 281474976710656) (hb : b.size ≤ 281474976710656) (hu : Ct.unp x = (b, ⟨#[]⟩, 0)) (hr : rsV b = (i, t, m, s, 3)) :
    Calls Tryz.prog 28 #[.pointer p, .string nm, .func (.func 29) #[] #[]] w fun e w' => e = .returned (.tuple #[snapV i t m s, .bool false, .int .i64 3]) ∧ Below w.heap.size w w' := by
  have RD := Lib.hid hR
  have UN := Lib.hid (fun W => Ct.unpack_any x hx W)
  have RV := Lib.hid (fun W => readSnap_any b hb W)
  rw [hu] at UN
  rw [hr] at RV
  simp only [Ct.unpV] at UN RV
  clear hR hu hr
  unfold snapV at *
  have K0 := Lib.hid (Blk.new w 40 #[.int .i64 0, .int .i64 0, .int .i64 0, .string ⟨#[]⟩])
  have bA := Lib.hid ((Below.refl _ w).alloc (Nat.le_refl _) (.cells #[.int .i64 0, .int .i64 0, .int .i64 0, .string ⟨#[]⟩] 40))
  have RE := Lib.hid (RD.out _ bA.out)
  clear RD
  generalize hy : w.heap.size = Y at *
  go_enter Tryz.func28, Tryz.ntmps28
  go_wp2_with fail
  refine RE.out.mono ?_
  rintro e w1 ⟨rfl, rfl⟩
  go_wp2_with fail
  refine (UN.out _).mono ?_
  rintro e w2 ⟨rfl, b2⟩
  have K2 := Lib.hid (K0.out.below b2 (by simp [hy]))
  have B2 := Lib.hid (bA.out.trans (b2.mono (by simp [hy])))
  clear b2 K0 bA RE UN
  go_wp2_with fail
  refine (RV.out _).mono ?_
  rintro e w3 ⟨rfl, b3⟩
  have KK := Lib.hid (K2.out.below b3 K2.out.lt)
  have B3 := Lib.hid (B2.out.trans (b3.mono (by have := B2.out.size; omega)))
  clear b3 K2 B2 RV
  have c0 : w3.cell? ⟨Y, 0, none⟩ = some (.int .i64 0) := KK.out.cell 0
  have c1 : w3.cell? ⟨Y, 1, none⟩ = some (.int .i64 0) := KK.out.cell 1
  have c2 : w3.cell? ⟨Y, 2, none⟩ = some (.int .i64 0) := KK.out.cell 2
  have c3 : w3.cell? ⟨Y, 3, none⟩ = some (.string ⟨#[]⟩) := KK.out.cell 3
  have f0 : w3.frozen? ⟨Y, 0, none⟩ = false := KK.out.free 0
  have f1 : w3.frozen? ⟨Y, 1, none⟩ = false := KK.out.free 1
  have f2 : w3.frozen? ⟨Y, 2, none⟩ = false := KK.out.free 2
  have f3 : w3.frozen? ⟨Y, 3, none⟩ = false := KK.out.free 3
  go_wp2_with fail
  have K5 := (set4_all (.int .i64 i) (.int .i64 t) (.int .i64 m) (.string s) KK.out).1
  have B5 := set4_below (.int .i64 i) (.int .i64 t) (.int .i64 m) (.string s) KK.out B3.out
  have K6 := (set4_all (.int .i64 i) (.int .i64 t) (.int .i64 m) (.string s) K5).1
  have B6 := set4_below (.int .i64 i) (.int .i64 t) (.int .i64 m) (.string s) K5 B5
  unfold set4 at K6 B6
  clear c0 c1 c2 c3 f0 f1 f2 f3 KK B3 K5 B5
  generalize (World.setCell (World.setCell (World.setCell (World.setCell (World.setCell (World.setCell (World.setCell (World.setCell w3 ⟨Y, 0, none⟩ (.int .i64 i)) ⟨Y, 1, none⟩ (.int .i64 t)) ⟨Y, 2, none⟩ (.int .i64 m)) ⟨Y, 3, none⟩ (.string s)) ⟨Y, 0, none⟩ (.int .i64 i)) ⟨Y, 1, none⟩ (.int .i64 t)) ⟨Y, 2, none⟩ (.int .i64 m)) ⟨Y, 3, none⟩ (.string s)) = w9 at *
  have z0 : w9.cell? ⟨Y, 0, none⟩ = some (.int .i64 i) := K6.cell 0
  have z1 : w9.cell? ⟨Y, 1, none⟩ = some (.int .i64 t) := K6.cell 1
  have z2 : w9.cell? ⟨Y, 2, none⟩ = some (.int .i64 m) := K6.cell 2
  have z3 : w9.cell? ⟨Y, 3, none⟩ = some (.string s) := K6.cell 3
  refine bodyPost_ret (by simp [results, Tryz.results28, go_sem, z0, z1, z2, z3]; try rfl) rfl ?_
  exact ⟨rfl, B6⟩
set_option maxHeartbeats 4000000 in
theorem loadS_form {p : Option Addr} {nm x b r : ByteArray} {n : Int} {w : World} (hR : ∀ W, Below w.heap.size w W → Calls Tryz.prog 22 #[.pointer p, .string nm] W fun e w' => e = .returned (.tuple #[.string x, .int .i64 0]) ∧ W = w') (hx : x.size ≤ 281474976710656) (hu : Ct.unp x = (b, r, n)) (hn : n ≠ 0 ∨ r ≠ ⟨#[]⟩) :
    Calls Tryz.prog 28 #[.pointer p, .string nm, .func (.func 29) #[] #[]] w fun e w' => e = .returned (.tuple #[snapV 0 0 0 ⟨#[]⟩, .bool false, .int .i64 3]) ∧ Below w.heap.size w w' := by
  have RD := Lib.hid hR
  have UN := Lib.hid (fun W => Ct.unpack_any x hx W)
  rw [hu] at UN
  simp only [Ct.unpV] at UN
  clear hR hu
  unfold snapV at *
  have K0 := Lib.hid (Blk.new w 40 #[.int .i64 0, .int .i64 0, .int .i64 0, .string ⟨#[]⟩])
  have bA := Lib.hid ((Below.refl _ w).alloc (Nat.le_refl _) (.cells #[.int .i64 0, .int .i64 0, .int .i64 0, .string ⟨#[]⟩] 40))
  have RE := Lib.hid (RD.out _ bA.out)
  clear RD
  generalize hy : w.heap.size = Y at *
  by_cases h0 : n = 0
  · subst h0
    have hr : r ≠ ⟨#[]⟩ := by rcases hn with h | h; exact absurd rfl h; exact h
    have r1 : r.toList ≠ [] := fun h => hr (ByteArray.ext (Array.toList_inj.1 (by rw [← ByteArray.toList_eq, h])))
    have r2 : (r.toList == []) = false := by simpa using r1
    have r3 : r.toList.isEmpty = false := by simpa using r1
    have r4 : (r.toList != []) = true := by simpa using r1
    have r5 : (!r.toList.isEmpty) = true := by rw [r3]; rfl
    have r6 : (!(r.toList == [])) = true := by rw [r2]; rfl
    clear hn r1 hr
    go_enter Tryz.func28, Tryz.ntmps28
    go_wp2_with fail
    refine RE.out.mono ?_
    rintro e w1 ⟨rfl, rfl⟩
    go_wp2_with fail
    refine (UN.out _).mono ?_
    rintro e w2 ⟨rfl, b2⟩
    have K2 := Lib.hid (K0.out.below b2 (by simp [hy]))
    have B2 := Lib.hid (bA.out.trans (b2.mono (by simp [hy])))
    clear b2 K0 bA RE UN
    have c0 : w2.cell? ⟨Y, 0, none⟩ = some (.int .i64 0) := K2.out.cell 0
    have f0 : w2.frozen? ⟨Y, 0, none⟩ = false := K2.out.free 0
    have c1 : w2.cell? ⟨Y, 1, none⟩ = some (.int .i64 0) := K2.out.cell 1
    have f1 : w2.frozen? ⟨Y, 1, none⟩ = false := K2.out.free 1
    have c2 : w2.cell? ⟨Y, 2, none⟩ = some (.int .i64 0) := K2.out.cell 2
    have f2 : w2.frozen? ⟨Y, 2, none⟩ = false := K2.out.free 2
    have c3 : w2.cell? ⟨Y, 3, none⟩ = some (.string ⟨#[]⟩) := K2.out.cell 3
    have f3 : w2.frozen? ⟨Y, 3, none⟩ = false := K2.out.free 3
    go_wp2_with fail
    have K6 := (set4_all (.int .i64 0) (.int .i64 0) (.int .i64 0) (.string ⟨#[]⟩) K2.out).1
    have B5 := set4_below (.int .i64 0) (.int .i64 0) (.int .i64 0) (.string ⟨#[]⟩) K2.out B2.out
    unfold set4 at K6 B5
    clear c0 c1 c2 c3 f0 f1 f2 f3
    generalize (World.setCell (World.setCell (World.setCell (World.setCell w2 ⟨Y, 0, none⟩ (.int .i64 0)) ⟨Y, 1, none⟩ (.int .i64 0)) ⟨Y, 2, none⟩ (.int .i64 0)) ⟨Y, 3, none⟩ (.string ⟨#[]⟩)) = w9 at *
    have z0 : w9.cell? ⟨Y, 0, none⟩ = some (.int .i64 0) := K6.cell 0
    have z1 : w9.cell? ⟨Y, 1, none⟩ = some (.int .i64 0) := K6.cell 1
    have z2 : w9.cell? ⟨Y, 2, none⟩ = some (.int .i64 0) := K6.cell 2
    have z3 : w9.cell? ⟨Y, 3, none⟩ = some (.string ⟨#[]⟩) := K6.cell 3
    refine bodyPost_ret (by simp [results, Tryz.results28, go_sem, z0, z1, z2, z3]; try rfl) rfl ?_
    exact ⟨rfl, B5⟩
  · have n1 : (n != 0) = true := by simpa using h0
    clear hn h0
    go_enter Tryz.func28, Tryz.ntmps28
    go_wp2_with fail
    refine RE.out.mono ?_
    rintro e w1 ⟨rfl, rfl⟩
    go_wp2_with fail
    refine (UN.out _).mono ?_
    rintro e w2 ⟨rfl, b2⟩
    have K2 := Lib.hid (K0.out.below b2 (by simp [hy]))
    have B2 := Lib.hid (bA.out.trans (b2.mono (by simp [hy])))
    clear b2 K0 bA RE UN
    have c0 : w2.cell? ⟨Y, 0, none⟩ = some (.int .i64 0) := K2.out.cell 0
    have f0 : w2.frozen? ⟨Y, 0, none⟩ = false := K2.out.free 0
    have c1 : w2.cell? ⟨Y, 1, none⟩ = some (.int .i64 0) := K2.out.cell 1
    have f1 : w2.frozen? ⟨Y, 1, none⟩ = false := K2.out.free 1
    have c2 : w2.cell? ⟨Y, 2, none⟩ = some (.int .i64 0) := K2.out.cell 2
    have f2 : w2.frozen? ⟨Y, 2, none⟩ = false := K2.out.free 2
    have c3 : w2.cell? ⟨Y, 3, none⟩ = some (.string ⟨#[]⟩) := K2.out.cell 3
    have f3 : w2.frozen? ⟨Y, 3, none⟩ = false := K2.out.free 3
    go_wp2_with fail
    have K6 := (set4_all (.int .i64 0) (.int .i64 0) (.int .i64 0) (.string ⟨#[]⟩) K2.out).1
    have B5 := set4_below (.int .i64 0) (.int .i64 0) (.int .i64 0) (.string ⟨#[]⟩) K2.out B2.out
    unfold set4 at K6 B5
    clear c0 c1 c2 c3 f0 f1 f2 f3
    generalize (World.setCell (World.setCell (World.setCell (World.setCell w2 ⟨Y, 0, none⟩ (.int .i64 0)) ⟨Y, 1, none⟩ (.int .i64 0)) ⟨Y, 2, none⟩ (.int .i64 0)) ⟨Y, 3, none⟩ (.string ⟨#[]⟩)) = w9 at *
    have z0 : w9.cell? ⟨Y, 0, none⟩ = some (.int .i64 0) := K6.cell 0
    have z1 : w9.cell? ⟨Y, 1, none⟩ = some (.int .i64 0) := K6.cell 1
    have z2 : w9.cell? ⟨Y, 2, none⟩ = some (.int .i64 0) := K6.cell 2
    have z3 : w9.cell? ⟨Y, 3, none⟩ = some (.string ⟨#[]⟩) := K6.cell 3
    refine bodyPost_ret (by simp [results, Tryz.results28, go_sem, z0, z1, z2, z3]; try rfl) rfl ?_
    exact ⟨rfl, B5⟩
set_option maxHeartbeats 4000000 in
theorem loadSnap_gen {p : Option Addr} {i t m n : Int} {s : ByteArray} {bb : Bool} {w : World} (hL : ∀ W, Below w.heap.size w W → Calls Tryz.prog 28 #[.pointer p, .string ⟨#[115, 110, 97, 112]⟩, .func (.func 29) #[] #[]] W fun e w' => e = .returned (.tuple #[snapV i t m s, .bool bb, .int .i64 n]) ∧ Below W.heap.size W w') :
    Calls Tryz.prog 11 #[.pointer p] w fun e w' => e = .returned (.tuple #[snapV i t m s, .bool bb, .int .i64 n]) ∧ Below w.heap.size w w' := by
  have RD := Lib.hid hL
  clear hL
  unfold snapV at *
  have K0 := Lib.hid (Blk.new w 40 #[.int .i64 0, .int .i64 0, .int .i64 0, .string ⟨#[]⟩])
  have bA := Lib.hid ((Below.refl _ w).alloc (Nat.le_refl _) (.cells #[.int .i64 0, .int .i64 0, .int .i64 0, .string ⟨#[]⟩] 40))
  have RE := Lib.hid (RD.out _ bA.out)
  clear RD
  generalize hy : w.heap.size = Y at *
  go_enter Tryz.func11, Tryz.ntmps11
  go_wp2_with fail
  refine RE.out.mono ?_
  rintro e w1 ⟨rfl, b1⟩
  have KK := Lib.hid (K0.out.below b1 (by simp [hy]))
  have B1 := Lib.hid (bA.out.trans (b1.mono (by simp [hy])))
  clear b1 K0 bA RE
  have c0 : w1.cell? ⟨Y, 0, none⟩ = some (.int .i64 0) := KK.out.cell 0
  have c1 : w1.cell? ⟨Y, 1, none⟩ = some (.int .i64 0) := KK.out.cell 1
  have c2 : w1.cell? ⟨Y, 2, none⟩ = some (.int .i64 0) := KK.out.cell 2
  have c3 : w1.cell? ⟨Y, 3, none⟩ = some (.string ⟨#[]⟩) := KK.out.cell 3
  have f0 : w1.frozen? ⟨Y, 0, none⟩ = false := KK.out.free 0
  have f1 : w1.frozen? ⟨Y, 1, none⟩ = false := KK.out.free 1
  have f2 : w1.frozen? ⟨Y, 2, none⟩ = false := KK.out.free 2
  have f3 : w1.frozen? ⟨Y, 3, none⟩ = false := KK.out.free 3
  go_wp2_with fail
  have K6 := (set4_all (.int .i64 i) (.int .i64 t) (.int .i64 m) (.string s) KK.out).1
  have B6 := set4_below (.int .i64 i) (.int .i64 t) (.int .i64 m) (.string s) KK.out B1.out
  unfold set4 at K6 B6
  clear c0 c1 c2 c3 f0 f1 f2 f3 KK B1
  generalize (World.setCell (World.setCell (World.setCell (World.setCell w1 ⟨Y, 0, none⟩ (.int .i64 i)) ⟨Y, 1, none⟩ (.int .i64 t)) ⟨Y, 2, none⟩ (.int .i64 m)) ⟨Y, 3, none⟩ (.string s)) = w9 at *
  have z0 : w9.cell? ⟨Y, 0, none⟩ = some (.int .i64 i) := K6.cell 0
  have z1 : w9.cell? ⟨Y, 1, none⟩ = some (.int .i64 t) := K6.cell 1
  have z2 : w9.cell? ⟨Y, 2, none⟩ = some (.int .i64 m) := K6.cell 2
  have z3 : w9.cell? ⟨Y, 3, none⟩ = some (.string s) := K6.cell 3
  refine bodyPost_ret (by simp [results, Tryz.results11, go_sem, z0, z1, z2, z3]; try rfl) rfl ?_
  exact ⟨rfl, B6⟩
end Go.Proofs.YthnnenhpcceckaaGreat
/-
  THE WALK OF THE DOCUMENT's Unpack.
-/
namespace Go.Proofs.YthnnenhpcceckaaGreat.Ct
open Go.RowKit Go.Sort
theorem ret_unp {s : ByteArray} {x : ByteArray × ByteArray × Int} {v : Value} (h : unp s = x) (hv : v = unpV x) : Ending.returned v = .returned (unpV (unp s)) := by rw [h, hv]
set_option maxRecDepth 10000 in
set_option maxHeartbeats 1000000 in
theorem runpack_any (s : ByteArray) (hs : s.size ≤ 281474976710656) (w : World) :
    Calls Tryz.prog 44 #[.string s] w fun e w' => e = .returned (unpV (unp s)) ∧ Below w.heap.size w w' := by
  by_cases h3 : s.size < 3
  · have hu : Hid (unp s = (⟨#[]⟩, ⟨#[]⟩, 5)) := by unfold Hid unp; rw [if_pos h3]
    go_enter Tryz.func44, Tryz.ntmps44
    go_wp2_with fail
    go_ret3
    exact ⟨by rw [hu.out]; rfl, Below.refl _ _⟩
  · have b0 := s[0].toNat_lt
    have b1 := s[1].toNat_lt
    have b2 := s[2].toNat_lt
    have p0 : (0 : Int) < (s.size : Int) := by omega
    have p1 : (1 : Int) < (s.size : Int) := by omega
    have p2 : (2 : Int) < (s.size : Int) := by omega
    have q0 : 0 < s.size := by omega
    have q1 : 1 < s.size := by omega
    have q2 : 2 < s.size := by omega
    have e3 := len3_eq s q0 q1 q2
    have f4 : (65536 : Int) * (s[0].toNat : Int) + (256 : Int) * (s[1].toNat : Int) + (s[2].toNat : Int) = (len3 s : Int) := by omega
    have hu := Lib.hid (unp_eq s h3)
    have hfr := fun h => front_of s h3 h
    have hpi := fun h => pack_iff s h3 h
    generalize len3 s = L at *
    have Hpi := Lib.hid hpi
    have F4 := Lib.hid f4
    clear hpi hfr e3 f4
    by_cases h4 : 1048576 < L
    · have hu2 := hu.out
      rw [if_pos h4] at hu2
      have Hu := Lib.hid hu2
      clear hu2 hu
      go_enter Tryz.func44, Tryz.ntmps44
      go_wp2_with fail
      go_quiet (fail)
      rw [F4.out]
      go_wp2_with fail
      go_ret3
      exact ⟨by rw [Hu.out]; rfl, below_drewN (Below.refl _ _) _⟩
    by_cases h5 : s.size < L + 7
    · have hu2 := hu.out
      rw [if_neg h4, if_pos h5] at hu2
      have Hu := Lib.hid hu2
      clear hu2 hu
      go_enter Tryz.func44, Tryz.ntmps44
      go_wp2_with fail
      go_quiet (fail)
      rw [F4.out]
      go_wp2_with fail
      go_ret3
      exact ⟨by rw [Hu.out]; rfl, below_drewN (Below.refl _ _) _⟩
    · have hpk := Lib.hid (fun W => rpack_any (s.extract 3 (L + 3)) (by simp; omega) W)
      have l6 : (L : Int) + 3 ≤ (L : Int) + 7 := by omega
      have l7 : (L : Int) + 7 ≤ (s.size : Int) := by omega
      go_enter Tryz.func44, Tryz.ntmps44
      go_wp2_with fail
      go_quiet (fail)
      rw [F4.out]
      have b1 : Below w.heap.size w (w.drewN nq) := below_drewN (Below.refl _ _) _
      generalize w.drewN nq = w1 at *
      go_wp2_with fail
      refine (hpk.out _).mono ?_
      rintro e w2 ⟨rfl, hb2⟩
      have b3 : Below w.heap.size w w2 := b1.trans (hb2.mono b1.size)
      have hu2 := hu.out
      rw [if_neg h4, if_neg h5] at hu2
      by_cases h6 : s.extract (L + 3) (L + 7) = footS (s.extract 0 (L + 3))
      · have h8 : packS (s.extract 3 (L + 3)) = s.extract 0 (L + 7) := (Hpi.out (by omega)).2 h6
        rw [if_neg (by simpa using h6)] at hu2
        have Hu := Lib.hid hu2
        have H8 := Lib.hid h8
        clear hu2 hu h6 h8
        rw [H8.out]
        go_wp2_with fail
        have m1 : IntKind.i64.wrap ((L : Int) + 3) = (L : Int) + 3 := IntWalk.i64_in _ ⟨by omega, by omega⟩
        have m2 : IntKind.i64.wrap ((L : Int) + 7) = (L : Int) + 7 := IntWalk.i64_in _ ⟨by omega, by omega⟩
        have m3 : (0 : Int) ≤ (L : Int) + 3 := by omega
        have m4 : (0 : Int) ≤ (L : Int) + 7 := by omega
        have m5 : ((L : Int) + 3).toNat = L + 3 := by omega
        have m6 : ((L : Int) + 7).toNat = L + 7 := by omega
        have m7 : L + 7 ≤ s.size := by omega
        have m8 : L + 3 ≤ s.size := by omega
        have m9 : (3 : Int) ≤ (L : Int) + 3 := by omega
        have m10 : (L : Int) + 3 ≤ (s.size : Int) := by omega
        go_quiet (fail)
        clear m1 m2 m5 m6
        go_wp2_with fail
        go_ret3
        exact ⟨by rw [Hu.out]; rfl, below_drewN b3 _⟩
      · have h8 : packS (s.extract 3 (L + 3)) ≠ s.extract 0 (L + 7) := fun h => h6 ((Hpi.out (by omega)).1 h)
        rw [if_pos (by simpa using h6)] at hu2
        have Hu := Lib.hid hu2
        have H8 := Lib.hid h8
        clear hu2 hu h6 h8
        generalize packS (s.extract 3 (L + 3)) = pk at *
        have h9 : (!(pk.toList == (s.extract 0 (L + 7)).toList)) = true := by
          rw [Bool.not_eq_true', beq_eq_false_iff_ne]
          intro he
          exact H8.out (bytes_ext (by rw [← Lib.toList_data, ← Lib.toList_data, he]))
        go_wp2_with fail
        go_ret3
        exact ⟨by rw [Hu.out]; rfl, b3⟩
end Go.Proofs.YthnnenhpcceckaaGreat.Ct
