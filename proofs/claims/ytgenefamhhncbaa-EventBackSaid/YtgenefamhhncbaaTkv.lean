/-
  A VALUE TAKEN OFF A TAPE: event.takeValue.
-/
import Derived.Test.YtgenefamhhncbaaDec
namespace Go.Proofs.Ytgenefamhhncbaa
open Go.RowKit
theorem gb_trans {u v w : World} {r : Option Nat} (h : u.grownBy v r) (g : v.grownBy w r) : u.grownBy w r :=
  ⟨g.os.trans h.os, g.tape.trans h.tape, g.output.trans h.output, Nat.le_trans h.size g.size, fun k hk hr => (g.block k (Nat.lt_of_lt_of_le hk h.size) hr).trans (h.block k hk hr)⟩
theorem gb_below {u v w : World} {r : Option Nat} (h : u.grownBy v r) (g : Below v.heap.size v w) : u.grownBy w r := gb_trans h (Bt.grownBy_below g r)
theorem gb_alloc {u v : World} {r : Option Nat} (h : u.grownBy v r) (o : Obj) : u.grownBy (v.alloc o) r := gb_trans h (World.grownBy_alloc v o r)
theorem gb_set {u v : World} {r : Option Nat} (h : u.grownBy v r) {q : Nat} (hq : u.heap.size ≤ q) (i : Nat) (x : Value) : u.grownBy (v.setCell ⟨q, i, none⟩ x) r :=
  ⟨h.os, h.tape, h.output, by have := h.size; simpa using this, fun k hk hr => by rw [Below.heap_setCell _ _ _ _ (show k ≠ q by omega)]; exact h.block k hk hr⟩
theorem Blk.grown {v w : World} {q b : Nat} {t : TypeId} {cs : Array Value} (h : Blk v q t cs) (hg : v.grownBy w (some b)) (hne : q ≠ b) : Blk w q t cs := (hg.block q h.lt (by simpa using hne)).trans h
theorem Blk.set {w : World} {q : Nat} {t : TypeId} {cs : Array Value} (h : Blk w q t cs) (i : Nat) (x : Value) : Blk (w.setCell ⟨q, i, none⟩ x) q t (cs.setIfInBounds i x) := heap_setCell_same _ _ i _ t x h
theorem Blk.set_other {w : World} {q p : Nat} {t : TypeId} {cs : Array Value} (h : Blk w q t cs) (hne : q ≠ p) (i : Nat) (x : Value) : Blk (w.setCell ⟨p, i, none⟩ x) q t cs := (Below.heap_setCell _ _ _ _ hne).trans h
theorem tape_set {w : World} {q b : Nat} {s : ByteArray} {e : Int} (h : Bt.TapeAt w b s e) (hne : b ≠ q) (i : Nat) (x : Value) : Bt.TapeAt (w.setCell ⟨q, i, none⟩ x) b s e := (Below.heap_setCell _ _ _ _ hne).trans h
theorem tape_alloc {w : World} {b : Nat} {s : ByteArray} {e : Int} (h : Bt.TapeAt w b s e) (o : Obj) : Bt.TapeAt (w.alloc o) b s e := h.next ((Below.refl _ _).alloc (Nat.le_refl _) o)
/-- a value stored into a block of the call's own, a tape beside it -/
theorem val_put {u W : World} {Y b : Nat} {t : TypeId} {s : ByteArray} {e : Int} (v : Val) {cs : Array Value} (h : Blk W Y t cs) (hs : cs.size = 4) (hY : u.heap.size ≤ Y) (hb : b ≠ Y) (hg : u.grownBy W (some b)) (ht : Bt.TapeAt W b s e) :
    ∃ W5, W5 = (((W.setCell ⟨Y, 0, none⟩ (.int .i64 v.k)).setCell ⟨Y, 1, none⟩ (.int .i64 v.n)).setCell ⟨Y, 2, none⟩ (.float .f64 v.f)).setCell ⟨Y, 3, none⟩ (.string v.s) ∧ Blk W5 Y t #[.int .i64 v.k, .int .i64 v.n, .float .f64 v.f, .string v.s] ∧ u.grownBy W5 (some b) ∧ Bt.TapeAt W5 b s e := by
  obtain ⟨l⟩ := cs
  match l, hs with
  | [x0, x1, x2, x3], _ =>
    exact ⟨_, rfl, (((h.set 0 _).set 1 _).set 2 _).set 3 _, gb_set (gb_set (gb_set (gb_set hg hY 0 _) hY 1 _) hY 2 _) hY 3 _,
      tape_set (tape_set (tape_set (tape_set ht hb 0 _) hb 1 _) hb 2 _) hb 3 _⟩
theorem tk_size {α : Type} (z : α) (s : ByteArray) (e : Int) (r : α × Nat × Int) : (Bt.tk z s e r).2.1.size ≤ s.size := by
  unfold Bt.tk
  split
  · exact Nat.le_refl _
  · split
    · exact Nat.le_refl _
    · simp
set_option maxHeartbeats 2000000 in
theorem takeval_any {w : World} {b : Nat} {s : ByteArray} {e : Int} (h : Bt.TapeAt w b s e) (hs : s.size ≤ 281474976710656) :
    Calls Try.prog 43 #[.pointer (some ⟨b, 0, none⟩)] w fun r w' => r = .returned (tVal s e).1.val ∧ w.grownBy w' (some b) ∧ Bt.TapeAt w' b (tVal s e).2.1 (tVal s e).2.2 := by
  have hb := h.lt
  obtain ⟨w1, hw1, K1, T1, G1⟩ : ∃ w1, w1 = w.alloc (.cells #[.int .i64 0, .int .i64 0, .float .f64 0, .string ⟨#[]⟩] 47) ∧ Blk w1 w.heap.size 47 #[.int .i64 0, .int .i64 0, .float .f64 0, .string ⟨#[]⟩] ∧ Bt.TapeAt w1 b s e ∧ w.grownBy w1 (some b) :=
    ⟨_, rfl, heap_alloc_new w _, tape_alloc h _, World.grownBy_alloc w _ _⟩
  have NM := Lib.hid (Bt.tapeNum_any T1 hs)
  have hle : (Bt.tNum s e).2.1.size ≤ s.size := tk_size _ _ _ _
  unfold tVal
  generalize Bt.tNum s e = x at *
  obtain ⟨N, s2, e2⟩ := x
  have hs2 : s2.size ≤ 281474976710656 := Nat.le_trans hle hs
  simp only at hle ⊢
  have NM : Hid (Calls Try.prog 41 #[.pointer (some ⟨b, 0, none⟩)] w1 fun r w' => r = .returned (.int .u64 (N : Int)) ∧ w1.grownBy w' (some b) ∧ Bt.TapeAt w' b s2 e2) := NM
  have W1 := Lib.hid hw1
  have K1h := Lib.hid K1
  have G1h := Lib.hid G1
  clear hw1 K1 T1 G1 h
  have ek : w64 N = IntKind.i64.wrap (N : Int) := rfl
  generalize w64 N = k at *
  have EK := Lib.hid ek.symm
  clear ek
  have hnb : ¬ (b = w.heap.size) := by omega
  generalize hy : w.heap.size = Y at *
  have HY := Lib.hid hy
  obtain ⟨R, hR⟩ : ∃ R, valAt k s2 e2 = R := ⟨_, rfl⟩
  have HR := Lib.hid hR
  rw [hR]
  clear hR
  have EK1 : IntKind.i64.wrap (N : Int) = k := EK.out
  go_enter Try.func43, Try.ntmps43
  go_wp2_with fail
  rw [← W1.out]
  refine NM.out.mono ?_
  rintro r w2 ⟨rfl, g2, T2⟩
  have K2 := K1h.out.grown g2 (fun e => hnb e.symm)
  have G2 := gb_trans G1h.out g2
  obtain ⟨w3, hw3, K3, Z3, T3, G3⟩ : ∃ w3, w3 = w2.alloc (.cells #[.int .i64 k, .int .i64 0, .float .f64 0, .string ⟨#[]⟩] 47) ∧ Blk w3 Y 47 #[.int .i64 0, .int .i64 0, .float .f64 0, .string ⟨#[]⟩] ∧ Blk w3 w2.heap.size 47 #[.int .i64 k, .int .i64 0, .float .f64 0, .string ⟨#[]⟩] ∧ Bt.TapeAt w3 b s2 e2 ∧ w.grownBy w3 (some b) :=
    ⟨_, rfl, K2.below ((Below.refl _ _).alloc (Nat.le_refl _) _), heap_alloc_new w2 _, tape_alloc T2 _, gb_alloc G2 _⟩
  have W3 := Lib.hid hw3
  have z0 : w3.cell? ⟨w2.heap.size, 0, none⟩ = some (.int .i64 k) := Z3.cell 0
  have K3h := Lib.hid K3
  have Z3h := Lib.hid Z3
  have T3h := Lib.hid T3
  have G3h := Lib.hid G3
  have hZY : ¬ (Y = w2.heap.size) := by have := K2.lt; omega
  have hZY' : ¬ (w2.heap.size = Y) := by have := K2.lt; omega
  have hbZ : ¬ (b = w2.heap.size) := by have := T2.lt; omega
  have hYZ : Y ≤ w2.heap.size := by have := K2.lt; omega
  have K2h := Lib.hid K2
  have G2h := Lib.hid G2
  have T2h := Lib.hid T2
  have hYl := K2.lt
  clear K2 G2 g2 T2 K3 Z3 T3 G3 hw3
  have FINh : Hid (∀ (v : Val) (s5 : ByteArray) (e5 : Int) {W : World}, valAt k s2 e2 = (v, s5, e5) → Blk W Y 47 #[.int .i64 0, .int .i64 0, .float .f64 0, .string ⟨#[]⟩] → w.grownBy W (some b) → Bt.TapeAt W b s5 e5 →
      ∃ W5, W5 = (((W.setCell ⟨Y, 0, none⟩ (.int .i64 v.k)).setCell ⟨Y, 1, none⟩ (.int .i64 v.n)).setCell ⟨Y, 2, none⟩ (.float .f64 v.f)).setCell ⟨Y, 3, none⟩ (.string v.s) ∧ Blk W5 Y 47 #[.int .i64 v.k, .int .i64 v.n, .float .f64 v.f, .string v.s] ∧ (R.1 = v ∧ w.grownBy W5 (some b) ∧ Bt.TapeAt W5 b R.2.1 R.2.2)) := fun v s5 e5 {W} hv hY hG hT => by
    have hR := HR.out
    rw [hv] at hR
    obtain ⟨W5, h1, h2, h3, h4⟩ := val_put (u := w) v hY rfl (by rw [HY.out]; omega) hnb hG hT
    exact ⟨W5, h1, h2, by rw [← hR], h3, by rw [← hR]; exact h4⟩
  by_cases h1 : k = 1
  · subst h1
    go_wp2_with fail
    rw [← W3.out]
    clear W3
    generalize w2.heap.size = Z at *
    have E1 := Lib.hid (show valAt 1 s2 e2 = (⟨1, (Bt.tInt s2 e2).1, 0, ⟨#[]⟩⟩, (Bt.tInt s2 e2).2) from rfl)
    have NI := Lib.hid (Bt.tapeInt_any T3h.out hs2)
    generalize Bt.tInt s2 e2 = x at *
    obtain ⟨n5, s5, e5⟩ := x
    simp only at E1
    have NI : Hid (Calls Try.prog 65 #[.pointer (some ⟨b, 0, none⟩)] w3 fun r w' => r = .returned (.int .i64 n5) ∧ w3.grownBy w' (some b) ∧ Bt.TapeAt w' b s5 e5) := NI
    refine NI.out.mono ?_
    rintro r w4 ⟨rfl, g4, T4⟩
    have K4 := K3h.out.grown g4 (fun e => hnb e.symm)
    have Z4 := Z3h.out.grown g4 (fun e => hbZ e.symm)
    have G4 := gb_trans G3h.out g4
    have zf : w4.frozen? ⟨Z, 1, none⟩ = false := Z4.free 1
    have m0 : w4.cell? ⟨Z, 0, none⟩ = some (.int .i64 1) := Z4.cell 0
    have m1 : w4.cell? ⟨Z, 1, none⟩ = some (.int .i64 0) := Z4.cell 1
    have m2 : w4.cell? ⟨Z, 2, none⟩ = some (.float .f64 0) := Z4.cell 2
    have m3 : w4.cell? ⟨Z, 3, none⟩ = some (.string ⟨#[]⟩) := Z4.cell 3
    have y0 : w4.cell? ⟨Y, 0, none⟩ = some (.int .i64 0) := K4.cell 0
    have y1 : w4.cell? ⟨Y, 1, none⟩ = some (.int .i64 0) := K4.cell 1
    have y2 : w4.cell? ⟨Y, 2, none⟩ = some (.float .f64 0) := K4.cell 2
    have y3 : w4.cell? ⟨Y, 3, none⟩ = some (.string ⟨#[]⟩) := K4.cell 3
    have f0 := K4.free 0
    have f1 := K4.free 1
    have f2 := K4.free 2
    have f3 := K4.free 3
    obtain ⟨w5, hw5, K5, Z5, T5, G5⟩ : ∃ w5, w5 = w4.setCell ⟨Z, 1, none⟩ (.int .i64 n5) ∧ Blk w5 Y 47 #[.int .i64 0, .int .i64 0, .float .f64 0, .string ⟨#[]⟩] ∧ Blk w5 Z 47 #[.int .i64 1, .int .i64 n5, .float .f64 0, .string ⟨#[]⟩] ∧ Bt.TapeAt w5 b s5 e5 ∧ w.grownBy w5 (some b) :=
      ⟨_, rfl, K4.set_other hZY _ _, Z4.set 1 _, tape_set T4 hbZ _ _, gb_set G4 (by rw [HY.out]; exact hYZ) _ _⟩
    have W5 := Lib.hid hw5
    obtain ⟨w6, hw6, K6, F6⟩ := FINh.out ⟨1, n5, 0, ⟨#[]⟩⟩ s5 e5 E1.out K5 G5 T5
    simp only at hw6
    have W6 := Lib.hid hw6
    have F6h := Lib.hid F6
    have K6h := Lib.hid K6
    clear hw5 hw6 K4 Z4 G4 g4 T4 K5 Z5 T5 G5 F6 K6 z0
    go_wp2_with fail
    rw [← W5.out, ← W6.out]
    have q0 : w6.cell? ⟨Y, 0, none⟩ = some (.int .i64 1) := K6h.out.cell 0
    have q1 : w6.cell? ⟨Y, 1, none⟩ = some (.int .i64 n5) := K6h.out.cell 1
    have q2 : w6.cell? ⟨Y, 2, none⟩ = some (.float .f64 0) := K6h.out.cell 2
    have q3 : w6.cell? ⟨Y, 3, none⟩ = some (.string ⟨#[]⟩) := K6h.out.cell 3
    refine bodyPost_ret (by simp [results, Try.results43, go_sem, q0, q1, q2, q3]; try rfl) rfl ?_
    exact ⟨by rw [F6h.out.1]; rfl, F6h.out.2.1, F6h.out.2.2⟩
  have d1 : (k == 1) = false := by simpa using h1
  clear h1
  by_cases h1 : k = 2
  · subst h1
    clear d1
    go_wp2_with fail
    rw [← W3.out]
    clear W3
    generalize w2.heap.size = Z at *
    have E1 := Lib.hid (show valAt 2 s2 e2 = (⟨2, 0, (Bt.tReal s2 e2).1, ⟨#[]⟩⟩, (Bt.tReal s2 e2).2) from rfl)
    have NI := Lib.hid (Bt.tapeReal_any T3h.out hs2)
    generalize Bt.tReal s2 e2 = x at *
    obtain ⟨n5, s5, e5⟩ := x
    simp only at E1
    have NI : Hid (Calls Try.prog 66 #[.pointer (some ⟨b, 0, none⟩)] w3 fun r w' => r = .returned (.float .f64 n5) ∧ w3.grownBy w' (some b) ∧ Bt.TapeAt w' b s5 e5) := NI
    refine NI.out.mono ?_
    rintro r w4 ⟨rfl, g4, T4⟩
    have K4 := K3h.out.grown g4 (fun e => hnb e.symm)
    have Z4 := Z3h.out.grown g4 (fun e => hbZ e.symm)
    have G4 := gb_trans G3h.out g4
    have zf : w4.frozen? ⟨Z, 2, none⟩ = false := Z4.free 2
    have m0 : w4.cell? ⟨Z, 0, none⟩ = some (.int .i64 2) := Z4.cell 0
    have m1 : w4.cell? ⟨Z, 1, none⟩ = some (.int .i64 0) := Z4.cell 1
    have m2 : w4.cell? ⟨Z, 2, none⟩ = some (.float .f64 0) := Z4.cell 2
    have m3 : w4.cell? ⟨Z, 3, none⟩ = some (.string ⟨#[]⟩) := Z4.cell 3
    have y0 : w4.cell? ⟨Y, 0, none⟩ = some (.int .i64 0) := K4.cell 0
    have y1 : w4.cell? ⟨Y, 1, none⟩ = some (.int .i64 0) := K4.cell 1
    have y2 : w4.cell? ⟨Y, 2, none⟩ = some (.float .f64 0) := K4.cell 2
    have y3 : w4.cell? ⟨Y, 3, none⟩ = some (.string ⟨#[]⟩) := K4.cell 3
    have f0 := K4.free 0
    have f1 := K4.free 1
    have f2 := K4.free 2
    have f3 := K4.free 3
    obtain ⟨w5, hw5, K5, Z5, T5, G5⟩ : ∃ w5, w5 = w4.setCell ⟨Z, 2, none⟩ (.float .f64 n5) ∧ Blk w5 Y 47 #[.int .i64 0, .int .i64 0, .float .f64 0, .string ⟨#[]⟩] ∧ Blk w5 Z 47 #[.int .i64 2, .int .i64 0, .float .f64 n5, .string ⟨#[]⟩] ∧ Bt.TapeAt w5 b s5 e5 ∧ w.grownBy w5 (some b) :=
      ⟨_, rfl, K4.set_other hZY _ _, Z4.set 2 _, tape_set T4 hbZ _ _, gb_set G4 (by rw [HY.out]; exact hYZ) _ _⟩
    have W5 := Lib.hid hw5
    obtain ⟨w6, hw6, K6, F6⟩ := FINh.out ⟨2, 0, n5, ⟨#[]⟩⟩ s5 e5 E1.out K5 G5 T5
    simp only at hw6
    have W6 := Lib.hid hw6
    have F6h := Lib.hid F6
    have K6h := Lib.hid K6
    clear hw5 hw6 K4 Z4 G4 g4 T4 K5 Z5 T5 G5 F6 K6 z0
    go_wp2_with fail
    rw [← W5.out, ← W6.out]
    have q0 : w6.cell? ⟨Y, 0, none⟩ = some (.int .i64 2) := K6h.out.cell 0
    have q1 : w6.cell? ⟨Y, 1, none⟩ = some (.int .i64 0) := K6h.out.cell 1
    have q2 : w6.cell? ⟨Y, 2, none⟩ = some (.float .f64 n5) := K6h.out.cell 2
    have q3 : w6.cell? ⟨Y, 3, none⟩ = some (.string ⟨#[]⟩) := K6h.out.cell 3
    refine bodyPost_ret (by simp [results, Try.results43, go_sem, q0, q1, q2, q3]; try rfl) rfl ?_
    exact ⟨by rw [F6h.out.1]; rfl, F6h.out.2.1, F6h.out.2.2⟩
  have d2 : (k == 2) = false := by simpa using h1
  clear h1
  by_cases h1 : k = 3
  · subst h1
    clear d1 d2
    go_wp2_with fail
    rw [← W3.out]
    clear W3
    generalize w2.heap.size = Z at *
    have E1 := Lib.hid (show valAt 3 s2 e2 = (⟨3, 0, 0, (Bt.tText s2 e2 64).1⟩, (Bt.tText s2 e2 64).2) from rfl)
    have NI := Lib.hid (Bt.tapeText_any T3h.out (most := 64) hs2 (by decide) (by decide))
    generalize Bt.tText s2 e2 64 = x at *
    obtain ⟨n5, s5, e5⟩ := x
    simp only at E1
    have NI : Hid (Calls Try.prog 42 #[.pointer (some ⟨b, 0, none⟩), .int .i64 64] w3 fun r w' => r = .returned (.string n5) ∧ w3.grownBy w' (some b) ∧ Bt.TapeAt w' b s5 e5) := NI
    refine NI.out.mono ?_
    rintro r w4 ⟨rfl, g4, T4⟩
    have K4 := K3h.out.grown g4 (fun e => hnb e.symm)
    have Z4 := Z3h.out.grown g4 (fun e => hbZ e.symm)
    have G4 := gb_trans G3h.out g4
    have zf : w4.frozen? ⟨Z, 3, none⟩ = false := Z4.free 3
    have m0 : w4.cell? ⟨Z, 0, none⟩ = some (.int .i64 3) := Z4.cell 0
    have m1 : w4.cell? ⟨Z, 1, none⟩ = some (.int .i64 0) := Z4.cell 1
    have m2 : w4.cell? ⟨Z, 2, none⟩ = some (.float .f64 0) := Z4.cell 2
    have m3 : w4.cell? ⟨Z, 3, none⟩ = some (.string ⟨#[]⟩) := Z4.cell 3
    have y0 : w4.cell? ⟨Y, 0, none⟩ = some (.int .i64 0) := K4.cell 0
    have y1 : w4.cell? ⟨Y, 1, none⟩ = some (.int .i64 0) := K4.cell 1
    have y2 : w4.cell? ⟨Y, 2, none⟩ = some (.float .f64 0) := K4.cell 2
    have y3 : w4.cell? ⟨Y, 3, none⟩ = some (.string ⟨#[]⟩) := K4.cell 3
    have f0 := K4.free 0
    have f1 := K4.free 1
    have f2 := K4.free 2
    have f3 := K4.free 3
    obtain ⟨w5, hw5, K5, Z5, T5, G5⟩ : ∃ w5, w5 = w4.setCell ⟨Z, 3, none⟩ (.string n5) ∧ Blk w5 Y 47 #[.int .i64 0, .int .i64 0, .float .f64 0, .string ⟨#[]⟩] ∧ Blk w5 Z 47 #[.int .i64 3, .int .i64 0, .float .f64 0, .string n5] ∧ Bt.TapeAt w5 b s5 e5 ∧ w.grownBy w5 (some b) :=
      ⟨_, rfl, K4.set_other hZY _ _, Z4.set 3 _, tape_set T4 hbZ _ _, gb_set G4 (by rw [HY.out]; exact hYZ) _ _⟩
    have W5 := Lib.hid hw5
    obtain ⟨w6, hw6, K6, F6⟩ := FINh.out ⟨3, 0, 0, n5⟩ s5 e5 E1.out K5 G5 T5
    simp only at hw6
    have W6 := Lib.hid hw6
    have F6h := Lib.hid F6
    have K6h := Lib.hid K6
    clear hw5 hw6 K4 Z4 G4 g4 T4 K5 Z5 T5 G5 F6 K6 z0
    go_wp2_with fail
    rw [← W5.out, ← W6.out]
    have q0 : w6.cell? ⟨Y, 0, none⟩ = some (.int .i64 3) := K6h.out.cell 0
    have q1 : w6.cell? ⟨Y, 1, none⟩ = some (.int .i64 0) := K6h.out.cell 1
    have q2 : w6.cell? ⟨Y, 2, none⟩ = some (.float .f64 0) := K6h.out.cell 2
    have q3 : w6.cell? ⟨Y, 3, none⟩ = some (.string n5) := K6h.out.cell 3
    refine bodyPost_ret (by simp [results, Try.results43, go_sem, q0, q1, q2, q3]; try rfl) rfl ?_
    exact ⟨by rw [F6h.out.1]; rfl, F6h.out.2.1, F6h.out.2.2⟩
  have d3 : (k == 3) = false := by simpa using h1
  have E1 := Lib.hid (valAt_no (k := k) ⟨by simpa using d1, by simpa using d2, h1⟩ s2 e2)
  clear h1
  have y0 : w2.cell? ⟨Y, 0, none⟩ = some (.int .i64 0) := K2h.out.cell 0
  have y1 : w2.cell? ⟨Y, 1, none⟩ = some (.int .i64 0) := K2h.out.cell 1
  have y2 : w2.cell? ⟨Y, 2, none⟩ = some (.float .f64 0) := K2h.out.cell 2
  have y3 : w2.cell? ⟨Y, 3, none⟩ = some (.string ⟨#[]⟩) := K2h.out.cell 3
  have f0 := K2h.out.free 0
  have f1 := K2h.out.free 1
  have f2 := K2h.out.free 2
  have f3 := K2h.out.free 3
  obtain ⟨w6, hw6, K6, F6⟩ := FINh.out ⟨k, 0, 0, ⟨#[]⟩⟩ s2 e2 E1.out K2h.out G2h.out T2h.out
  simp only at hw6
  obtain ⟨w7, hw7, K7, F7⟩ : ∃ w7, w7 = w6.alloc (.cells #[.int .i64 k, .int .i64 0, .float .f64 0, .string ⟨#[]⟩] 47) ∧ Blk w7 Y 47 #[.int .i64 k, .int .i64 0, .float .f64 0, .string ⟨#[]⟩] ∧ (w.grownBy w7 (some b) ∧ Bt.TapeAt w7 b R.2.1 R.2.2) :=
    ⟨_, rfl, K6.below ((Below.refl _ _).alloc (Nat.le_refl _) _), gb_alloc F6.2.1 _, tape_alloc F6.2.2 _⟩
  have W6 := Lib.hid hw6
  have W7 := Lib.hid hw7
  have F6h := Lib.hid F6.1
  have F7h := Lib.hid F7
  have K7h := Lib.hid K7
  clear hw6 F6 K6 z0 hw7 F7 K7
  go_wp2_with fail
  rw [← W6.out, ← W7.out]
  have q0 : w7.cell? ⟨Y, 0, none⟩ = some (.int .i64 k) := K7h.out.cell 0
  have q1 : w7.cell? ⟨Y, 1, none⟩ = some (.int .i64 0) := K7h.out.cell 1
  have q2 : w7.cell? ⟨Y, 2, none⟩ = some (.float .f64 0) := K7h.out.cell 2
  have q3 : w7.cell? ⟨Y, 3, none⟩ = some (.string ⟨#[]⟩) := K7h.out.cell 3
  refine bodyPost_ret (by simp [results, Try.results43, go_sem, q0, q1, q2, q3]; try rfl) rfl ?_
  exact ⟨by rw [F6h.out]; rfl, F7h.out.1, F7h.out.2⟩
end Go.Proofs.Ytgenefamhhncbaa
