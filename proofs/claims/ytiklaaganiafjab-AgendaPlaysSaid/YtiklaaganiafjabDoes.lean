/-
  FOR AgendaPlays: an act on both, where nothing is dropped and nothing due.
-/
import Derived.Test.YtiklaaganiafjabRadd
import Derived.Test.YtiklaaganiafjabAll
import Derived.Deep.RegionHeld3
namespace Go.Proofs.Ytiklaaganiafjab
open Go.RowKit
/-- where the document's items lie: not where the agenda's do -/
def Apart (w : World) (A : Nat) (r : Option Nat) (a : Option Addr) : Prop := ∀ g o, a = some ⟨g, o, none⟩ → g < w.heap.size ∧ g ≠ A ∧ some g ≠ r
theorem Its.tch {w w' : World} {A : Nat} {r r' : Option Nat} {a : Option Addr} {R : List It} (h : Its w a R) (s : R ≠ [] → Apart w A r a) (t : Tch w w' A r r') : Its w' a R := fun p hp => by
  obtain ⟨g, o, e, hl, c1, c2, c3⟩ := h p hp
  obtain ⟨_, s2, s3⟩ := s (fun e => by rw [e] at hp; simp at hp) g o e
  have hb := t.block g hl s2 s3
  exact ⟨g, o, e, Nat.lt_of_lt_of_le hl t.size, by rw [World.cell?_of_block hb]; exact c1, by rw [World.cell?_of_block hb]; exact c2, by rw [World.cell?_of_block hb]; exact c3⟩
theorem Apart.tch {w w' : World} {A : Nat} {r r' : Option Nat} {a : Option Addr} (s : Apart w A r a) (t : Tch w w' A r r') : Apart w' A r' a := fun g o e => by
  obtain ⟨s1, s2, s3⟩ := s g o e
  refine ⟨Nat.lt_of_lt_of_le s1 t.size, s2, ?_⟩
  rcases t.own with e | ⟨q, e, hq⟩
  · rw [e]; exact s3
  · rw [e]; intro e'; simp at e'; omega
theorem Apart.below {w w' : World} {A : Nat} {r : Option Nat} {a : Option Addr} (s : Apart w A r a) (h : w.heap.size ≤ w'.heap.size) : Apart w' A r a := fun g o e => by
  obtain ⟨s1, s2, s3⟩ := s g o e
  exact ⟨Nat.lt_of_lt_of_le s1 h, s2, s3⟩
/-- both -/
structure DA (w : World) (B A : Nat) (Z : Int) (r : Option Nat) (R : List It) (a : Option Addr) (c : Nat) : Prop where
  g : Agd w B A Z r R
  i : Its w a R
  s : R ≠ [] → Apart w A r a
  l : R.length ≤ c
  c : c ≤ 9223372036854775807
def Doed (w : World) (B A : Nat) (Z : Int) (r : Option Nat) (R : List It) (e : Ending) (w' : World) : Prop :=
  ∃ a' c' Z' r' R', e = .returned (.tuple #[.agg #[.slice a' R'.length c', .int .i64 Z'], .bool true]) ∧ DA w' B A Z' r' R' a' c' ∧ R'.length ≤ R.length + 1 ∧ 0 ≤ Z' ∧ Z' ≤ Z + 1 ∧ Tch w w' A r r'
theorem DA.tch {w w' : World} {B A : Nat} {Z Z' : Int} {r r' : Option Nat} {R : List It} {a : Option Addr} {c : Nat} (h : DA w B A Z r R a c) (t : Tch w w' A r r') (g : Agd w' B A Z' r' R) : DA w' B A Z' r' R a c :=
  ⟨g, h.i.tch h.s t, fun hne => (h.s hne).tch t, h.l, h.c⟩
theorem DA.below {w w' : World} {B A : Nat} {Z : Int} {r : Option Nat} {R : List It} {a : Option Addr} {c : Nat} (h : DA w B A Z r R a c) (hb : Below w.heap.size w w') : DA w' B A Z r R a c :=
  ⟨h.g.below hb, h.i.below hb, fun hne => (h.s hne).below hb.size, h.l, h.c⟩
/-- a block of two cells -/
def Blk2 (w : World) (b : Nat) (t : TypeId) (u v : Value) : Prop := w.heap[b]? = some (.cells #[u, v] t (0, 0))
theorem Blk2.c0 {w : World} {b : Nat} {t : TypeId} {u v : Value} (h : Blk2 w b t u v) : w.cell? ⟨b, 0, none⟩ = some u := by unfold Blk2 at h; simp [World.cell?, h]
theorem Blk2.c1 {w : World} {b : Nat} {t : TypeId} {u v : Value} (h : Blk2 w b t u v) : w.cell? ⟨b, 1, none⟩ = some v := by unfold Blk2 at h; simp [World.cell?, h]
theorem Blk2.f {w : World} {b : Nat} {t : TypeId} {u v : Value} (h : Blk2 w b t u v) (j : Nat) : w.frozen? ⟨b, j, none⟩ = false := by unfold Blk2 at h; simp [World.frozen?, h]
theorem Blk2.lt {w : World} {b : Nat} {t : TypeId} {u v : Value} (h : Blk2 w b t u v) : b < w.heap.size := by unfold Blk2 at h; exact (Array.getElem?_eq_some_iff.1 h).1
theorem Blk2.below {w w' : World} {B b : Nat} {t : TypeId} {u v : Value} (h : Blk2 w b t u v) (hb : Below B w w') (hlt : b < B) : Blk2 w' b t u v := by unfold Blk2 at *; rw [hb.block _ hlt]; exact h
theorem Blk2.tch {w w' : World} {A b : Nat} {r r' : Option Nat} {t : TypeId} {u v : Value} (h : Blk2 w b t u v) (k : Tch w w' A r r') (h1 : b ≠ A) (h2 : some b ≠ r) : Blk2 w' b t u v := by
  have := h.lt
  unfold Blk2 at *
  rw [k.block _ this h1 h2]; exact h
theorem Blk2.set {w : World} {b : Nat} {t : TypeId} {u v : Value} (h : Blk2 w b t u v) (u' v' : Value) : Blk2 ((w.setCell ⟨b, 0, none⟩ u').setCell ⟨b, 1, none⟩ v') b t u' v' := by
  unfold Blk2 at *
  simp [World.setCell, Array.getElem?_modify, h]
theorem below_set2 {w w' : World} {B b : Nat} (h : Below B w w') (hb : B ≤ b) (u v : Value) : Below B w ((w'.setCell ⟨b, 0, none⟩ u).setCell ⟨b, 1, none⟩ v) :=
  (h.setCell (p := ⟨b, 0, none⟩) hb _).setCell (p := ⟨b, 1, none⟩) hb _
theorem set2_grown (w : World) (b : Nat) (u v : Value) : w.grownBy ((w.setCell ⟨b, 0, none⟩ u).setCell ⟨b, 1, none⟩ v) (some b) := by
  refine ⟨rfl, rfl, rfl, by simp [World.setCell], fun k hk hne => ?_⟩
  have hb : k ≠ b := fun e => hne (by rw [e])
  rw [Below.heap_setCell _ _ _ _ hb, Below.heap_setCell _ _ _ _ hb]
/-- a block of three cells -/
def Blk3 (w : World) (b : Nat) (t : TypeId) (u v x : Value) : Prop := w.heap[b]? = some (.cells #[u, v, x] t (0, 0))
theorem Blk3.c0 {w : World} {b : Nat} {t : TypeId} {u v x : Value} (h : Blk3 w b t u v x) : w.cell? ⟨b, 0, none⟩ = some u := by unfold Blk3 at h; simp [World.cell?, h]
theorem Blk3.c1 {w : World} {b : Nat} {t : TypeId} {u v x : Value} (h : Blk3 w b t u v x) : w.cell? ⟨b, 1, none⟩ = some v := by unfold Blk3 at h; simp [World.cell?, h]
theorem Blk3.c2 {w : World} {b : Nat} {t : TypeId} {u v x : Value} (h : Blk3 w b t u v x) : w.cell? ⟨b, 2, none⟩ = some x := by unfold Blk3 at h; simp [World.cell?, h]
theorem Blk3.lt {w : World} {b : Nat} {t : TypeId} {u v x : Value} (h : Blk3 w b t u v x) : b < w.heap.size := by unfold Blk3 at h; exact (Array.getElem?_eq_some_iff.1 h).1
theorem Blk3.below {w w' : World} {B b : Nat} {t : TypeId} {u v x : Value} (h : Blk3 w b t u v x) (hb : Below B w w') (hlt : b < B) : Blk3 w' b t u v x := by unfold Blk3 at *; rw [hb.block _ hlt]; exact h
theorem Blk3.tch {w w' : World} {A b : Nat} {r r' : Option Nat} {t : TypeId} {u v x : Value} (h : Blk3 w b t u v x) (k : Tch w w' A r r') (h1 : b ≠ A) (h2 : some b ≠ r) : Blk3 w' b t u v x := by
  have := h.lt
  unfold Blk3 at *
  rw [k.block _ this h1 h2]; exact h
/-- the first world of an act -/
def wD (w : World) (a : Option Addr) (n c : Nat) (Z k p q : Int) : World :=
  ((w.alloc (Obj.cells #[.slice a n c, .int .i64 Z] 27)).alloc (Obj.cells #[.int .i64 k, .int .i64 p, .int .i64 q] 32)).alloc (Obj.cells #[.slice none 0 0, .int .i64 0] 27)
theorem wD_ok (w : World) (a : Option Addr) (n c : Nat) (Z k p q : Int) : ∃ w1, w1 = ((w.alloc (Obj.cells #[.slice a n c, .int .i64 Z] 27)).alloc (Obj.cells #[.int .i64 k, .int .i64 p, .int .i64 q] 32)).alloc (Obj.cells #[.slice none 0 0, .int .i64 0] 27) ∧ Blk2 w1 w.heap.size 27 (.slice a n c) (.int .i64 Z) ∧ Blk3 w1 (w.heap.size + 1) 32 (.int .i64 k) (.int .i64 p) (.int .i64 q) ∧ Blk2 w1 (w.heap.size + 1 + 1) 27 (.slice none 0 0) (.int .i64 0) ∧ Below w.heap.size w w1 ∧ w1.heap.size = w.heap.size + 1 + 1 + 1 := by
  refine ⟨_, rfl, ?_, ?_, ?_, (((Below.refl w.heap.size w).alloc (Nat.le_refl _) _).alloc (by simp) _).alloc (by simp; omega) _, by simp⟩
  · unfold Blk2
    rw [Below.heap_alloc _ _ _ (by simp; omega), Below.heap_alloc _ _ _ (by simp)]
    exact heap_alloc_new w _
  · have e := heap_alloc_new (w.alloc (Obj.cells #[.slice a n c, .int .i64 Z] 27)) (Obj.cells #[.int .i64 k, .int .i64 p, .int .i64 q] 32)
    rw [show (w.alloc (Obj.cells #[.slice a n c, .int .i64 Z] 27)).heap.size = w.heap.size + 1 by simp] at e
    unfold Blk3
    rw [Below.heap_alloc _ _ _ (by simp)]
    exact e
  · have e := heap_alloc_new ((w.alloc (Obj.cells #[.slice a n c, .int .i64 Z] 27)).alloc (Obj.cells #[.int .i64 k, .int .i64 p, .int .i64 q] 32)) (Obj.cells #[.slice none 0 0, .int .i64 0] 27)
    rw [show ((w.alloc (Obj.cells #[.slice a n c, .int .i64 Z] 27)).alloc (Obj.cells #[.int .i64 k, .int .i64 p, .int .i64 q] 32)).heap.size = w.heap.size + 1 + 1 by simp] at e
    exact e
set_option maxHeartbeats 2000000 in
set_option maxRecDepth 100000 in
theorem does_other (a : Option Addr) (c : Nat) (B A : Nat) (Z k p q : Int) (r : Option Nat) (R : List It) (w : World) (h : DA w B A Z r R a c) (hZ : 0 ≤ Z) (h0 : (k == 0) = false) (h1 : (k == 1) = false) (h2 : (k == 2) = false) (h3 : (k == 3) = false) :
    Calls Try.prog 11 #[.pointer (some ⟨A, 0, none⟩), .agg #[.slice a R.length c, .int .i64 Z], .agg #[.int .i64 k, .int .i64 p, .int .i64 q]] w (Doed w B A Z r R) := by
  have H := Lib.hid h
  obtain ⟨w1, hw1, k4, k5, k6, b1, hs⟩ := wD_ok w a R.length c Z k p q
  have FIN : Hid (∀ w2, Below w.heap.size w w2 → Doed w B A Z r R (.returned (.tuple #[.agg #[.slice a R.length c, .int .i64 Z], .bool true])) w2) := Lib.hid (fun w2 hb => ⟨a, c, Z, r, R, rfl, H.out.below hb, by omega, hZ, by omega, Tch.of_below hb⟩)
  have W1 := Lib.hid hw1
  have K6 := Lib.hid k6
  have B1 := Lib.hid b1
  clear hs h hw1 b1
  generalize R.length = n at *
  clear k4 k5 k6 K6 W1 B1
  go_enter Try.func11, Try.ntmps11
  go_wp2_with fail
  refine bodyPost_ret (by simp [results, Try.results11, go_sem]; try rfl) rfl ?_
  exact FIN.out _ ((((Below.refl _ _).alloc (Nat.le_refl _) _).alloc (by simp) _).alloc (by simp; omega) _)
theorem own_cap {w : World} {B : Nat} {e : TypeId} {v : Value} {n : Nat} {xs : List Value} (h : w.ownsRow B e 3 v (n + 1) xs) : ∃ g cap, v = .slice (some ⟨g, 0, none⟩) (n + 1) cap ∧ n + 1 ≤ cap ∧ cap ≤ 9223372036854775807 ∧ B ≤ g ∧ g < w.heap.size := by
  rcases h.2 with ⟨_, e⟩ | ⟨g, cap, cur, rfl, hb, hh, h1, h2, _⟩
  · omega
  · exact ⟨g, cap, rfl, h1, by unfold maxLen at h2; omega, hb, (Array.getElem?_eq_some_iff.1 hh).1⟩
theorem its_own {w : World} {B g cap : Nat} {l : List It} (h : w.ownsRow B 60 3 (.slice (some ⟨g, 0, none⟩) l.length cap) l.length (cells l)) (hg : g < w.heap.size) : Its w (some ⟨g, 0, none⟩) l := fun p hp => by
  obtain ⟨c1, c2, c3⟩ := cells_get hp
  have h3 : p * 3 + 2 < l.length * 3 := by omega
  have D := fun j (hj : j < l.length * 3) => World.ownsRow.cellAt h j hj
  exact ⟨g, 0, rfl, hg, by rw [Nat.zero_add, D _ (by omega)]; exact c1, by rw [Nat.zero_add, D _ (by omega)]; exact c2, by rw [Nat.zero_add, D _ (by omega)]; exact c3⟩
theorem ins_len (x : It) (l : List It) : (ins x l).length = l.length + 1 := (ins_perm x l).length_eq
set_option maxHeartbeats 4000000 in
set_option maxRecDepth 100000 in
theorem does_add (a : Option Addr) (c : Nat) (B A : Nat) (Z p q : Int) (r : Option Nat) (R : List It) (w : World) (h : DA w B A Z r R a c) (hB : B ≤ w.heap.size) (hR : R.length < 4096) (hZ : 0 ≤ Z) (hZ2 : Z ≤ 100000) :
    Calls Try.prog 11 #[.pointer (some ⟨A, 0, none⟩), .agg #[.slice a R.length c, .int .i64 Z], .agg #[.int .i64 0, .int .i64 p, .int .i64 q]] w (Doed w B A Z r R) := by
  have H := Lib.hid h
  obtain ⟨w1, hw1, k4, k5, k6, b1, hs⟩ := wD_ok w a R.length c Z 0 p q
  have W1 := Lib.hid hw1
  have K5 := Lib.hid k5
  have K6 := Lib.hid k6
  have B1 := Lib.hid b1
  have hsz : w.heap.size + 1 + 1 < w1.heap.size := by omega
  have ADD := Lib.hid (radd_any a c Z p q R w1 hR hZ (by omega) ((h.below b1).i))
  have hAlt := h.g.lt.1
  have hrlt := Lib.hid (fun k hk => (h.g.lt.2.1 k hk).2)
  have y0 := k4.c0
  have y1 := k4.c1
  have z0 := k5.c0
  have z1 := k5.c1
  have z2 := k5.c2
  clear hs h hw1 b1 k4 k5 k6
  go_enter Try.func11, Try.ntmps11
  go_wp2_with fail
  rw [← W1.out]
  clear W1
  refine ADD.out.mono ?_
  rintro e w2 ⟨v, rfl, ho, b2⟩
  obtain ⟨g, cap, rfl, hc1, hc2, hg1, hg2⟩ := own_cap ho
  clear ADD y0 y1
  rw [← ins_len] at ho
  have I2 := its_own ho hg2
  have k5 := K5.out.below b2 (by omega)
  have k6 := K6.out.below b2 (by omega)
  have hs2 := b2.size
  obtain ⟨w3, hw3, k8, b3⟩ : ∃ w3, w3 = w2.alloc (Obj.cells #[.slice (some ⟨g, 0, none⟩) (R.length + 1) cap, .int .i64 (Z + 1)] 27) ∧ Blk2 w3 w2.heap.size 27 (.slice (some ⟨g, 0, none⟩) (R.length + 1) cap) (.int .i64 (Z + 1)) ∧ Below w2.heap.size w2 w3 := ⟨_, rfl, heap_alloc_new _ _, (Below.refl _ _).alloc (Nat.le_refl _) _⟩
  have W3 := Lib.hid hw3
  have I3 := Lib.hid (I2.below b3)
  have k5' := k5.below b3 (by omega)
  have k6' := k6.below b3 (by omega)
  have hs3 := b3.size
  have b13 := B1.out.trans ((b2.trans (b3.mono b2.size)).mono B1.out.size)
  have G3 := Lib.hid ((H.out.g.below b13))
  have add := Lib.hid (add_any w3 B A Z r R p q G3.out hR hZ (by omega) (by omega))
  have z0 := k5.c0
  have z1 := k5.c1
  have z2 := k5.c2
  have hlt5 : w.heap.size + 1 < w2.heap.size := by omega
  have BB := Lib.hid b13
  have K8 := Lib.hid k8
  have K6 := Lib.hid k6'
  have hn8 := k8.lt
  clear ho k5 k6 k8 k5' k6' b2 b3 I2 hw3 b13
  go_wp2_with fail
  rw [← W3.out]
  clear W3
  refine add.out.mono ?_
  rintro e w4 ⟨r3, rfl, g4, t4⟩
  have hw28 : w.heap.size ≤ w2.heap.size := by omega
  have NR : ∀ k, w.heap.size ≤ k → some k ≠ r := fun k hk e => by have := hrlt.out k e.symm; omega
  have k8 := K8.out.tch t4 (by omega) (NR _ hw28)
  have k6 := K6.out.tch t4 (by omega) (NR _ (by omega))
  have I4 := I3.out.tch (A := A) (r := r) (fun _ g' o' e => by
    simp only [Option.some.injEq, Addr.mk.injEq, and_true] at e
    obtain ⟨rfl, _⟩ := e
    exact ⟨by omega, by omega, NR _ (by omega)⟩) t4
  have TT := Tch.trans (Tch.of_below (A := A) (r := r) BB.out) t4
  obtain ⟨w5, hw5, k65, I5, G5, T5, AP5⟩ : ∃ w5, w5 = (w4.setCell ⟨w.heap.size + 1 + 1, 0, none⟩ (.slice (some ⟨g, 0, none⟩) (R.length + 1) cap)).setCell ⟨w.heap.size + 1 + 1, 1, none⟩ (.int .i64 (Z + 1)) ∧ Blk2 w5 (w.heap.size + 1 + 1) 27 (.slice (some ⟨g, 0, none⟩) (R.length + 1) cap) (.int .i64 (Z + 1)) ∧ Its w5 (some ⟨g, 0, none⟩) (ins ⟨p, Z + 1, q⟩ R) ∧ Agd w5 B A (Z + 1) r3 (ins ⟨p, Z + 1, q⟩ R) ∧ Tch w w5 A r r3 ∧ Apart w5 A r3 (some ⟨g, 0, none⟩) := by
    have G5 := set2_grown w4 (w.heap.size + 1 + 1) (.slice (some ⟨g, 0, none⟩) (R.length + 1) cap) (.int .i64 (Z + 1))
    have hr3 : some (w.heap.size + 1 + 1) ≠ r3 := by
      rcases t4.own with e | ⟨k, e, hk⟩
      · rw [e]; exact NR _ (by omega)
      · rw [e]; intro e'; simp at e'; omega
    refine ⟨_, rfl, k6.set _ _, ?_, g4.grown G5 (by simp; omega) (.inr hr3), TT.grow G5 (fun k hk => by simp at hk; omega), ?_⟩
    · intro j hj
      obtain ⟨g', o', e, hl, c1, c2, c3⟩ := I4 j hj
      simp only [Option.some.injEq, Addr.mk.injEq, and_true] at e
      obtain ⟨rfl, rfl⟩ := e
      have hb := G5.block g hl (by simp; omega)
      exact ⟨g, _, rfl, Nat.lt_of_lt_of_le hl G5.size, by rw [World.cell?_of_block hb]; exact c1, by rw [World.cell?_of_block hb]; exact c2, by rw [World.cell?_of_block hb]; exact c3⟩
    · intro g' o' e
      simp only [Option.some.injEq, Addr.mk.injEq, and_true] at e
      obtain ⟨rfl, _⟩ := e
      have := t4.size
      have := G5.size
      refine ⟨by omega, by omega, ?_⟩
      rcases t4.own with e | ⟨k, e, hk⟩
      · rw [e]; exact NR _ (by omega)
      · rw [e]; intro e'; simp at e'; omega
  have W5 := Lib.hid hw5
  have Z0 := Lib.hid k65.c0
  have Z1 := Lib.hid k65.c1
  have FIN : Hid (Doed w B A Z r R (.returned (.tuple #[.agg #[.slice (some ⟨g, 0, none⟩) (R.length + 1) cap, .int .i64 (Z + 1)], .bool true])) w5) := Lib.hid
    ⟨some ⟨g, 0, none⟩, cap, Z + 1, r3, ins ⟨p, Z + 1, q⟩ R, by rw [ins_len], ⟨G5, I5, fun _ => AP5, by rw [ins_len]; exact hc1, hc2⟩, by rw [ins_len]; omega, by omega, by omega, T5⟩
  have y0 := k8.c0
  have y1 := k8.c1
  have x0 := k6.c0
  have x1 := k6.c1
  have f0 := k6.f 0
  have f1 := k6.f 1
  clear g4 t4 k8 k6 I4 TT k65 I5 G5 T5 AP5 hw5 NR I3 G3 add BB K8 H hc1
  go_wp2_with fail
  rw [← W5.out]
  have z0 := Z0.out
  have z1 := Z1.out
  refine bodyPost_ret (by simp [results, Try.results11, go_sem, z0, z1]; try rfl) rfl ?_
  exact FIN.out
end Go.Proofs.Ytiklaaganiafjab
